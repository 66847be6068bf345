/- Package mem: join, a key and a number as one text. -/
import Derived.Test.YtlmlldcpllagbaaMmS
import Derived.Test.YtlmlldcpllagbaaSkJ
import Derived.Test.YtlmlldcpllagbaaGen
import Derived.Laws.BytesArg
import Derived.Laws.MakeOwn
import Derived.Lib.UnsafeStr
import Derived.Deep.CutRange
namespace Go.Proofs.Ytlmlldcpllagbaa
open Go.RowKit Go.Proofs Go.Proofs.Pk
set_option maxRecDepth 10000
attribute [local simp] mk_get wrap64_u8 mk_extract ByteArray.mk_append_mk get_1k

theorem infoB : (Try.prog.info? 5).map (fun i => (i.zero, i.size, i.bytes)) = some (some (.int .u8 0), 1, 1) := by kernel_rfl
theorem conv_ownB (w : World) (B g cap : Nat) (T : List UInt8) (N : Nat) (hN : N = T.length) (h : w.ownsRow B 5 1 (.slice (some ⟨g, 0, none⟩) N cap) N (Lib.byteCells T)) :
    (convert 75 9 (.slice (some ⟨g, 0, none⟩) N cap)).run Try.prog w = .ok (.string ⟨T.toArray⟩) w := by
  have hc := h.cells rfl
  have := run_convert_bytes_arg (P := Try.prog) w 75 5 Try.underlying75 Try.underlying5 g 0 N cap (T.map fun c => (c.toNat : Int)) (by simp [hN]) (fun i hi => by
    have hiT : i < T.length := by omega
    have := hc i (.int .u8 ((T[i]).toNat)) (by simp [Lib.byteCells, hiT])
    rw [add0] at this
    simpa [hiT, List.getD] using this) 9 Try.underlying9
  rw [str_nums] at this
  exact this
/-- Bytes of its own, gathered so far. -/
def ByI (w : World) (l : Txt) (v : Value) (wr : World) : Prop := wr.ownsRow w.heap.size 5 1 v l.length (Lib.byteCells l) ∧ Kept (fun _ => False) w wr
theorem ByI.next {w wr w1 : World} {o : Obj} {l : Txt} {v v' : Value} {c : UInt8} {x : Int} (h : ByI w l v wr) (hx : x = c.toNat) (hown : w1.ownsRow w.heap.size 5 1 v' (l.length + 1) (Lib.byteCells l ++ [.int .u8 x])) (hgr : (wr.alloc o).grownBy w1 v.ownBlock) : ByI w (l ++ [c]) v' w1 := by
  refine ⟨?_, kept_grown (h.2.alloc _) hgr (fun b hb => .inr (h.1.lt b hb).1)⟩
  subst hx
  rw [List.length_append, List.length_singleton, Lib.byteCells_append]
  exact hown
theorem bigE_take : ∀ (k n j : Nat), j < k → (bigE k n).take (j + 1) = (bigE k n).take j ++ [UInt8.ofNat (n / 256 ^ (k - 1 - j))]
  | k + 1, n, 0, _ => by simp [bigE]
  | k + 1, n, j + 1, h => by
    rw [bigE, List.take_succ_cons, List.take_succ_cons, bigE_take k n j (by omega), List.cons_append, show k + 1 - 1 - (j + 1) = k - 1 - j from by omega]
theorem esc_snoc (k : Txt) (c : UInt8) : escK (k ++ [c]) = escK k ++ escB c := by unfold escK; simp
theorem esc_le (k : Txt) : (escK k).length ≤ 2 * k.length := by
  induction k with
  | nil => simp [escK]
  | cons c k ih =>
    rw [esc_cons, List.length_append, List.length_cons]
    have : (escB c).length ≤ 2 := by rcases escB_cases c with ⟨_, h⟩ | ⟨_, h⟩ | ⟨_, h⟩ <;> rw [h] <;> simp
    omega

set_option maxHeartbeats 4000000 in
theorem joinP (k : Txt) (s : Int) (w : World) (hk : k.length ≤ 80) (hs : SeqOk s) :
    Calls Try.prog 29 #[.string ⟨k.toArray⟩, .int .i64 s] w fun e w' => e = .returned (.string ⟨(joinS k s).toArray⟩) ∧ Kept (fun _ => False) w w' := by
  obtain ⟨i0, hi, hz0, hz1, hz2⟩ := info_parts infoB
  obtain ⟨n, hn⟩ : ∃ n, Hid (n = k.length) := ⟨_, rfl⟩
  have hnk : (k.length : Int) = (n : Int) := by rw [hn.out]
  have hn80 : n ≤ 80 := by rw [hn.out]; exact hk
  have m1 : IntKind.i64.wrap (2 * (n : Int)) = 2 * (n : Int) := IntWalk.i64_in _ (by omega)
  have m2 : IntKind.i64.wrap (2 * (n : Int) + 1) = 2 * (n : Int) + 1 := IntWalk.i64_in _ (by omega)
  have m3 : IntKind.i64.wrap (2 * (n : Int) + 1 + 7) = 2 * (n : Int) + 8 := by rw [IntWalk.i64_in _ (by omega)]; omega
  obtain ⟨wm, hmk, hown, hgr⟩ := run_make_own (P := Try.prog) w w.heap.size 75 5 i0 (.int .u8 0) 1 Try.underlying75 hi hz0 hz1 .i64 .i64 (2 * n + 8) (by rw [hz2]; omega) (by unfold maxLen; omega) (Nat.le_refl _)
  have HI : Hid (ByI w (escK (k.take 0)) (.slice (some ⟨w.heap.size, 0, none⟩) 0 (2 * n + 8)) wm) := ⟨hown, kept_grown (Kept.refl _ w) hgr (fun b hb => by cases hb)⟩
  clear hown hgr hk
  go_enter Try.func29, Try.ntmps29
  go_upto_region 1 with (fail)
  refine wp_region_lit ?_
  iterate 5
    refine wpList_plain rfl fun K hK => ?_
    go_simp
    refine hK _ _ ?_
    clear hK K
  have hmk2 : (Instr.makeSlice 75 (.int .i64 0) (.int .i64 (2 * (n : Int) + 8))).run Try.prog w = .ok (.slice (some ⟨w.heap.size, 0, none⟩) 0 (2 * n + 8)) wm := by
    rw [show (2 * (n : Int) + 8) = ((2 * n + 8 : Nat) : Int) from by omega]; exact hmk
  refine wpList_of_run rfl (some 15) rfl (exec_make (c := .tmp 14) hmk2 rfl rfl rfl) ?_
  obtain ⟨v0, hv0⟩ : ∃ v0, Hid (v0 = Value.slice (some ⟨w.heap.size, 0, none⟩) 0 (2 * n + 8)) := ⟨_, rfl⟩
  rw [← hv0.out] at HI ⊢
  clear hmk hmk2 m1 m2 m3 hv0
  go_wp2
  go_loopw [5, 18] (fun v i wr => ∃ j : Nat, j ≤ n ∧ i = .int .i64 (j : Int) ∧ Hid (ByI w (escK (k.take j)) v wr)) (fun _ i _ => n - (intOf i).toNat)
  case atStart => exact ⟨0, Nat.zero_le _, rfl, HI⟩
  case round =>
    obtain ⟨j, hj, rfl, hI⟩ := hrel
    clear HI
    by_cases hlt : j < n
    · have hjk : j < k.length := by rw [← hn.out]; exact hlt
      have j0 : (0 : Int) ≤ (j : Int) := by omega
      have jn : (j : Int) < (n : Int) := by omega
      have hwj : IntKind.i64.wrap ((j : Int) + 1) = (j : Int) + 1 := IntWalk.i64_in _ (by omega)
      have htk : k.take (j + 1) = k.take j ++ [k[j]] := List.take_succ_eq_append_getElem hjk
      have hesc := esc_snoc (k.take j) k[j]
      rw [← htk] at hesc
      have hlen : (escK (k.take j)).length ≤ 160 := by have := esc_le (k.take j); rw [List.length_take] at this; omega
      obtain ⟨c, hkj⟩ : ∃ c, k[j] = c := ⟨_, rfl⟩
      rw [hkj] at hesc
      clear htk
      rcases escB_cases c with ⟨hc0, h1⟩ | ⟨hc0, h1⟩ | ⟨h2, h1⟩
      · subst hc0
        have hescc := hesc
        rw [h1] at hescc
        have hescc := Lib.hid hescc
        clear hesc h1
        go_wp2_with (at_builtin; refine wpList_append_own _ rfl (.tmp 28) (.tmp 29) 75 rfl w.heap.size 5 i0 (.int .u8 0) 1 1 Try.underlying75 hi hz0 hz1 hz2 rfl (by decide) _ _ _ rfl (hI.out.1.alloc _) ⟨wr.heap.size, 0, none⟩ 1 1 [.int .u8 1] rfl rfl ?a01 ?a02 ?a03 ?a04 ?a05 ?_)
        case a01 =>
          intro j u hj
          match j, hj with
          | 0, hj => simp at hj; subst hj; simp [Addr.add]
        case a02 => intro u hu; simp at hu; subst hu; rfl
        case a03 => unfold maxLen; omega
        case a04 => omega
        case a05 => have := hI.out.2.size; simp; omega
        intro v1 w1 hown1 hgr1 _
        obtain ⟨l1, hl1⟩ : ∃ l1, Hid (l1 = escK (k.take j) ++ [1]) := ⟨escK (k.take j) ++ [1], rfl⟩
        have HI1 : Hid (ByI w l1 v1 w1) := by
          show ByI _ _ _ _
          rw [hl1.out]; exact hI.out.next (c := 1) rfl hown1 hgr1
        have hl1b : l1.length ≤ 161 := by rw [hl1.out, List.length_append, List.length_singleton]; omega
        clear hown1 hgr1
        go_wp2_with (at_builtin; refine wpList_append_own _ rfl (.tmp 33) (.tmp 35) 75 rfl w.heap.size 5 i0 (.int .u8 0) 1 1 Try.underlying75 hi hz0 hz1 hz2 rfl (by decide) _ _ _ rfl (HI1.out.1.alloc _) ⟨w1.heap.size, 0, none⟩ 1 1 [.int .u8 1] rfl rfl ?a11 ?a12 ?a13 ?a14 ?a15 ?_)
        case a11 =>
          intro j u hj
          match j, hj with
          | 0, hj => simp at hj; subst hj; simp [Addr.add]
        case a12 => intro u hu; simp at hu; subst hu; rfl
        case a13 => unfold maxLen; omega
        case a14 => omega
        case a15 => have := HI1.out.2.size; simp; omega
        intro v2 w2 hown2 hgr2 _
        have HI2 := Lib.hid (HI1.out.next (c := 1) rfl hown2 hgr2)
        clear hown2 hgr2
        rw [hl1.out, List.append_assoc, List.singleton_append, ← hescc.out] at HI2
        go_wp2
        go_roundw
        case rel => exact ⟨j + 1, hlt, by first | rfl | go_num, HI2⟩
        case measure => simp [intOf]; omega
      · subst hc0
        have hescc := hesc
        rw [h1] at hescc
        have hescc := Lib.hid hescc
        clear hesc h1
        go_wp2_with (at_builtin; refine wpList_append_own _ rfl (.tmp 28) (.tmp 29) 75 rfl w.heap.size 5 i0 (.int .u8 0) 1 1 Try.underlying75 hi hz0 hz1 hz2 rfl (by decide) _ _ _ rfl (hI.out.1.alloc _) ⟨wr.heap.size, 0, none⟩ 1 1 [.int .u8 1] rfl rfl ?a21 ?a22 ?a23 ?a24 ?a25 ?_)
        case a21 =>
          intro j u hj
          match j, hj with
          | 0, hj => simp at hj; subst hj; simp [Addr.add]
        case a22 => intro u hu; simp at hu; subst hu; rfl
        case a23 => unfold maxLen; omega
        case a24 => omega
        case a25 => have := hI.out.2.size; simp; omega
        intro v1 w1 hown1 hgr1 _
        obtain ⟨l1, hl1⟩ : ∃ l1, Hid (l1 = escK (k.take j) ++ [1]) := ⟨escK (k.take j) ++ [1], rfl⟩
        have HI1 : Hid (ByI w l1 v1 w1) := by
          show ByI _ _ _ _
          rw [hl1.out]; exact hI.out.next (c := 1) rfl hown1 hgr1
        have hl1b : l1.length ≤ 161 := by rw [hl1.out, List.length_append, List.length_singleton]; omega
        clear hown1 hgr1
        go_wp2_with (at_builtin; refine wpList_append_own _ rfl (.tmp 33) (.tmp 35) 75 rfl w.heap.size 5 i0 (.int .u8 0) 1 1 Try.underlying75 hi hz0 hz1 hz2 rfl (by decide) _ _ _ rfl (HI1.out.1.alloc _) ⟨w1.heap.size, 0, none⟩ 1 1 [.int .u8 2] rfl rfl ?a31 ?a32 ?a33 ?a34 ?a35 ?_)
        case a31 =>
          intro j u hj
          match j, hj with
          | 0, hj => simp at hj; subst hj; simp [Addr.add]
        case a32 => intro u hu; simp at hu; subst hu; rfl
        case a33 => unfold maxLen; omega
        case a34 => omega
        case a35 => have := HI1.out.2.size; simp; omega
        intro v2 w2 hown2 hgr2 _
        have HI2 := Lib.hid (HI1.out.next (c := 2) rfl hown2 hgr2)
        clear hown2 hgr2
        rw [hl1.out, List.append_assoc, List.singleton_append, ← hescc.out] at HI2
        go_wp2
        go_roundw
        case rel => exact ⟨j + 1, hlt, by first | rfl | go_num, HI2⟩
        case measure => simp [intOf]; omega
      · have hescc := hesc
        rw [h1] at hescc
        have hescc := Lib.hid hescc
        clear hesc h1
        have n0 : ¬(c.toNat : Int) = 0 := by omega
        have n1 : ¬(c.toNat : Int) = 1 := by omega
        go_wp2_with (at_builtin; refine wpList_append_own _ rfl (.tmp 33) (.tmp 35) 75 rfl w.heap.size 5 i0 (.int .u8 0) 1 1 Try.underlying75 hi hz0 hz1 hz2 rfl (by decide) _ _ _ rfl (hI.out.1.alloc _) ⟨wr.heap.size, 0, none⟩ 1 1 [.int .u8 (c.toNat : Int)] rfl rfl ?a41 ?a42 ?a43 ?a44 ?a45 ?_)
        case a41 =>
          intro j u hj
          match j, hj with
          | 0, hj => simp at hj; subst hj; simp [Addr.add]
        case a42 => intro u hu; simp at hu; subst hu; rfl
        case a43 => unfold maxLen; omega
        case a44 => omega
        case a45 => have := hI.out.2.size; simp; omega
        intro v1 w1 hown1 hgr1 _
        have HI1 := Lib.hid (hI.out.next (c := c) rfl hown1 hgr1)
        clear hown1 hgr1
        rw [← hescc.out] at HI1
        go_wp2
        go_roundw
        case rel => exact ⟨j + 1, hlt, by first | rfl | go_num, HI1⟩
        case measure => simp [intOf]; omega
    · have hjn : j = n := by omega
      subst hjn
      have hall : k.take j = k := List.take_of_length_le (by rw [← hn.out]; exact Nat.le_refl _)
      rw [hall] at hI
      have hlen : (escK k).length ≤ 160 := by have := esc_le k; have := hn.out; omega
      have jn : ¬(j : Int) < (j : Int) := by omega
      obtain ⟨L, hL⟩ : ∃ L, Hid (L = lackS s) := ⟨lackS s, rfl⟩
      have hLs : (9007199254740991 : Int) - s = (L : Int) := by rw [hL.out]; unfold lackS SeqOk MaxS at *; omega
      have hLb : L < 72057594037927936 := by rw [hL.out]; exact lack_lt hs
      have hwL : IntKind.i64.wrap (L : Int) = (L : Int) := IntWalk.i64_in _ (by omega)
      clear hall hn hnk hs hj
      go_wp2_with (at_builtin; refine wpList_append_own _ rfl (.tmp 38) (.tmp 39) 75 rfl w.heap.size 5 i0 (.int .u8 0) 1 1 Try.underlying75 hi hz0 hz1 hz2 rfl (by decide) _ _ _ rfl (hI.out.1.alloc _) ⟨wr.heap.size, 0, none⟩ 1 1 [.int .u8 0] rfl rfl ?a51 ?a52 ?a53 ?a54 ?a55 ?_)
      case a52 => rfl
      case a53 => unfold maxLen; omega
      case a54 => omega
      case a55 => have := hI.out.2.size; simp; omega
      intro v1 w1 hown1 hgr1 _
      obtain ⟨l1, hl1⟩ : ∃ l1, Hid (l1 = escK k ++ [0]) := ⟨escK k ++ [0], rfl⟩
      have HI1 : Hid (ByI w (l1 ++ (bigE 7 L).take 0) v1 w1) := by
        show ByI _ _ _ _
        rw [hl1.out, List.take_zero, List.append_nil]; exact hI.out.next (c := 0) rfl hown1 hgr1
      have hl1b : l1.length ≤ 161 := by rw [hl1.out, List.length_append, List.length_singleton]; omega
      have HJ : Hid (joinS k s = l1 ++ bigE 7 L) := by show _ = _; rw [hl1.out, hL.out]; unfold joinS; simp
      clear hown1 hgr1 hI hlen hl1 hL
      go_wp2
      rename World => wq
      go_loopw [5, 9] (fun v i wr => ∃ j : Nat, j ≤ 7 ∧ i = .int .i64 (6 - (j : Int)) ∧ Hid (ByI w (l1 ++ (bigE 7 L).take j) v wr)) (fun _ i _ => (intOf i + 1).toNat)
      case atStart => exact ⟨0, by omega, rfl, HI1⟩
      case round =>
        obtain ⟨j, hj, rfl, hI⟩ := hrel
        clear HI1
        by_cases hlt : j < 7
        · obtain ⟨m, hm⟩ : ∃ m : Nat, j + m = 6 := ⟨6 - j, by omega⟩
          have hmi : (6 : Int) - (j : Int) = (m : Int) := by omega
          rw [hmi]
          have m0 : (0 : Int) ≤ (m : Int) := by omega
          have hmx : (((L : Int) / 2 ^ (8 * m) % 256 : Int)) = ((UInt8.ofNat (L / 256 ^ m)).toNat : Int) := by
            rw [show (2 : Int) ^ (8 * m) = ((256 ^ m : Nat) : Int) from by rw [Int.pow_mul]; simp, UInt8.toNat_ofNat', ← Int.natCast_ediv]
            omega
          have HX := Lib.hid hmx
          clear hmx
          have htk := bigE_take 7 L j hlt
          have HT : Hid ((bigE 7 L).take (j + 1) = (bigE 7 L).take j ++ [UInt8.ofNat (L / 256 ^ m)]) := by
            show _ = _
            rw [htk, show 7 - 1 - j = m from by omega]
          have hlt2 : ((bigE 7 L).take j).length ≤ 7 := by rw [List.length_take, bigE_length]; omega
          obtain ⟨l2, hl2⟩ : ∃ l2, Hid (l2 = l1 ++ (bigE 7 L).take j) := ⟨l1 ++ (bigE 7 L).take j, rfl⟩
          have hl2b : l2.length ≤ 168 := by rw [hl2.out, List.length_append]; omega
          rw [← hl2.out] at hI
          clear htk hlt2
          go_wp2_with (at_builtin; refine wpList_append_own _ rfl (.tmp 47) (.tmp 53) 75 rfl w.heap.size 5 i0 (.int .u8 0) 1 1 Try.underlying75 hi hz0 hz1 hz2 rfl (by decide) _ _ _ rfl (hI.out.1.alloc _) ⟨wr.heap.size, 0, none⟩ 1 1 [.int .u8 ((L : Int) / 2 ^ (8 * m) % 256)] rfl rfl ?a61 ?a62 ?a63 ?a64 ?a65 ?_)
          case a61 =>
            intro j u hj
            match j, hj with
            | 0, hj => simp at hj; subst hj; simp [Addr.add]
          case a62 => intro u hu; simp at hu; subst hu; rfl
          case a63 => unfold maxLen; omega
          case a64 => omega
          case a65 => have := hI.out.2.size; simp; omega
          intro v2 w2 hown2 hgr2 _
          have HI2 := Lib.hid (hI.out.next (c := UInt8.ofNat (L / 256 ^ m)) HX.out hown2 hgr2)
          rw [hl2.out, List.append_assoc, ← HT.out] at HI2
          clear hown2 hgr2 hI
          go_wp2
          go_roundw
          case rel => exact ⟨j + 1, by omega, by first | rfl | (congr 1; omega) | go_num, HI2⟩
          case measure => first | (simp [intOf]; done) | (simp [intOf]; omega)
        · have hj7 : j = 7 := by omega
          subst hj7
          have hall : (bigE 7 L).take 7 = bigE 7 L := List.take_of_length_le (by rw [bigE_length]; exact Nat.le_refl _)
          rw [hall, ← HJ.out] at hI
          rw [show (6 : Int) - ((7 : Nat) : Int) = -1 from rfl]
          obtain ⟨g, cap, rfl⟩ : ∃ g cap, u5 = .slice (some ⟨g, 0, none⟩) (joinS k s).length cap := by
            rcases hI.out.1.2 with ⟨_, hbad⟩ | ⟨g, cap, cur, hv, _⟩
            · exfalso
              have : (joinS k s).length = 0 := hbad
              rw [HJ.out, List.length_append, bigE_length] at this; omega
            · exact ⟨g, cap, hv⟩
          have hconv := conv_ownB wr w.heap.size g cap (joinS k s) (joinS k s).length rfl hI.out.1
          have HK := Lib.hid hI.out.2
          clear hI hall
          obtain ⟨R, hR⟩ : ∃ R, Hid (R = joinS k s) := ⟨joinS k s, rfl⟩
          rw [← hR.out] at hconv
          rw [← hR.out]
          go_wp2
          go_ret
          exact ⟨by rw [← hR.out]; rfl, HK.out⟩

end Go.Proofs.Ytlmlldcpllagbaa
