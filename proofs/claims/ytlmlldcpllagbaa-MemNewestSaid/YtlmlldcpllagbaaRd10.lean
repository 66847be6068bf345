/- Package mem: read, the entry that a text was made of. -/
import Derived.Test.YtlmlldcpllagbaaWr10
import Derived.Laws.ResultCell
import Derived.Deep.Cut
namespace Go.Proofs.Ytlmlldcpllagbaa
open Go.RowKit Go.Proofs Go.Proofs.Pk
set_option maxRecDepth 10000
attribute [local simp] mk_get wrap64_u8 mk_extract ByteArray.mk_append_mk get_1k

theorem results_cell_lone {fn : Func} {p : Tmp} {ty : TypeId} (h : fn.results = #[.cell p ty]) (tmps : Array Value) (P : Program) (w : World) :
    (results fn tmps).run P w = ((asAddr (tmps.getD p undef)).run P w).andThen fun a w₁ => (loadVar ty a).run P w₁ := by
  simp only [results, h]
  simp [Sem.run_bind, Result.andThen]

theorem hasPre_nil (w : World) : Calls Try.prog 38 #[.string ⟨#[]⟩, .string ⟨#[118]⟩] w fun e w' => e = .returned (.bool false) ∧ Kept (fun _ => False) w w' := by
  go_enter Try.func38, Try.ntmps38
  go_wp2
  go_ret
  exact ⟨rfl, Kept.refl _ _⟩
theorem hasPre_v (v : Txt) (w : World) (hv : v.length ≤ 300) : Calls Try.prog 38 #[.string ⟨(118 :: v).toArray⟩, .string ⟨#[118]⟩] w fun e w' => e = .returned (.bool true) ∧ Kept (fun _ => False) w w' := by
  have h1 : (1 : Int) ≤ (v.length : Int) + 1 := by omega
  go_enter Try.func38, Try.ntmps38
  go_wp2
  go_ret
  exact ⟨rfl, Kept.refl _ _⟩
theorem cutL_nil (w : World) : Calls Try.prog 37 #[.string ⟨#[]⟩, .string ⟨#[118]⟩] w fun e w' => e = .returned (.tuple #[.string ⟨#[]⟩, .bool false]) ∧ Kept (fun _ => False) w w' := by
  go_enter Try.func37, Try.ntmps37
  go_wp2_with (go_at_call 38; refine (hasPre_nil _).mono ?_; rintro e w2 ⟨rfl, hk⟩)
  go_ret2
  exact ⟨rfl, hk⟩
theorem cutL_v (v : Txt) (w : World) (hv : v.length ≤ 300) : Calls Try.prog 37 #[.string ⟨(118 :: v).toArray⟩, .string ⟨#[118]⟩] w fun e w' => e = .returned (.tuple #[.string ⟨v.toArray⟩, .bool true]) ∧ Kept (fun _ => False) w w' := by
  have h1 : (1 : Int) ≤ (v.length : Int) + 1 := by omega
  have H := fun W => hasPre_v v W hv
  go_enter Try.func37, Try.ntmps37
  go_wp2_with (go_at_call 38; refine (H _).mono ?_; rintro e w2 ⟨rfl, hk⟩)
  go_ret2
  exact ⟨rfl, hk⟩

theorem cut_nil (w : World) : Calls Try.prog 36 #[.string ⟨#[]⟩, .string ⟨#[118]⟩] w fun e w' => e = .returned (.tuple #[.string ⟨#[]⟩, .bool false]) ∧ Kept (fun _ => False) w w' := by
  go_enter Try.func36, Try.ntmps36
  go_wp2_with (go_at_call 37; refine (cutL_nil _).mono ?_; rintro e w2 ⟨rfl, hk⟩)
  go_ret2
  exact ⟨rfl, hk⟩
theorem cut_v (v : Txt) (w : World) (hv : v.length ≤ 300) : Calls Try.prog 36 #[.string ⟨(118 :: v).toArray⟩, .string ⟨#[118]⟩] w fun e w' => e = .returned (.tuple #[.string ⟨v.toArray⟩, .bool true]) ∧ Kept (fun _ => False) w w' := by
  have H := fun W => cutL_v v W hv
  go_enter Try.func36, Try.ntmps36
  go_wp2_with (go_at_call 37; refine (H _).mono ?_; rintro e w2 ⟨rfl, hk⟩)
  go_ret2
  exact ⟨rfl, hk⟩
/-- A text cut at its first byte, if that is the one that says that there is a value. -/
theorem cutP (d : Bool) (v : Txt) (w : World) (hv : v.length ≤ 300) (hd : d = true → v = []) : Calls Try.prog 36 #[.string ⟨(if d = true then [] else 118 :: v).toArray⟩, .string ⟨#[118]⟩] w fun e w' => e = .returned (.tuple #[.string ⟨v.toArray⟩, .bool (!d)]) ∧ Kept (fun _ => False) w w' := by
  cases d with
  | true => rw [hd rfl]; exact cut_nil w
  | false => exact cut_v v w hv

theorem at_len {S a b : Txt} {c : UInt8} {i : Nat} (h : S = a ++ c :: b) (hi : i = a.length) : ∃ hl : i < S.length, S[i] = c := by
  subst h hi
  exact ⟨by simp, by simp⟩
theorem esc_app (a : Txt) (c : UInt8) (b : Txt) : escK (a ++ c :: b) = escK a ++ (escB c ++ escK b) := by unfold escK; simp
/-- What stands where the key's byte j stands. -/
theorem esc_at {k rest : Txt} {j : Nat} (hj : j < k.length) : escK k ++ 0 :: rest = escK (k.take j) ++ (escB k[j] ++ (escK (k.drop (j + 1)) ++ 0 :: rest)) := by
  have h1 : k = k.take j ++ k[j] :: k.drop (j + 1) := by rw [← List.drop_eq_getElem_cons hj, List.take_append_drop]
  have h2 := esc_app (k.take j) k[j] (k.drop (j + 1))
  rw [← h1] at h2
  rw [h2]; simp
/-- What of a number the first j of its seven bytes say. -/
def upto7 (L j : Nat) : Nat := L / 256 ^ (7 - j)
theorem upto7_step (L j : Nat) (hj : j < 7) : upto7 L (j + 1) = 256 * upto7 L j + (UInt8.ofNat (L / 256 ^ (6 - j))).toNat := by
  unfold upto7
  rw [show 7 - (j + 1) = 6 - j from by omega, show 7 - j = (6 - j) + 1 from by omega, Nat.pow_succ, ← Nat.div_div_eq_div_mul, UInt8.toNat_ofNat']
  omega

set_option maxHeartbeats 4000000 in
theorem readP (e : MEnt) (w : World) (h : rightM e = true) :
    Calls Try.prog 30 #[.string ⟨(writeS e).toArray⟩] w fun r w' => r = .returned (.agg (entC e).toArray) ∧ Kept (fun _ => False) w w' := by
  obtain ⟨k, seq, drop, value⟩ := e
  have hr := h
  unfold rightM at hr
  simp only [decide_eq_true_eq] at hr
  obtain ⟨hk0, hk80, hv300, hs1, hs2, hdv⟩ := hr
  have hseq := right_seq h
  simp only at hseq
  obtain ⟨i0, hi, hz0, hz1, hz2⟩ := info_parts infoB
  obtain ⟨rest, hrest⟩ : ∃ rest, Hid (rest = bigE 7 (lackS seq) ++ tailS (k, seq, drop, value)) := ⟨bigE 7 (lackS seq) ++ tailS (k, seq, drop, value), rfl⟩
  obtain ⟨S, hS⟩ : ∃ S, Hid (S = escK k ++ 0 :: rest) := ⟨escK k ++ 0 :: rest, rfl⟩
  have e1 : writeS (k, seq, drop, value) = S := by rw [hS.out, hrest.out]; unfold writeS joinS; simp
  rw [e1]
  have hrl : rest.length ≤ 308 := by
    rw [hrest.out, List.length_append, bigE_length]
    unfold tailS; simp only; split <;> simp <;> omega
  have hSl : S.length ≤ 469 := by
    have := esc_le k
    rw [hS.out, List.length_append, List.length_cons]; omega
  have HK := Lib.hid (And.intro hk0 (And.intro hk80 (And.intro hv300 (And.intro hdv hseq))))
  obtain ⟨n, hn⟩ : ∃ n, Hid (n = k.length) := ⟨_, rfl⟩
  clear h hk0 hk80 hv300 hs1 hs2 hdv hseq e1 hrl
  have hX := Holds.new w [.string ⟨#[]⟩, .int .i64 0, .bool false, .string ⟨#[]⟩] 34
  have hk1 : Kept (fun _ => False) w (w.alloc (.cells #[.string ⟨#[]⟩, .int .i64 0, .bool false, .string ⟨#[]⟩] 34)) := (Kept.refl _ w).alloc _
  go_enter Try.func30, Try.ntmps30
  go_upto_region 1 with (fail)
  obtain ⟨p, hp⟩ : ∃ p, Hid (p = w.heap.size) := ⟨_, rfl⟩
  rw [← hp.out] at hX ⊢
  change Holds (w.alloc (.cells #[.string ⟨#[]⟩, .int .i64 0, .bool false, .string ⟨#[]⟩] 34)) p _ _ at hX
  generalize w.alloc (.cells #[.string ⟨#[]⟩, .int .i64 0, .bool false, .string ⟨#[]⟩] 34) = w1 at hX hk1 ⊢
  have HX := Lib.hid hX
  have HK1 := Lib.hid hk1
  clear hX hk1
  have HI : Hid (ByI w1 (k.take 0) (.slice none 0 0) w1) := ⟨World.ownsRow_nil _ _ _ _, Kept.refl _ _⟩
  have he0 : (escK (k.take 0)).length = 0 := rfl
  go_wp2
  obtain ⟨wq, hwq⟩ : ∃ wq, wq = w1 := ⟨_, rfl⟩
  have HI0 : Hid (ByI w1 (k.take 0) (.slice none 0 0) wq) := by rw [hwq]; exact HI
  rw [← hwq]
  clear hwq HI
  go_loopw [3, 4] (fun v i wr => ∃ j : Nat, j ≤ n ∧ i = .int .i64 (((escK (k.take j)).length : Nat) : Int) ∧ Hid (ByI w1 (k.take j) v wr)) (fun _ i _ => S.length - (intOf i).toNat)
  case atStart => exact ⟨0, Nat.zero_le _, rfl, HI0⟩
  case round =>
    obtain ⟨j, hj, rfl, hI⟩ := hrel
    clear HI0
    obtain ⟨i, hie⟩ : ∃ i, Hid (i = (escK (k.take j)).length) := ⟨_, rfl⟩
    rw [← hie.out]
    by_cases hlt : j < n
    · have hjk : j < k.length := by rw [← hn.out]; exact hlt
      have hat := esc_at (rest := rest) hjk
      rw [← hS.out] at hat
      have htk : k.take (j + 1) = k.take j ++ [k[j]] := List.take_succ_eq_append_getElem hjk
      have hesc := esc_snoc (k.take j) k[j]
      rw [← htk] at hesc
      obtain ⟨c, hkj⟩ : ∃ c, k[j] = c := ⟨_, rfl⟩
      rw [hkj] at hesc hat htk
      have ip : (0 : Int) ≤ (i : Int) := by omega
      have hkl : (k.take j).length ≤ 80 := by rw [List.length_take]; have := HK.out.2.1; omega
      obtain ⟨D, hD⟩ : ∃ D, Hid (D = k.take j) := ⟨k.take j, rfl⟩
      rw [← hD.out] at hI hkl htk
      rcases escB_cases c with ⟨hc0, h1⟩ | ⟨hc0, h1⟩ | ⟨h2, h1⟩
      · subst hc0
        rw [h1] at hat hesc
        obtain ⟨y1, x1⟩ := at_len (i := i) (b := 1 :: (escK (k.drop (j + 1)) ++ 0 :: rest)) hat hie.out
        obtain ⟨y2, x2⟩ := at_len (S := S) (i := i + 1) (a := escK (k.take j) ++ [1]) (c := 1) (b := escK (k.drop (j + 1)) ++ 0 :: rest) (by rw [hat]; simp) (by rw [List.length_append, List.length_singleton, hie.out])
        have HN : Hid ((escK (k.take (j + 1))).length = i + 1 + 1) := by show _ = _; rw [hesc, List.length_append, ← hie.out]; rfl
        have HT := Lib.hid htk
        have z1 : (i : Int) < (S.length : Int) := by omega
        have z2 : (i : Int) + 1 < (S.length : Int) := by omega
        have z0 : (0 : Int) ≤ (i : Int) + 1 := by omega
        have q1 : IntKind.i64.wrap ((i : Int) + 1) = (i : Int) + 1 := IntWalk.i64_in _ (by omega)
        have q2 : IntKind.i64.wrap ((i : Int) + 1 + 1) = (i : Int) + 1 + 1 := IntWalk.i64_in _ (by omega)
        clear hat hesc htk h1
        go_wp2_with (at_builtin; refine wpList_append_own _ rfl (.tmp 27) (.tmp 29) 75 rfl w1.heap.size 5 i0 (.int .u8 0) 1 1 Try.underlying75 hi hz0 hz1 hz2 rfl (by decide) _ _ _ rfl (hI.out.1.alloc _) ⟨wr.heap.size, 0, none⟩ 1 1 [.int .u8 0] rfl rfl ?b01 ?b02 ?b03 ?b04 ?b05 ?_)
        case b01 =>
          intro j u hj
          match j, hj with
          | 0, hj => simp at hj; subst hj; simp [Addr.add]
        case b02 => intro u hu; simp at hu; subst hu; rfl
        case b03 => unfold maxLen; omega
        case b04 => omega
        case b05 => have := hI.out.2.size; simp; omega
        intro v2 w2 hown2 hgr2 _
        have HI2 := Lib.hid (hI.out.next (c := 0) rfl hown2 hgr2)
        rw [← HT.out] at HI2
        clear hown2 hgr2 hI
        go_wp2
        go_roundw
        case rel => exact ⟨j + 1, hlt, by rw [HN.out]; first | rfl | go_num, HI2⟩
        case measure => first | (simp [intOf]; done) | (simp [intOf]; omega)
      · subst hc0
        rw [h1] at hat hesc
        obtain ⟨y1, x1⟩ := at_len (i := i) (b := 2 :: (escK (k.drop (j + 1)) ++ 0 :: rest)) hat hie.out
        obtain ⟨y2, x2⟩ := at_len (S := S) (i := i + 1) (a := escK (k.take j) ++ [1]) (c := 2) (b := escK (k.drop (j + 1)) ++ 0 :: rest) (by rw [hat]; simp) (by rw [List.length_append, List.length_singleton, hie.out])
        have HN : Hid ((escK (k.take (j + 1))).length = i + 1 + 1) := by show _ = _; rw [hesc, List.length_append, ← hie.out]; rfl
        have HT := Lib.hid htk
        have z1 : (i : Int) < (S.length : Int) := by omega
        have z2 : (i : Int) + 1 < (S.length : Int) := by omega
        have z0 : (0 : Int) ≤ (i : Int) + 1 := by omega
        have q1 : IntKind.i64.wrap ((i : Int) + 1) = (i : Int) + 1 := IntWalk.i64_in _ (by omega)
        have q2 : IntKind.i64.wrap ((i : Int) + 1 + 1) = (i : Int) + 1 + 1 := IntWalk.i64_in _ (by omega)
        clear hat hesc htk h1
        go_wp2_with (at_builtin; refine wpList_append_own _ rfl (.tmp 27) (.tmp 29) 75 rfl w1.heap.size 5 i0 (.int .u8 0) 1 1 Try.underlying75 hi hz0 hz1 hz2 rfl (by decide) _ _ _ rfl (hI.out.1.alloc _) ⟨wr.heap.size, 0, none⟩ 1 1 [.int .u8 1] rfl rfl ?b11 ?b12 ?b13 ?b14 ?b15 ?_)
        case b11 =>
          intro j u hj
          match j, hj with
          | 0, hj => simp at hj; subst hj; simp [Addr.add]
        case b12 => intro u hu; simp at hu; subst hu; rfl
        case b13 => unfold maxLen; omega
        case b14 => omega
        case b15 => have := hI.out.2.size; simp; omega
        intro v2 w2 hown2 hgr2 _
        have HI2 := Lib.hid (hI.out.next (c := 1) rfl hown2 hgr2)
        rw [← HT.out] at HI2
        clear hown2 hgr2 hI
        go_wp2
        go_roundw
        case rel => exact ⟨j + 1, hlt, by rw [HN.out]; first | rfl | go_num, HI2⟩
        case measure => first | (simp [intOf]; done) | (simp [intOf]; omega)
      · rw [h1] at hat hesc
        obtain ⟨y1, x1⟩ := at_len (i := i) (b := (escK (k.drop (j + 1)) ++ 0 :: rest)) hat hie.out
        have HN : Hid ((escK (k.take (j + 1))).length = i + 1) := by show _ = _; rw [hesc, List.length_append, ← hie.out]; rfl
        have HT := Lib.hid htk
        have n0 : ¬(c.toNat : Int) = 0 := by omega
        have n1 : ¬(c.toNat : Int) = 1 := by omega
        have z1 : (i : Int) < (S.length : Int) := by omega
        have q1 : IntKind.i64.wrap ((i : Int) + 1) = (i : Int) + 1 := IntWalk.i64_in _ (by omega)
        clear hat hesc htk h1
        go_wp2_with (at_builtin; refine wpList_append_own _ rfl (.tmp 27) (.tmp 29) 75 rfl w1.heap.size 5 i0 (.int .u8 0) 1 1 Try.underlying75 hi hz0 hz1 hz2 rfl (by decide) _ _ _ rfl (hI.out.1.alloc _) ⟨wr.heap.size, 0, none⟩ 1 1 [.int .u8 (c.toNat : Int)] rfl rfl ?b21 ?b22 ?b23 ?b24 ?b25 ?_)
        case b21 =>
          intro j u hj
          match j, hj with
          | 0, hj => simp at hj; subst hj; simp [Addr.add]
        case b22 => intro u hu; simp at hu; subst hu; rfl
        case b23 => unfold maxLen; omega
        case b24 => omega
        case b25 => have := hI.out.2.size; simp; omega
        intro v2 w2 hown2 hgr2 _
        have HI2 := Lib.hid (hI.out.next (c := c) rfl hown2 hgr2)
        rw [← HT.out] at HI2
        clear hown2 hgr2 hI
        go_wp2
        go_roundw
        case rel => exact ⟨j + 1, hlt, by rw [HN.out]; first | rfl | go_num, HI2⟩
        case measure => first | (simp [intOf]; done) | (simp [intOf]; omega)
    · have hjn : j = n := by omega
      have hall : k.take j = k := List.take_of_length_le (by rw [hjn, hn.out]; exact Nat.le_refl _)
      rw [hall] at hI hie
      obtain ⟨y1, x1⟩ := at_len (i := i) hS.out hie.out
      have z1 : (i : Int) < (S.length : Int) := by omega
      have z2 : (i : Int) + 1 ≤ (S.length : Int) := by omega
      have z3 : i + 1 ≤ S.length := by omega
      have z0 : (0 : Int) ≤ (i : Int) := by omega
      have z4 : (0 : Int) ≤ (i : Int) + 1 := by omega
      have q1 : IntKind.i64.wrap ((i : Int) + 1) = (i : Int) + 1 := IntWalk.i64_in _ (by omega)
      have hdr : S.drop (i + 1) = rest := by
        rw [hS.out, hie.out, ← List.drop_drop, List.drop_left]; rfl
      have hlr : S.length - (i + 1) = rest.length := by rw [← hdr, List.length_drop]
      have htr : rest.take rest.length = rest := List.take_length
      have htr2 : rest.take (S.length - (i + 1)) = rest := by rw [hlr]; exact htr
      have HY := Lib.hid hI.out
      clear hall hI hlt hj hjn hlr
      go_wp2
      obtain ⟨L, hL⟩ : ∃ L, Hid (L = lackS seq) := ⟨lackS seq, rfl⟩
      have hLb : L < 9007199254740992 := by rw [hL.out]; have := HK.out.2.2.2.2; unfold SeqOk lackS MaxS at *; omega
      obtain ⟨tl, htl⟩ : ∃ tl, Hid (tl = tailS (k, seq, drop, value)) := ⟨tailS (k, seq, drop, value), rfl⟩
      have hrs : rest = bigE 7 L ++ tl := by rw [hL.out, htl.out]; exact hrest.out
      have HR := Lib.hid hrs
      have htl3 : tl.length ≤ 301 := by
        have := HK.out.2.2.1
        rw [htl.out]; unfold tailS; simp only; split <;> simp <;> omega
      have hrl : rest.length = 7 + tl.length := by rw [hrs, List.length_append, bigE_length]
      have HRL := Lib.hid hrl
      have h70 : upto7 L 0 = 0 := by unfold upto7; rw [Nat.sub_zero]; omega
      clear hdr htr htr2 y1 x1 z1 z2 z3 z0 z4 q1 hrs hrl
      go_loop [6, 35] (fun v i => ∃ m : Nat, m ≤ 7 ∧ v = .int .i64 ((upto7 L m : Nat) : Int) ∧ i = .int .i64 (m : Int)) (fun _ i => 7 - (intOf i).toNat)
      case atStart => exact ⟨0, by omega, by rw [h70]; rfl, rfl⟩
      case round =>
        obtain ⟨m, hm, rfl, rfl⟩ := hrel
        clear h70
        by_cases hlt : m < 7
        · have hcut : rest = (bigE 7 L).take m ++ UInt8.ofNat (L / 256 ^ (6 - m)) :: ((bigE 7 L).drop (m + 1) ++ tl) := by
            have h1 := bigE_take 7 L m hlt
            have h2 := List.take_append_drop (m + 1) (bigE 7 L)
            rw [h1] at h2
            rw [HR.out]
            conv => lhs; rw [← h2]
            simp
          obtain ⟨y1, x1⟩ := at_len (i := m) hcut (by rw [List.length_take, bigE_length]; omega)
          have hstep := upto7_step L m hlt
          have hub : upto7 L m < 281474976710656 := by
            unfold upto7
            refine Nat.lt_of_le_of_lt (Nat.div_le_div_left (c := 256) (b := 256 ^ (7 - m)) ?_ (by omega)) (by omega)
            rw [show 7 - m = (6 - m) + 1 from by omega, Nat.pow_succ]
            have := Nat.pow_pos (n := 6 - m) (show 0 < 256 by omega)
            omega
          obtain ⟨u, hu⟩ : ∃ u, u = upto7 L m := ⟨_, rfl⟩
          obtain ⟨c, hc⟩ : ∃ c, c = UInt8.ofNat (L / 256 ^ (6 - m)) := ⟨_, rfl⟩
          rw [← hc] at x1 hstep
          rw [← hu] at hstep hub ⊢
          have hor : bits .or .i64 ((u : Int) * 256) (c.toNat : Int) = ((256 * u + c.toNat : Nat) : Int) := by
            have := or_byte u c hub
            rwa [show wrap64 ((u : Int) * 256) = (u : Int) * 256 from by unfold wrap64; omega] at this
          have HS2 := Lib.hid (hstep.trans rfl)
          have z1 : (m : Int) < (rest.length : Int) := by omega
          have z2 : (m : Int) < 7 := by omega
          have z0 : (0 : Int) ≤ (m : Int) := by omega
          have q1 : IntKind.i64.wrap ((m : Int) + 1) = (m : Int) + 1 := IntWalk.i64_in _ (by omega)
          clear hcut hstep hu hc
          go_wp2
          go_round
          case rel => exact ⟨m + 1, by omega, by rw [HS2.out]; push_cast; rfl, by go_num⟩
          case measure => simp [intOf]; omega
        · have h7 : m = 7 := by omega
          subst h7
          have h77 : upto7 L 7 = L := by unfold upto7; rw [Nat.sub_self, Nat.pow_zero, Nat.div_one]
          rw [h77]
          have hdr : rest.drop 7 = tl := by rw [HR.out, List.drop_append_of_le_length (by rw [bigE_length]; exact Nat.le_refl _), List.drop_of_length_le (by rw [bigE_length]; exact Nat.le_refl _), List.nil_append]
          have hlr : rest.length - 7 = tl.length := by have := HRL.out; omega
          have htr : tl.take tl.length = tl := List.take_length
          have htr2 : tl.take (rest.length - 7) = tl := by rw [hlr]; exact htr
          have z7 : (7 : Int) ≤ (rest.length : Int) := by have := HRL.out; omega
          have zn7 : 7 ≤ rest.length := by have := HRL.out; omega
          have HC : Hid (∀ W, Calls Try.prog 36 #[.string ⟨tl.toArray⟩, .string ⟨#[118]⟩] W fun e w' => e = .returned (.tuple #[.string ⟨value.toArray⟩, .bool (!drop)]) ∧ Kept (fun _ => False) W w') := fun W => by
            have := cutP drop value W HK.out.2.2.1 HK.out.2.2.2.1
            rw [htl.out]; exact this
          have hsq : IntKind.i64.wrap (9007199254740991 - (L : Int)) = seq := by
            have := HK.out.2.2.2.2
            rw [IntWalk.i64_in _ (by omega), hL.out]
            unfold SeqOk lackS MaxS at *; omega
          clear h77 hlr hm
          obtain ⟨g, cap, rfl⟩ : ∃ g cap, u3 = .slice (some ⟨g, 0, none⟩) k.length cap := by
            rcases HY.out.1.2 with ⟨_, hbad⟩ | ⟨g, cap, cur, hv, _⟩
            · exact absurd (List.length_eq_zero_iff.1 hbad) HK.out.1
            · exact ⟨g, cap, hv⟩
          have HA : Hid (∀ W, Kept (fun _ => False) wr W → (convert 75 9 (.slice (some ⟨g, 0, none⟩) k.length cap)).run Try.prog W = .ok (.string ⟨k.toArray⟩) W ∧ Holds W p [.string ⟨#[]⟩, .int .i64 0, .bool false, .string ⟨#[]⟩] 34 ∧ Kept (fun _ => False) w W) := fun W hk => by
            refine ⟨conv_ownB W w1.heap.size g cap k k.length rfl (owns_of_block HY.out.1 fun b hb => hk.block b (HY.out.1.lt b hb).2 (fun f => f)), ?_, ?_⟩
            · have h1 := HX.out.of_block (HY.out.2.block p HX.out.lt (fun f => f))
              exact h1.of_block (hk.block p h1.lt (fun f => f))
            · exact (HK1.out.trans HY.out.2 (fun _ hf => hf.elim)).trans hk (fun _ hf => hf.elim)
          go_wp2_with (go_at_call 36; refine (HC.out _).mono ?_; rintro e w2 ⟨rfl, hk2⟩; obtain ⟨hconv, hP, hKK⟩ := HA.out w2 hk2; have HKK := Lib.hid hKK; have c0 := hP.cell 0 _ rfl; have c1 := hP.cell 1 _ rfl; have c2 := hP.cell 2 _ rfl; have c3 := hP.cell 3 _ rfl; have f0 := hP.free 0; have f1 := hP.free 1; have f2 := hP.free 2; have f3 := hP.free 3; have HP := Lib.hid hP; clear HA HC hk2 hKK hP)
          have hPN := HP.out.setCells (entC (k, seq, drop, value)) 0 w2 [.string ⟨#[]⟩, .int .i64 0, .bool false, .string ⟨#[]⟩] (Nat.le_refl _)
          rw [lay_all [.string ⟨#[]⟩, .int .i64 0, .bool false, .string ⟨#[]⟩] (entC (k, seq, drop, value)) rfl] at hPN
          have hKN : Kept (fun _ => False) w (w2.setCells p 0 (entC (k, seq, drop, value))) := Kept.setCellsN (Nat.le_of_eq hp.out.symm) _ 0 w2 HKK.out
          change bodyPost _ _ _ _ _ (w2.setCells p 0 (entC (k, seq, drop, value)))
          generalize w2.setCells p 0 (entC (k, seq, drop, value)) = w3 at hPN hKN ⊢
          have d0 : w3.cell? ⟨p, 0, none⟩ = some (.string ⟨k.toArray⟩) := hPN.cell 0 _ rfl
          have d1 : w3.cell? ⟨p, 1, none⟩ = some (.int .i64 seq) := hPN.cell 1 _ rfl
          have d2 : w3.cell? ⟨p, 2, none⟩ = some (.bool drop) := hPN.cell 2 _ rfl
          have d3 : w3.cell? ⟨p, 3, none⟩ = some (.string ⟨value.toArray⟩) := hPN.cell 3 _ rfl
          refine bodyPost_ret (v := .agg #[.string ⟨k.toArray⟩, .int .i64 seq, .bool drop, .string ⟨value.toArray⟩]) ?_ rfl ⟨rfl, hKN⟩
          rw [results_cell_lone rfl]
          go_simp

end Go.Proofs.Ytlmlldcpllagbaa
