/- RtW, RtG, Shelf. -/
import Derived.Test.YtfbgagpihhbllaaGreatDoorJ09
import Derived.Test.YtfbgagpihhbllaaGreatDoorJ04
import Derived.BigQuiet
import Derived.Deep.Cut
import Derived.StillTailTactics
import Derived.Shelf.Strings.BuilderK
import Derived.Shelf.Strings.Builder2
import Derived.Shelf.Small.Bits
import Derived.Shelf.LaysM
import Derived.Shelf.Strconv.Clone
import Derived.Test.YtfbgagpihhbllaaGreatDoorProg

/- Package root: write and number, and a row of bytes in memory written over in places. -/
namespace Go.Proofs.YtfbgagpihhbllaaGreatDoor
open Go.RowKit Go.Proofs Go.Proofs.Pk
set_option maxRecDepth 10000
attribute [local simp] mk_get wrap64_u8 mk_extract ByteArray.mk_append_mk get_1k

/-- Bytes written over from a place on. -/
def layB (D : List UInt8) (o : Nat) (l : List UInt8) : List UInt8 := D.take o ++ (l ++ D.drop (o + l.length))
theorem layB_length (D : List UInt8) (o : Nat) (l : List UInt8) (h : o + l.length ≤ D.length) : (layB D o l).length = D.length := by
  unfold layB; simp; omega
theorem lay_bytes (D : List UInt8) (o : Nat) (l : List UInt8) : lay (Lib.byteCells D) o (Lib.byteCells l) = Lib.byteCells (layB D o l) := by
  unfold lay layB
  rw [bc_length, Lib.byteCells_append, Lib.byteCells_append, bc_take, bc_drop]
theorem layB_nil (D : List UInt8) (o : Nat) : layB D o [] = D := by unfold layB; simp
theorem layB_set (D : List UInt8) (o : Nat) (l : List UInt8) (c : UInt8) (h : o + 1 + l.length ≤ D.length) : (layB D (o + 1) l).set o c = layB D o (c :: l) := by
  unfold layB
  have h1 : D.take (o + 1) = D.take o ++ [D[o]'(by omega)] := List.take_succ_eq_append_getElem (by omega)
  rw [h1, List.append_assoc, List.set_append_right _ _ (by rw [List.length_take]; omega)]
  rw [List.length_take, Nat.min_eq_left (by omega), Nat.sub_self]
  simp only [List.cons_append, List.nil_append, List.set_cons_zero, List.length_cons]
  rw [show o + 1 + l.length = o + (l.length + 1) from by omega]
theorem bc_set (D : List UInt8) (o : Nat) (c : UInt8) : (Lib.byteCells D).set o (.int .u8 (c.toNat : Int)) = Lib.byteCells (D.set o c) := by
  simp [Lib.byteCells, List.map_set]
theorem big_get : ∀ (m n j : Nat) (hj : j < m), (big m n)[j]'(by rw [big_length]; exact hj) = UInt8.ofNat (n / 256 ^ (m - 1 - j))
  | 0, _, _, hj => by omega
  | m + 1, n, j, hj => by
    by_cases h : j = m
    · subst h
      simp only [big]
      rw [List.getElem_append_right (by rw [big_length]; exact Nat.le_refl _)]
      simp [big_length]
    · have hjm : j < m := by omega
      simp only [big]
      rw [List.getElem_append_left (by rw [big_length]; exact hjm), big_get m (n / 256) j hjm, Nat.div_div_eq_div_mul]
      rw [show 256 * 256 ^ (m - 1 - j) = 256 ^ (m + 1 - 1 - j) from by rw [Nat.mul_comm, ← Nat.pow_succ]; congr 1; omega]

/-- A slice of a held row of bytes as a text. -/
theorem conv_held (w : World) (g cap N : Nat) (e : TypeId) (D : List UInt8) (h : Holds w g (Lib.byteCells D) e) (hN : N ≤ D.length) :
    (convert 60 9 (.slice (some ⟨g, 0, none⟩) N cap)).run Tryz.prog w = .ok (.string ⟨(D.take N).toArray⟩) w := by
  have hl : (D.take N).length = N := by rw [List.length_take]; omega
  have := run_convert_bytes_arg (P := Tryz.prog) w 60 5 Tryz.underlying60 Tryz.underlying5 g 0 N cap ((D.take N).map fun c => (c.toNat : Int)) (by simp; omega) (fun i hi => by
    have hiT : i < D.length := by omega
    have := h.cell i (.int .u8 ((D[i]).toNat)) (by simp [Lib.byteCells, hiT])
    simpa [hiT, hi, List.getD, List.getElem?_take] using this) 9 Tryz.underlying9
  rw [str_nums] at this
  exact this

theorem pNumber (l : List UInt8) (w : World) (hl : l.length ≤ 7) :
    Calls Tryz.prog 77 #[.string ⟨l.toArray⟩] w fun e w' => e = .returned (.int .i64 (val l : Nat)) ∧ w' = w := by
  have HL : Hid (l.length ≤ 7) := hl
  have hli : (l.length : Int) ≤ 7 := by omega
  clear hl
  go_enter Tryz.func77, Tryz.ntmps77
  go_wp2
  go_loop [3, 7] (fun n i => ∃ k : Nat, (k : Int) ≤ l.length ∧ n = .int .i64 (val (l.take k)) ∧ i = .int .i64 k) (fun _ i => l.length - (intOf i).toNat)
  case atStart => exact ⟨0, by omega, rfl, rfl⟩
  case round =>
    obtain ⟨k, hk, rfl, rfl⟩ := hrel
    by_cases hlt : (k : Int) < l.length
    · have hkl : k < l.length := by omega
      go_wp2
      go_round
      case rel => exact ⟨k + 1, by omega, by rw [val_take l k hkl]; exact congrArg _ (or_byte _ _ (val6 l k (by have := HL.out; omega))), by go_num⟩
      case measure => simp [intOf]; omega
    · have hkc : k = l.length := by omega
      subst hkc
      go_wp2
      go_ret
      exact ⟨rfl, rfl⟩

set_option maxHeartbeats 1000000 in
theorem pWrite (g o m cap n : Nat) (D : List UInt8) (e : TypeId) (w : World) (h : Holds w g (Lib.byteCells D) e) (hm : m ≤ 7) (ho : o + m ≤ D.length) (hD : D.length ≤ 4096) (hn : n < 72057594037927936) :
    Calls Tryz.prog 88 #[.slice (some ⟨g, o, none⟩) m cap, .int .i64 (n : Int)] w fun e' w' => e' = .returned (.tuple #[]) ∧ Holds w' g (Lib.byteCells (layB D o (big m n))) e ∧ Kept (fun k => k = g) w w' := by
  have HM : Hid (m ≤ 7 ∧ o + m ≤ D.length ∧ D.length ≤ 4096 ∧ n < 72057594037927936) := ⟨hm, ho, hD, hn⟩
  have hm1 : (m : Int) ≤ 7 := by omega
  have H0 : Hid (Holds w g (Lib.byteCells (layB D (o + m) ((big m n).drop m))) e) := by
    show Holds _ _ _ _
    rw [List.drop_eq_nil_of_le (by rw [big_length]; exact Nat.le_refl _), layB_nil]; exact h
  clear h ho hD hm hn
  go_enter Tryz.func88, Tryz.ntmps88
  go_wp2
  obtain ⟨wq, hwq⟩ : ∃ wq, wq = w := ⟨_, rfl⟩
  have HS : Hid (Kept (fun k => k = g) w wq) := by rw [hwq]; exact Kept.refl _ _
  have H1 : Hid (Holds wq g (Lib.byteCells (layB D (o + m) ((big m n).drop m))) e) := by rw [hwq]; exact H0
  rw [← hwq]
  clear hwq H0
  go_loopw [1, 4] (fun x i wr => ∃ (j : Nat) (q : Nat), j ≤ m ∧ q = n / 256 ^ (m - j) ∧ x = .int .i64 (q : Int) ∧ i = .int .i64 ((j : Int) - 1) ∧ Hid (Holds wr g (Lib.byteCells (layB D (o + j) ((big m n).drop j))) e) ∧ Hid (Kept (fun k => k = g) w wr)) (fun _ i _ => (intOf i + 1).toNat)
  case atStart => exact ⟨m, n, Nat.le_refl _, by rw [Nat.sub_self]; simp, rfl, by go_num, H1, HS⟩
  case round =>
    obtain ⟨j, q, hj, hq, rfl, rfl, hh, hk⟩ := hrel
    cases j with
    | zero =>
      clear hq
      have hh2 := hh.out
      rw [Nat.add_zero, List.drop_zero] at hh2
      have HH := Lib.hid hh2
      clear hh hh2
      go_wp2
      go_end0
      exact ⟨rfl, HH.out, hk.out⟩
    | succ J =>
      have hmm := HM.out
      have hJl : J < (big m n).length := by rw [big_length]; omega
      have hdrop : (big m n).drop J = (big m n)[J] :: (big m n).drop (J + 1) := List.drop_eq_getElem_cons hJl
      have hbg := big_get m n J (by omega)
      rw [show m - 1 - J = m - (J + 1) from by omega, ← hq] at hbg
      have hset := layB_set D (o + J) ((big m n).drop (J + 1)) ((big m n)[J]) (by rw [List.length_drop, big_length]; omega)
      rw [← hdrop, hbg] at hset
      have hq2 : q / 256 = n / 256 ^ (m - J) := by
        rw [hq, Nat.div_div_eq_div_mul, ← Nat.pow_succ]; congr 2; omega
      have hqn : q < 72057594037927936 := by rw [hq]; exact Nat.lt_of_le_of_lt (Nat.div_le_self _ _) hmm.2.2.2
      have hlen : (layB D (o + (J + 1)) ((big m n).drop (J + 1))).length = D.length := layB_length _ _ _ (by rw [List.length_drop, big_length]; omega)
      obtain ⟨E, hE⟩ : ∃ E, E = layB D (o + (J + 1)) ((big m n).drop (J + 1)) := ⟨_, rfl⟩
      rw [← Nat.add_assoc] at hE
      rw [← hE] at hset
      have hh2 := hh.out
      rw [← Nat.add_assoc] at hh2 hlen
      rw [← hE] at hh2 hlen
      have hc : wr.cell? ⟨g, o + J, none⟩ = some (.int .u8 ((E[o + J]'(by omega)).toNat : Int)) := hh2.cell _ _ (by unfold Lib.byteCells; rw [List.getElem?_map, List.getElem?_eq_getElem (by omega)]; rfl)
      have hf : wr.frozen? ⟨g, o + J, none⟩ = false := hh2.free _
      have hwu : IntKind.u8.wrap (q : Int) = ((UInt8.ofNat q).toNat : Int) := u8_wrap q
      have hi1 : IntKind.i64.wrap ((J : Int) - 1) = (J : Int) - 1 := IntWalk.i64_in _ (by omega)
      have e1 : ((J + 1 : Nat) : Int) - 1 = (J : Int) := by omega
      have hJ0 : (0 : Int) ≤ (J : Int) := Int.natCast_nonneg _
      have hJm : (J : Int) < (m : Int) := by omega
      have H2 : Hid (Holds (wr.setCell ⟨g, o + J, none⟩ (.int .u8 ((UInt8.ofNat q).toNat : Int))) g (Lib.byteCells (layB D (o + J) ((big m n).drop J))) e) := by
        show Holds _ _ _ _
        rw [← hset, ← bc_set]
        exact hh2.set (o + J) _
      have K2 : Hid (Kept (fun k => k = g) w (wr.setCell ⟨g, o + J, none⟩ (.int .u8 ((UInt8.ofNat q).toNat : Int)))) := hk.out.setCell rfl _
      have HQ2 := Lib.hid hq2
      rw [e1]
      generalize (E[o + J]'(by omega)).toNat = z at hc
      clear hh hh2 hset hlen hE hdrop hbg hq hq2 hk hmm hJl
      go_wp2
      go_roundw
      case rel => exact ⟨J, q / 256, by omega, HQ2.out, by first | rfl | (congr 1; simp) , by go_num, H2, K2⟩
      case measure => simp [intOf]

end Go.Proofs.YtfbgagpihhbllaaGreatDoor

/- Package root: Head and ReadHead. -/
namespace Go.Proofs.YtfbgagpihhbllaaGreatDoor
open Go.RowKit Go.Proofs Go.Proofs.Pk
set_option maxRecDepth 10000
attribute [local simp] mk_get wrap64_u8 mk_extract ByteArray.mk_append_mk get_1k

/-- What Head answers, whatever the numbers. -/
def headV (seq size : Int) : List UInt8 × Nat := if 1 ≤ seq ∧ seq ≤ 9007199254740991 ∧ 0 ≤ size ∧ size ≤ 512 then (headB seq.toNat size.toNat, 0) else ([], 1)

theorem sector_info : (Tryz.prog.info? 87).map (fun i => (i.zero, i.size)) = some (some (.agg (Lib.byteCells (List.replicate 64 0)).toArray), 64) := by kernel_rfl
theorem sector_zero : ∃ i, Tryz.prog.info? 87 = some i ∧ i.zero = some (.agg (Lib.byteCells (List.replicate 64 0)).toArray) := by
  have h := sector_info
  cases hi : Tryz.prog.info? 87 with
  | none => rw [hi] at h; simp at h
  | some i => rw [hi] at h; simp only [Option.map_some, Option.some.injEq, Prod.mk.injEq] at h; exact ⟨i, rfl, h.1⟩
theorem byte_size : (Tryz.prog.info? 5).map (·.size) = some 1 := by kernel_rfl

theorem head_lay (BT : List UInt8) (hl : BT.length = 7) (u v : UInt8) :
    layB (layB (layB (layB (layB (List.replicate 64 0) 0 [80, 76]) 2 BT) 9 [u, v]) 56 BT) 63 [69] = [80, 76] ++ BT ++ [u, v] ++ List.replicate 45 0 ++ BT ++ [69] := by
  match BT, hl with
  | [a, b, c, d, e, f, g], _ => rfl

theorem head_row (BT : List UInt8) (hl : BT.length = 7) (BS : List UInt8) (hs : BS.length = 2) (j : Nat) (x : Value) (h : (Lib.byteCells BT)[j]? = some x) :
    (Lib.byteCells (layB (layB (layB (List.replicate 64 0) 0 [80, 76]) 2 BT) 9 BS))[2 + j]? = some x := by
  match BT, hl, BS, hs with
  | [a, b, c, d, e, f, g], _, [u, v], _ =>
    have hj : j < 7 := by have := (List.getElem?_eq_some_iff.1 h).1; simpa [Lib.byteCells] using this
    have hc : j = 0 ∨ j = 1 ∨ j = 2 ∨ j = 3 ∨ j = 4 ∨ j = 5 ∨ j = 6 := by omega
    rcases hc with rfl | rfl | rfl | rfl | rfl | rfl | rfl <;> exact h
theorem ofNat_mod (n : Nat) : UInt8.ofNat (n % 256) = UInt8.ofNat n := by
  apply UInt8.toNat_inj.1; simp

set_option maxHeartbeats 1000000 in
theorem pHead_bad (seq size : Int) (w : World) (h : seq < 1 ∨ 9007199254740991 < seq ∨ size < 0 ∨ 512 < size) :
    Calls Tryz.prog 74 #[.int .i64 seq, .int .i64 size] w (R2 w (.string ⟨#[]⟩) (errV 33 1)) := by
  by_cases k1 : seq < 1
  case' neg =>
    by_cases k2 : 9007199254740991 < seq
    case' neg =>
      by_cases k3 : size < 0
      case' neg =>
        have k4 : 512 < size := by omega
  all_goals
    clear h
    go_enter Tryz.func74, Tryz.ntmps74
    go_wp2
    all_goals
      go_ret2
      exact R2.mk rfl rfl (Below.refl _ _)

set_option maxHeartbeats 1000000 in
theorem pHead_ok (seq size : Nat) (w : World) (h1 : 1 ≤ seq) (h2 : seq ≤ MaxN) (h3 : size ≤ 512) :
    Calls Tryz.prog 74 #[.int .i64 (seq : Int), .int .i64 (size : Int)] w (R2 w (.string ⟨(headB seq size).toArray⟩) (errV 33 0)) := by
  obtain ⟨i, hi, hz⟩ := sector_zero
  have HN : Hid (seq < 72057594037927936 ∧ size < 72057594037927936) := by unfold MaxN at h2; exact ⟨by omega, by omega⟩
  have e1 : decide ((seq : Int) < 1) = false := by rw [decide_eq_false_iff_not]; omega
  have e2 : decide (9007199254740991 < (seq : Int)) = false := by rw [decide_eq_false_iff_not]; unfold MaxN at h2; omega
  have e3 : decide ((size : Int) < 0) = false := by rw [decide_eq_false_iff_not]; omega
  have e4 : decide (512 < (size : Int)) = false := by rw [decide_eq_false_iff_not]; omega
  clear h1 h2 h3
  go_enter Tryz.func74, Tryz.ntmps74
  go_upto_region 3 with (fail)
  obtain ⟨g, hg⟩ : ∃ g, Hid (g = w.heap.size) := ⟨_, rfl⟩
  have HA := Holds.new w (Lib.byteCells (List.replicate 64 0)) 87
  have HK : Kept (fun k => k = g) w (w.alloc (.cells (Lib.byteCells (List.replicate 64 0)).toArray 87)) := (Kept.refl _ w).alloc _
  refine wp_region_lit ?_
  refine wpList_alloc_row rfl 87 rfl i _ hi hz ?_
  rw [← hg.out] at HA ⊢
  generalize w.alloc (.cells (Lib.byteCells (List.replicate 64 0)).toArray 87) = w1 at HA HK ⊢
  refine wpList_nil ?_
  change Exit.then _ _ _ _ w1
  obtain ⟨BT, hBT⟩ : ∃ BT, Hid (BT = big 7 seq) := ⟨_, rfl⟩
  obtain ⟨BS, hBS⟩ : ∃ BS, Hid (BS = big 2 size) := ⟨_, rfl⟩
  have lBT : BT.length = 7 := by rw [hBT.out, big_length]
  have lBS : BS.length = 2 := by rw [hBS.out, big_length]
  have hlen0 : (List.replicate 64 (0 : UInt8)).length = 64 := by simp
  obtain ⟨D0, hD0⟩ : ∃ D, Hid (D = List.replicate 64 (0 : UInt8)) := ⟨_, rfl⟩
  rw [← hD0.out] at HA hlen0
  -- PL
  go_upto_region 4 with (fail)
  refine wp_region_lit ?_
  refine wpList_plain rfl fun K hK => ?_
  go_simp
  refine hK _ _ ?_
  clear hK K
  have l1 : 0 + [(80 : UInt8), 76].length ≤ D0.length := by rw [hlen0]; decide
  have HB := Holds.setCells (Lib.byteCells [80, 76]) 0 w1 _ HA (by rw [bc_length, bc_length]; exact l1)
  have KB := Kept.setCells (X := fun k => k = g) (g := g) rfl (Lib.byteCells [80, 76]) 0 w1 HK
  rw [lay_bytes] at HB
  refine wpList_copy_text rfl (.tmp 22) (.const (.string ⟨[80, 76].toArray⟩)) _ _ rfl 5 Tryz.underlying60 byte_size g 0 2 64 [80, 76] (by kernel_rfl) (by kernel_rfl) (by decide) (HA.there _ _ (by rw [bc_length]; exact l1)) ?_
  refine wpList_nil ?_
  change Exit.then _ _ _ _ (w1.setCells g 0 (Lib.byteCells [80, 76]))
  generalize w1.setCells g 0 (Lib.byteCells [80, 76]) = w2 at HB KB ⊢
  have hlen1 := layB_length D0 0 [80, 76] l1
  obtain ⟨D1, hD1⟩ : ∃ D, Hid (D = layB D0 0 [80, 76]) := ⟨_, rfl⟩
  rw [← hD1.out] at HB hlen1
  rw [hlen0] at hlen1
  clear HA HK hlen0 l1
  -- seq
  have HW := Lib.hid (pWrite g 2 7 62 seq D1 _ w2 HB (by omega) (by omega) (by omega) HN.out.1)
  rw [← hBT.out] at HW
  clear HB
  go_wp2_with fail
  refine HW.out.mono ?_
  rintro e w3 ⟨rfl, HC, KC⟩
  have KC := KB.trans KC (fun n h => .inl h)
  have hlen2 := layB_length D1 2 BT (by omega)
  obtain ⟨D2, hD2⟩ : ∃ D, Hid (D = layB D1 2 BT) := ⟨_, rfl⟩
  rw [← hD2.out] at HC hlen2
  rw [hlen1] at hlen2
  clear HW KB hlen1
  -- size
  have HW := Lib.hid (pWrite g 9 2 55 size D2 _ w3 HC (by omega) (by omega) (by omega) HN.out.2)
  rw [← hBS.out] at HW
  clear HC
  go_wp2_with fail
  refine HW.out.mono ?_
  rintro e w4 ⟨rfl, HE, KE⟩
  have KE := KC.trans KE (fun n h => .inl h)
  have hlen3 := layB_length D2 9 BS (by omega)
  obtain ⟨D3, hD3⟩ : ∃ D, Hid (D = layB D2 9 BS) := ⟨_, rfl⟩
  rw [← hD3.out] at HE hlen3
  rw [hlen2] at hlen3
  clear HW KC hlen2
  -- seq again
  have HRow : Hid (∀ (j : Nat) (x : Value), (Lib.byteCells BT)[j]? = some x → (Lib.byteCells D3)[2 + j]? = some x) := by
    show ∀ _ _, _
    rw [hD3.out, hD2.out, hD1.out, hD0.out]
    exact head_row BT lBT BS lBS
  go_wp2_with fail
  refine wp_region_still_tail 2 (by kernel_rfl) (by kernel_rfl) ?_
  simp only [List.take_succ_cons, List.take_zero, List.drop_succ_cons, List.drop_zero]
  repeat still_step
  refine wpStill_nil ?_
  change wpList _ _ _ _ _ w4.drew
  have HF := Holds.setCells (Lib.byteCells BT) 56 w4.drew _ HE.drew (by rw [bc_length, bc_length]; omega)
  have KF := Kept.setCells (X := fun k => k = g) (g := g) rfl (Lib.byteCells BT) 56 w4.drew (KE.drewN 1)
  rw [lay_bytes] at HF
  refine wpList_copy_mid rfl (.tmp 30) (.tmp 31) _ _ rfl 5 Tryz.underlying60 byte_size g 56 7 8 g 2 7 62 (by kernel_rfl) (by kernel_rfl) (Lib.byteCells BT) (by rw [bc_length, lBT]; rfl) (HE.drew.range 2 _ HRow.out)
    (HE.drew.there _ _ (by rw [bc_length, bc_length]; omega)) (bc_one _) ?_
  refine wpList_nil ?_
  change Exit.then _ _ _ _ (w4.drew.setCells g 56 (Lib.byteCells BT))
  generalize w4.drew.setCells g 56 (Lib.byteCells BT) = w5 at HF KF ⊢
  have hlen4 := layB_length D3 56 BT (by omega)
  obtain ⟨D4, hD4⟩ : ∃ D, Hid (D = layB D3 56 BT) := ⟨_, rfl⟩
  rw [← hD4.out] at HF hlen4
  rw [hlen3] at hlen4
  clear HE KE hlen3 HRow
  -- E
  go_upto_region 8 with (fail)
  refine wp_region_lit ?_
  refine wpList_plain rfl fun K hK => ?_
  go_simp
  refine hK _ _ ?_
  clear hK K
  have l1 : 63 + [(69 : UInt8)].length ≤ D4.length := by rw [hlen4]; decide
  have HG := Holds.setCells (Lib.byteCells [69]) 63 w5 _ HF (by rw [bc_length, bc_length]; exact l1)
  have KG := Kept.setCells (X := fun k => k = g) (g := g) rfl (Lib.byteCells [69]) 63 w5 KF
  rw [lay_bytes] at HG
  refine wpList_copy_text rfl (.tmp 33) (.const (.string ⟨[69].toArray⟩)) _ _ rfl 5 Tryz.underlying60 byte_size g 63 1 1 [69] (by kernel_rfl) (by kernel_rfl) (by decide) (HF.there _ _ (by rw [bc_length]; exact l1)) ?_
  refine wpList_nil ?_
  change Exit.then _ _ _ _ (w5.setCells g 63 (Lib.byteCells [69]))
  generalize w5.setCells g 63 (Lib.byteCells [69]) = w6 at HG KG ⊢
  have hlen5 := layB_length D4 63 [69] l1
  have hcv := conv_held w6 g 64 64 _ _ HG (by rw [hlen5, hlen4]; exact Nat.le_refl _)
  rw [List.take_of_length_le (by rw [hlen5, hlen4]; exact Nat.le_refl _)] at hcv
  have hall : layB D4 63 [69] = headB seq size := by
    rw [hD4.out, hD3.out, hD2.out, hD1.out, hD0.out, hBS.out, hBT.out, show big 2 size = [UInt8.ofNat (size / 256), UInt8.ofNat size] from rfl, head_lay _ (big_length 7 seq), headB, ofNat_mod]
  rw [hall] at hcv
  have HKG := Lib.hid KG
  clear KF HF l1 hlen4 hlen5 KG hall HG hD4 hD3 hD2 hD1 hD0 hBS hBT lBS lBT HN
  obtain ⟨H, hH⟩ : ∃ H, Hid (H = headB seq size) := ⟨_, rfl⟩
  rw [← hH.out] at hcv
  go_wp2
  go_ret2
  exact R2.mk (by rw [← hH.out]; rfl) rfl (HKG.out.below (Nat.le_refl _) (fun n h => by rw [h, hg.out]; exact Nat.le_refl _))

theorem pHead (seq size : Int) (w : World) : Calls Tryz.prog 74 #[.int .i64 seq, .int .i64 size] w (R2 w (.string ⟨(headV seq size).1.toArray⟩) (errV 33 (headV seq size).2)) := by
  unfold headV
  by_cases h : 1 ≤ seq ∧ seq ≤ 9007199254740991 ∧ 0 ≤ size ∧ size ≤ 512
  · rw [if_pos h]
    obtain ⟨s, rfl⟩ := Int.eq_ofNat_of_zero_le (show 0 ≤ seq by omega)
    obtain ⟨z, rfl⟩ := Int.eq_ofNat_of_zero_le h.2.2.1
    exact pHead_ok s z w (by omega) (by unfold MaxN; omega) (by omega)
  · rw [if_neg h]
    exact pHead_bad seq size w (by omega)

theorem two_val (b : List UInt8) (hl : b.length = 64) : val ((b.drop 9).take 2) = 256 * (b.getD 9 0).toNat + (b.getD 10 0).toNat := by
  have e1 : b.drop 9 = b[9] :: b.drop 10 := List.drop_eq_getElem_cons (by omega)
  have e2 : b.drop 10 = b[10] :: b.drop 11 := List.drop_eq_getElem_cons (by omega)
  rw [e1, e2]
  show val [b[9], b[10]] = _
  simp [val, List.getD, List.getElem?_eq_getElem (l := b) (i := 9) (by omega), List.getElem?_eq_getElem (l := b) (i := 10) (by omega)]

set_option maxHeartbeats 1000000 in
theorem pReadHead (b : List UInt8) (w : World) (hb : (b.length : Int) ≤ 140737488351232) :
    Calls Tryz.prog 56 #[.string ⟨b.toArray⟩] w (R3 w (.int .i64 ((rdHead b).1 : Int)) (.int .i64 ((rdHead b).2.1 : Int)) (errV 33 (rdHead b).2.2)) := by
  by_cases h1 : b.length < 64
  · have HV : Hid (rdHead b = (0, 0, 2)) := by show _ = _; unfold rdHead; rw [if_pos h1]
    rw [HV.out]
    have h1i : (b.length : Int) < 64 := by omega
    clear HV
    go_enter Tryz.func56, Tryz.ntmps56
    go_wp2
    go_ret3
    exact R3.mk rfl rfl rfl (Below.refl _ _)
  · by_cases h2 : 64 < b.length
    · have HV : Hid (rdHead b = (0, 0, 5)) := by show _ = _; unfold rdHead; rw [if_neg h1, if_pos h2]
      rw [HV.out]
      have h1i : ¬(b.length : Int) < 64 := by omega
      have h2i : (64 : Int) < (b.length : Int) := by omega
      clear HV
      go_enter Tryz.func56, Tryz.ntmps56
      go_wp2
      go_ret3
      exact R3.mk rfl rfl rfl (Below.refl _ _)
    · have hl : b.length = 64 := by omega
      have hr : Hid (rdHead b = if 1 ≤ val ((b.drop 2).take 7) ∧ val ((b.drop 2).take 7) ≤ MaxN ∧ val ((b.drop 9).take 2) ≤ 512 ∧ headB (val ((b.drop 2).take 7)) (val ((b.drop 9).take 2)) = b then (val ((b.drop 2).take 7), val ((b.drop 9).take 2), 0) else (0, 0, 3)) := by
        show _ = _
        unfold rdHead
        rw [if_neg h1, if_neg h2, two_val b hl]
      have HL : Hid (b.length = 64) := hl
      have h1i : ¬(b.length : Int) < 64 := by omega
      have h2i : ¬(64 : Int) < (b.length : Int) := by omega
      have h9i : (9 : Int) ≤ (b.length : Int) := by omega
      have h11i : (11 : Int) ≤ (b.length : Int) := by omega
      have HN : Hid (∀ (l : List UInt8) (W : World), l.length ≤ 7 → Calls Tryz.prog 77 #[.string ⟨l.toArray⟩] W fun e w' => e = .returned (.int .i64 (val l : Nat)) ∧ w' = W) := fun l W h => pNumber l W h
      obtain ⟨V, hV⟩ : ∃ V : List UInt8 → Nat, V = val := ⟨_, rfl⟩
      rw [← hV] at HN hr
      clear hl h1 h2 hb hV
      go_enter Tryz.func56, Tryz.ntmps56
      go_wp2_with fail
      go_quiet (first | (go_at_call 77; refine Calls.quiet_of_same (HN.out _ _ (by rw [List.length_take]; omega))))
      generalize V ((b.drop 2).take 7) = S at hr ⊢
      generalize V ((b.drop 9).take 2) = Z at hr ⊢
      by_cases hok : 1 ≤ S ∧ S ≤ MaxN ∧ Z ≤ 512
      · have HH := Lib.hid (fun w' => pHead_ok S Z w' hok.1 hok.2.1 hok.2.2)
        obtain ⟨hok1, hok2, hok3⟩ := hok
        go_wp2_with fail
        refine (HH.out _).mono ?_
        rintro e w2 ⟨rfl, hb2⟩
        by_cases heq : headB S Z = b
        · have HV : Hid (rdHead b = (S, Z, 0)) := by show _ = _; rw [hr.out, if_pos ⟨hok1, hok2, hok3, heq⟩]
          rw [heq]
          clear heq hr hok1 hok2 hok3
          simp only [errV, if_pos]
          go_wp2
          go_ret3
          rw [HV.out]
          exact R3.mk rfl rfl rfl ((belowN (Below.refl _ _) _).trans hb2)
        · have HV : Hid (rdHead b = (0, 0, 3)) := by show _ = _; rw [hr.out, if_neg (fun h => heq h.2.2.2)]
          generalize headB S Z = H at heq ⊢
          have hne : (H == b) = false := by simpa using heq
          clear hr hok1 hok2 hok3 heq
          simp only [errV, if_pos]
          go_wp2
          go_ret3
          rw [HV.out]
          exact R3.mk rfl rfl rfl ((belowN (Below.refl _ _) _).trans hb2)
      · have HH := Lib.hid (fun w' => pHead_bad S Z w' (by unfold MaxN at hok; omega))
        have HV : Hid (rdHead b = (0, 0, 3)) := by show _ = _; rw [hr.out, if_neg (fun h => hok ⟨h.1, h.2.1, h.2.2.1⟩)]
        clear hok hr
        go_wp2_with fail
        refine (HH.out _).mono ?_
        rintro e w2 ⟨rfl, hb2⟩
        rw [errV, if_neg (by decide)]
        go_wp2
        go_ret3
        rw [HV.out]
        exact R3.mk rfl rfl rfl ((belowN (Below.refl _ _) _).trans hb2)

end Go.Proofs.YtfbgagpihhbllaaGreatDoor

/-
  THE SHELF's CONTRACTS AT THIS SEAT's TRANSLATION, IN PLAIN WORDS: strings.Builder (String, Grow at a fresh one, WriteByte, WriteString), bits.Len, stringslite.Clone: each is one application of the library's theorem. Laid by a program of mine, by name.
-/
namespace Go.Proofs
open Go.Shelf
def Tryz.lays169_ren : Go.Shelf.Ren := ⟨fun | 169 => 62 | n => n, fun | 0 => 0 | 3 => 3 | 9 => 9 | 37 => 60 | 70 => 116 | 72 => 118 | 127 => 144 | 5 => 5 | n => n, fun | n => n⟩
theorem Tryz.lays169 : Go.Proofs.Lays.n169 Tryz.prog Tryz.lays169_ren := {
  mixed := by kernel_rfl
  f169 := Tryz.func62.trans (congrArg some (by kernel_rfl))
  t0 := Tryz.underlying0
  a0 := Tryz.isAgg0
  z0 := Tryz.sizeOf0
  v0 := Tryz.zeroValue0
  t3 := Tryz.underlying3
  a3 := Tryz.isAgg3
  z3 := Tryz.sizeOf3
  v3 := Tryz.zeroValue3
  t9 := Tryz.underlying9
  a9 := Tryz.isAgg9
  z9 := Tryz.sizeOf9
  v9 := Tryz.zeroValue9
  t37 := Tryz.underlying60
  a37 := Tryz.isAgg60
  z37 := Tryz.sizeOf60
  v37 := Tryz.zeroValue60
  t70 := Tryz.underlying116
  a70 := Tryz.isAgg116
  z70 := Tryz.sizeOf116
  v70 := Tryz.zeroValue116
  t72 := Tryz.underlying118
  a72 := Tryz.isAgg118
  z72 := Tryz.sizeOf118
  v72 := Tryz.zeroValue118
  t127 := Tryz.underlying144
  a127 := Tryz.isAgg144
  z127 := Tryz.sizeOf144
  v127 := Tryz.zeroValue144 }
theorem Tryz.Builder_Extra_169 : Builder.Extra Tryz.prog Tryz.lays169_ren := {
  sizeBuilder := by kernel_rfl
  liesBuilder := by kernel_rfl
  t5 := Tryz.underlying5
  a5 := Tryz.isAgg5
  z5 := Tryz.sizeOf5
  v5 := Tryz.zeroValue5
  infoByte := by kernel_rfl
  cellsByte := by kernel_rfl
  sizeByte := by kernel_rfl
  neB5 := by decide }
def Tryz.lays167_ren : Go.Shelf.Ren := ⟨fun | 167 => 103 | 240 => 80 | 276 => 91 | n => n, fun | 0 => 0 | 4 => 4 | 5 => 5 | 9 => 9 | 20 => 20 | 37 => 60 | 70 => 116 | 72 => 118 | 75 => 24 | 164 => 157 | 80 => 120 | n => n, fun | n => n⟩
theorem Tryz.lays167 : Go.Proofs.Lays.n167 Tryz.prog Tryz.lays167_ren := {
  mixed := by kernel_rfl
  f167 := Tryz.func103.trans (congrArg some (by kernel_rfl))
  f240 := Tryz.func80.trans (congrArg some (by kernel_rfl))
  f276 := Tryz.func91.trans (congrArg some (by kernel_rfl))
  t0 := Tryz.underlying0
  a0 := Tryz.isAgg0
  z0 := Tryz.sizeOf0
  v0 := Tryz.zeroValue0
  t4 := Tryz.underlying4
  a4 := Tryz.isAgg4
  z4 := Tryz.sizeOf4
  v4 := Tryz.zeroValue4
  t5 := Tryz.underlying5
  a5 := Tryz.isAgg5
  z5 := Tryz.sizeOf5
  v5 := Tryz.zeroValue5
  t9 := Tryz.underlying9
  a9 := Tryz.isAgg9
  z9 := Tryz.sizeOf9
  v9 := Tryz.zeroValue9
  t20 := Tryz.underlying20
  a20 := Tryz.isAgg20
  z20 := Tryz.sizeOf20
  v20 := Tryz.zeroValue20
  t37 := Tryz.underlying60
  a37 := Tryz.isAgg60
  z37 := Tryz.sizeOf60
  v37 := Tryz.zeroValue60
  t70 := Tryz.underlying116
  a70 := Tryz.isAgg116
  z70 := Tryz.sizeOf116
  v70 := Tryz.zeroValue116
  t72 := Tryz.underlying118
  a72 := Tryz.isAgg118
  z72 := Tryz.sizeOf118
  v72 := Tryz.zeroValue118
  t75 := Tryz.underlying24
  a75 := Tryz.isAgg24
  z75 := Tryz.sizeOf24
  v75 := Tryz.zeroValue24
  t164 := Tryz.underlying157
  a164 := Tryz.isAgg157
  z164 := Tryz.sizeOf157
  v164 := Tryz.zeroValue157 }
theorem Tryz.Builder_Extra_167 : Builder.Extra Tryz.prog Tryz.lays167_ren := {
  sizeBuilder := by kernel_rfl
  liesBuilder := by kernel_rfl
  t5 := Tryz.underlying5
  a5 := Tryz.isAgg5
  z5 := Tryz.sizeOf5
  v5 := Tryz.zeroValue5
  infoByte := by kernel_rfl
  cellsByte := by kernel_rfl
  sizeByte := by kernel_rfl
  neB5 := by decide }
def Tryz.lays166_ren : Go.Shelf.Ren := ⟨fun | 166 => 61 | 240 => 80 | 276 => 91 | n => n, fun | 0 => 0 | 3 => 3 | 4 => 4 | 9 => 9 | 20 => 20 | 37 => 60 | 70 => 116 | 72 => 118 | 75 => 24 | 164 => 157 | 80 => 120 | 5 => 5 | n => n, fun | n => n⟩
theorem Tryz.lays166 : Go.Proofs.Lays.n166 Tryz.prog Tryz.lays166_ren := {
  mixed := by kernel_rfl
  f166 := Tryz.func61.trans (congrArg some (by kernel_rfl))
  f240 := Tryz.func80.trans (congrArg some (by kernel_rfl))
  f276 := Tryz.func91.trans (congrArg some (by kernel_rfl))
  t0 := Tryz.underlying0
  a0 := Tryz.isAgg0
  z0 := Tryz.sizeOf0
  v0 := Tryz.zeroValue0
  t3 := Tryz.underlying3
  a3 := Tryz.isAgg3
  z3 := Tryz.sizeOf3
  v3 := Tryz.zeroValue3
  t4 := Tryz.underlying4
  a4 := Tryz.isAgg4
  z4 := Tryz.sizeOf4
  v4 := Tryz.zeroValue4
  t9 := Tryz.underlying9
  a9 := Tryz.isAgg9
  z9 := Tryz.sizeOf9
  v9 := Tryz.zeroValue9
  t20 := Tryz.underlying20
  a20 := Tryz.isAgg20
  z20 := Tryz.sizeOf20
  v20 := Tryz.zeroValue20
  t37 := Tryz.underlying60
  a37 := Tryz.isAgg60
  z37 := Tryz.sizeOf60
  v37 := Tryz.zeroValue60
  t70 := Tryz.underlying116
  a70 := Tryz.isAgg116
  z70 := Tryz.sizeOf116
  v70 := Tryz.zeroValue116
  t72 := Tryz.underlying118
  a72 := Tryz.isAgg118
  z72 := Tryz.sizeOf118
  v72 := Tryz.zeroValue118
  t75 := Tryz.underlying24
  a75 := Tryz.isAgg24
  z75 := Tryz.sizeOf24
  v75 := Tryz.zeroValue24
  t164 := Tryz.underlying157
  a164 := Tryz.isAgg157
  z164 := Tryz.sizeOf157
  v164 := Tryz.zeroValue157 }
theorem Tryz.Builder_Extra_166 : Builder.Extra Tryz.prog Tryz.lays166_ren := {
  sizeBuilder := by kernel_rfl
  liesBuilder := by kernel_rfl
  t5 := Tryz.underlying5
  a5 := Tryz.isAgg5
  z5 := Tryz.sizeOf5
  v5 := Tryz.zeroValue5
  infoByte := by kernel_rfl
  cellsByte := by kernel_rfl
  sizeByte := by kernel_rfl
  neB5 := by decide }
def Tryz.lays125_ren : Go.Shelf.Ren := ⟨fun | 125 => 100 | 128 => 112 | 129 => 113 | n => n, fun | 3 => 3 | 4 => 4 | 5 => 5 | 9 => 9 | 46 => 67 | 51 => 195 | 53 => 197 | n => n, fun | n => n⟩
theorem Tryz.lays125 : Go.Proofs.Lays.n125 Tryz.prog Tryz.lays125_ren := {
  mixed := by kernel_rfl
  f125 := Tryz.func100.trans (congrArg some (by kernel_rfl))
  f128 := Tryz.func112.trans (congrArg some (by kernel_rfl))
  f129 := Tryz.func113.trans (congrArg some (by kernel_rfl))
  t3 := Tryz.underlying3
  a3 := Tryz.isAgg3
  z3 := Tryz.sizeOf3
  v3 := Tryz.zeroValue3
  t4 := Tryz.underlying4
  a4 := Tryz.isAgg4
  z4 := Tryz.sizeOf4
  v4 := Tryz.zeroValue4
  t5 := Tryz.underlying5
  a5 := Tryz.isAgg5
  z5 := Tryz.sizeOf5
  v5 := Tryz.zeroValue5
  t9 := Tryz.underlying9
  a9 := Tryz.isAgg9
  z9 := Tryz.sizeOf9
  v9 := Tryz.zeroValue9
  t46 := Tryz.underlying67
  a46 := Tryz.isAgg67
  z46 := Tryz.sizeOf67
  v46 := Tryz.zeroValue67
  t51 := Tryz.underlying195
  a51 := Tryz.isAgg195
  z51 := Tryz.sizeOf195
  v51 := Tryz.zeroValue195
  t53 := Tryz.underlying197
  a53 := Tryz.isAgg197
  z53 := Tryz.sizeOf197
  v53 := Tryz.zeroValue197 }
open Go.RowKit in
theorem Tryz.Builder_String_any_k (B b : Nat) (l : List UInt8) (w : World) (h : Lib.IsBuilderF 118 5 B b (Lib.byteCells l) w) (hBw : B ≤ w.heap.size) :
    Calls Tryz.prog 62 #[.pointer (some ⟨b, 0, none⟩)] w fun e w' => e = .returned (.string ⟨l.toArray⟩) ∧ (Lib.IsBuilderF 118 5 B b (Lib.byteCells l) w' ∧ Below B w w' ∧ Lib.OthersKept 5 (some b) w w') := Any.Builder_String_any_k Tryz.lays169 Tryz.Builder_Extra_169 B b l w h hBw
open Go.RowKit in
theorem Tryz.Builder_WriteByte_k (B b : Nat) (bs : List Value) (c : Int) (w : World) (h : Lib.IsBuilderF 118 5 B b bs w) (hlen : bs.length + 1 ≤ 140737488355328) (hBw : B ≤ w.heap.size) :
    Calls Tryz.prog 103 #[.pointer (some ⟨b, 0, none⟩), .int .u8 c] w fun e w' => e = .returned .nilIface ∧ (Lib.BuilderAtF 118 5 B b (.pointer (some ⟨b, 0, none⟩)) (bs ++ [.int .u8 c]) w' ∧ Below B w w' ∧ Lib.OthersKept 5 (some b) w w') := Any.Builder_WriteByte_k Tryz.lays167 Tryz.Builder_Extra_167 B b bs c w h hlen hBw
open Go.RowKit in
theorem Tryz.Builder_WriteString_k (B b : Nat) (bs : List Value) (s : ByteArray) (w : World) (h : Lib.IsBuilderF 118 5 B b bs w) (hlen : bs.length + s.size ≤ 140737488355328) (hBw : B ≤ w.heap.size) :
    Calls Tryz.prog 61 #[.pointer (some ⟨b, 0, none⟩), .string s] w fun e w' => e = .returned (.tuple #[.int .i64 s.size, .nilIface]) ∧ (Lib.BuilderAtF 118 5 B b (.pointer (some ⟨b, 0, none⟩)) (bs ++ Lib.strCells s) w' ∧ Below B w w' ∧ Lib.OthersKept 5 (some b) w w') := Any.Builder_WriteString_k Tryz.lays166 Tryz.Builder_Extra_166 B b bs s w h hlen hBw
theorem Tryz.bits_Len (x : Int) (w : World) (h0 : 0 ≤ x) (h1 : x ≤ 18446744073709551615) :
    Calls Tryz.prog 100 #[.int .u64 x] w fun e w' => e = .returned (.int .i64 (Lib.bitLen x.toNat)) ∧ w' = w := Any.bits_Len Tryz.lays125 x w h0 h1
end Go.Proofs
