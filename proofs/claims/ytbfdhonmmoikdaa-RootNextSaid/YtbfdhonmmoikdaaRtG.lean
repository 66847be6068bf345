/- Package root: Head and ReadHead. -/
import Derived.Test.YtbfdhonmmoikdaaRtW
import Derived.BigQuiet
import Derived.StillTailTactics
namespace Go.Proofs.Ytbfdhonmmoikdaa
open Go.RowKit Go.Proofs Go.Proofs.Pk
set_option maxRecDepth 10000
attribute [local simp] mk_get wrap64_u8 mk_extract ByteArray.mk_append_mk get_1k

/-- What Head answers, whatever the numbers. -/
def headV (seq size : Int) : List UInt8 × Nat := if 1 ≤ seq ∧ seq ≤ 9007199254740991 ∧ 0 ≤ size ∧ size ≤ 512 then (headB seq.toNat size.toNat, 0) else ([], 1)

theorem sector_info : (Try.prog.info? 70).map (fun i => (i.zero, i.size)) = some (some (.agg (Lib.byteCells (List.replicate 64 0)).toArray), 64) := by kernel_rfl
theorem sector_zero : ∃ i, Try.prog.info? 70 = some i ∧ i.zero = some (.agg (Lib.byteCells (List.replicate 64 0)).toArray) := by
  have h := sector_info
  cases hi : Try.prog.info? 70 with
  | none => rw [hi] at h; simp at h
  | some i => rw [hi] at h; simp only [Option.map_some, Option.some.injEq, Prod.mk.injEq] at h; exact ⟨i, rfl, h.1⟩
theorem byte_size : (Try.prog.info? 5).map (·.size) = some 1 := by kernel_rfl

theorem head_lay (BT : List UInt8) (hl : BT.length = 7) (u v : UInt8) :
    layB (layB (layB (layB (layB (List.replicate 64 0) 0 [80, 76]) 2 BT) 9 [u, v]) 56 BT) 63 [69] = [80, 76] ++ BT ++ [u, v] ++ List.replicate 45 0 ++ BT ++ [69] := by
  match BT, hl with
  | [a, b, c, d, e, f, g], _ => rfl

theorem head_row (BT : List UInt8) (hl : BT.length = 7) (BS : List UInt8) (hs : BS.length = 2) (j : Nat) (x : Value) (h : (Lib.byteCells BT)[j]? = some x) :
    (Lib.byteCells (layB (layB (layB (List.replicate 64 0) 0 [80, 76]) 2 BT) 9 BS))[2 + j]? = some x := by
  match BT, hl, BS, hs with
  | [a, b, c, d, e, f, g], _, [u, v], _ =>
    have hj : j < 7 := by have := (List.getElem?_eq_some_iff.1 h).1; simpa [Lib.byteCells] using this
    have hc : j = 0 ∨ j = 1 ∨ j = 2 ∨ j = 3 ∨ j = 4 ∨ j = 5 ∨ j = 6 := by omega
    rcases hc with rfl | rfl | rfl | rfl | rfl | rfl | rfl <;> exact h
theorem ofNat_mod (n : Nat) : UInt8.ofNat (n % 256) = UInt8.ofNat n := by
  apply UInt8.toNat_inj.1; simp

set_option maxHeartbeats 1000000 in
theorem pHead_bad (seq size : Int) (w : World) (h : seq < 1 ∨ 9007199254740991 < seq ∨ size < 0 ∨ 512 < size) :
    Calls Try.prog 18 #[.int .i64 seq, .int .i64 size] w (R2 w (.string ⟨#[]⟩) (errV 54 1)) := by
  by_cases k1 : seq < 1
  case' neg =>
    by_cases k2 : 9007199254740991 < seq
    case' neg =>
      by_cases k3 : size < 0
      case' neg =>
        have k4 : 512 < size := by omega
  all_goals
    clear h
    go_enter Try.func18, Try.ntmps18
    go_wp2
    all_goals
      go_ret2
      exact R2.mk rfl rfl (Below.refl _ _)

set_option maxHeartbeats 1000000 in
theorem pHead_ok (seq size : Nat) (w : World) (h1 : 1 ≤ seq) (h2 : seq ≤ MaxN) (h3 : size ≤ 512) :
    Calls Try.prog 18 #[.int .i64 (seq : Int), .int .i64 (size : Int)] w (R2 w (.string ⟨(headB seq size).toArray⟩) (errV 54 0)) := by
  obtain ⟨i, hi, hz⟩ := sector_zero
  have HN : Hid (seq < 72057594037927936 ∧ size < 72057594037927936) := by unfold MaxN at h2; exact ⟨by omega, by omega⟩
  have e1 : decide ((seq : Int) < 1) = false := by rw [decide_eq_false_iff_not]; omega
  have e2 : decide (9007199254740991 < (seq : Int)) = false := by rw [decide_eq_false_iff_not]; unfold MaxN at h2; omega
  have e3 : decide ((size : Int) < 0) = false := by rw [decide_eq_false_iff_not]; omega
  have e4 : decide (512 < (size : Int)) = false := by rw [decide_eq_false_iff_not]; omega
  clear h1 h2 h3
  go_enter Try.func18, Try.ntmps18
  go_upto_region 3 with (fail)
  obtain ⟨g, hg⟩ : ∃ g, Hid (g = w.heap.size) := ⟨_, rfl⟩
  have HA := Holds.new w (Lib.byteCells (List.replicate 64 0)) 70
  have HK : Kept (fun k => k = g) w (w.alloc (.cells (Lib.byteCells (List.replicate 64 0)).toArray 70)) := (Kept.refl _ w).alloc _
  refine wp_region_lit ?_
  refine wpList_alloc_row rfl 70 rfl i _ hi hz ?_
  rw [← hg.out] at HA ⊢
  generalize w.alloc (.cells (Lib.byteCells (List.replicate 64 0)).toArray 70) = w1 at HA HK ⊢
  refine wpList_nil ?_
  change Exit.then _ _ _ _ w1
  obtain ⟨BT, hBT⟩ : ∃ BT, Hid (BT = big 7 seq) := ⟨_, rfl⟩
  obtain ⟨BS, hBS⟩ : ∃ BS, Hid (BS = big 2 size) := ⟨_, rfl⟩
  have lBT : BT.length = 7 := by rw [hBT.out, big_length]
  have lBS : BS.length = 2 := by rw [hBS.out, big_length]
  have hlen0 : (List.replicate 64 (0 : UInt8)).length = 64 := by simp
  obtain ⟨D0, hD0⟩ : ∃ D, Hid (D = List.replicate 64 (0 : UInt8)) := ⟨_, rfl⟩
  rw [← hD0.out] at HA hlen0
  -- PL
  go_upto_region 4 with (fail)
  refine wp_region_lit ?_
  refine wpList_plain rfl fun K hK => ?_
  go_simp
  refine hK _ _ ?_
  clear hK K
  have l1 : 0 + [(80 : UInt8), 76].length ≤ D0.length := by rw [hlen0]; decide
  have HB := Holds.setCells (Lib.byteCells [80, 76]) 0 w1 _ HA (by rw [bc_length, bc_length]; exact l1)
  have KB := Kept.setCells (X := fun k => k = g) (g := g) rfl (Lib.byteCells [80, 76]) 0 w1 HK
  rw [lay_bytes] at HB
  refine wpList_copy_text rfl (.tmp 22) (.const (.string ⟨[80, 76].toArray⟩)) _ _ rfl 5 Try.underlying50 byte_size g 0 2 64 [80, 76] (by kernel_rfl) (by kernel_rfl) (by decide) (HA.there _ _ (by rw [bc_length]; exact l1)) ?_
  refine wpList_nil ?_
  change Exit.then _ _ _ _ (w1.setCells g 0 (Lib.byteCells [80, 76]))
  generalize w1.setCells g 0 (Lib.byteCells [80, 76]) = w2 at HB KB ⊢
  have hlen1 := layB_length D0 0 [80, 76] l1
  obtain ⟨D1, hD1⟩ : ∃ D, Hid (D = layB D0 0 [80, 76]) := ⟨_, rfl⟩
  rw [← hD1.out] at HB hlen1
  rw [hlen0] at hlen1
  clear HA HK hlen0 l1
  -- seq
  have HW := Lib.hid (pWrite g 2 7 62 seq D1 _ w2 HB (by omega) (by omega) (by omega) HN.out.1)
  rw [← hBT.out] at HW
  clear HB
  go_wp2_with fail
  refine HW.out.mono ?_
  rintro e w3 ⟨rfl, HC, KC⟩
  have KC := KB.trans KC (fun n h => .inl h)
  have hlen2 := layB_length D1 2 BT (by omega)
  obtain ⟨D2, hD2⟩ : ∃ D, Hid (D = layB D1 2 BT) := ⟨_, rfl⟩
  rw [← hD2.out] at HC hlen2
  rw [hlen1] at hlen2
  clear HW KB hlen1
  -- size
  have HW := Lib.hid (pWrite g 9 2 55 size D2 _ w3 HC (by omega) (by omega) (by omega) HN.out.2)
  rw [← hBS.out] at HW
  clear HC
  go_wp2_with fail
  refine HW.out.mono ?_
  rintro e w4 ⟨rfl, HE, KE⟩
  have KE := KC.trans KE (fun n h => .inl h)
  have hlen3 := layB_length D2 9 BS (by omega)
  obtain ⟨D3, hD3⟩ : ∃ D, Hid (D = layB D2 9 BS) := ⟨_, rfl⟩
  rw [← hD3.out] at HE hlen3
  rw [hlen2] at hlen3
  clear HW KC hlen2
  -- seq again
  have HRow : Hid (∀ (j : Nat) (x : Value), (Lib.byteCells BT)[j]? = some x → (Lib.byteCells D3)[2 + j]? = some x) := by
    show ∀ _ _, _
    rw [hD3.out, hD2.out, hD1.out, hD0.out]
    exact head_row BT lBT BS lBS
  go_wp2_with fail
  refine wp_region_still_tail 2 (by kernel_rfl) (by kernel_rfl) ?_
  simp only [List.take_succ_cons, List.take_zero, List.drop_succ_cons, List.drop_zero]
  repeat still_step
  refine wpStill_nil ?_
  change wpList _ _ _ _ _ w4.drew
  have HF := Holds.setCells (Lib.byteCells BT) 56 w4.drew _ HE.drew (by rw [bc_length, bc_length]; omega)
  have KF := Kept.setCells (X := fun k => k = g) (g := g) rfl (Lib.byteCells BT) 56 w4.drew (KE.drewN 1)
  rw [lay_bytes] at HF
  refine wpList_copy_mid rfl (.tmp 30) (.tmp 31) _ _ rfl 5 Try.underlying50 byte_size g 56 7 8 g 2 7 62 (by kernel_rfl) (by kernel_rfl) (Lib.byteCells BT) (by rw [bc_length, lBT]; rfl) (HE.drew.range 2 _ HRow.out)
    (HE.drew.there _ _ (by rw [bc_length, bc_length]; omega)) (bc_one _) ?_
  refine wpList_nil ?_
  change Exit.then _ _ _ _ (w4.drew.setCells g 56 (Lib.byteCells BT))
  generalize w4.drew.setCells g 56 (Lib.byteCells BT) = w5 at HF KF ⊢
  have hlen4 := layB_length D3 56 BT (by omega)
  obtain ⟨D4, hD4⟩ : ∃ D, Hid (D = layB D3 56 BT) := ⟨_, rfl⟩
  rw [← hD4.out] at HF hlen4
  rw [hlen3] at hlen4
  clear HE KE hlen3 HRow
  -- E
  go_upto_region 8 with (fail)
  refine wp_region_lit ?_
  refine wpList_plain rfl fun K hK => ?_
  go_simp
  refine hK _ _ ?_
  clear hK K
  have l1 : 63 + [(69 : UInt8)].length ≤ D4.length := by rw [hlen4]; decide
  have HG := Holds.setCells (Lib.byteCells [69]) 63 w5 _ HF (by rw [bc_length, bc_length]; exact l1)
  have KG := Kept.setCells (X := fun k => k = g) (g := g) rfl (Lib.byteCells [69]) 63 w5 KF
  rw [lay_bytes] at HG
  refine wpList_copy_text rfl (.tmp 33) (.const (.string ⟨[69].toArray⟩)) _ _ rfl 5 Try.underlying50 byte_size g 63 1 1 [69] (by kernel_rfl) (by kernel_rfl) (by decide) (HF.there _ _ (by rw [bc_length]; exact l1)) ?_
  refine wpList_nil ?_
  change Exit.then _ _ _ _ (w5.setCells g 63 (Lib.byteCells [69]))
  generalize w5.setCells g 63 (Lib.byteCells [69]) = w6 at HG KG ⊢
  have hlen5 := layB_length D4 63 [69] l1
  have hcv := conv_held w6 g 64 64 _ _ HG (by rw [hlen5, hlen4]; exact Nat.le_refl _)
  rw [List.take_of_length_le (by rw [hlen5, hlen4]; exact Nat.le_refl _)] at hcv
  have hall : layB D4 63 [69] = headB seq size := by
    rw [hD4.out, hD3.out, hD2.out, hD1.out, hD0.out, hBS.out, hBT.out, show big 2 size = [UInt8.ofNat (size / 256), UInt8.ofNat size] from rfl, head_lay _ (big_length 7 seq), headB, ofNat_mod]
  rw [hall] at hcv
  have HKG := Lib.hid KG
  clear KF HF l1 hlen4 hlen5 KG hall HG hD4 hD3 hD2 hD1 hD0 hBS hBT lBS lBT HN
  obtain ⟨H, hH⟩ : ∃ H, Hid (H = headB seq size) := ⟨_, rfl⟩
  rw [← hH.out] at hcv
  go_wp2
  go_ret2
  exact R2.mk (by rw [← hH.out]; rfl) rfl (HKG.out.below (Nat.le_refl _) (fun n h => by rw [h, hg.out]; exact Nat.le_refl _))

theorem pHead (seq size : Int) (w : World) : Calls Try.prog 18 #[.int .i64 seq, .int .i64 size] w (R2 w (.string ⟨(headV seq size).1.toArray⟩) (errV 54 (headV seq size).2)) := by
  unfold headV
  by_cases h : 1 ≤ seq ∧ seq ≤ 9007199254740991 ∧ 0 ≤ size ∧ size ≤ 512
  · rw [if_pos h]
    obtain ⟨s, rfl⟩ := Int.eq_ofNat_of_zero_le (show 0 ≤ seq by omega)
    obtain ⟨z, rfl⟩ := Int.eq_ofNat_of_zero_le h.2.2.1
    exact pHead_ok s z w (by omega) (by unfold MaxN; omega) (by omega)
  · rw [if_neg h]
    exact pHead_bad seq size w (by omega)

theorem two_val (b : List UInt8) (hl : b.length = 64) : val ((b.drop 9).take 2) = 256 * (b.getD 9 0).toNat + (b.getD 10 0).toNat := by
  have e1 : b.drop 9 = b[9] :: b.drop 10 := List.drop_eq_getElem_cons (by omega)
  have e2 : b.drop 10 = b[10] :: b.drop 11 := List.drop_eq_getElem_cons (by omega)
  rw [e1, e2]
  show val [b[9], b[10]] = _
  simp [val, List.getD, List.getElem?_eq_getElem (l := b) (i := 9) (by omega), List.getElem?_eq_getElem (l := b) (i := 10) (by omega)]

set_option maxHeartbeats 1000000 in
theorem pReadHead (b : List UInt8) (w : World) (hb : (b.length : Int) ≤ 140737488351232) :
    Calls Try.prog 20 #[.string ⟨b.toArray⟩] w (R3 w (.int .i64 ((rdHead b).1 : Int)) (.int .i64 ((rdHead b).2.1 : Int)) (errV 54 (rdHead b).2.2)) := by
  by_cases h1 : b.length < 64
  · have HV : Hid (rdHead b = (0, 0, 2)) := by show _ = _; unfold rdHead; rw [if_pos h1]
    rw [HV.out]
    have h1i : (b.length : Int) < 64 := by omega
    clear HV
    go_enter Try.func20, Try.ntmps20
    go_wp2
    go_ret3
    exact R3.mk rfl rfl rfl (Below.refl _ _)
  · by_cases h2 : 64 < b.length
    · have HV : Hid (rdHead b = (0, 0, 5)) := by show _ = _; unfold rdHead; rw [if_neg h1, if_pos h2]
      rw [HV.out]
      have h1i : ¬(b.length : Int) < 64 := by omega
      have h2i : (64 : Int) < (b.length : Int) := by omega
      clear HV
      go_enter Try.func20, Try.ntmps20
      go_wp2
      go_ret3
      exact R3.mk rfl rfl rfl (Below.refl _ _)
    · have hl : b.length = 64 := by omega
      have hr : Hid (rdHead b = if 1 ≤ val ((b.drop 2).take 7) ∧ val ((b.drop 2).take 7) ≤ MaxN ∧ val ((b.drop 9).take 2) ≤ 512 ∧ headB (val ((b.drop 2).take 7)) (val ((b.drop 9).take 2)) = b then (val ((b.drop 2).take 7), val ((b.drop 9).take 2), 0) else (0, 0, 3)) := by
        show _ = _
        unfold rdHead
        rw [if_neg h1, if_neg h2, two_val b hl]
      have HL : Hid (b.length = 64) := hl
      have h1i : ¬(b.length : Int) < 64 := by omega
      have h2i : ¬(64 : Int) < (b.length : Int) := by omega
      have h9i : (9 : Int) ≤ (b.length : Int) := by omega
      have h11i : (11 : Int) ≤ (b.length : Int) := by omega
      have HN : Hid (∀ (l : List UInt8) (W : World), l.length ≤ 7 → Calls Try.prog 30 #[.string ⟨l.toArray⟩] W fun e w' => e = .returned (.int .i64 (val l : Nat)) ∧ w' = W) := fun l W h => pNumber l W h
      obtain ⟨V, hV⟩ : ∃ V : List UInt8 → Nat, V = val := ⟨_, rfl⟩
      rw [← hV] at HN hr
      clear hl h1 h2 hb hV
      go_enter Try.func20, Try.ntmps20
      go_wp2_with fail
      go_quiet (first | (go_at_call 30; refine Calls.quiet_of_same (HN.out _ _ (by rw [List.length_take]; omega))))
      generalize V ((b.drop 2).take 7) = S at hr ⊢
      generalize V ((b.drop 9).take 2) = Z at hr ⊢
      by_cases hok : 1 ≤ S ∧ S ≤ MaxN ∧ Z ≤ 512
      · have HH := Lib.hid (fun w' => pHead_ok S Z w' hok.1 hok.2.1 hok.2.2)
        obtain ⟨hok1, hok2, hok3⟩ := hok
        go_wp2_with fail
        refine (HH.out _).mono ?_
        rintro e w2 ⟨rfl, hb2⟩
        by_cases heq : headB S Z = b
        · have HV : Hid (rdHead b = (S, Z, 0)) := by show _ = _; rw [hr.out, if_pos ⟨hok1, hok2, hok3, heq⟩]
          rw [heq]
          clear heq hr hok1 hok2 hok3
          simp only [errV, if_pos]
          go_wp2
          go_ret3
          rw [HV.out]
          exact R3.mk rfl rfl rfl ((belowN (Below.refl _ _) _).trans hb2)
        · have HV : Hid (rdHead b = (0, 0, 3)) := by show _ = _; rw [hr.out, if_neg (fun h => heq h.2.2.2)]
          generalize headB S Z = H at heq ⊢
          have hne : (H == b) = false := by simpa using heq
          clear hr hok1 hok2 hok3 heq
          simp only [errV, if_pos]
          go_wp2
          go_ret3
          rw [HV.out]
          exact R3.mk rfl rfl rfl ((belowN (Below.refl _ _) _).trans hb2)
      · have HH := Lib.hid (fun w' => pHead_bad S Z w' (by unfold MaxN at hok; omega))
        have HV : Hid (rdHead b = (0, 0, 3)) := by show _ = _; rw [hr.out, if_neg (fun h => hok ⟨h.1, h.2.1, h.2.2.1⟩)]
        clear hok hr
        go_wp2_with fail
        refine (HH.out _).mono ?_
        rintro e w2 ⟨rfl, hb2⟩
        rw [errV, if_neg (by decide)]
        go_wp2
        go_ret3
        rw [HV.out]
        exact R3.mk rfl rfl rfl ((belowN (Below.refl _ _) _).trans hb2)

end Go.Proofs.Ytbfdhonmmoikdaa
