/- RtG, VolD. -/
import Derived.Test.YtlgdfalbhpgllaaGreatDoorJ20
import Derived.BigQuiet
import Derived.Deep.Cut
import Derived.StillTailTactics
import Derived.Test.YtlgdfalbhpgllaaGreatDoorJ23

/- Package root: Head and ReadHead. -/
namespace Go.Proofs.YtlgdfalbhpgllaaGreatDoor
open Go.RowKit Go.Proofs Go.Proofs.Pk
set_option maxRecDepth 10000
attribute [local simp] mk_get wrap64_u8 mk_extract ByteArray.mk_append_mk get_1k

/-- What Head answers, whatever the numbers. -/
def headV (seq size : Int) : List UInt8 × Nat := if 1 ≤ seq ∧ seq ≤ 9007199254740991 ∧ 0 ≤ size ∧ size ≤ 512 then (headB seq.toNat size.toNat, 0) else ([], 1)

theorem sector_info : (Tryz.prog.info? 72).map (fun i => (i.zero, i.size)) = some (some (.agg (Lib.byteCells (List.replicate 64 0)).toArray), 64) := by kernel_rfl
theorem sector_zero : ∃ i, Tryz.prog.info? 72 = some i ∧ i.zero = some (.agg (Lib.byteCells (List.replicate 64 0)).toArray) := by
  have h := sector_info
  cases hi : Tryz.prog.info? 72 with
  | none => rw [hi] at h; simp at h
  | some i => rw [hi] at h; simp only [Option.map_some, Option.some.injEq, Prod.mk.injEq] at h; exact ⟨i, rfl, h.1⟩
theorem byte_size : (Tryz.prog.info? 5).map (·.size) = some 1 := by kernel_rfl

theorem head_lay (BT : List UInt8) (hl : BT.length = 7) (u v : UInt8) :
    layB (layB (layB (layB (layB (List.replicate 64 0) 0 [80, 76]) 2 BT) 9 [u, v]) 56 BT) 63 [69] = [80, 76] ++ BT ++ [u, v] ++ List.replicate 45 0 ++ BT ++ [69] := by
  match BT, hl with
  | [a, b, c, d, e, f, g], _ => rfl

theorem head_row (BT : List UInt8) (hl : BT.length = 7) (BS : List UInt8) (hs : BS.length = 2) (j : Nat) (x : Value) (h : (Lib.byteCells BT)[j]? = some x) :
    (Lib.byteCells (layB (layB (layB (List.replicate 64 0) 0 [80, 76]) 2 BT) 9 BS))[2 + j]? = some x := by
  match BT, hl, BS, hs with
  | [a, b, c, d, e, f, g], _, [u, v], _ =>
    have hj : j < 7 := by have := (List.getElem?_eq_some_iff.1 h).1; simpa [Lib.byteCells] using this
    have hc : j = 0 ∨ j = 1 ∨ j = 2 ∨ j = 3 ∨ j = 4 ∨ j = 5 ∨ j = 6 := by omega
    rcases hc with rfl | rfl | rfl | rfl | rfl | rfl | rfl <;> exact h
theorem ofNat_mod (n : Nat) : UInt8.ofNat (n % 256) = UInt8.ofNat n := by
  apply UInt8.toNat_inj.1; simp

set_option maxHeartbeats 1000000 in
theorem pHead_bad (seq size : Int) (w : World) (h : seq < 1 ∨ 9007199254740991 < seq ∨ size < 0 ∨ 512 < size) :
    Calls Tryz.prog 44 #[.int .i64 seq, .int .i64 size] w (R2 w (.string ⟨#[]⟩) (errV 57 1)) := by
  by_cases k1 : seq < 1
  case' neg =>
    by_cases k2 : 9007199254740991 < seq
    case' neg =>
      by_cases k3 : size < 0
      case' neg =>
        have k4 : 512 < size := by omega
  all_goals
    clear h
    go_enter Tryz.func44, Tryz.ntmps44
    go_wp2
    all_goals
      go_ret2
      exact R2.mk rfl rfl (Below.refl _ _)

set_option maxHeartbeats 1000000 in
theorem pHead_ok (seq size : Nat) (w : World) (h1 : 1 ≤ seq) (h2 : seq ≤ MaxN) (h3 : size ≤ 512) :
    Calls Tryz.prog 44 #[.int .i64 (seq : Int), .int .i64 (size : Int)] w (R2 w (.string ⟨(headB seq size).toArray⟩) (errV 57 0)) := by
  obtain ⟨i, hi, hz⟩ := sector_zero
  have HN : Hid (seq < 72057594037927936 ∧ size < 72057594037927936) := by unfold MaxN at h2; exact ⟨by omega, by omega⟩
  have e1 : decide ((seq : Int) < 1) = false := by rw [decide_eq_false_iff_not]; omega
  have e2 : decide (9007199254740991 < (seq : Int)) = false := by rw [decide_eq_false_iff_not]; unfold MaxN at h2; omega
  have e3 : decide ((size : Int) < 0) = false := by rw [decide_eq_false_iff_not]; omega
  have e4 : decide (512 < (size : Int)) = false := by rw [decide_eq_false_iff_not]; omega
  clear h1 h2 h3
  go_enter Tryz.func44, Tryz.ntmps44
  go_upto_region 3 with (fail)
  obtain ⟨g, hg⟩ : ∃ g, Hid (g = w.heap.size) := ⟨_, rfl⟩
  have HA := Holds.new w (Lib.byteCells (List.replicate 64 0)) 72
  have HK : Kept (fun k => k = g) w (w.alloc (.cells (Lib.byteCells (List.replicate 64 0)).toArray 72)) := (Kept.refl _ w).alloc _
  refine wp_region_lit ?_
  refine wpList_alloc_row rfl 72 rfl i _ hi hz ?_
  rw [← hg.out] at HA ⊢
  generalize w.alloc (.cells (Lib.byteCells (List.replicate 64 0)).toArray 72) = w1 at HA HK ⊢
  refine wpList_nil ?_
  change Exit.then _ _ _ _ w1
  obtain ⟨BT, hBT⟩ : ∃ BT, Hid (BT = big 7 seq) := ⟨_, rfl⟩
  obtain ⟨BS, hBS⟩ : ∃ BS, Hid (BS = big 2 size) := ⟨_, rfl⟩
  have lBT : BT.length = 7 := by rw [hBT.out, big_length]
  have lBS : BS.length = 2 := by rw [hBS.out, big_length]
  have hlen0 : (List.replicate 64 (0 : UInt8)).length = 64 := by simp
  obtain ⟨D0, hD0⟩ : ∃ D, Hid (D = List.replicate 64 (0 : UInt8)) := ⟨_, rfl⟩
  rw [← hD0.out] at HA hlen0
  -- PL
  go_upto_region 4 with (fail)
  refine wp_region_lit ?_
  refine wpList_plain rfl fun K hK => ?_
  go_simp
  refine hK _ _ ?_
  clear hK K
  have l1 : 0 + [(80 : UInt8), 76].length ≤ D0.length := by rw [hlen0]; decide
  have HB := Holds.setCells (Lib.byteCells [80, 76]) 0 w1 _ HA (by rw [bc_length, bc_length]; exact l1)
  have KB := Kept.setCells (X := fun k => k = g) (g := g) rfl (Lib.byteCells [80, 76]) 0 w1 HK
  rw [lay_bytes] at HB
  refine wpList_copy_text rfl (.tmp 22) (.const (.string ⟨[80, 76].toArray⟩)) _ _ rfl 5 Tryz.underlying76 byte_size g 0 2 64 [80, 76] (by kernel_rfl) (by kernel_rfl) (by decide) (HA.there _ _ (by rw [bc_length]; exact l1)) ?_
  refine wpList_nil ?_
  change Exit.then _ _ _ _ (w1.setCells g 0 (Lib.byteCells [80, 76]))
  generalize w1.setCells g 0 (Lib.byteCells [80, 76]) = w2 at HB KB ⊢
  have hlen1 := layB_length D0 0 [80, 76] l1
  obtain ⟨D1, hD1⟩ : ∃ D, Hid (D = layB D0 0 [80, 76]) := ⟨_, rfl⟩
  rw [← hD1.out] at HB hlen1
  rw [hlen0] at hlen1
  clear HA HK hlen0 l1
  -- seq
  have HW := Lib.hid (pWrite g 2 7 62 seq D1 _ w2 HB (by omega) (by omega) (by omega) HN.out.1)
  rw [← hBT.out] at HW
  clear HB
  go_wp2_with fail
  refine HW.out.mono ?_
  rintro e w3 ⟨rfl, HC, KC⟩
  have KC := KB.trans KC (fun n h => .inl h)
  have hlen2 := layB_length D1 2 BT (by omega)
  obtain ⟨D2, hD2⟩ : ∃ D, Hid (D = layB D1 2 BT) := ⟨_, rfl⟩
  rw [← hD2.out] at HC hlen2
  rw [hlen1] at hlen2
  clear HW KB hlen1
  -- size
  have HW := Lib.hid (pWrite g 9 2 55 size D2 _ w3 HC (by omega) (by omega) (by omega) HN.out.2)
  rw [← hBS.out] at HW
  clear HC
  go_wp2_with fail
  refine HW.out.mono ?_
  rintro e w4 ⟨rfl, HE, KE⟩
  have KE := KC.trans KE (fun n h => .inl h)
  have hlen3 := layB_length D2 9 BS (by omega)
  obtain ⟨D3, hD3⟩ : ∃ D, Hid (D = layB D2 9 BS) := ⟨_, rfl⟩
  rw [← hD3.out] at HE hlen3
  rw [hlen2] at hlen3
  clear HW KC hlen2
  -- seq again
  have HRow : Hid (∀ (j : Nat) (x : Value), (Lib.byteCells BT)[j]? = some x → (Lib.byteCells D3)[2 + j]? = some x) := by
    show ∀ _ _, _
    rw [hD3.out, hD2.out, hD1.out, hD0.out]
    exact head_row BT lBT BS lBS
  go_wp2_with fail
  refine wp_region_still_tail 2 (by kernel_rfl) (by kernel_rfl) ?_
  simp only [List.take_succ_cons, List.take_zero, List.drop_succ_cons, List.drop_zero]
  repeat still_step
  refine wpStill_nil ?_
  change wpList _ _ _ _ _ w4.drew
  have HF := Holds.setCells (Lib.byteCells BT) 56 w4.drew _ HE.drew (by rw [bc_length, bc_length]; omega)
  have KF := Kept.setCells (X := fun k => k = g) (g := g) rfl (Lib.byteCells BT) 56 w4.drew (KE.drewN 1)
  rw [lay_bytes] at HF
  refine wpList_copy_mid rfl (.tmp 30) (.tmp 31) _ _ rfl 5 Tryz.underlying76 byte_size g 56 7 8 g 2 7 62 (by kernel_rfl) (by kernel_rfl) (Lib.byteCells BT) (by rw [bc_length, lBT]; rfl) (HE.drew.range 2 _ HRow.out)
    (HE.drew.there _ _ (by rw [bc_length, bc_length]; omega)) (bc_one _) ?_
  refine wpList_nil ?_
  change Exit.then _ _ _ _ (w4.drew.setCells g 56 (Lib.byteCells BT))
  generalize w4.drew.setCells g 56 (Lib.byteCells BT) = w5 at HF KF ⊢
  have hlen4 := layB_length D3 56 BT (by omega)
  obtain ⟨D4, hD4⟩ : ∃ D, Hid (D = layB D3 56 BT) := ⟨_, rfl⟩
  rw [← hD4.out] at HF hlen4
  rw [hlen3] at hlen4
  clear HE KE hlen3 HRow
  -- E
  go_upto_region 8 with (fail)
  refine wp_region_lit ?_
  refine wpList_plain rfl fun K hK => ?_
  go_simp
  refine hK _ _ ?_
  clear hK K
  have l1 : 63 + [(69 : UInt8)].length ≤ D4.length := by rw [hlen4]; decide
  have HG := Holds.setCells (Lib.byteCells [69]) 63 w5 _ HF (by rw [bc_length, bc_length]; exact l1)
  have KG := Kept.setCells (X := fun k => k = g) (g := g) rfl (Lib.byteCells [69]) 63 w5 KF
  rw [lay_bytes] at HG
  refine wpList_copy_text rfl (.tmp 33) (.const (.string ⟨[69].toArray⟩)) _ _ rfl 5 Tryz.underlying76 byte_size g 63 1 1 [69] (by kernel_rfl) (by kernel_rfl) (by decide) (HF.there _ _ (by rw [bc_length]; exact l1)) ?_
  refine wpList_nil ?_
  change Exit.then _ _ _ _ (w5.setCells g 63 (Lib.byteCells [69]))
  generalize w5.setCells g 63 (Lib.byteCells [69]) = w6 at HG KG ⊢
  have hlen5 := layB_length D4 63 [69] l1
  have hcv := conv_held w6 g 64 64 _ _ HG (by rw [hlen5, hlen4]; exact Nat.le_refl _)
  rw [List.take_of_length_le (by rw [hlen5, hlen4]; exact Nat.le_refl _)] at hcv
  have hall : layB D4 63 [69] = headB seq size := by
    rw [hD4.out, hD3.out, hD2.out, hD1.out, hD0.out, hBS.out, hBT.out, show big 2 size = [UInt8.ofNat (size / 256), UInt8.ofNat size] from rfl, head_lay _ (big_length 7 seq), headB, ofNat_mod]
  rw [hall] at hcv
  have HKG := Lib.hid KG
  clear KF HF l1 hlen4 hlen5 KG hall HG hD4 hD3 hD2 hD1 hD0 hBS hBT lBS lBT HN
  obtain ⟨H, hH⟩ : ∃ H, Hid (H = headB seq size) := ⟨_, rfl⟩
  rw [← hH.out] at hcv
  go_wp2
  go_ret2
  exact R2.mk (by rw [← hH.out]; rfl) rfl (HKG.out.below (Nat.le_refl _) (fun n h => by rw [h, hg.out]; exact Nat.le_refl _))

theorem pHead (seq size : Int) (w : World) : Calls Tryz.prog 44 #[.int .i64 seq, .int .i64 size] w (R2 w (.string ⟨(headV seq size).1.toArray⟩) (errV 57 (headV seq size).2)) := by
  unfold headV
  by_cases h : 1 ≤ seq ∧ seq ≤ 9007199254740991 ∧ 0 ≤ size ∧ size ≤ 512
  · rw [if_pos h]
    obtain ⟨s, rfl⟩ := Int.eq_ofNat_of_zero_le (show 0 ≤ seq by omega)
    obtain ⟨z, rfl⟩ := Int.eq_ofNat_of_zero_le h.2.2.1
    exact pHead_ok s z w (by omega) (by unfold MaxN; omega) (by omega)
  · rw [if_neg h]
    exact pHead_bad seq size w (by omega)

theorem two_val (b : List UInt8) (hl : b.length = 64) : val ((b.drop 9).take 2) = 256 * (b.getD 9 0).toNat + (b.getD 10 0).toNat := by
  have e1 : b.drop 9 = b[9] :: b.drop 10 := List.drop_eq_getElem_cons (by omega)
  have e2 : b.drop 10 = b[10] :: b.drop 11 := List.drop_eq_getElem_cons (by omega)
  rw [e1, e2]
  show val [b[9], b[10]] = _
  simp [val, List.getD, List.getElem?_eq_getElem (l := b) (i := 9) (by omega), List.getElem?_eq_getElem (l := b) (i := 10) (by omega)]

set_option maxHeartbeats 1000000 in
theorem pReadHead (b : List UInt8) (w : World) (hb : (b.length : Int) ≤ 140737488351232) :
    Calls Tryz.prog 46 #[.string ⟨b.toArray⟩] w (R3 w (.int .i64 ((rdHead b).1 : Int)) (.int .i64 ((rdHead b).2.1 : Int)) (errV 57 (rdHead b).2.2)) := by
  by_cases h1 : b.length < 64
  · have HV : Hid (rdHead b = (0, 0, 2)) := by show _ = _; unfold rdHead; rw [if_pos h1]
    rw [HV.out]
    have h1i : (b.length : Int) < 64 := by omega
    clear HV
    go_enter Tryz.func46, Tryz.ntmps46
    go_wp2
    go_ret3
    exact R3.mk rfl rfl rfl (Below.refl _ _)
  · by_cases h2 : 64 < b.length
    · have HV : Hid (rdHead b = (0, 0, 5)) := by show _ = _; unfold rdHead; rw [if_neg h1, if_pos h2]
      rw [HV.out]
      have h1i : ¬(b.length : Int) < 64 := by omega
      have h2i : (64 : Int) < (b.length : Int) := by omega
      clear HV
      go_enter Tryz.func46, Tryz.ntmps46
      go_wp2
      go_ret3
      exact R3.mk rfl rfl rfl (Below.refl _ _)
    · have hl : b.length = 64 := by omega
      have hr : Hid (rdHead b = if 1 ≤ val ((b.drop 2).take 7) ∧ val ((b.drop 2).take 7) ≤ MaxN ∧ val ((b.drop 9).take 2) ≤ 512 ∧ headB (val ((b.drop 2).take 7)) (val ((b.drop 9).take 2)) = b then (val ((b.drop 2).take 7), val ((b.drop 9).take 2), 0) else (0, 0, 3)) := by
        show _ = _
        unfold rdHead
        rw [if_neg h1, if_neg h2, two_val b hl]
      have HL : Hid (b.length = 64) := hl
      have h1i : ¬(b.length : Int) < 64 := by omega
      have h2i : ¬(64 : Int) < (b.length : Int) := by omega
      have h9i : (9 : Int) ≤ (b.length : Int) := by omega
      have h11i : (11 : Int) ≤ (b.length : Int) := by omega
      have HN : Hid (∀ (l : List UInt8) (W : World), l.length ≤ 7 → Calls Tryz.prog 63 #[.string ⟨l.toArray⟩] W fun e w' => e = .returned (.int .i64 (val l : Nat)) ∧ w' = W) := fun l W h => pNumber l W h
      obtain ⟨V, hV⟩ : ∃ V : List UInt8 → Nat, V = val := ⟨_, rfl⟩
      rw [← hV] at HN hr
      clear hl h1 h2 hb hV
      go_enter Tryz.func46, Tryz.ntmps46
      go_wp2_with fail
      go_quiet (first | (go_at_call 63; refine Calls.quiet_of_same (HN.out _ _ (by rw [List.length_take]; omega))))
      generalize V ((b.drop 2).take 7) = S at hr ⊢
      generalize V ((b.drop 9).take 2) = Z at hr ⊢
      by_cases hok : 1 ≤ S ∧ S ≤ MaxN ∧ Z ≤ 512
      · have HH := Lib.hid (fun w' => pHead_ok S Z w' hok.1 hok.2.1 hok.2.2)
        obtain ⟨hok1, hok2, hok3⟩ := hok
        go_wp2_with fail
        refine (HH.out _).mono ?_
        rintro e w2 ⟨rfl, hb2⟩
        by_cases heq : headB S Z = b
        · have HV : Hid (rdHead b = (S, Z, 0)) := by show _ = _; rw [hr.out, if_pos ⟨hok1, hok2, hok3, heq⟩]
          rw [heq]
          clear heq hr hok1 hok2 hok3
          simp only [errV, if_pos]
          go_wp2
          go_ret3
          rw [HV.out]
          exact R3.mk rfl rfl rfl ((belowN (Below.refl _ _) _).trans hb2)
        · have HV : Hid (rdHead b = (0, 0, 3)) := by show _ = _; rw [hr.out, if_neg (fun h => heq h.2.2.2)]
          generalize headB S Z = H at heq ⊢
          have hne : (H == b) = false := by simpa using heq
          clear hr hok1 hok2 hok3 heq
          simp only [errV, if_pos]
          go_wp2
          go_ret3
          rw [HV.out]
          exact R3.mk rfl rfl rfl ((belowN (Below.refl _ _) _).trans hb2)
      · have HH := Lib.hid (fun w' => pHead_bad S Z w' (by unfold MaxN at hok; omega))
        have HV : Hid (rdHead b = (0, 0, 3)) := by show _ = _; rw [hr.out, if_neg (fun h => hok ⟨h.1, h.2.1, h.2.2.1⟩)]
        clear hok hr
        go_wp2_with fail
        refine (HH.out _).mono ?_
        rintro e w2 ⟨rfl, hb2⟩
        rw [errV, if_neg (by decide)]
        go_wp2
        go_ret3
        rw [HV.out]
        exact R3.mk rfl rfl rfl ((belowN (Below.refl _ _) _).trans hb2)

end Go.Proofs.YtlgdfalbhpgllaaGreatDoor

/- Package volume: store, change: a root made the volume's. -/
namespace Go.Proofs.YtlgdfalbhpgllaaGreatDoor
open Go.RowKit Go.Proofs Go.Proofs.Pk
set_option maxRecDepth 10000
attribute [local simp] mk_get wrap64_u8 mk_extract ByteArray.mk_append_mk get_1k

theorem fails_down (V : Vol) (r : Dsk × Nat) : failsV V r = (downV ⟨r.1, V.R, V.gone⟩ r.2, r.2) := by
  unfold failsV downV; rfl
theorem putV_zero {V : Vol} {a : Nat} {b : List UInt8} (h : (putV V a b).2 = 0) : (putV V a b).1 = ⟨(writesL V.D (chunksAt a b)).1.sync.1, V.R, V.gone⟩ := by
  unfold putV at h ⊢
  simp only at h ⊢
  split at h
  · omega
  · rename_i h1
    simp only at h
    rw [if_neg h1]
    simp only
    rw [h]; rfl
theorem putV_bound (V : Vol) (a : Nat) (b : List UInt8) : (putV V a b).1.D.C.length ≤ V.D.C.length + nch b.length ∧ (putV V a b).1.D.n ≤ V.D.n + nch b.length ∧ (putV V a b).1.D.L.length = V.D.L.length := by
  obtain ⟨a1, a2, a3, _⟩ := writesL_all (chunksAt a b) V.D
  rw [chunksAt_length] at a2 a3
  have hsy : (writesL V.D (chunksAt a b)).1.sync.1.C.length ≤ (writesL V.D (chunksAt a b)).1.C.length ∧ (writesL V.D (chunksAt a b)).1.sync.1.n = (writesL V.D (chunksAt a b)).1.n ∧ (writesL V.D (chunksAt a b)).1.sync.1.L.length = (writesL V.D (chunksAt a b)).1.L.length := by
    unfold Dsk.sync
    split
    · exact ⟨Nat.le_refl _, rfl, rfl⟩
    · exact ⟨by simp, rfl, by simp only; rw [syncL_length]⟩
  unfold putV
  simp only
  split
  · unfold downV; split <;> exact ⟨by simp only; omega, by simp only; omega, by simp only; omega⟩
  · unfold downV; split <;> exact ⟨by simp only; omega, by simp only; omega, by simp only; omega⟩
theorem chunks_head (a : Nat) (b : List UInt8) (h : b.length = 64) : chunksAt a b = [(a, b)] := by
  unfold chunksAt nch
  rw [h]
  simp [chunk, List.range_succ]
  exact List.take_of_length_le (by omega)
theorem lay_put (V : Vol) (R : RootN) : layV V R = if (putV V (slotOf R.1 + 1) (rootBN R)).2 ≠ 0 then putV V (slotOf R.1 + 1) (rootBN R) else
    if (putV (putV V (slotOf R.1 + 1) (rootBN R)).1 (slotOf R.1) (headB R.1 (rootBN R).length)).2 ≠ 0 then putV (putV V (slotOf R.1 + 1) (rootBN R)).1 (slotOf R.1) (headB R.1 (rootBN R).length) else
    (⟨(putV (putV V (slotOf R.1 + 1) (rootBN R)).1 (slotOf R.1) (headB R.1 (rootBN R).length)).1.D, R, V.gone⟩, 0) := by
  by_cases h1 : (writesL V.D (chunksAt (slotOf R.1 + 1) (rootBN R))).2 ≠ 0
  · have e : putV V (slotOf R.1 + 1) (rootBN R) = failsV V (writesL V.D (chunksAt (slotOf R.1 + 1) (rootBN R))) := by rw [fails_down]; unfold putV; rw [if_pos h1]
    have e2 : layV V R = failsV V (writesL V.D (chunksAt (slotOf R.1 + 1) (rootBN R))) := by unfold layV; rw [if_pos h1]
    rw [e, e2, if_pos (by rw [fails_down]; exact h1)]
  · by_cases h2 : (writesL V.D (chunksAt (slotOf R.1 + 1) (rootBN R))).1.sync.2 ≠ 0
    · have e : putV V (slotOf R.1 + 1) (rootBN R) = failsV V (writesL V.D (chunksAt (slotOf R.1 + 1) (rootBN R))).1.sync := by rw [fails_down]; unfold putV; rw [if_neg h1]
      have e2 : layV V R = failsV V (writesL V.D (chunksAt (slotOf R.1 + 1) (rootBN R))).1.sync := by unfold layV; rw [if_neg h1, if_pos h2]
      rw [e, e2, if_pos (by rw [fails_down]; exact h2)]
    · have z : (putV V (slotOf R.1 + 1) (rootBN R)).2 = 0 := by unfold putV; rw [if_neg h1]; simp only; omega
      rw [if_neg (by omega), putV_zero z]
      have hc := chunks_head (slotOf R.1) (headB R.1 (rootBN R).length) (headB_length _ _)
      unfold layV
      rw [if_neg h1]
      simp only
      rw [if_neg h2]
      generalize (writesL V.D (chunksAt (slotOf R.1 + 1) (rootBN R))).1.sync.1 = S
      unfold putV
      simp only [hc, writesL_one]
      by_cases h3 : (S.write (slotOf R.1 : Nat) (headB R.1 (rootBN R).length)).2 ≠ 0
      · rw [if_pos h3, if_pos h3, if_pos (by simpa using h3), fails_down]
      · rw [if_neg h3, if_neg h3]
        by_cases h4 : (S.write (slotOf R.1 : Nat) (headB R.1 (rootBN R).length)).1.sync.2 ≠ 0
        · rw [if_pos h4, if_pos (by simpa using h4), fails_down]
        · have h4' : (S.write (slotOf R.1 : Nat) (headB R.1 (rootBN R).length)).1.sync.2 = 0 := by omega
          rw [if_neg h4, if_neg (by simpa using h4'), h4']
          rfl

set_option maxHeartbeats 2000000 in
theorem storeP (w : World) (B p pd : Nat) (V : Vol) (vF : Value) (X : Nat → Prop) (h : VlP w B p pd V vF X) (hg : ErrTy w) (hB : 0 < B) (hl : V.gone = false) (R : RootN) (vR : Value)
    (ho : w.ownsRow B 49 3 vR R.2.2.2.length (cellsF R.2.2.2)) (hno : ∀ b, vR.ownBlock = some b → ¬X b) (hr : rightN V.D.L.length R = true) (hC : V.D.C.length ≤ 900000) (hN : V.D.n ≤ 900000) :
    Calls Tryz.prog 27 #[.pointer (some ⟨p, 0, none⟩), .agg #[.int .i64 (R.1 : Int), .int .i64 (R.2.1 : Int), .int .i64 (R.2.2.1 : Int), vR]] w fun e w' => ∃ v, e = .returned v ∧ ErF w' v (layV V R).2 true ∧
      ∃ X' vF', VlP w' B p pd (layV V R).1 vF' X' ∧ Grows w X X' ∧ (∀ b, vF'.ownBlock = some b → vF.ownBlock = some b ∨ vR.ownBlock = some b ∨ w.heap.size ≤ b) ∧ Kept X w w' := by
  obtain ⟨rf1, rf2, rf3, rf4, rf5, rf6, rf7⟩ := right_few hr
  have hlt := h.lt
  obtain ⟨ad, cap, rfl, hFs⟩ := own_files ho rfl (fun f hf => (rf5 f hf).1)
  obtain ⟨Xd, hA, hX⟩ := h
  have hT : Fit (V.D.L.length : Int) := by have := hA.ok.few; unfold Fit; omega
  have hlenB := rootBN_len hr
  have hlp := lay_put V R
  obtain ⟨s, n, c, fs⟩ := R
  simp only at rf1 rf2 rf3 rf4 rf6 hFs ho hlp ⊢
  have hk1 : Kept (fun _ => False) w (w.alloc (.cells #[.int .i64 (s : Int), .int .i64 (n : Int), .int .i64 (c : Int), .slice ad fs.length cap] 40)) := (Kept.refl _ _).alloc _
  have hN1 := Holds.new w [.int .i64 (s : Int), .int .i64 (n : Int), .int .i64 (c : Int), .slice ad fs.length cap] 40
  change Holds (w.alloc (.cells #[.int .i64 (s : Int), .int .i64 (n : Int), .int .i64 (c : Int), .slice ad fs.length cap] 40)) _ _ _ at hN1
  have hv : VlP w B p pd V vF X := ⟨Xd, hA, hX⟩
  go_enter Tryz.func27, Tryz.ntmps27
  go_upto_region 1 with (fail)
  obtain ⟨q, hq⟩ : ∃ q, Hid (q = w.heap.size) := ⟨_, rfl⟩
  rw [← hq.out] at hN1 ⊢
  generalize w.alloc (.cells #[.int .i64 (s : Int), .int .i64 (n : Int), .int .i64 (c : Int), .slice ad fs.length cap] 40) = w1 at hk1 hN1 ⊢
  have hA1 : DskP w1 B pd V.D Xd := hA.dsk.kept hk1 (fun _ _ hf => hf)
  have hF1 : Files w1 ad fs.length (fs.map fileI) := by
    refine ⟨hFs.1, ?_⟩
    rcases hFs.2 with h0 | ⟨b, off, h1, h2, h3⟩
    · exact .inl h0
    · exact .inr ⟨b, off, h1, Nat.lt_of_lt_of_le h2 hk1.size, fun i hi => ⟨fun t u hu => by rw [hk1.cell (p := ⟨b, off + i * 3 + t, none⟩) h2 (fun hf => hf)]; exact (h3 i hi).1 t u hu, (h3 i hi).2⟩⟩
  have HSZ := Lib.hid (fun (m : Nat) => pSize (w1.drewN m) B pd V.D Xd (hA1.drewN m))
  have HEN := Lib.hid (fun (w2 : World) (hb : Below w1.heap.size w1 w2) => pEncode_ok (V.D.L.length : Int) s n c fs ad fs.length cap w2 hT (hF1.below hb) hr)
  have ho1 := hA.obj.of_block (hk1.block p hA.obj.lt (fun hf => hf))
  have c0 := ho1.cell 0 _ rfl
  have b0 := hN1.cell 0 _ rfl
  have b1 := hN1.cell 1 _ rfl
  have b2 := hN1.cell 2 _ rfl
  have b3 := hN1.cell 3 _ rfl
  have H1 := Lib.hid (And.intro hv (And.intro hk1 hN1))
  have HO := Lib.hid ho
  have HLP := Lib.hid hlp
  obtain ⟨T, hTl⟩ : ∃ T, Hid (T = V.D.L.length) := ⟨_, rfl⟩
  rw [← hTl.out] at HEN HSZ
  have HG := Lib.hid hg
  have HL0 := Lib.hid hl
  have HCN := Lib.hid (And.intro hC hN)
  have HLB := Lib.hid hlenB
  have HLT := Lib.hid hlt
  have HNO := Lib.hid hno
  have HRT := Lib.hid hr
  clear hA1 hF1 ho1 hN1 hk1 hv hT hFs hlp ho hg hl hC hN hlt hno hr hA hX rf5
  go_region_with (first | (go_at_call 22; refine (HSZ.out _).mono ?_; rintro e wn ⟨rfl, m, rfl⟩) | (go_at_call 43; refine (HEN.out _ (belowN (Below.refl _ _) _)).mono ?_; rintro e wn ⟨rfl, hbE⟩))
  all_goals
    have hb2 := belowT (belowN (Below.refl w1.heap.size w1) (1 + m)) hbE
    have hN2 := H1.out.2.2.of_block (hb2.block q H1.out.2.2.lt)
    have hk2 : Kept (fun _ => False) w wn := H1.out.2.1.trans (Kept.of_below (fun _ => False) hb2) (fun _ hf => hf.elim)
    have HH := Lib.hid (pHead_ok s (rootB s n c fs).length wn rf6 rf2 hlenB)
    rw [show errV 57 0 = .nilIface from rfl]
    have H2 := Lib.hid (And.intro hN2 hk2)
    obtain ⟨rb, hrb⟩ : ∃ rb, Hid (rb = rootB s n c fs) := ⟨_, rfl⟩
    rw [← hrb.out] at HH ⊢
    have b0 := hN2.cell 0 _ rfl
    clear hbE hb2 hN2 hk2
    go_wp2_with fail
    refine HH.out.mono ?_
    clear HH
    rintro e w3 ⟨rfl, hb3⟩
    rw [show errV 57 0 = .nilIface from rfl]
    have hN3 := H2.out.1.of_block (hb3.block q H2.out.1.lt)
    have hk3 : Kept (fun _ => False) w w3 := H2.out.2.trans (Kept.of_below (fun _ => False) hb3) (fun _ hf => hf.elim)
    have hv3 := H1.out.1.still hk3
    have hE3 := HG.out.kept hk3 (fun hf => hf)
    obtain ⟨r, hr0⟩ : ∃ r, r = s % 2 := ⟨_, rfl⟩
    have hr2 : r < 2 := by omega
    have hsl : slotOf s = r * 9 := by unfold slotOf; omega
    have ht : (s : Int).tmod 2 = (r : Int) := by rw [Int.tmod_eq_emod_of_nonneg (by omega)]; omega
    have hw1 : IntKind.i64.wrap (r : Int) = (r : Int) := IntWalk.i64_in _ (by omega)
    have hw9 : IntKind.i64.wrap ((r : Int) * 9) = (r : Int) * 9 := IntWalk.i64_in _ (by omega)
    have hw91 : IntKind.i64.wrap ((r : Int) * 9 + 1) = (r : Int) * 9 + 1 := IntWalk.i64_in _ (by omega)
    have hHP := putP w3 B p pd V vF X hv3 hE3 hB HL0.out (r * 9 + 1) (by omega) rb (by rw [hrb.out]; exact HLB.out) (by have := HCN.out.1; omega) (by have := HCN.out.2; omega)
    rw [show ((r * 9 + 1 : Nat) : Int) = (r : Int) * 9 + 1 from by omega] at hHP
    have HP := Lib.hid hHP
    have HLP2 := Lib.hid (show layV V (s, n, c, fs) = _ from HLP.out)
    rw [show rootBN (s, n, c, fs) = rb from hrb.out.symm, hsl] at HLP2
    have H3 := Lib.hid (And.intro hN3 (And.intro hk3 hE3))
    have b0 := hN3.cell 0 _ rfl
    clear hN3 hk3 hv3 hE3 hHP hr0 hb3 hsl
    go_wp2_with fail
    refine HP.out.mono ?_
    clear HP
    rintro e w4 ⟨v, rfl, he, X1, vF1, hv4, hg4, hf4, hk4⟩
    have hq3 : q < w3.heap.size := H3.out.1.lt
    have hqX : ¬X q := fun hx => by have := (HLT.out q (.inl hx)).2; have := hq.out; omega
    have hN4 := H3.out.1.of_block (hk4.block q hq3 hqX)
    have hgw4 : Grows w X X1 := fun k hk => (hg4 k hk).elim .inl (fun h => .inr (Nat.le_trans H3.out.2.1.size h))
    have hkw4 : Kept X w w4 := (H3.out.2.1.mono (fun _ hf => hf.elim)).trans hk4 (fun k hk => .inl hk)
    have hfw4 : ∀ b, vF1.ownBlock = some b → vF.ownBlock = some b ∨ w.heap.size ≤ b := fun b hb => (hf4 b hb).elim .inl (fun h => .inr (Nat.le_trans H3.out.2.1.size h))
    rcases he with ⟨hz, rfl⟩ | ⟨hnz, bb, hbb, rfl, hfa⟩
    · have hz1 := putV_zero hz
      obtain ⟨hc1, hn1, hl1⟩ := putV_bound V (r * 9 + 1) rb
      have hrbl : nch rb.length ≤ 8 := nch_le (by rw [hrb.out]; exact HLB.out)
      have hgone1 : (putV V (r * 9 + 1) rb).1.gone = false := by rw [hz1]; exact HL0.out
      have hqX1 : ¬X1 q := fun hx => (hg4 q hx).elim hqX (fun h => by omega)
      have hE4 := HG.out.kept hkw4 (fun hx => by have := (HLT.out _ (.inl hx)).1; omega)
      have hq4 : q < w4.heap.size := hN4.lt
      have hHP := putP w4 B p pd _ vF1 X1 hv4 hE4 hB hgone1 (r * 9) (by omega) (headB s rb.length) (by rw [headB_length]; omega) (by have := HCN.out.1; omega) (by have := HCN.out.2; omega)
      rw [show ((r * 9 : Nat) : Int) = (r : Int) * 9 from by omega] at hHP
      have HP := Lib.hid hHP
      have HZ := Lib.hid (And.intro hz (And.intro hl1 hgone1))
      have H4 := Lib.hid (And.intro hN4 (And.intro hgw4 (And.intro hkw4 hfw4)))
      have b0 := hN4.cell 0 _ rfl
      clear hN4 hgw4 hkw4 hfw4 hz1 hc1 hn1 hl1 hrbl hgone1 hE4 hHP hz hv4 hg4 hf4 hk4
      go_wp2_with fail
      refine HP.out.mono ?_
      clear HP
      rintro e w5 ⟨v, rfl, he, X2, vF2, hv5, hg5, hf5, hk5⟩
      have hN5 := H4.out.1.of_block (hk5.block q hq4 hqX1)
      have hgw5 : Grows w X X2 := fun k hk => (hg5 k hk).elim (fun h => H4.out.2.1 k h) (fun h => .inr (Nat.le_trans H4.out.2.2.1.size h))
      have hkw5 : Kept X w w5 := H4.out.2.2.1.trans hk5 (fun k hk => H4.out.2.1 k hk)
      have hfw5 : ∀ b, vF2.ownBlock = some b → vF.ownBlock = some b ∨ w.heap.size ≤ b := fun b hb => (hf5 b hb).elim (fun h => H4.out.2.2.2 b h) (fun h => .inr (Nat.le_trans H4.out.2.2.1.size h))
      rcases he with ⟨hz2, rfl⟩ | ⟨hnz, bb, hbb, rfl, hfa⟩
      · have hz1 := putV_zero hz2
        obtain ⟨_, _, hl2⟩ := putV_bound (putV V (r * 9 + 1) rb).1 (r * 9) (headB s rb.length)
        have hlay : Hid (layV V (s, n, c, fs) = (⟨(putV (putV V (r * 9 + 1) rb).1 (r * 9) (headB s rb.length)).1.D, (s, n, c, fs), false⟩, 0)) := by
          show _ = _
          rw [HLP2.out, if_neg (by have := HZ.out.1; omega), if_neg (by omega), HL0.out]
        have hgone2 : (putV (putV V (r * 9 + 1) rb).1 (r * 9) (headB s rb.length)).1.gone = false := by rw [hz1]; exact HZ.out.2.2
        have hoR : w5.ownsRow B 49 3 (.slice ad fs.length cap) fs.length (cellsF fs) := owns_of_block HO.out fun g hgb => hkw5.block g (HO.out.lt g hgb).2 (HNO.out g hgb)
        have hnoR : ∀ b, (Value.slice ad fs.length cap).ownBlock = some b → ¬X2 b := fun b hb hx => (hgw5 b hx).elim (HNO.out b hb) (fun h => by have := (HO.out.lt b hb).2; omega)
        have hob := hv5.obj
        rw [hgone2] at hob
        have hfin := hv5.reroot (s, n, c, fs) false hoR hnoR (.inl (by rw [hl2, HZ.out.2.1]; exact HRT.out)) _ heap_rooted (obj_rooted (R' := (s, n, c, fs)) (vF' := .slice ad fs.length cap) hob)
        have hkf : Kept X w ((((w5.setCell ⟨p, 1, none⟩ (.int .i64 (s : Int))).setCell ⟨p, 2, none⟩ (.int .i64 (n : Int))).setCell ⟨p, 3, none⟩ (.int .i64 (c : Int))).setCell ⟨p, 4, none⟩ (.slice ad fs.length cap)) :=
          (((hkw5.setCell (p := ⟨p, 1, none⟩) H1.out.1.mine _).setCell (p := ⟨p, 2, none⟩) H1.out.1.mine _).setCell (p := ⟨p, 3, none⟩) H1.out.1.mine _).setCell (p := ⟨p, 4, none⟩) H1.out.1.mine _
        have b0 := hN5.cell 0 _ rfl
        have b1 := hN5.cell 1 _ rfl
        have b2 := hN5.cell 2 _ rfl
        have b3 := hN5.cell 3 _ rfl
        have c1 := hob.cell 1 _ rfl
        have c2 := hob.cell 2 _ rfl
        have c3 := hob.cell 3 _ rfl
        have c4 := hob.cell 4 _ rfl
        have f1 := hob.free 1
        have f2 := hob.free 2
        have f3 := hob.free 3
        have f4 := hob.free 4
        have HF := Lib.hid (And.intro hfin (And.intro hgw5 hkf))
        clear hz1 hl2 hgone2 hoR hnoR hob hfin hkf hv5 hg5 hf5 hk5 hN5 hgw5 hkw5 hfw5 hz2
        go_wp2
        go_ret
        rw [hlay.out]
        exact ⟨_, rfl, ErF.none _ _, X2, _, HF.out.1, HF.out.2.1, fun b hb => .inr (.inl hb), HF.out.2.2⟩
      · have hlay : Hid (layV V (s, n, c, fs) = putV (putV V (r * 9 + 1) rb).1 (r * 9) (headB s rb.length)) := by
          show _ = _
          rw [HLP2.out, if_neg (by have := HZ.out.1; omega), if_pos hnz]
        have HR := Lib.hid (show ErF w5 _ _ true from .inr ⟨hnz, bb, hbb, rfl, hfa⟩)
        have HF := Lib.hid (And.intro hv5 (And.intro hgw5 (And.intro hkw5 hfw5)))
        clear hnz hbb hfa hv5 hg5 hf5 hk5 hN5 hgw5 hkw5 hfw5
        go_wp2
        go_ret
        rw [hlay.out]
        exact ⟨_, rfl, HR.out, X2, vF2, HF.out.1, HF.out.2.1, fun b hb => (HF.out.2.2.2 b hb).elim .inl (fun h => .inr (.inr h)), HF.out.2.2.1⟩
    · have hlay : Hid (layV V (s, n, c, fs) = putV V (r * 9 + 1) rb) := by
        show _ = _
        rw [HLP2.out, if_pos hnz]
      have HR := Lib.hid (show ErF w4 _ _ true from .inr ⟨hnz, bb, hbb, rfl, hfa⟩)
      have HF := Lib.hid (And.intro hv4 (And.intro hgw4 (And.intro hkw4 hfw4)))
      clear hnz hbb hfa hv4 hg4 hf4 hk4 hN4 hgw4 hkw4 hfw4
      go_wp2
      go_ret
      rw [hlay.out]
      exact ⟨_, rfl, HR.out, X1, vF1, HF.out.1, HF.out.2.1, fun b hb => (HF.out.2.2.2 b hb).elim .inl (fun h => .inr (.inr h)), HF.out.2.2.1⟩

end Go.Proofs.YtlgdfalbhpgllaaGreatDoor
