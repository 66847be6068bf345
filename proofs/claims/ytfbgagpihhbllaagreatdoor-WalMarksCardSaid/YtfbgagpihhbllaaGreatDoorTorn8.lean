/- The law WalTorn, walked over the contract of the program's Mark and ReadMark. -/
import Derived.Test.YtfbgagpihhbllaaGreatDoorEx8
import Derived.Test.YtfbgagpihhbllaaGreatDoorJ08
import Derived.Test.YtfbgagpihhbllaaGreatDoorJ33
namespace Go.Proofs.YtfbgagpihhbllaaGreatDoor
open Go.RowKit Go.Proofs Go.Proofs.Pk
set_option maxRecDepth 10000
attribute [local simp] mk_get wrap64_u8 mk_extract ByteArray.mk_append_mk get_1k

theorem zero_makeN (n : Nat) (hn : n ≤ 64) (W : World) : (Instr.makeSlice 60 (.int .i64 (n : Int)) (.int .i64 (n : Int))).run Tryz.prog W = .ok (.slice (some ⟨W.heap.size, 0, none⟩) n n) (W.alloc (.cells (List.replicate n (Value.int .u8 0)).toArray 5)) := by
  obtain ⟨i, hi, hz, hs, hb⟩ := info_parts byte_infoH
  have := run_make (P := Tryz.prog) W 60 5 i _ Tryz.underlying60 hi hz .i64 .i64 (n : Int) (n : Int) (by omega) (Int.le_refl _) (by rw [hb]; omega) (by omega)
  rw [this, hs]
  simp only [Value.cells]
  rw [show ((n : Int).toNat * 1) = n from by simp, made_rep1 _ n]
  simp
theorem zero_convN (n : Nat) (hn : n ≤ 64) (W : World) : (convert 60 9 (.slice (some ⟨W.heap.size, 0, none⟩) n n)).run Tryz.prog (W.alloc (.cells (List.replicate n (Value.int .u8 0)).toArray 5)) = .ok (.string ⟨(List.replicate n 0).toArray⟩) (W.alloc (.cells (List.replicate n (Value.int .u8 0)).toArray 5)) := by
  have h := World.ownsRow_lit (e := 5) (base := W.heap.size) (size := 1) W (List.replicate n (Value.int .u8 0)).toArray n (Nat.le_refl _) (by unfold maxLen; omega) (by simp)
  have e : (List.replicate n (Value.int .u8 0)).toArray.toList = Lib.byteCells (List.replicate n 0) := by simp [Lib.byteCells]
  rw [e] at h
  exact conv_own8 _ _ _ _ (List.replicate n 0) n (by simp) h

theorem rdI_torn {i k n : Nat} (h : MarkOk i k n) (c n' : Nat) (hr : rdMarkI ((markN i k n).take c ++ List.replicate (64 - c) 0) (i : Int) (k : Int) = some n') : n' = n ∧ (markN i k n).take c ++ List.replicate (64 - c) 0 = markN i k n := by
  unfold rdMarkI at hr
  rw [if_pos ⟨by omega, by omega⟩] at hr
  simp only [Int.toNat_natCast] at hr
  exact rd_torn h c n' hr
theorem rdI_next {i k n : Nat} (h : MarkOk i k n) : rdMarkI (markN i k n) ((i : Int) + 1) (k : Int) = none := by
  unfold rdMarkI
  rw [if_pos ⟨by omega, by omega⟩, show ((i : Int) + 1).toNat = i + 1 from by omega, Int.toNat_natCast]
  exact rd_other h (.inl (by omega))

set_option maxHeartbeats 4000000 in
theorem tornW {At : LogOf} (K : WalK At) (M : MarkK) (id index size cut : Int) (w : World) (hg : ErrTy w) (h0 : -9223372036854775808 ≤ id ∧ id ≤ 9223372036854775807) (h1 : -9223372036854775808 ≤ index ∧ index ≤ 9223372036854775807) (h2 : -9223372036854775808 ≤ size ∧ size ≤ 9223372036854775807) (h3 : -9223372036854775808 ≤ cut ∧ cut ≤ 9223372036854775807) :
    Calls Tryz.prog 6 #[.int .i64 id, .int .i64 index, .int .i64 size, .int .i64 cut] w fun e w' => e = .returned (.bool true) ∧ Below w.heap.size w w' := by
  have HE := Lib.hid (examples8 K w hg)
  have HM := Lib.hid (fun w0 => M.mark id index size w0 h0 h1 h2)
  have H012 := Lib.hid (And.intro h0 h1)
  clear hg h0 h1 h2
  go_enter Tryz.func6, Tryz.ntmps6
  go_wp2_with fail
  refine HE.out.mono ?_
  clear HE
  rintro e w1 ⟨rfl, hb1⟩
  have HB1 := Lib.hid hb1
  clear hb1
  go_wp2_with fail
  refine (HM.out w1).mono ?_
  clear HM
  rintro e w2 ⟨hk2, ⟨i, k, n, rfl, rfl, rfl, hok, rfl⟩ | ⟨-, rfl⟩⟩
  case inr =>
    have hB := HB1.out.trans (hk2.below HB1.out.size (fun _ hf => hf.elim))
    go_wp2
    go_ret
    exact ⟨rfl, hB⟩
  have HB2 := Lib.hid (HB1.out.trans (hk2.below HB1.out.size (fun _ hf => hf.elim)))
  have hml := markN_length i k n
  have HT := Lib.hid (fun c n' => rdI_torn hok c n')
  have HX := Lib.hid (rdI_next hok)
  have HRd := Lib.hid M.read
  have hi1 : IntKind.i64.wrap ((i : Int) + 1) = (i : Int) + 1 := IntWalk.i64_in _ (by have := hok.2.1; unfold MaxN at this; omega)
  have HFi := Lib.hid (show FitI (i : Int) ∧ FitI ((i : Int) + 1) ∧ FitI (k : Int) from by have := hok.2.1; unfold MaxN at this; exact ⟨H012.out.1, ⟨by omega, by omega⟩, H012.out.2⟩)
  obtain ⟨m0, hm0⟩ : ∃ m0, m0 = markN i k n := ⟨_, rfl⟩
  rw [← hm0] at hml HT HX ⊢
  have hmlI : (m0.length : Int) = 64 := by omega
  have HML := Lib.hid hml
  obtain ⟨c, hc⟩ : ∃ c, c = pickN cut 65 := ⟨_, rfl⟩
  have hc65 : c < 65 := by rw [hc]; exact pickN_lt _ (by decide)
  have hwc : IntKind.i64.wrap (64 - (c : Int)) = ((64 - c : Nat) : Int) := by rw [show 64 - (c : Int) = ((64 - c : Nat) : Int) from by omega]; exact IntWalk.i64_in _ (by omega)
  have hmk := zero_makeN (64 - c) (by omega) w2.drew
  have hcv := zero_convN (64 - c) (by omega) w2.drew
  obtain ⟨d, hd⟩ : ∃ d, Hid (d = 64 - c) := ⟨_, rfl⟩
  rw [← hd.out] at hwc hmk hcv
  clear hm0 hml hok hk2 HB1 H012
  have hcl0 : (0 : Int) ≤ (c : Int) := by omega
  have hcl1 : (c : Int) ≤ (m0.length : Int) := by omega
  have hc64 : ¬(64 : Int) < (c : Int) := by omega
  obtain ⟨A, hA⟩ : ∃ A, Hid (A = m0.take c) := ⟨_, rfl⟩
  obtain ⟨Z, hZ⟩ : ∃ Z, Hid (Z = List.replicate d (0 : UInt8)) := ⟨_, rfl⟩
  have hsum : ¬9223372036854775807 < A.length + Z.length := by rw [hA.out, hZ.out, List.length_take, List.length_replicate]; have := hd.out; omega
  have hal : A.length ≤ 64 := by rw [hA.out, List.length_take]; omega
  have hzl : Z.length ≤ 64 := by rw [hZ.out, List.length_replicate]; have := hd.out; omega
  rw [← hZ.out] at hcv
  obtain ⟨C0, hC0⟩ : ∃ C0, Hid (C0 = (List.replicate d (Value.int .u8 0)).toArray) := ⟨_, rfl⟩
  rw [← hC0.out] at hmk hcv
  have hwr : IntKind.i64.wrap (c : Int) = (c : Int) := IntWalk.i64_in _ (by omega)
  have hk23 : Kept (fun _ => False) w2 (w2.drew.alloc (.cells C0 5)) := ((Kept.refl _ _).drewN 1).alloc _
  obtain ⟨mq, hmq⟩ : ∃ mq : Nat, mq = (if cut < 0 then -(cut + 1) else cut).toNat := ⟨_, rfl⟩
  have hct : (mq : Int).tmod 65 = (c : Int) := by
    rw [Int.tmod_eq_emod_of_nonneg (by omega), hc]
    unfold pickN
    rw [← hmq]; omega
  clear hc hc65 HML
  by_cases hneg : cut < 0
  case' pos =>
    have hmq' : -(cut + 1) = (mq : Int) := by rw [if_pos hneg] at hmq; omega
    have hw1 : IntKind.i64.wrap (cut + 1) = cut + 1 := IntWalk.i64_in _ (by omega)
    have hw2 : IntKind.i64.wrap (mq : Int) = (mq : Int) := IntWalk.i64_in _ (by omega)
    clear hmq h3
  case' neg =>
    obtain ⟨mr, rfl⟩ := Int.eq_ofNat_of_zero_le (show 0 ≤ cut by omega)
    have hmr : mq = mr := by rw [if_neg hneg] at hmq; simpa using hmq
    subst hmr
    have hdn : decide ((mq : Int) < 0) = false := by rw [decide_eq_false_iff_not]; exact hneg
    clear hmq h3
  all_goals
    go_upto_region 8 with (fail)
    refine wp_region_until (fun _ => True) 9 (by kernel_rfl) ?_
    refine wpAnyU_take (i := 0) (v := (.string ⟨m0.toArray⟩)) (some 44) rfl rfl (by kernel_rfl) (by kernel_rfl) (by kernel_rfl) (by kernel_rfl) (fun _ _ _ h => h) trivial (yields_of (by kernel_rfl) (fun w hw => by go_simp)) ?_
    refine wpAnyU_take (i := 1) (v := (.int .i64 (c : Int))) (some 45) rfl rfl (by kernel_rfl) (by kernel_rfl) (by kernel_rfl) (by kernel_rfl) (fun _ _ _ h => h) trivial (yields_of (by kernel_rfl) (fun w hw => by go_simp)) ?_
    refine wpAnyU_take (i := 2) (v := (.string ⟨A.toArray⟩)) (some 46) rfl rfl (by kernel_rfl) (by kernel_rfl) (by kernel_rfl) (by kernel_rfl) (fun _ _ _ h => h) trivial (yields_of (by kernel_rfl) (fun w hw => by rw [hA.out]; go_simp)) ?_
    refine wpAnyU_take (i := 3) (v := (.int .i64 (c : Int))) (some 47) rfl rfl (by kernel_rfl) (by kernel_rfl) (by kernel_rfl) (by kernel_rfl) (fun _ _ _ h => h) trivial (yields_of (by kernel_rfl) (fun w hw => by go_simp)) ?_
    refine wpAnyU_take (i := 4) (v := (.int .i64 (d : Int))) (some 48) rfl rfl (by kernel_rfl) (by kernel_rfl) (by kernel_rfl) (by kernel_rfl) (fun _ _ _ h => h) trivial (yields_of (by kernel_rfl) (fun w hw => by go_simp)) ?_
    refine wpAnyU_run (i := 5) (v := .slice (some ⟨w2.drew.heap.size, 0, none⟩) d d) (w' := w2.drew.alloc (.cells C0 5)) (some 49) rfl rfl (by kernel_rfl) (by kernel_rfl) (exec_make hmk rfl rfl rfl) (fun _ => trivial) ?_
    refine wpAnyU_run (i := 6) (v := .string ⟨Z.toArray⟩) (w' := w2.drew.alloc (.cells C0 5)) (some 50) rfl rfl (by kernel_rfl) (by kernel_rfl) (exec_convert hcv rfl rfl) (fun _ => trivial) ?_
    refine wpAnyU_take (i := 7) (v := (.string ⟨(A ++ Z).toArray⟩)) (some 51) rfl rfl (by kernel_rfl) (by kernel_rfl) (by kernel_rfl) (by kernel_rfl) (fun _ _ _ h => h) trivial (yields_of (by kernel_rfl) (fun w hw => by go_simp)) ?_
    refine wpAnyU_run (i := 8) (v := .string ⟨(A ++ Z).toArray⟩) (w' := w2.drew.alloc (.cells C0 5)) (some 12) rfl rfl (by kernel_rfl) (by kernel_rfl) (by kernel_rfl) (fun _ => trivial) ?_
    refine wpAnyU_done (by kernel_rfl) ?_ _
    simp only [put_lit, List.set_cons_succ, List.set_cons_zero]
    have hk3 := hk23
    obtain ⟨w3, hw3⟩ : ∃ w3, w3 = w2.drew.alloc (.cells C0 5) := ⟨_, rfl⟩
    rw [← hw3] at hk3 ⊢
    have HR1 := Lib.hid (fun w0 => HRd.out (A ++ Z) (i : Int) (k : Int) w0 (by rw [List.length_append]; omega) HFi.out.1 HFi.out.2.2)
    have HR2 := Lib.hid (fun w0 => HRd.out m0 ((i : Int) + 1) (k : Int) w0 (by omega) HFi.out.2.1 HFi.out.2.2)
    have hb3 := HB2.out.trans (hk3.below HB2.out.size (fun _ hf => hf.elim))
    have HB3 := Lib.hid hb3
    clear hw3 hk3 hk23 hb3 hmk hcv hsum hal hzl
    go_wp2_with fail
    refine (HR1.out w3).mono ?_
    rintro e w4 ⟨hk4, hr4⟩
    have HB4 := Lib.hid (HB3.out.trans (hk4.below HB3.out.size (fun _ hf => hf.elim)))
    rcases hr4 with ⟨n4, hr4, rfl⟩ | ⟨-, rfl⟩
    · rw [hA.out, hZ.out, hd.out] at hr4
      obtain ⟨rfl, heq⟩ := HT.out c n4 hr4
      have hAm : A ++ Z = m0 := by rw [hA.out, hZ.out, hd.out]; exact heq
      rw [hAm]
      clear heq hr4 hAm hk4
      go_wp2_with fail
      refine (HR2.out w4).mono ?_
      rintro e w5 ⟨hk5, ⟨n5, hr5, rfl⟩ | ⟨-, rfl⟩⟩
      · rw [HX.out] at hr5; cases hr5
      · have hBe := HB4.out.trans (hk5.below HB4.out.size (fun _ hf => hf.elim))
        go_wp2
        go_ret
        exact ⟨rfl, hBe⟩
    · clear hk4
      go_wp2_with fail
      refine (HR2.out w4).mono ?_
      rintro e w5 ⟨hk5, ⟨n5, hr5, rfl⟩ | ⟨-, rfl⟩⟩
      · rw [HX.out] at hr5; cases hr5
      · have hBe := HB4.out.trans (hk5.below HB4.out.size (fun _ hf => hf.elim))
        go_wp2
        go_ret
        exact ⟨rfl, hBe⟩

end Go.Proofs.YtfbgagpihhbllaaGreatDoor
