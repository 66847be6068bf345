/- The law FrameBack, walked. -/
import Derived.Test.YtaiklhcgimpajaaEx3
namespace Go.Proofs.Ytaiklhcgimpajaa
open Go.RowKit Go.Proofs Go.Proofs.Pk
attribute [local simp] mk_get wrap64_u8 mk_extract ByteArray.mk_append_mk get_1k

set_option maxHeartbeats 1000000 in
theorem back3_11 (s v : List UInt8) (w : World) (hv : (v.length : Int) ≤ 140737488351232) (A : List UInt8) (hA : (A.length : Int) ≤ 1048588) (hP : ∀ w, Calls Try.prog 10 #[.string ⟨s.toArray⟩] w (R2 w (.string ⟨A.toArray⟩) .nilIface)) (hT : ∀ w, Calls Try.prog 15 #[.string ⟨(A ++ v).toArray⟩] w (R3 w (.string ⟨s.toArray⟩) (.string ⟨v.toArray⟩) .nilIface)) (u F l : List UInt8) (hF : (F.length : Int) ≤ 1048588) (hl : (l.length : Int) ≤ 140737488351232) (hU : ∀ w, Calls Try.prog 15 #[.string ⟨(F ++ l).toArray⟩] w (R3 w (.string ⟨u.toArray⟩) (.string ⟨l.toArray⟩) .nilIface)) (hQ : ∀ w, Calls Try.prog 10 #[.string ⟨u.toArray⟩] w (R2 w (.string ⟨F.toArray⟩) .nilIface)) :
    Calls Try.prog 5 #[.string ⟨s.toArray⟩, .string ⟨v.toArray⟩, .string ⟨(F ++ l).toArray⟩] w fun e w' => e = .returned (.bool true) ∧ Below w.heap.size w w' := by
  have HP := Lib.hid hP; clear hP
  have HT := Lib.hid hT; clear hT
  have HU := Lib.hid hU; clear hU
  have HQ := Lib.hid hQ; clear hQ
  go_enter Try.func5, Try.ntmps5
  go_wp2_with fail
  refine (examples_any _).mono ?_
  rintro e w1 ⟨rfl, b1⟩
  go_wp2_with fail
  refine (HP.out _).mono ?_
  rintro e w2 ⟨rfl, c2⟩
  have b2 := belowT b1 c2
  clear b1 c2
  go_wp2_with fail
  refine (HT.out _).mono ?_
  rintro e w3 ⟨rfl, c3⟩
  have b3 := belowT b2 c3
  clear b2 c3
  go_wp2_with fail
  refine (HU.out _).mono ?_
  rintro e w4 ⟨rfl, c4⟩
  have b4 := belowT b3 c4
  clear b3 c4
  go_wp2_with fail
  refine (HQ.out _).mono ?_
  rintro e w5 ⟨rfl, c5⟩
  have b5 := belowT b4 c5
  clear b4 c5
  go_wp2
  go_ret
  exact ⟨rfl, b5⟩

set_option maxHeartbeats 1000000 in
theorem back3_10 (s v : List UInt8) (w : World) (hv : (v.length : Int) ≤ 140737488351232) (A : List UInt8) (hA : (A.length : Int) ≤ 1048588) (hP : ∀ w, Calls Try.prog 10 #[.string ⟨s.toArray⟩] w (R2 w (.string ⟨A.toArray⟩) .nilIface)) (hT : ∀ w, Calls Try.prog 15 #[.string ⟨(A ++ v).toArray⟩] w (R3 w (.string ⟨s.toArray⟩) (.string ⟨v.toArray⟩) .nilIface)) (b : List UInt8) (c : Int) (hU : ∀ w, Calls Try.prog 15 #[.string ⟨b.toArray⟩] w (R3 w (.string ⟨#[]⟩) (.string ⟨#[]⟩) (.iface 49 (.int .i64 c)))) :
    Calls Try.prog 5 #[.string ⟨s.toArray⟩, .string ⟨v.toArray⟩, .string ⟨b.toArray⟩] w fun e w' => e = .returned (.bool true) ∧ Below w.heap.size w w' := by
  have HP := Lib.hid hP; clear hP
  have HT := Lib.hid hT; clear hT
  have HU := Lib.hid hU; clear hU
  go_enter Try.func5, Try.ntmps5
  go_wp2_with fail
  refine (examples_any _).mono ?_
  rintro e w1 ⟨rfl, b1⟩
  go_wp2_with fail
  refine (HP.out _).mono ?_
  rintro e w2 ⟨rfl, c2⟩
  have b2 := belowT b1 c2
  clear b1 c2
  go_wp2_with fail
  refine (HT.out _).mono ?_
  rintro e w3 ⟨rfl, c3⟩
  have b3 := belowT b2 c3
  clear b2 c3
  go_wp2_with fail
  refine (HU.out _).mono ?_
  rintro e w4 ⟨rfl, c4⟩
  have b4 := belowT b3 c4
  clear b3 c4
  go_wp2
  go_ret
  exact ⟨rfl, b4⟩

set_option maxHeartbeats 1000000 in
theorem back3_01 (s v : List UInt8) (w : World) (hP : ∀ w, Calls Try.prog 10 #[.string ⟨s.toArray⟩] w (R2 w (.string ⟨#[]⟩) (.iface 49 (.int .i64 5)))) (u F l : List UInt8) (hF : (F.length : Int) ≤ 1048588) (hl : (l.length : Int) ≤ 140737488351232) (hU : ∀ w, Calls Try.prog 15 #[.string ⟨(F ++ l).toArray⟩] w (R3 w (.string ⟨u.toArray⟩) (.string ⟨l.toArray⟩) .nilIface)) (hQ : ∀ w, Calls Try.prog 10 #[.string ⟨u.toArray⟩] w (R2 w (.string ⟨F.toArray⟩) .nilIface)) :
    Calls Try.prog 5 #[.string ⟨s.toArray⟩, .string ⟨v.toArray⟩, .string ⟨(F ++ l).toArray⟩] w fun e w' => e = .returned (.bool true) ∧ Below w.heap.size w w' := by
  have HP := Lib.hid hP; clear hP
  have HU := Lib.hid hU; clear hU
  have HQ := Lib.hid hQ; clear hQ
  go_enter Try.func5, Try.ntmps5
  go_wp2_with fail
  refine (examples_any _).mono ?_
  rintro e w1 ⟨rfl, b1⟩
  go_wp2_with fail
  refine (HP.out _).mono ?_
  rintro e w2 ⟨rfl, c2⟩
  have b2 := belowT b1 c2
  clear b1 c2
  go_wp2_with fail
  refine (HU.out _).mono ?_
  rintro e w3 ⟨rfl, c3⟩
  have b3 := belowT b2 c3
  clear b2 c3
  go_wp2_with fail
  refine (HQ.out _).mono ?_
  rintro e w4 ⟨rfl, c4⟩
  have b4 := belowT b3 c4
  clear b3 c4
  go_wp2
  go_ret
  exact ⟨rfl, b4⟩

set_option maxHeartbeats 1000000 in
theorem back3_00 (s v : List UInt8) (w : World) (hP : ∀ w, Calls Try.prog 10 #[.string ⟨s.toArray⟩] w (R2 w (.string ⟨#[]⟩) (.iface 49 (.int .i64 5)))) (b : List UInt8) (c : Int) (hU : ∀ w, Calls Try.prog 15 #[.string ⟨b.toArray⟩] w (R3 w (.string ⟨#[]⟩) (.string ⟨#[]⟩) (.iface 49 (.int .i64 c)))) :
    Calls Try.prog 5 #[.string ⟨s.toArray⟩, .string ⟨v.toArray⟩, .string ⟨b.toArray⟩] w fun e w' => e = .returned (.bool true) ∧ Below w.heap.size w w' := by
  have HP := Lib.hid hP; clear hP
  have HU := Lib.hid hU; clear hU
  go_enter Try.func5, Try.ntmps5
  go_wp2_with fail
  refine (examples_any _).mono ?_
  rintro e w1 ⟨rfl, b1⟩
  go_wp2_with fail
  refine (HP.out _).mono ?_
  rintro e w2 ⟨rfl, c2⟩
  have b2 := belowT b1 c2
  clear b1 c2
  go_wp2_with fail
  refine (HU.out _).mono ?_
  rintro e w3 ⟨rfl, c3⟩
  have b3 := belowT b2 c3
  clear b2 c3
  go_wp2
  go_ret
  exact ⟨rfl, b3⟩

theorem back3 (s v b : List UInt8) (w : World) (_hs : (s.length : Int) ≤ 140737488351232) (hv : (v.length : Int) ≤ 140737488351232) (hb : (b.length : Int) ≤ 140737488351232) :
    Calls Try.prog 5 #[.string ⟨s.toArray⟩, .string ⟨v.toArray⟩, .string ⟨b.toArray⟩] w fun e w' => e = .returned (.bool true) ∧ Below w.heap.size w w' := by
  have hP := fun w => fPut s w
  have hU := fun w => fTake b w (by unfold maxLen; omega)
  by_cases hc : (rdFrm b).2.2 = 0
  · obtain ⟨e, hm⟩ := rdFrm_back b hc
    have hQ := fun w => fPut (rdFrm b).1 w
    rw [hc, errV_zero] at hU
    have hl : ((rdFrm b).2.1.length : Int) ≤ 140737488351232 := by have := rdFrm_rest b; omega
    have hF := frmL_le (rdFrm b).1
    unfold encF at hQ
    rw [if_pos hm] at hQ
    generalize (rdFrm b).1 = u at *
    generalize (rdFrm b).2.1 = l at *
    subst e
    unfold encF at hP
    by_cases h : s.length ≤ MaxT
    · rw [if_pos h] at hP
      have hA := frmL_le s
      refine back3_11 s v w hv (frmL s) (by unfold MaxT at h; omega) hP ?_ u (frmL u) l (by unfold MaxT at hm; omega) hl hU hQ
      intro w
      have := fTake (frmL s ++ v) w (by rw [List.length_append]; unfold maxLen; unfold MaxT at h; omega)
      rw [rdFrm_frmL s v h] at this
      exact this
    · rw [if_neg h] at hP
      exact back3_01 s v w hP u (frmL u) l (by unfold MaxT at hm; omega) hl hU hQ
  · have he := rdFrm_err b hc
    obtain ⟨c, hc'⟩ : ∃ c, (rdFrm b).2.2 = c + 1 := ⟨_, (Nat.succ_pred_eq_of_ne_zero hc).symm⟩
    rw [he.1, he.2, hc', errV_succ] at hU
    unfold encF at hP
    by_cases h : s.length ≤ MaxT
    · rw [if_pos h] at hP
      have hA := frmL_le s
      refine back3_10 s v w hv (frmL s) (by unfold MaxT at h; omega) hP ?_ b _ hU
      intro w
      have := fTake (frmL s ++ v) w (by rw [List.length_append]; unfold maxLen; unfold MaxT at h; omega)
      rw [rdFrm_frmL s v h] at this
      exact this
    · rw [if_neg h] at hP
      exact back3_00 s v w hP b _ hU

end Go.Proofs.Ytaiklhcgimpajaa
