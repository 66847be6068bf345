/- The law FramePuts, walked. -/
import Derived.Test.YtaiklhcgimpajaaEx3
import Derived.Test.YtaiklhcgimpajaaRefF
namespace Go.Proofs.Ytaiklhcgimpajaa
open Go.RowKit Go.Proofs Go.Proofs.Pk
attribute [local simp] mk_get wrap64_u8 mk_extract ByteArray.mk_append_mk get_1k

theorem is55 (w : World) : Calls Try.prog 14 #[.iface 49 (.int .i64 5), .int .i64 5] w fun e w' => e = .returned (.bool true) ∧ w = w' := is_any 5 5 w

set_option maxHeartbeats 1000000 in
theorem puts_ok (s F : List UInt8) (c : Nat) (w : World) (hP : ∀ w, Calls Try.prog 10 #[.string ⟨s.toArray⟩] w (R2 w (.string ⟨F.toArray⟩) .nilIface))
    (hQ : ∀ w, Calls Try.prog 11 #[.string ⟨s.toArray⟩] w (R2 w (.string ⟨F.toArray⟩) (.bool true)))
    (hS : ∀ w, Calls Try.prog 12 #[.string ⟨s.toArray⟩] w fun e w' => e = .returned (.int .u32 c) ∧ Below w.heap.size w w')
    (hT : ∀ w, Calls Try.prog 13 #[.string ⟨s.toArray⟩] w fun e w' => e = .returned (.int .u32 c) ∧ w = w') :
    Calls Try.prog 3 #[.string ⟨s.toArray⟩] w fun e w' => e = .returned (.bool true) ∧ Below w.heap.size w w' := by
  have HP := Lib.hid hP; clear hP
  have HQ := Lib.hid hQ; clear hQ
  have HS := Lib.hid hS; clear hS
  have HT := Lib.hid hT; clear hT
  go_enter Try.func3, Try.ntmps3
  go_wp2_with fail
  refine (examples_any _).mono ?_
  rintro e w1 ⟨rfl, b1⟩
  go_wp2_with fail
  refine (HP.out _).mono ?_
  rintro e w2 ⟨rfl, c2⟩
  have b2 := belowT b1 c2
  clear b1 c2
  go_wp2_with fail
  refine (HQ.out _).mono ?_
  rintro e w3 ⟨rfl, c3⟩
  have b3 := belowT b2 c3
  clear b2 c3
  go_wp2_with fail
  refine (HS.out _).mono ?_
  rintro e w4 ⟨rfl, c4⟩
  have b4 := belowT b3 c4
  clear b3 c4
  go_wp2_with fail
  refine (HT.out _).mono ?_
  rintro e w5 ⟨rfl, rfl⟩
  go_wp2
  go_ret
  exact ⟨rfl, b4⟩

set_option maxHeartbeats 1000000 in
theorem puts_no (s : List UInt8) (c : Nat) (w : World) (hP : ∀ w, Calls Try.prog 10 #[.string ⟨s.toArray⟩] w (R2 w (.string ⟨#[]⟩) (.iface 49 (.int .i64 5))))
    (hQ : ∀ w, Calls Try.prog 11 #[.string ⟨s.toArray⟩] w (R2 w (.string ⟨#[]⟩) (.bool false)))
    (hS : ∀ w, Calls Try.prog 12 #[.string ⟨s.toArray⟩] w fun e w' => e = .returned (.int .u32 c) ∧ Below w.heap.size w w')
    (hT : ∀ w, Calls Try.prog 13 #[.string ⟨s.toArray⟩] w fun e w' => e = .returned (.int .u32 c) ∧ w = w') :
    Calls Try.prog 3 #[.string ⟨s.toArray⟩] w fun e w' => e = .returned (.bool true) ∧ Below w.heap.size w w' := by
  have HP := Lib.hid hP; clear hP
  have HQ := Lib.hid hQ; clear hQ
  have HS := Lib.hid hS; clear hS
  have HT := Lib.hid hT; clear hT
  go_enter Try.func3, Try.ntmps3
  go_wp2_with fail
  refine (examples_any _).mono ?_
  rintro e w1 ⟨rfl, b1⟩
  go_wp2_with fail
  refine (HP.out _).mono ?_
  rintro e w2 ⟨rfl, c2⟩
  have b2 := belowT b1 c2
  clear b1 c2
  go_wp2_with fail
  refine (HQ.out _).mono ?_
  rintro e w3 ⟨rfl, c3⟩
  have b3 := belowT b2 c3
  clear b2 c3
  go_wp2_with fail
  refine (HS.out _).mono ?_
  rintro e w4 ⟨rfl, c4⟩
  have b4 := belowT b3 c4
  clear b3 c4
  go_wp2_with fail
  refine (HT.out _).mono ?_
  rintro e w5 ⟨rfl, rfl⟩
  go_wp2_with fail
  refine (is55 _).mono ?_
  rintro e w5 ⟨rfl, rfl⟩
  go_wp2
  go_ret
  exact ⟨rfl, b4⟩

theorem puts (s : List UInt8) (w : World) (hs : (s.length : Int) ≤ 140737488351232) :
    Calls Try.prog 3 #[.string ⟨s.toArray⟩] w fun e w' => e = .returned (.bool true) ∧ Below w.heap.size w w' := by
  have hP := fun w => fPut s w
  have hQ := fun w => rPut s w
  have hS := fun w => fSum s w (by omega)
  have hT := fun w => rSum s w (by omega)
  unfold encF at hP hQ
  by_cases h : s.length ≤ MaxT
  · rw [if_pos h] at hP hQ
    rw [decide_eq_true h] at hQ
    exact puts_ok s _ _ w hP hQ hS hT
  · rw [if_neg h] at hP hQ
    rw [decide_eq_false h] at hQ
    exact puts_no s _ w hP hQ hS hT

end Go.Proofs.Ytaiklhcgimpajaa
