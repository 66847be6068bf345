/- The writers of package pack: how many bytes a number and a text have. -/
import Derived.Test.YtgjblcjoglaldaaWriN
namespace Go.Proofs.Ytgjblcjoglaldaa
open Go.RowKit Go.Proofs Go.Proofs.Pk
set_option maxRecDepth 10000
attribute [local simp] mk_get wrap64_u8 mk_extract ByteArray.mk_append_mk get_1k

set_option maxHeartbeats 400000 in
theorem numSize (n : Nat) (w : World) (hn : n ≤ MaxN) :
    Calls Try.prog 43 #[.int .i64 n] w fun e w' => e = .returned (.int .i64 (nb n + 1 : Nat)) ∧ w = w' := by
  have h7 := nb_le n
  have hm : (n : Int) ≤ 9007199254740991 := by unfold MaxN at hn; omega
  go_enter Try.func43, Try.ntmps43
  go_wp2_with fail
  refine (numBytes _ _ (by unfold MaxN; omega)).mono ?_
  rintro e w' ⟨rfl, rfl⟩
  go_wp2
  go_ret
  exact ⟨ret_int (by omega), rfl⟩

set_option maxHeartbeats 400000 in
theorem textSize (s : List UInt8) (w : World) (hs : (s.length : Int) ≤ 140737488355328) :
    Calls Try.prog 36 #[.string ⟨s.toArray⟩] w fun e w' => e = .returned (.int .i64 (txtL s).length) ∧ w = w' := by
  have h7 := nb_le s.length
  have HL := Lib.hid (txtL_length s)
  go_enter Try.func36, Try.ntmps36
  go_wp2_with fail
  refine (numSize s.length _ (by unfold MaxN; omega)).mono ?_
  rintro e w' ⟨rfl, rfl⟩
  go_wp2
  go_ret
  exact ⟨ret_int (by rw [HL.out]; omega), rfl⟩

end Go.Proofs.Ytgjblcjoglaldaa
