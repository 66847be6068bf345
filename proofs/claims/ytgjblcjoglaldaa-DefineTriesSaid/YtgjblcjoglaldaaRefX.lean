/- The reference's Text: what it returns. -/
import Derived.Test.YtgjblcjoglaldaaRefN
namespace Go.Proofs.Ytgjblcjoglaldaa
open Go.RowKit Go.Proofs Go.Proofs.Pk
set_option maxRecDepth 10000
attribute [local simp] mk_get wrap64_u8 mk_extract ByteArray.mk_append_mk get_1k

set_option maxHeartbeats 400000 in
theorem rText_long (s : List UInt8) (w : World) (hs : 1048576 < (s.length : Int)) :
    Calls Try.prog 28 #[.string ⟨s.toArray⟩] w (R2 w (.string ⟨#[]⟩) (.bool false)) := by
  go_enter Try.func28, Try.ntmps28
  go_wp2
  go_ret2
  exact R2.mk rfl rfl (Below.refl _ _)

set_option maxHeartbeats 400000 in
theorem rText_ok (s : List UInt8) (w : World) (hs : (s.length : Int) ≤ 1048576) :
    Calls Try.prog 28 #[.string ⟨s.toArray⟩] w (R2 w (.string ⟨(txtL s).toArray⟩) (.bool true)) := by
  have HN := Lib.hid (fun w => rNum_ok s.length w (by unfold MaxN; omega))
  have hl := numL_len_le s.length
  have HT : Hid (txtL s = numL s.length ++ s) := rfl
  generalize numL s.length = A at *
  go_enter Try.func28, Try.ntmps28
  go_wp2_with fail
  refine (HN.out _).mono ?_
  rintro e w1 ⟨rfl, b1⟩
  go_wp2
  go_ret2
  exact R2.mk (by rw [HT.out]; rfl) rfl b1

end Go.Proofs.Ytgjblcjoglaldaa
