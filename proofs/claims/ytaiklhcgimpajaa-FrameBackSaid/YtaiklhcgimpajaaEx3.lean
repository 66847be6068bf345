/- The examples of chapter 3 come out as they stand. -/
import Derived.Test.YtaiklhcgimpajaaFr
import Derived.Test.YtaiklhcgimpajaaIs3
namespace Go.Proofs.Ytaiklhcgimpajaa
open Go.RowKit Go.Proofs Go.Proofs.Pk
set_option maxRecDepth 10000
attribute [local simp] mk_get wrap64_u8 mk_extract ByteArray.mk_append_mk get_1k

theorem frm_nil : encF [] = ([0, 0, 0, 0, 0], 0) := by decide +kernel
theorem frm_ab : encF [97, 98] = ([1, 2, 97, 98, 226, 162, 41, 54], 0) := by decide +kernel
theorem rd_short : rdFrm [1, 2, 97, 98, 226, 162, 41] = ([], [], 2) := by decide +kernel
theorem rd_other : rdFrm [1, 2, 97, 98, 226, 162, 41, 63] = ([], [], 4) := by decide +kernel
theorem crc_19 : crcSum [49, 50, 51, 52, 53, 54, 55, 56, 57] = 3808858755 := by decide +kernel

theorem fx1 (w : World) : Calls Try.prog 10 #[.string ⟨#[]⟩] w (R2 w (.string ⟨#[0, 0, 0, 0, 0]⟩) .nilIface) := by
  have := fPut [] w; rw [frm_nil] at this; exact this
theorem fx2 (w : World) : Calls Try.prog 10 #[.string ⟨#[97, 98]⟩] w (R2 w (.string ⟨#[1, 2, 97, 98, 226, 162, 41, 54]⟩) .nilIface) := by
  have := fPut [97, 98] w; rw [frm_ab] at this; exact this
theorem fx3 (w : World) : Calls Try.prog 15 #[.string ⟨#[1, 2, 97, 98, 226, 162, 41]⟩] w (R3 w (.string ⟨#[]⟩) (.string ⟨#[]⟩) (.iface 49 (.int .i64 2))) := by
  have := fTake [1, 2, 97, 98, 226, 162, 41] w (by decide); rw [rd_short] at this; exact this
theorem fx4 (w : World) : Calls Try.prog 15 #[.string ⟨#[1, 2, 97, 98, 226, 162, 41, 63]⟩] w (R3 w (.string ⟨#[]⟩) (.string ⟨#[]⟩) (.iface 49 (.int .i64 4))) := by
  have := fTake [1, 2, 97, 98, 226, 162, 41, 63] w (by decide); rw [rd_other] at this; exact this
theorem fx5 (w : World) : Calls Try.prog 12 #[.string ⟨#[49, 50, 51, 52, 53, 54, 55, 56, 57]⟩] w fun e w' => e = .returned (.int .u32 3808858755) ∧ Below w.heap.size w w' := by
  have := fSum [49, 50, 51, 52, 53, 54, 55, 56, 57] w (by decide); rw [crc_19] at this; exact this

theorem is22 (w : World) : Calls Try.prog 14 #[.iface 49 (.int .i64 2), .int .i64 2] w fun e w' => e = .returned (.bool true) ∧ w = w' := is_any 2 2 w
theorem is44 (w : World) : Calls Try.prog 14 #[.iface 49 (.int .i64 4), .int .i64 4] w fun e w' => e = .returned (.bool true) ∧ w = w' := is_any 4 4 w

set_option maxHeartbeats 1000000 in
/-- The chapter's examples come out as they stand. -/
theorem examples_any (w : World) : Calls Try.prog 9 #[] w fun e w' => e = .returned (.bool true) ∧ Below w.heap.size w w' := by
  go_enter Try.func9, Try.ntmps9
  go_wp2_with fail
  refine (fx1 _).mono ?_
  rintro e w1 ⟨rfl, b1⟩
  go_wp2_with fail
  refine (fx2 _).mono ?_
  rintro e w2 ⟨rfl, c2⟩
  have b2 := belowT b1 c2
  clear b1 c2
  go_wp2_with fail
  refine (fx3 _).mono ?_
  rintro e w3 ⟨rfl, c3⟩
  have b3 := belowT b2 c3
  clear b2 c3
  go_wp2_with fail
  refine (fx4 _).mono ?_
  rintro e w4 ⟨rfl, c4⟩
  have b4 := belowT b3 c4
  clear b3 c4
  go_wp2_with fail
  refine (is22 _).mono ?_
  rintro e w5 ⟨rfl, rfl⟩
  go_wp2_with fail
  refine (is44 _).mono ?_
  rintro e w5 ⟨rfl, rfl⟩
  go_wp2_with fail
  refine (fx5 _).mono ?_
  rintro e w5 ⟨rfl, c5⟩
  go_wp2
  go_ret
  exact ⟨rfl, belowT b4 c5⟩

end Go.Proofs.Ytaiklhcgimpajaa
