/- The law's own question whether an error is a number of api (layer 18). -/
import Derived.Test.YtgjblcjoglaldaaProg
import Derived.Test.YtgjblcjoglaldaaBase
import Derived.Test.YtgjblcjoglaldaaGen
namespace Go.Proofs.Ytgjblcjoglaldaa
open Go.RowKit Go.Proofs Go.Proofs.Pk
attribute [local simp] mk_get wrap64_u8 mk_extract ByteArray.mk_append_mk get_1k

theorem assert_nil (w : World) : (Instr.typeAssert .nilIface 31 49 true).run Try.prog w = .ok (.tuple #[.int .i64 0, .bool false]) w := by kernel_rfl

theorem assert_err (c : Int) (w : World) : (Instr.typeAssert (.iface 49 (.int .i64 c)) 31 49 true).run Try.prog w = .ok (.tuple #[.int .i64 c, .bool true]) w := by kernel_rfl

set_option maxHeartbeats 400000 in
theorem is_00 (w : World) : Calls Try.prog 20 #[errV 49 0, .int .i64 0] w fun e w' => e = .returned (.bool true) ∧ w = w' := by
  simp only [errV, if_pos]
  go_enter Try.func20, Try.ntmps20
  go_wp2
  go_ret
  exact ⟨rfl, rfl⟩

set_option maxHeartbeats 400000 in
theorem is_0k (k : Nat) (w : World) (hk : ((k : Int) == 0) = false) : Calls Try.prog 20 #[errV 49 0, .int .i64 k] w fun e w' => e = .returned (.bool false) ∧ w = w' := by
  simp only [errV, if_pos]
  have ha := assert_nil
  have hb := assert_err
  go_enter Try.func20, Try.ntmps20
  go_wp2
  go_ret
  exact ⟨rfl, rfl⟩

set_option maxHeartbeats 400000 in
theorem is_c0 (c : Nat) (w : World) (hc : c ≠ 0) : Calls Try.prog 20 #[errV 49 c, .int .i64 0] w fun e w' => e = .returned (.bool false) ∧ w = w' := by
  rw [errV, if_neg hc]
  clear hc
  have ha := assert_nil
  have hb := assert_err
  go_enter Try.func20, Try.ntmps20
  go_wp2
  go_ret
  exact ⟨rfl, rfl⟩

set_option maxHeartbeats 400000 in
theorem is_ck (c k : Nat) (w : World) (hc : c ≠ 0) (hk : ((k : Int) == 0) = false) : Calls Try.prog 20 #[errV 49 c, .int .i64 k] w fun e w' => e = .returned (.bool (c == k)) ∧ w = w' := by
  rw [errV, if_neg hc]
  clear hc
  have ha := assert_nil
  have hb := assert_err
  go_enter Try.func20, Try.ntmps20
  go_wp2
  go_ret
  exact ⟨ret_bool (int_beq c k), rfl⟩

/-- Is an error the one of this number? -/
theorem is_any (c k : Nat) (w : World) : Calls Try.prog 20 #[errV 49 c, .int .i64 k] w fun e w' => e = .returned (.bool (c == k)) ∧ w = w' := by
  by_cases hc : c = 0
  · subst hc
    by_cases hk : k = 0
    · subst hk; exact is_00 w
    · have e : ((0 : Nat) == k) = false := by simpa using fun h => hk h.symm
      rw [e]; exact is_0k k w (by simpa using hk)
  · by_cases hk : k = 0
    · subst hk
      have e : (c == 0) = false := by simpa using hc
      rw [e]; exact is_c0 c w hc
    · exact is_ck c k w hc (by simpa using hk)

end Go.Proofs.Ytgjblcjoglaldaa
