/- errors.Is of a number of api: Go's own text, walked. -/
import Derived.Test.YtaiklhcgimpajaaRead
import Derived.Test.YtaiklhcgimpajaaProg
import Derived.Stop.Asserts
import Derived.LaidEql
namespace Go.Proofs.Ytaiklhcgimpajaa
open Go.RowKit Go.Proofs Go.Proofs.Pk Go.Extern.Stop Go.Stop Go.Extern
set_option maxRecDepth 10000
attribute [local simp] mk_get wrap64_u8 mk_extract ByteArray.mk_append_mk

theorem isTypeOf (v : Value) (w : World) : (Extern.ReflectliteType.typeOf #[.iface 49 v]).run Try.prog w = .ok (.iface 78 (.agg #[.pointer (some ⟨1, 49, none⟩)])) w := by kernel_rfl
def isCmp : Array Value → Sem Value := Extern.ReflectliteType.method fun t => do Extern.Rtype.noPackHeld "Comparable" t; pure (.bool (← typeInfo t).comparable)
theorem isComparable (w : World) : (isCmp #[.agg #[.pointer (some ⟨1, 49, none⟩)]]).run Try.prog w = .ok (.bool true) w := by kernel_rfl
theorem isEql (a b : Int) (w : World) : (binOp .eql 24 (.iface 49 (.int .i64 a)) (.iface 49 (.int .i64 b))).run Try.prog w = .ok (.bool (a == b)) w := by kernel_rfl
theorem isNoIs (v : Value) (xT : TypeId) (w : World) : (Instr.typeAssert (.iface 49 v) xT 80 true).run Try.prog w = .ok (.tuple #[.nilIface, .bool false]) w := run_typeAssert_lacksB Try.underlying80 (by kernel_rfl) (by kernel_rfl) v xT w
theorem isNoUnwrap (v : Value) (xT : TypeId) (w : World) : (Instr.typeAssert (.iface 49 v) xT 83 true).run Try.prog w = .ok (.tuple #[.nilIface, .bool false]) w := run_typeAssert_lacksB Try.underlying83 (by kernel_rfl) (by kernel_rfl) v xT w
theorem isNoUnwraps (v : Value) (xT : TypeId) (w : World) : (Instr.typeAssert (.iface 49 v) xT 85 true).run Try.prog w = .ok (.tuple #[.nilIface, .bool false]) w := run_typeAssert_lacksB Try.underlying85 (by kernel_rfl) (by kernel_rfl) v xT w
theorem isMethod (v : Value) (w : World) : (Go.method 226 78 v "Comparable").run Try.prog w = .ok (72, v) w := by kernel_rfl

set_option maxHeartbeats 1000000 in
/-- errors.Is(a number, a number). -/
theorem is_num (a b : Int) (w : World) : Calls Try.prog 27 #[.iface 49 (.int .i64 a), .iface 49 (.int .i64 b)] w fun e w' => e = .returned (.bool (a == b)) ∧ w = w' := by
  have h8 := @run_callFunc_extern Try.prog 35 _ Extern.ReflectliteType.typeOf Try.func35 (by kernel_rfl) (by kernel_rfl) (by kernel_rfl) (by kernel_rfl)
  have h32 := @run_callFunc_extern Try.prog 72 _ isCmp Try.func72 (by kernel_rfl) (by kernel_rfl) (by kernel_rfl) (by kernel_rfl)
  have tT := isTypeOf
  have cT := isComparable
  have mR := isMethod
  have nE := isNoIs
  have uE := isNoUnwrap
  have vE := isNoUnwraps
  have heq := isEql a b w
  by_cases h : (a == b) = true
  · rw [h] at heq ⊢
    clear h
    go_enter Try.func27, Try.ntmps27
    go_wp2
    refine wp_loop_rounds 1 ?_
    rw [rounds_succ]
    go_wp2
    go_ret
    exact ⟨rfl, rfl⟩
  · have h' : (a == b) = false := by simpa using h
    rw [h'] at heq ⊢
    clear h h'
    go_enter Try.func27, Try.ntmps27
    go_wp2
    refine wp_loop_rounds 1 ?_
    rw [rounds_succ]
    go_wp2
    go_ret
    exact ⟨rfl, rfl⟩

set_option maxHeartbeats 400000 in
theorem is_none (b : Int) (w : World) : Calls Try.prog 27 #[.nilIface, .iface 49 (.int .i64 b)] w fun e w' => e = .returned (.bool false) ∧ w = w' := by
  have hn := run_eql_iface_nil_left (P := Try.prog) w 49 (.int .i64 b) Try.underlying24
  go_enter Try.func27, Try.ntmps27
  go_wp2
  go_ret
  exact ⟨rfl, rfl⟩

/-- errors.Is(no error or a number, a number). -/
theorem is_errs (c k : Nat) (w : World) (hk : k ≠ 0) : Calls Try.prog 27 #[errV 49 c, .iface 49 (.int .i64 k)] w fun e w' => e = .returned (.bool (c == k)) ∧ w = w' := by
  by_cases hc : c = 0
  · subst hc
    have e : ((0 : Nat) == k) = false := by simpa using fun h => hk h.symm
    rw [e]; exact is_none k w
  · rw [errV, if_neg hc]
    have := is_num c k w
    rw [int_beq] at this
    exact this

end Go.Proofs.Ytaiklhcgimpajaa
