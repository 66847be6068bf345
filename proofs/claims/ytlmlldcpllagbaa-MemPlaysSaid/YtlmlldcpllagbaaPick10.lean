/- The law's own pick (layer 10). -/
import Derived.Test.YtlmlldcpllagbaaOpenE
import Derived.Test.YtlmlldcpllagbaaAppend
import Derived.IntWalk
import Derived.BigQuiet
namespace Go.Proofs.Ytlmlldcpllagbaa
open Go.RowKit Go.Proofs Go.Proofs.Pk
set_option maxRecDepth 10000
attribute [local simp] mk_get wrap64_u8 mk_extract ByteArray.mk_append_mk get_1k

def pickM (c : Int) (n : Nat) : Nat := if c < 0 then (-(c + 1)).toNat % n else c.toNat % n
theorem pickM_lt (c : Int) {n : Nat} (h : 0 < n) : pickM c n < n := by unfold pickM; split <;> exact Nat.mod_lt _ h

set_option maxHeartbeats 400000 in
theorem pick_any (c : Int) (n : Nat) (w : World) (hc : -9223372036854775808 ≤ c ∧ c ≤ 9223372036854775807) (h0 : 0 < n) (h1 : n ≤ 5000) :
    Calls Try.prog 33 #[.int .i64 c, .int .i64 (n : Int)] w fun e w' => e = .returned (.int .i64 (pickM c n : Int)) ∧ w = w' := by
  have hn0 : ¬n = 0 := by omega
  by_cases hneg : c < 0
  · obtain ⟨m, hm⟩ : ∃ m : Nat, m = (-(c + 1)).toNat := ⟨_, rfl⟩
    have hm' : -(c + 1) = (m : Int) := by omega
    have hp : pickM c n = m % n := by unfold pickM; rw [if_pos hneg, ← hm]
    have hw1 : IntKind.i64.wrap (c + 1) = c + 1 := IntWalk.i64_in _ (by omega)
    have hw2 : IntKind.i64.wrap (m : Int) = (m : Int) := IntWalk.i64_in _ (by omega)
    have ht : (m : Int).tmod (n : Int) = ((m % n : Nat) : Int) := by rw [Int.tmod_eq_emod_of_nonneg (by omega)]; rfl
    have hlt := Nat.mod_lt m h0
    have hw3 : IntKind.i64.wrap ((m % n : Nat) : Int) = ((m % n : Nat) : Int) := IntWalk.i64_in _ (by omega)
    rw [hp]
    obtain ⟨r, hr⟩ : ∃ r, r = m % n := ⟨_, rfl⟩
    rw [← hr] at ht hw3 ⊢
    clear hlt hp hr hm hc h0 h1
    go_enter Try.func33, Try.ntmps33
    go_wp2
    go_ret
    exact ⟨rfl, rfl⟩
  · obtain ⟨m, rfl⟩ := Int.eq_ofNat_of_zero_le (show 0 ≤ c by omega)
    have hp : pickM (m : Int) n = m % n := by unfold pickM; rw [if_neg hneg]; simp
    have ht : (m : Int).tmod (n : Int) = ((m % n : Nat) : Int) := by rw [Int.tmod_eq_emod_of_nonneg (by omega)]; rfl
    have hlt := Nat.mod_lt m h0
    have hw3 : IntKind.i64.wrap ((m % n : Nat) : Int) = ((m % n : Nat) : Int) := IntWalk.i64_in _ (by omega)
    have hd : decide ((m : Int) < 0) = false := by rw [decide_eq_false_iff_not]; omega
    rw [hp]
    obtain ⟨r, hr⟩ : ∃ r, r = m % n := ⟨_, rfl⟩
    rw [← hr] at ht hw3 ⊢
    clear hlt hp hr hc h0 h1 hneg
    go_enter Try.func33, Try.ntmps33
    go_wp2
    go_ret
    exact ⟨rfl, rfl⟩

end Go.Proofs.Ytlmlldcpllagbaa
