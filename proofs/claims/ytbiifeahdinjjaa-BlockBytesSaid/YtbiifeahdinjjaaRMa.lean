/- The reference of layer 10: Right, Before. -/
import Derived.Test.YtbiifeahdinjjaaOpenE
import Derived.Test.YtbiifeahdinjjaaAppend
import Derived.Test.YtbiifeahdinjjaaMid
import Derived.Sort.Walk0
import Derived.BigQuiet
namespace Go.Proofs.Ytbiifeahdinjjaa
open Go.RowKit Go.Proofs Go.Proofs.Pk
set_option maxRecDepth 10000
attribute [local simp] mk_get wrap64_u8 mk_extract ByteArray.mk_append_mk get_1k

set_option maxHeartbeats 2000000 in
theorem rRight (e : MEnt) (w : World) : Calls Try.prog 35 #[.agg (entC e).toArray] w fun r w' => r = .returned (.bool (rightM e)) ∧ w' = w.alloc (.cells (entC e).toArray 37) := by
  obtain ⟨k, s, d, v⟩ := e
  obtain ⟨r, hr⟩ : ∃ r, Hid (r = rightM (k, s, d, v)) := ⟨_, rfl⟩
  rw [← hr.out]
  have HR : Hid (r = true ↔ k ≠ [] ∧ k.length ≤ 80 ∧ v.length ≤ 300 ∧ 1 ≤ s ∧ s ≤ 9007199254740991 ∧ (d = true → v = [])) := by show _ ↔ _; rw [hr.out]; unfold rightM; rw [decide_eq_true_eq]
  clear hr
  unfold entC
  by_cases h1 : k = []
  · have e : r = false := by cases hh : r with | false => rfl | true => exact absurd h1 (HR.out.1 hh).1
    clear HR
    subst e h1
    go_enter Try.func35, Try.ntmps35
    go_wp2
    go_ret
    exact ⟨rfl, rfl⟩
  have hb1 : (k == []) = false := by simpa using h1
  by_cases h2 : (k.length : Int) ≤ 80
  case neg =>
    have e : r = false := by cases hh : r with | false => rfl | true => exact absurd (HR.out.1 hh).2.1 (by omega)
    clear HR
    subst e
    go_enter Try.func35, Try.ntmps35
    go_wp2
    go_ret
    exact ⟨rfl, rfl⟩
  by_cases h3 : (v.length : Int) ≤ 300
  case neg =>
    have e : r = false := by cases hh : r with | false => rfl | true => exact absurd (HR.out.1 hh).2.2.1 (by omega)
    clear HR
    subst e
    go_enter Try.func35, Try.ntmps35
    go_wp2
    go_ret
    exact ⟨rfl, rfl⟩
  by_cases h4 : 1 ≤ s
  case neg =>
    have e : r = false := by cases hh : r with | false => rfl | true => exact absurd (HR.out.1 hh).2.2.2.1 h4
    clear HR
    subst e
    go_enter Try.func35, Try.ntmps35
    go_wp2
    go_ret
    exact ⟨rfl, rfl⟩
  by_cases h5 : s ≤ 9007199254740991
  case neg =>
    have e : r = false := by cases hh : r with | false => rfl | true => exact absurd (HR.out.1 hh).2.2.2.2.1 h5
    clear HR
    subst e
    go_enter Try.func35, Try.ntmps35
    go_wp2
    go_ret
    exact ⟨rfl, rfl⟩
  cases d with
  | false =>
    have e : r = true := HR.out.2 ⟨h1, by omega, by omega, h4, h5, fun h => by cases h⟩
    clear HR
    subst e
    go_enter Try.func35, Try.ntmps35
    go_wp2
    go_ret
    exact ⟨rfl, rfl⟩
  | true =>
    by_cases h6 : v = []
    · have e : r = true := HR.out.2 ⟨h1, by omega, by omega, h4, h5, fun _ => h6⟩
      clear HR
      subst e h6
      go_enter Try.func35, Try.ntmps35
      go_wp2
      go_ret
      exact ⟨rfl, rfl⟩
    · have e : r = false := by cases hh : r with | false => rfl | true => exact absurd ((HR.out.1 hh).2.2.2.2.2 rfl) h6
      have hb6 : (v == []) = false := by simpa using h6
      clear HR
      subst e
      go_enter Try.func35, Try.ntmps35
      go_wp2
      go_ret
      exact ⟨rfl, rfl⟩

set_option maxHeartbeats 2000000 in
theorem rBefore (a b : MEnt) (w : World) : Calls Try.prog 36 #[.agg (entC a).toArray, .agg (entC b).toArray] w fun r w' => r = .returned (.bool (befM a b)) ∧ w' = (w.alloc (.cells (entC a).toArray 37)).alloc (.cells (entC b).toArray 37) := by
  obtain ⟨k, s, d, v⟩ := a
  obtain ⟨k2, s2, d2, v2⟩ := b
  unfold entC befM
  by_cases h1 : k = k2
  · subst h1
    rw [if_pos rfl]
    go_enter Try.func36, Try.ntmps36
    go_wp2
    go_ret
    exact ⟨rfl, rfl⟩
  · have hb : (k == k2) = false := by simpa using h1
    rw [if_neg h1, ← bytesLess_eq]
    go_enter Try.func36, Try.ntmps36
    go_wp2
    go_ret
    exact ⟨rfl, rfl⟩

end Go.Proofs.Ytbiifeahdinjjaa
