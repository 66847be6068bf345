/- RbP. -/
import Derived.Test.YthkejfhcdodggaaJ09
import Derived.Test.YthkejfhcdodggaaJ03
import Derived.Sort.Walk0

/- Package mem: Right, Before. -/
namespace Go.Proofs.Ythkejfhcdodggaa
open Go.RowKit Go.Proofs Go.Proofs.Pk
set_option maxRecDepth 10000
attribute [local simp] mk_get wrap64_u8 mk_extract ByteArray.mk_append_mk get_1k

set_option maxHeartbeats 2000000 in
theorem rightP (e : MEnt) (w : World) : Calls Try.prog 33 #[.agg (entC e).toArray] w fun r w' => r = .returned (.bool (rightM e)) ∧ Kept (fun _ => False) w w' := by
  obtain ⟨k, s, d, v⟩ := e
  obtain ⟨r, hr⟩ : ∃ r, Hid (r = rightM (k, s, d, v)) := ⟨_, rfl⟩
  rw [← hr.out]
  have HR : Hid (r = true ↔ k ≠ [] ∧ k.length ≤ 80 ∧ v.length ≤ 300 ∧ 1 ≤ s ∧ s ≤ 9007199254740991 ∧ (d = true → v = [])) := by show _ ↔ _; rw [hr.out]; unfold rightM; rw [decide_eq_true_eq]
  clear hr
  show Calls Try.prog 33 #[.agg #[.string ⟨k.toArray⟩, .int .i64 s, .bool d, .string ⟨v.toArray⟩]] w _
  have HK : Hid (Kept (fun _ => False) w (w.alloc (.cells #[.string ⟨k.toArray⟩, .int .i64 s, .bool d, .string ⟨v.toArray⟩] 34))) := (Kept.refl _ w).alloc _
  by_cases h1 : (k.length : Int) < 1
  · have e : r = false := by cases hh : r with | false => rfl | true => exact absurd (List.length_eq_zero_iff.1 (by omega)) (HR.out.1 hh).1
    clear HR
    subst e
    go_enter Try.func33, Try.ntmps33
    go_wp2
    go_ret
    exact ⟨rfl, HK.out⟩
  have h1n : k ≠ [] := fun hn => h1 (by rw [hn]; decide)
  by_cases h2 : (80 : Int) < (k.length : Int)
  · have e : r = false := by cases hh : r with | false => rfl | true => exact absurd (HR.out.1 hh).2.1 (by omega)
    clear HR
    subst e
    go_enter Try.func33, Try.ntmps33
    go_wp2
    go_ret
    exact ⟨rfl, HK.out⟩
  by_cases h4 : s < 1
  · have e : r = false := by cases hh : r with | false => rfl | true => exact absurd (HR.out.1 hh).2.2.2.1 (by omega)
    clear HR
    subst e
    go_enter Try.func33, Try.ntmps33
    go_wp2
    go_ret
    exact ⟨rfl, HK.out⟩
  by_cases h5 : 9007199254740991 < s
  · have e : r = false := by cases hh : r with | false => rfl | true => exact absurd (HR.out.1 hh).2.2.2.2.1 (by omega)
    clear HR
    subst e
    go_enter Try.func33, Try.ntmps33
    go_wp2
    go_ret
    exact ⟨rfl, HK.out⟩
  cases d with
  | true =>
    by_cases h6 : v = []
    · have e : r = true := HR.out.2 ⟨h1n, by omega, by rw [h6]; simp, by omega, by omega, fun _ => h6⟩
      clear HR
      subst e
      subst h6
      clear h1n
      go_enter Try.func33, Try.ntmps33
      go_wp2
      go_ret
      exact ⟨rfl, HK.out⟩
    · have hb6 : (v == []) = false := by simpa using h6
      have e : r = false := by cases hh : r with | false => rfl | true => exact absurd ((HR.out.1 hh).2.2.2.2.2 rfl) h6
      clear HR
      subst e
      clear h6 h1n
      go_enter Try.func33, Try.ntmps33
      go_wp2
      go_ret
      exact ⟨rfl, HK.out⟩
  | false =>
    by_cases h6 : (v.length : Int) ≤ 300
    · have e : r = true := HR.out.2 ⟨h1n, by omega, by omega, by omega, by omega, fun hf => by cases hf⟩
      clear HR
      subst e
      clear h1n
      go_enter Try.func33, Try.ntmps33
      go_wp2
      go_ret
      exact ⟨rfl, HK.out⟩
    · have e : r = false := by cases hh : r with | false => rfl | true => exact absurd (HR.out.1 hh).2.2.1 (by omega)
      clear HR
      subst e
      clear h1n
      go_enter Try.func33, Try.ntmps33
      go_wp2
      go_ret
      exact ⟨rfl, HK.out⟩

set_option maxHeartbeats 2000000 in
theorem beforeM (a b : MEnt) (w : World) : Calls Try.prog 34 #[.agg (entC a).toArray, .agg (entC b).toArray] w fun r w' => r = .returned (.bool (befM a b)) ∧ Kept (fun _ => False) w w' := by
  obtain ⟨k, s, d, v⟩ := a
  obtain ⟨k2, s2, d2, v2⟩ := b
  show Calls Try.prog 34 #[.agg #[.string ⟨k.toArray⟩, .int .i64 s, .bool d, .string ⟨v.toArray⟩], .agg #[.string ⟨k2.toArray⟩, .int .i64 s2, .bool d2, .string ⟨v2.toArray⟩]] w _
  have HK : Hid (Kept (fun _ => False) w ((w.alloc (.cells #[.string ⟨k.toArray⟩, .int .i64 s, .bool d, .string ⟨v.toArray⟩] 34)).alloc (.cells #[.string ⟨k2.toArray⟩, .int .i64 s2, .bool d2, .string ⟨v2.toArray⟩] 34))) := ((Kept.refl _ w).alloc _).alloc _
  unfold befM
  by_cases h1 : k = k2
  · subst h1
    rw [if_pos rfl]
    go_enter Try.func34, Try.ntmps34
    go_wp2
    go_ret
    exact ⟨rfl, HK.out⟩
  · have hb : (k == k2) = false := by simpa using h1
    rw [if_neg h1, ← bytesLess_eq]
    go_enter Try.func34, Try.ntmps34
    go_wp2
    go_ret
    exact ⟨rfl, HK.out⟩

end Go.Proofs.Ythkejfhcdodggaa
