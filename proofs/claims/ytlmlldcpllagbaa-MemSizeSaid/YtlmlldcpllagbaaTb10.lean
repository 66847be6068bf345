/- Package mem: Right, Before, slices.Clone of numbers. -/
import Derived.Test.YtlmlldcpllagbaaRd10
import Derived.Test.YtlmlldcpllagbaaOpenI
import Derived.Sort.Walk0
namespace Go.Proofs.Ytlmlldcpllagbaa
open Go.RowKit Go.Proofs Go.Proofs.Pk
set_option maxRecDepth 10000
attribute [local simp] mk_get wrap64_u8 mk_extract ByteArray.mk_append_mk get_1k

set_option maxHeartbeats 2000000 in
theorem rightP (e : MEnt) (w : World) : Calls Try.prog 12 #[.agg (entC e).toArray] w fun r w' => r = .returned (.bool (rightM e)) ∧ Kept (fun _ => False) w w' := by
  obtain ⟨k, s, d, v⟩ := e
  obtain ⟨r, hr⟩ : ∃ r, Hid (r = rightM (k, s, d, v)) := ⟨_, rfl⟩
  rw [← hr.out]
  have HR : Hid (r = true ↔ k ≠ [] ∧ k.length ≤ 80 ∧ v.length ≤ 300 ∧ 1 ≤ s ∧ s ≤ 9007199254740991 ∧ (d = true → v = [])) := by show _ ↔ _; rw [hr.out]; unfold rightM; rw [decide_eq_true_eq]
  clear hr
  show Calls Try.prog 12 #[.agg #[.string ⟨k.toArray⟩, .int .i64 s, .bool d, .string ⟨v.toArray⟩]] w _
  have HK : Hid (Kept (fun _ => False) w (w.alloc (.cells #[.string ⟨k.toArray⟩, .int .i64 s, .bool d, .string ⟨v.toArray⟩] 34))) := (Kept.refl _ w).alloc _
  by_cases h1 : (k.length : Int) < 1
  · have e : r = false := by cases hh : r with | false => rfl | true => exact absurd (List.length_eq_zero_iff.1 (by omega)) (HR.out.1 hh).1
    clear HR
    subst e
    go_enter Try.func12, Try.ntmps12
    go_wp2
    go_ret
    exact ⟨rfl, HK.out⟩
  have h1n : k ≠ [] := fun hn => h1 (by rw [hn]; decide)
  by_cases h2 : (80 : Int) < (k.length : Int)
  · have e : r = false := by cases hh : r with | false => rfl | true => exact absurd (HR.out.1 hh).2.1 (by omega)
    clear HR
    subst e
    go_enter Try.func12, Try.ntmps12
    go_wp2
    go_ret
    exact ⟨rfl, HK.out⟩
  by_cases h4 : s < 1
  · have e : r = false := by cases hh : r with | false => rfl | true => exact absurd (HR.out.1 hh).2.2.2.1 (by omega)
    clear HR
    subst e
    go_enter Try.func12, Try.ntmps12
    go_wp2
    go_ret
    exact ⟨rfl, HK.out⟩
  by_cases h5 : 9007199254740991 < s
  · have e : r = false := by cases hh : r with | false => rfl | true => exact absurd (HR.out.1 hh).2.2.2.2.1 (by omega)
    clear HR
    subst e
    go_enter Try.func12, Try.ntmps12
    go_wp2
    go_ret
    exact ⟨rfl, HK.out⟩
  cases d with
  | true =>
    by_cases h6 : v = []
    · have e : r = true := HR.out.2 ⟨h1n, by omega, by rw [h6]; simp, by omega, by omega, fun _ => h6⟩
      clear HR
      subst e
      subst h6
      clear h1n
      go_enter Try.func12, Try.ntmps12
      go_wp2
      go_ret
      exact ⟨rfl, HK.out⟩
    · have hb6 : (v == []) = false := by simpa using h6
      have e : r = false := by cases hh : r with | false => rfl | true => exact absurd ((HR.out.1 hh).2.2.2.2.2 rfl) h6
      clear HR
      subst e
      clear h6 h1n
      go_enter Try.func12, Try.ntmps12
      go_wp2
      go_ret
      exact ⟨rfl, HK.out⟩
  | false =>
    by_cases h6 : (v.length : Int) ≤ 300
    · have e : r = true := HR.out.2 ⟨h1n, by omega, by omega, by omega, by omega, fun hf => by cases hf⟩
      clear HR
      subst e
      clear h1n
      go_enter Try.func12, Try.ntmps12
      go_wp2
      go_ret
      exact ⟨rfl, HK.out⟩
    · have e : r = false := by cases hh : r with | false => rfl | true => exact absurd (HR.out.1 hh).2.2.1 (by omega)
      clear HR
      subst e
      clear h1n
      go_enter Try.func12, Try.ntmps12
      go_wp2
      go_ret
      exact ⟨rfl, HK.out⟩

set_option maxHeartbeats 2000000 in
theorem beforeM (a b : MEnt) (w : World) : Calls Try.prog 14 #[.agg (entC a).toArray, .agg (entC b).toArray] w fun r w' => r = .returned (.bool (befM a b)) ∧ Kept (fun _ => False) w w' := by
  obtain ⟨k, s, d, v⟩ := a
  obtain ⟨k2, s2, d2, v2⟩ := b
  show Calls Try.prog 14 #[.agg #[.string ⟨k.toArray⟩, .int .i64 s, .bool d, .string ⟨v.toArray⟩], .agg #[.string ⟨k2.toArray⟩, .int .i64 s2, .bool d2, .string ⟨v2.toArray⟩]] w _
  have HK : Hid (Kept (fun _ => False) w ((w.alloc (.cells #[.string ⟨k.toArray⟩, .int .i64 s, .bool d, .string ⟨v.toArray⟩] 34)).alloc (.cells #[.string ⟨k2.toArray⟩, .int .i64 s2, .bool d2, .string ⟨v2.toArray⟩] 34))) := ((Kept.refl _ w).alloc _).alloc _
  unfold befM
  by_cases h1 : k = k2
  · subst h1
    rw [if_pos rfl]
    go_enter Try.func14, Try.ntmps14
    go_wp2
    go_ret
    exact ⟨rfl, HK.out⟩
  · have hb : (k == k2) = false := by simpa using h1
    rw [if_neg h1, ← bytesLess_eq]
    go_enter Try.func14, Try.ntmps14
    go_wp2
    go_ret
    exact ⟨rfl, HK.out⟩

theorem infoI : (Try.prog.info? 3).map (fun i => (i.zero, i.size, i.bytes)) = some (some (.int .i64 0), 1, 8) := by kernel_rfl
def intV (n : Int) : Value := .int .i64 n
theorem notNil (a : Addr) (n cap : Nat) (w : World) : (binOp .eql 22 (.slice (some a) n cap) (.slice none 0 0)).run Try.prog w = .ok (.bool false) w := by kernel_rfl
set_option maxHeartbeats 2000000 in
theorem cloneI (b off n cap : Nat) (hs : List Int) (w : World) (hl : hs.length = n) (hn : 0 < n) (h8 : (n : Int) * 8 ≤ 140737488351232) (hc : ∀ i (h : i < hs.length), w.cell? ⟨b, off + i, none⟩ = some (.int .i64 hs[i])) (hbw : b < w.heap.size) :
    Calls Try.prog 25 #[.slice (some ⟨b, off, none⟩) n cap] w fun e w' => ∃ v, e = .returned v ∧ w'.ownsRow w.heap.size 3 1 v n (hs.map intV) ∧ Kept (fun _ => False) w w' := by
  obtain ⟨i0, hi, hz0, hz1, hz2⟩ := info_parts infoI
  have HC := Lib.hid (And.intro hl hc)
  have hnn := notNil ⟨b, off, none⟩ n cap w
  clear hc
  go_enter Try.func25, Try.ntmps25
  go_upto_region 3 with (fail)
  have HN := World.ownsRow_lit (e := 3) (base := w.heap.size) (size := 1) w #[] 0 (Nat.le_refl _) (by unfold maxLen; omega) rfl
  go_wp2_with (at_builtin; refine wpList_append_own _ rfl (.tmp 5) (.tmp 6) 22 rfl w.heap.size 3 i0 (.int .i64 0) 1 8 Try.underlying22 hi hz0 hz1 hz2 rfl (by decide) _ 0 [] rfl HN ⟨b, off, none⟩ n cap (hs.map intV) rfl (by rw [List.length_map, HC.out.1]; simp) ?d1 ?d2 ?d3 ?d4 ?d5 ?_)
  case d1 =>
    intro j u hj
    obtain ⟨hjl, hu⟩ := List.getElem?_eq_some_iff.1 hj
    rw [← hu]
    exact HC.out.2 j hjl
  case d2 =>
    intro u hu
    rfl
  case d3 => unfold maxLen; omega
  case d4 => omega
  intro v' w2 hown hgr _
  have HK : Hid (Kept (fun _ => False) w w2) := kept_grown ((Kept.refl _ w).alloc _) hgr (fun b hb => .inr (HN.lt b hb).1)
  have HO : Hid (w2.ownsRow w.heap.size 3 1 v' n (hs.map intV)) := by
    show World.ownsRow _ _ _ _ _ _ _
    exact hown
  clear hown hgr
  go_wp2
  go_ret
  exact ⟨v', rfl, HO.out, HK.out⟩

end Go.Proofs.Ytlmlldcpllagbaa
