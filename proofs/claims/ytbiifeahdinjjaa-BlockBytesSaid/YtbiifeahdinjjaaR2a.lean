/- The reference of layer 12: shared, num, text. -/
import Derived.Test.YtbiifeahdinjjaaRefX
import Derived.Test.YtbiifeahdinjjaaRMa
import Derived.Test.YtbiifeahdinjjaaBkM
import Derived.Sort.Walk0
import Derived.BigQuiet
namespace Go.Proofs.Ytbiifeahdinjjaa
open Go.RowKit Go.Proofs Go.Proofs.Pk
set_option maxRecDepth 10000
attribute [local simp] mk_get wrap64_u8 mk_extract ByteArray.mk_append_mk get_1k

/-- How the common beginning grows. -/
theorem lcp_at {a b : Txt} {j : Nat} (h : a.take j = b.take j) (ha : j ≤ a.length) (hb : j ≤ b.length) : lcpL a b = j + lcpL (a.drop j) (b.drop j) := by
  induction j generalizing a b with
  | zero => simp
  | succ j ih =>
    match a, b, ha, hb with
    | x :: a, y :: b, ha, hb =>
      simp only [List.take_succ_cons, List.cons.injEq] at h
      rw [List.drop_succ_cons, List.drop_succ_cons, lcpL, if_pos h.1, ih h.2 (by simpa using ha) (by simpa using hb)]
      omega
theorem lcp_end {a b : Txt} {j : Nat} (h : a.take j = b.take j) (ha : j ≤ a.length) (hb : j ≤ b.length) (he : a.length ≤ j ∨ b.length ≤ j ∨ ∃ (h1 : j < a.length) (h2 : j < b.length), a[j] ≠ b[j]) : lcpL a b = j := by
  rw [lcp_at h ha hb]
  rcases he with he | he | ⟨h1, h2, he⟩
  · rw [List.drop_eq_nil_of_le he]; simp [lcpL]
  · rw [List.drop_eq_nil_of_le he]; cases a.drop j <;> simp [lcpL]
  · rw [List.drop_eq_getElem_cons h1, List.drop_eq_getElem_cons h2, lcpL, if_neg he]; rfl
theorem take_more {a b : Txt} {j : Nat} (h : a.take j = b.take j) (h1 : j < a.length) (h2 : j < b.length) (he : a[j] = b[j]) : a.take (j + 1) = b.take (j + 1) := by
  rw [List.take_succ_eq_append_getElem h1, List.take_succ_eq_append_getElem h2, h, he]

set_option maxHeartbeats 2000000 in
theorem rShared (a b : Txt) (w : World) (ha : (a.length : Int) ≤ 140737488351232) (hb : (b.length : Int) ≤ 140737488351232) :
    Calls Try.prog 26 #[.string ⟨a.toArray⟩, .string ⟨b.toArray⟩] w fun e w' => e = .returned (.int .i64 (lcpL a b : Int)) ∧ Kept (fun _ => False) w w' := by
  obtain ⟨n, hn⟩ : ∃ n : Nat, Hid (n = a.length) := ⟨_, rfl⟩
  obtain ⟨m, hm⟩ : ∃ m : Nat, Hid (m = b.length) := ⟨_, rfl⟩
  have hna : (a.length : Int) = (n : Int) := by rw [hn.out]
  have hmb : (b.length : Int) = (m : Int) := by rw [hm.out]
  have HI : Hid (a.take 0 = b.take 0 ∧ 0 ≤ n ∧ 0 ≤ m ∧ Kept (fun _ => False) w w) := ⟨by simp, Nat.zero_le _, Nat.zero_le _, Kept.refl _ _⟩
  obtain ⟨w0, hw0⟩ : ∃ w0, w0 = w := ⟨_, rfl⟩
  rw [← hw0]
  rw [← hw0] at HI
  go_enter Try.func26, Try.ntmps26
  go_wp2
  go_loopw [5] (fun i wr => ∃ j : Nat, i = .int .i64 (j : Int) ∧ Hid (a.take j = b.take j ∧ j ≤ n ∧ j ≤ m ∧ Kept (fun _ => False) w0 wr)) (fun i _ => n - (intOf i).toNat)
  case atStart => exact ⟨0, rfl, HI⟩
  case round =>
    obtain ⟨j, rfl, hI⟩ := hrel
    clear HI hw0
    have j0 : (0 : Int) ≤ (j : Int) := by omega
    have hjn := hI.out.2.1
    have hjm := hI.out.2.2.1
    by_cases h1 : j < n
    case neg =>
      have jn : ¬(j : Int) < (n : Int) := by omega
      have HV : Hid (lcpL a b = j) := lcp_end hI.out.1 (by rw [← hn.out]; exact hjn) (by rw [← hm.out]; exact hjm) (.inl (by rw [← hn.out]; omega))
      have HK : Hid (Kept (fun _ => False) w0 wr) := hI.out.2.2.2
      clear hI
      go_wp2_with fail
      go_quiet (fail)
      go_wp2
      go_ret
      exact ⟨by rw [HV.out]; rfl, HK.out.drewN _⟩
    have jn : (j : Int) < (n : Int) := by omega
    by_cases h2 : j < m
    case neg =>
      have jm : ¬(j : Int) < (m : Int) := by omega
      have HV : Hid (lcpL a b = j) := lcp_end hI.out.1 (by rw [← hn.out]; exact hjn) (by rw [← hm.out]; exact hjm) (.inr (.inl (by rw [← hm.out]; omega)))
      have HK : Hid (Kept (fun _ => False) w0 wr) := hI.out.2.2.2
      clear hI
      go_wp2_with fail
      go_quiet (fail)
      go_wp2
      go_ret
      exact ⟨by rw [HV.out]; rfl, HK.out.drewN _⟩
    have jm : (j : Int) < (m : Int) := by omega
    have hja : j < a.length := by rw [← hn.out]; exact h1
    have hjb : j < b.length := by rw [← hm.out]; exact h2
    obtain ⟨c, hc⟩ : ∃ c, a[j] = c := ⟨_, rfl⟩
    obtain ⟨d, hd⟩ : ∃ d, b[j] = d := ⟨_, rfl⟩
    by_cases h3 : c = d
    · have HN : Hid (a.take (j + 1) = b.take (j + 1) ∧ j + 1 ≤ n ∧ j + 1 ≤ m ∧ ∀ z, Kept (fun _ => False) w0 (wr.drewN z)) := ⟨take_more hI.out.1 hja hjb (by rw [hc, hd, h3]), h1, h2, fun z => hI.out.2.2.2.drewN z⟩
      have hq : ((c.toNat : Int) == (d.toNat : Int)) = true := by rw [h3]; simp
      have hwj : IntKind.i64.wrap ((j : Int) + 1) = (j : Int) + 1 := IntWalk.i64_in _ (by omega)
      clear hI h3
      go_wp2_with fail
      go_quiet (fail)
      go_wp2
      go_roundw
      case rel => exact ⟨j + 1, by first | rfl | go_num, HN.out.1, HN.out.2.1, HN.out.2.2.1, HN.out.2.2.2 _⟩
      case measure => simp [intOf]; omega
    · have HV : Hid (lcpL a b = j) := lcp_end hI.out.1 (by rw [← hn.out]; exact hjn) (by rw [← hm.out]; exact hjm) (.inr (.inr ⟨hja, hjb, by rw [hc, hd]; exact h3⟩))
      have HK : Hid (Kept (fun _ => False) w0 wr) := hI.out.2.2.2
      have hq : ((c.toNat : Int) == (d.toNat : Int)) = false := by
        rw [beq_eq_false_iff_ne]
        intro e
        exact h3 (UInt8.toNat_inj.1 (by omega))
      clear hI
      go_wp2_with fail
      go_quiet (fail)
      go_wp2
      go_ret
      exact ⟨by rw [HV.out]; rfl, HK.out.drewN _⟩

theorem rNum12 (n : Nat) (w : World) (hn : n ≤ MaxN) : Calls Try.prog 25 #[.int .i64 (n : Int)] w fun e w' => e = .returned (.string ⟨(numL n).toArray⟩) ∧ Kept (fun _ => False) w w' := by
  have H := Lib.hid (rNum_ok n w hn)
  go_enter Try.func25, Try.ntmps25
  go_wp2_with fail
  refine H.out.mono ?_
  rintro e wx ⟨rfl, hb⟩
  have HB := Lib.hid hb
  clear hb H
  go_wp2
  go_ret
  exact ⟨rfl, Kept.of_below _ HB.out⟩
theorem rText12 (s : Txt) (w : World) (hs : (s.length : Int) ≤ 1048576) : Calls Try.prog 27 #[.string ⟨s.toArray⟩] w fun e w' => e = .returned (.string ⟨(txtL s).toArray⟩) ∧ Kept (fun _ => False) w w' := by
  have H := Lib.hid (rText_ok s w hs)
  go_enter Try.func27, Try.ntmps27
  go_wp2_with fail
  refine H.out.mono ?_
  rintro e wx ⟨rfl, hb⟩
  have HB := Lib.hid hb
  clear hb H
  go_wp2
  go_ret
  exact ⟨rfl, Kept.of_below _ HB.out⟩

end Go.Proofs.Ytbiifeahdinjjaa
