/- The examples of chapter 5 come out as they stand. -/
import Derived.Test.YtcjomigngmmjkaaFitP
import Derived.Test.YtcjomigngmmjkaaIs5
namespace Go.Proofs.Ytcjomigngmmjkaa
open Go.RowKit Go.Proofs Go.Proofs.Pk
set_option maxRecDepth 10000
attribute [local simp] mk_get wrap64_u8 mk_extract ByteArray.mk_append_mk get_1k

def exU : List (Int × Int) := [(2, 3), (7, 1)]
def exT : List Bool := [false, false, true, true, true, false, false, true, false, false]
theorem ex_t : takenO 10 exU = some exT := by decide +kernel
theorem ex_f : (takenO 10 exU).map freeL = some [(0, 2), (5, 2), (8, 2)] := by decide +kernel
theorem fit10 : Fit 10 := ⟨by decide, by decide⟩

section
variable {g : Nat} {w : World}
theorem xe1 (h : Runs w (some ⟨g, 0, none⟩) 2 exU) : Calls Try.prog 9 #[.int .i64 10, .slice (some ⟨g, 0, none⟩) 2 2] w fun e w' => Below w.heap.size w w' ∧ ∃ b c, e = .returned (.tuple #[.slice (some ⟨b, 0, none⟩) 3 c, .nilIface]) ∧ w'.cell? ⟨b, 2, none⟩ = some (.int .i64 5) ∧ w'.cell? ⟨b, 3, none⟩ = some (.int .i64 2) ∧ b < w'.heap.size :=
  (freeP 10 _ 2 2 exU w fit10 h (.inr ⟨_, _, rfl⟩)).mono fun e w' ⟨hb, h2⟩ => by
    rw [ex_f] at h2
    obtain ⟨v, rfl, ho⟩ := h2
    obtain ⟨ad, cap, rfl, _, hat⟩ := own_row ho
    obtain ⟨b, rfl, hlt, _, hr⟩ := hat 1 (by decide)
    exact ⟨hb, b, cap, rfl, hr 0 _ rfl, hr 1 _ rfl, hlt⟩
theorem xe2 (h : Runs w (some ⟨g, 0, none⟩) 2 exU) : Calls Try.prog 11 #[.int .i64 10, .slice (some ⟨g, 0, none⟩) 2 2, .int .i64 2] w fun e w' => Below w.heap.size w w' ∧ e = .returned (.tuple #[.int .i64 0, .nilIface]) :=
  (fitP 10 _ 2 2 exU 2 w fit10 h (.inr ⟨_, _, rfl⟩)).mono fun e w' ⟨hb, h2⟩ => ⟨hb, by rw [h2, ex_f]; rfl⟩
theorem xe3 (h : Runs w (some ⟨g, 0, none⟩) 2 exU) : Calls Try.prog 11 #[.int .i64 10, .slice (some ⟨g, 0, none⟩) 2 2, .int .i64 3] w fun e w' => Below w.heap.size w w' ∧ e = .returned (.tuple #[.int .i64 0, .iface 47 (.int .i64 7)]) :=
  (fitP 10 _ 2 2 exU 3 w fit10 h (.inr ⟨_, _, rfl⟩)).mono fun e w' ⟨hb, h2⟩ => ⟨hb, by rw [h2, ex_f]; rfl⟩
theorem xe4 (h : Runs w (some ⟨g, 0, none⟩) 2 exU) : Calls Try.prog 13 #[.int .i64 10, .slice (some ⟨g, 0, none⟩) 2 2] w fun e w' => Below w.heap.size w w' ∧ e = .returned (.tuple #[.int .i64 6, .nilIface]) :=
  (roomP 10 _ 2 2 exU w fit10 h (.inr ⟨_, _, rfl⟩)).mono fun e w' ⟨hb, h2⟩ => ⟨hb, by rw [h2, ex_t]; rfl⟩
theorem xe5 (h : Runs w (some ⟨g, 0, none⟩) 2 exU) : Calls Try.prog 15 #[.int .i64 10, .slice (some ⟨g, 0, none⟩) 2 2] w fun e w' => Below w.heap.size w w' ∧ e = .returned (.bool true) :=
  (rightP 10 _ 2 2 exU w fit10 h (.inr ⟨_, _, rfl⟩)).mono fun e w' ⟨h2, hb⟩ => ⟨hb, by rw [h2, ex_t]; rfl⟩
theorem is77 (w : World) : Calls Try.prog 10 #[.iface 47 (.int .i64 7), .int .i64 7] w fun e w' => e = .returned (.bool true) ∧ w = w' := is_any 7 7 w
theorem ex_runs (w : World) : Runs (w.alloc (.cells #[.int .i64 2, .int .i64 3, .int .i64 7, .int .i64 1] 32)) (some ⟨w.heap.size, 0, none⟩) 2 exU := by
  have hN := Holds.new w [.int .i64 2, .int .i64 3, .int .i64 7, .int .i64 1] 32
  refine ⟨rfl, .inr ⟨_, _, rfl, hN.lt, fun i hi => ?_⟩⟩
  have hi2 : i < 2 := hi
  have h3 : i = 0 ∨ i = 1 := by omega
  rcases h3 with rfl | rfl
  · refine ⟨fun j u hu => ?_, (⟨by decide, by decide⟩ : Fit 2), (⟨by decide, by decide⟩ : Fit 3)⟩
    match j with
    | 0 => exact hN.cell 0 _ hu
    | 1 => exact hN.cell 1 _ hu
    | j + 2 => simp [runV] at hu
  · refine ⟨fun j u hu => ?_, (⟨by decide, by decide⟩ : Fit 7), (⟨by decide, by decide⟩ : Fit 1)⟩
    match j with
    | 0 => exact hN.cell 2 _ hu
    | 1 => exact hN.cell 3 _ hu
    | j + 2 => simp [runV] at hu
end

set_option maxHeartbeats 2000000 in
/-- The chapter's examples come out as they stand. -/
theorem examples_any (w : World) : Calls Try.prog 7 #[] w fun e w' => e = .returned (.bool true) ∧ Below w.heap.size w w' := by
  have HRu := Lib.hid (ex_runs w)
  have HB0 : Hid (Below w.heap.size w (w.alloc (.cells #[.int .i64 2, .int .i64 3, .int .i64 7, .int .i64 1] 32))) := (Below.refl _ _).alloc (Nat.le_refl _) _
  go_enter Try.func7, Try.ntmps7
  go_wp2_with fail
  obtain ⟨g, hg⟩ : ∃ g, Hid (g = w.heap.size) := ⟨_, rfl⟩
  rw [← hg.out] at HRu ⊢
  generalize w.alloc (.cells #[.int .i64 2, .int .i64 3, .int .i64 7, .int .i64 1] 32) = w1 at HRu HB0 ⊢
  refine (xe1 HRu.out).mono ?_
  rintro e w2 ⟨hb, b, c, rfl, d0, d1, hlt⟩
  have HB2 := Lib.hid (HB0.out.trans (hb.mono HB0.out.size))
  have HR2 := Lib.hid (HRu.out.below hb)
  have HD : Hid (∀ w', Below w2.heap.size w2 w' → w'.cell? ⟨b, 2, none⟩ = some (.int .i64 5) ∧ w'.cell? ⟨b, 3, none⟩ = some (.int .i64 2)) := fun w' h => ⟨by rw [h.cell (p := ⟨b, 2, none⟩) hlt]; exact d0, by rw [h.cell (p := ⟨b, 3, none⟩) hlt]; exact d1⟩
  clear hb d0 d1 hlt HRu HB0
  go_wp2_with fail
  refine (xe2 HR2.out).mono ?_
  rintro e w3 ⟨hb, rfl⟩
  have HB3 := Lib.hid hb
  have HR3 := Lib.hid (HR2.out.below hb)
  clear hb
  go_wp2_with fail
  refine (xe3 HR3.out).mono ?_
  rintro e w4 ⟨hb, rfl⟩
  have HB4 := Lib.hid (HB3.out.trans (hb.mono HB3.out.size))
  have HR4 := Lib.hid (HR3.out.below hb)
  clear hb HB3 HR3
  go_wp2_with fail
  refine (xe4 HR4.out).mono ?_
  rintro e w5 ⟨hb, rfl⟩
  have HB5 := Lib.hid (HB4.out.trans (hb.mono HB4.out.size))
  have HR5 := Lib.hid (HR4.out.below hb)
  obtain ⟨d0, d1⟩ := HD.out _ HB5.out
  clear hb HB4 HR4
  go_wp2_with fail
  refine (is77 w5).mono ?_
  rintro e w6 ⟨rfl, rfl⟩
  go_wp2_with fail
  refine (xe5 HR5.out).mono ?_
  rintro e w6 ⟨hb, rfl⟩
  have HB6 := Lib.hid (HB2.out.trans ((HB5.out.trans (hb.mono HB5.out.size)).mono HB2.out.size))
  clear hb HB5 HR5
  go_wp2
  go_ret
  exact ⟨rfl, HB6.out⟩

end Go.Proofs.Ytcjomigngmmjkaa
