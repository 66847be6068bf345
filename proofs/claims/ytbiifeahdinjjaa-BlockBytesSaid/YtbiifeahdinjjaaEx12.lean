/- The chapter's examples (layer 12) hold of the program's blocks. -/
import Derived.Test.YtbiifeahdinjjaaBkK
import Derived.Test.YtbiifeahdinjjaaIs12
namespace Go.Proofs.Ytbiifeahdinjjaa
open Go.RowKit Go.Proofs Go.Proofs.Pk
set_option maxRecDepth 10000
attribute [local simp] mk_get wrap64_u8 mk_extract ByteArray.mk_append_mk get_1k

def yA : MEnt := ([97, 98], 2, false, [120])
def yB : MEnt := ([97, 99], 1, true, [])
theorem ex12_facts : encB [] = ([0], 0) ∧ encB [yA, yB] = ([1, 2, 0, 1, 2, 97, 98, 1, 2, 0, 1, 1, 120, 1, 1, 1, 1, 99, 1, 1, 1, 1], 0) ∧ sortB [yA, yB] = true := by refine ⟨?_, ?_, ?_⟩ <;> decide

theorem two_ents (w1 : World) : EntsW (w1.alloc (.cells (entC yA ++ entC yB).toArray 37)) (some ⟨w1.heap.size, 0, none⟩) 2 [yA, yB] := by
  have hh := Holds.new w1 (entC yA ++ entC yB) 37
  refine ⟨rfl, .inr ⟨_, 0, rfl, hh.lt, fun i hi => ⟨fun j v hv => ?_, ?_⟩⟩⟩
  · have hi2 : i < 2 := hi
    obtain rfl | rfl : i = 0 ∨ i = 1 := by omega
    · have hv2 : (entC yA)[j]? = some v := hv
      have hj : j < 4 := by have := (List.getElem?_eq_some_iff.1 hv2).1; simpa [entC] using this
      refine hh.cell (0 + 0 * 4 + j) v ?_
      rw [show 0 + 0 * 4 + j = j from by omega, List.getElem?_append_left (by show j < 4; exact hj)]; exact hv2
    · have hv2 : (entC yB)[j]? = some v := hv
      have hj : j < 4 := by have := (List.getElem?_eq_some_iff.1 hv2).1; simpa [entC] using this
      refine hh.cell (0 + 1 * 4 + j) v ?_
      rw [show 0 + 1 * 4 + j = 4 + j from by omega, List.getElem?_append_right (by show 4 ≤ 4 + j; omega), show 4 + j - (entC yA).length = j from by show 4 + j - 4 = j; omega]; exact hv2
  · have hi2 : i < 2 := hi
    obtain rfl | rfl : i = 0 ∨ i = 1 := by omega
    · show FitN 2; unfold FitN; omega
    · show FitN 1; unfold FitN; omega

set_option maxHeartbeats 4000000 in
theorem examples12 (K : BkK) (w : World) : Calls Try.prog 9 #[] w fun e w' => e = .returned (.bool true) ∧ Kept (fun _ => False) w w' := by
  obtain ⟨q1, q2, q3⟩ := ex12_facts
  have HE0 := K.encode w none 0 0 [] ⟨rfl, .inl rfl⟩ (by decide)
  rw [q1] at HE0
  rw [show errV 45 (([0], 0) : Txt × Nat).2 = .nilIface from rfl] at HE0
  have HE0 := Lib.hid HE0
  go_enter Try.func9, Try.ntmps9
  go_wp2_with fail
  refine HE0.out.mono ?_
  clear HE0
  rintro e w1 ⟨rfl, hk1⟩
  have HK1 := Lib.hid hk1
  have hW := two_ents w1
  have hkA : Kept (fun _ => False) w1 (w1.alloc (.cells (entC yA ++ entC yB).toArray 37)) := (Kept.refl _ w1).alloc _
  have HE1 := K.encode _ _ 2 2 [yA, yB] hW (by decide)
  rw [q2] at HE1
  rw [show errV 45 (([1, 2, 0, 1, 2, 97, 98, 1, 2, 0, 1, 1, 120, 1, 1, 1, 1, 99, 1, 1, 1, 1], 0) : Txt × Nat).2 = .nilIface from rfl] at HE1
  have HE1 := Lib.hid HE1
  have HKA := Lib.hid (And.intro (hk1.trans hkA (fun _ h => h.elim)) hW)
  clear hk1 hW hkA
  go_wp2_with fail
  refine HE1.out.mono ?_
  clear HE1
  rintro e w2 ⟨rfl, hk2⟩
  have HS := K.sorted w2 _ 2 2 [yA, yB] (ents_keptK HKA.out.2 hk2) (by decide)
  rw [q3] at HS
  have HS := Lib.hid HS
  have HK2 := Lib.hid (HKA.out.1.trans hk2 (fun _ h => h.elim))
  clear hk2 HKA
  go_wp2_with fail
  refine HS.out.mono ?_
  clear HS
  rintro e w3 ⟨rfl, hk3⟩
  have HK3 := Lib.hid (HK2.out.trans hk3 (fun _ h => h.elim))
  clear hk3 HK2 HK1
  go_wp2
  go_ret
  exact ⟨rfl, HK3.out⟩

end Go.Proofs.Ytbiifeahdinjjaa
