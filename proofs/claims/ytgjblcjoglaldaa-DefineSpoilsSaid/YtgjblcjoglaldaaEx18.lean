/- The chapter's examples (layer 18) hold of the program's definitions. -/
import Derived.Test.YtgjblcjoglaldaaDfK
import Derived.Test.YtgjblcjoglaldaaIs18
import Derived.Deep.Cut
import Derived.BigQuiet
namespace Go.Proofs.Ytgjblcjoglaldaa
open Go.RowKit Go.Proofs Go.Proofs.Pk
set_option maxRecDepth 10000
attribute [local simp] mk_get wrap64_u8 mk_extract ByteArray.mk_append_mk get_1k

def p1L : DefV := ([112, 97, 121], [(2, 30)])
def p2L : DefV := ([112, 97, 121], [(2, 30), (0, 5)])
theorem ex18_facts : encD p1L = ([1, 3, 112, 97, 121, 1, 1, 1, 2, 1, 30], true) ∧ triesD p2L = 8 ∧ decD [] = (zeroD, false) ∧ nameD [97, 95, 98] = false := by
  refine ⟨?_, ?_, ?_, ?_⟩ <;> decide +kernel
theorem lit_steps (w : World) (T : List StV) (hT : T.length ≤ 100) (hf : ∀ m ∈ T, FitSt m) : StepsW (w.alloc (.cells (T.flatMap stC).toArray 43)) (some ⟨w.heap.size, 0, none⟩) T.length T ∧ BndS (some ⟨w.heap.size, 0, none⟩) T.length T.length := by
  have hh := Holds.new w (T.flatMap stC) 43
  refine ⟨⟨rfl, .inr ⟨_, 0, rfl, hh.lt, fun i hi => ⟨fun j v hv => hh.cell (0 + i * 2 + j) v ?_, hf _ (List.getElem_mem hi)⟩⟩⟩, .inr (.inr ⟨_, _, rfl⟩), Nat.le_refl _, by omega, fun h => by cases h⟩
  rw [Nat.zero_add]
  exact stepsC_get T i hi j v hv

set_option maxHeartbeats 8000000 in
theorem examples18 {N : Nat} (K : DfK N) (w : World) : Calls Try.prog 8 #[] w fun e w' => e = .returned (.bool true) ∧ Kept (fun _ => False) w w' := by
  obtain ⟨q1, q2, q3, q4⟩ := ex18_facts
  have hf1 : ∀ m ∈ p1L.2, FitSt m := by simp [p1L, FitSt, FitI]
  have hf2 : ∀ m ∈ p2L.2, FitSt m := by simp [p2L, FitSt, FitI]
  obtain ⟨m1, m2⟩ := lit_steps w p1L.2 (by decide) hf1
  have hk1 : Kept (fun _ => False) w (w.alloc (.cells (p1L.2.flatMap stC).toArray 43)) := (Kept.refl _ w).alloc _
  have A1 := K.encode (w.alloc (.cells (p1L.2.flatMap stC).toArray 43)) (some ⟨w.heap.size, 0, none⟩) 1 1 p1L ⟨m1, m2, by decide⟩
  rw [q1] at A1
  have A1 := Lib.hid A1
  have HK1 := Lib.hid hk1
  clear m1 m2 hk1 q1
  go_enter Try.func8, Try.ntmps8
  go_wp2_with fail
  refine A1.out.mono ?_
  clear A1
  rintro e w1 ⟨rfl, hk⟩
  have HK2 := Lib.hid (HK1.out.trans hk (fun _ h => h.elim))
  clear hk HK1
  obtain ⟨m1, m2⟩ := lit_steps w1 p2L.2 (by decide) hf2
  have hk1 : Kept (fun _ => False) w1 (w1.alloc (.cells (p2L.2.flatMap stC).toArray 43)) := (Kept.refl _ w1).alloc _
  have A1 := K.tries (w1.alloc (.cells (p2L.2.flatMap stC).toArray 43)) (some ⟨w1.heap.size, 0, none⟩) 2 2 p2L ⟨m1, m2, by decide⟩
  rw [q2] at A1
  have A1 := Lib.hid A1
  have HK3 := Lib.hid (HK2.out.trans hk1 (fun _ h => h.elim))
  clear m1 m2 hk1 q2 HK2
  go_wp2_with fail
  refine A1.out.mono ?_
  clear A1
  rintro e w2 ⟨rfl, hk⟩
  have HK4 := Lib.hid (HK3.out.trans hk (fun _ h => h.elim))
  clear hk HK3
  have A1 := K.decode w2 [] (Nat.zero_le _)
  rw [q3] at A1
  have A1 := Lib.hid A1
  clear q3
  go_wp2_with fail
  refine A1.out.mono ?_
  clear A1
  rintro e w3 ⟨ad, c, rfl, _, _, hk⟩
  have HK5 := Lib.hid (HK4.out.trans hk (fun _ h => h.elim))
  clear hk HK4
  unfold defC zeroD
  simp only [List.length_nil]
  go_upto_region 4 with fail
  have HK6 : Hid (Kept (fun _ => False) w (w3.alloc (.cells #[.string ⟨#[]⟩, .slice ad 0 c] 24))) := HK5.out.alloc _
  change Code.wp _ _ _ _ (w3.alloc (.cells #[.string ⟨#[]⟩, .slice ad 0 c] 24))
  generalize w3.alloc (.cells #[.string ⟨#[]⟩, .slice ad 0 c] 24) = w4 at HK6 ⊢
  clear HK5
  have A1 := Lib.hid (fun W => K.name W [97, 95, 98] (by decide))
  rw [q4] at A1
  have A2 := Lib.hid (fun W => is_any 3 3 W)
  clear q4
  have he0 : errV 49 0 = .nilIface := rfl
  go_wp2_with fail
  refine (A1.out _).mono ?_
  clear A1
  rintro e w5 ⟨rfl, hk⟩
  have HK7 := Lib.hid (HK6.out.trans hk (fun _ h => h.elim))
  clear hk HK6
  go_wp2_with fail
  refine (A2.out _).mono ?_
  rintro e w6 ⟨rfl, rfl⟩
  clear A2
  go_wp2
  go_ret
  exact ⟨rfl, HK7.out⟩

end Go.Proofs.Ytgjblcjoglaldaa
