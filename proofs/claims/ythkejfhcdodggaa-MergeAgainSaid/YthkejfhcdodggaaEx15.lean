/- The chapter's examples (layer 15) hold of the program's merge. -/
import Derived.Test.YthkejfhcdodggaaJ05
import Derived.Test.YthkejfhcdodggaaJ06
namespace Go.Proofs.Ythkejfhcdodggaa
open Go.RowKit Go.Proofs Go.Proofs.Pk
set_option maxRecDepth 10000
attribute [local simp] mk_get wrap64_u8 mk_extract ByteArray.mk_append_mk get_1k

def xE (k : UInt8) (s : Int) (d : Bool) : MEnt := ([k], s, d, [])
def x1L : List MEnt := [xE 97 5 false, xE 97 3 false, xE 97 1 false]
def x2L : List MEnt := [xE 97 5 true, xE 97 3 false]
def x3L : List MEnt := [xE 97 5 true, xE 97 3 false, xE 98 9 false]
theorem ex15_facts : foldR x1L [4, 4] false = ([xE 97 5 false, xE 97 3 false], true) ∧ foldR x2L [] true = ([], true) ∧ seeR x3L 4 = ([xE 97 3 false], true) ∧ mergeM [[xE 98 1 false], [xE 97 1 false]] = ([xE 97 1 false, xE 98 1 false], true) := by refine ⟨?_, ?_, ?_, ?_⟩ <;> decide
theorem x_fit : (∀ e ∈ x1L, FitN e.2.1) ∧ (∀ e ∈ x2L, FitN e.2.1) ∧ (∀ e ∈ x3L, FitN e.2.1) := by
  unfold FitN
  refine ⟨?_, ?_, ?_⟩ <;> decide

theorem OutE.ok {w w' : World} {l : List MEnt} {e : Ending} (h : OutE w (l, true) e w') : ∃ (ad : Option Addr) (cap : Nat), e = .returned (.tuple #[.slice ad l.length cap, .nilIface]) ∧ EntsW w' ad l.length l ∧ Kept (fun _ => False) w w' := by
  obtain ⟨ad, cap, h1, h2, h3, _⟩ := h
  exact ⟨ad, cap, h1, h2, h3⟩
theorem OutE.okC {w w' : World} {l : List MEnt} {e : Ending} (h : OutE w (l, true) e w') : ∃ (ad : Option Addr) (cap : Nat), e = .returned (.tuple #[.slice ad l.length cap, .nilIface]) ∧ EntsW w' ad l.length l ∧ Kept (fun _ => False) w w' ∧ l.length ≤ cap := h
theorem NewE.ok {w w' : World} {l : List MEnt} {e : Ending} (h : NewE w (l, true) e w') : ∃ (ad : Option Addr) (cap : Nat), e = .returned (.tuple #[.slice ad l.length cap, .nilIface]) ∧ EntsW w' ad l.length l ∧ Kept (fun _ => False) w w' := h.out.ok
theorem NewE.okC {w w' : World} {l : List MEnt} {e : Ending} (h : NewE w (l, true) e w') : ∃ (ad : Option Addr) (cap : Nat), e = .returned (.tuple #[.slice ad l.length cap, .nilIface]) ∧ EntsW w' ad l.length l ∧ Kept (fun _ => False) w w' ∧ l.length ≤ cap := h.out.okC
def y1 : MEnt := xE 98 1 false
def y2 : MEnt := xE 97 1 false
def Y1 : Obj := .cells (cellsM [y1]).toArray 34
def Y2 : Obj := .cells (cellsM [y2]).toArray 34
def Y3 (n : Nat) : Obj := .cells #[.slice (some ⟨n, 0, none⟩) 1 1, .slice (some ⟨n + 1, 0, none⟩) 1 1] 24
theorem two_ls (w : World) : LsE (((w.alloc Y1).alloc Y2).alloc (Y3 w.heap.size)) (some ⟨w.heap.size + 2, 0, none⟩) 2 [[y1], [y2]] := by
  have h1 := lit_ents w [y1] (by unfold FitN; decide)
  have h2 := lit_ents (w.alloc Y1) [y2] (by unfold FitN; decide)
  have s1 : (w.alloc Y1).heap.size = w.heap.size + 1 := size_al _ _
  have s2 : ((w.alloc Y1).alloc Y2).heap.size = w.heap.size + 2 := by rw [size_al, size_al]
  rw [s1] at h2
  have hh := Holds.new ((w.alloc Y1).alloc Y2) [.slice (some ⟨w.heap.size, 0, none⟩) 1 1, .slice (some ⟨w.heap.size + 1, 0, none⟩) 1 1] 24
  rw [s2] at hh
  have k1 : Kept (fun _ => False) (w.alloc Y1) (((w.alloc Y1).alloc Y2).alloc (Y3 w.heap.size)) := ((Kept.refl _ _).alloc _).alloc _
  have k2 : Kept (fun _ => False) ((w.alloc Y1).alloc Y2) (((w.alloc Y1).alloc Y2).alloc (Y3 w.heap.size)) := (Kept.refl _ _).alloc _
  refine ⟨rfl, .inr ⟨_, 0, rfl, hh.lt, fun i hi => ?_⟩⟩
  have hi2 : i < 2 := hi
  obtain rfl | rfl : i = 0 ∨ i = 1 := by omega
  · exact ⟨_, 1, hh.cell (0 + 0) _ rfl, ents_keptK h1 k1, Nat.le_refl _⟩
  · exact ⟨_, 1, hh.cell (0 + 1) _ rfl, ents_keptK h2 k2, Nat.le_refl _⟩

set_option maxHeartbeats 4000000 in
theorem examples15 (K : MgK) (w : World) : Calls Try.prog 10 #[] w fun e w' => e = .returned (.bool true) ∧ Kept (fun _ => False) w w' := by
  obtain ⟨q1, q2, q3, q4⟩ := ex15_facts
  obtain ⟨f1, f2, f3⟩ := x_fit
  have L1 := lit_ents w x1L f1
  have i1 := lit_ints (w.alloc (.cells (cellsM x1L).toArray 34)) [4, 4]
  have H1 := K.fold _ _ 3 3 x1L _ 2 2 [4, 4] false (ents_keptK L1 ((Kept.refl _ _).alloc _)) (by decide) (by decide) i1 (by unfold Fit64; decide) (fun h => by cases h) (by decide)
  rw [q1] at H1
  have hs1 : (w.alloc (.cells (cellsM x1L).toArray 34)).heap.size = w.heap.size + 1 := size_al _ _
  rw [hs1] at H1
  have HK1 : Hid (Kept (fun _ => False) w ((w.alloc (.cells (cellsM x1L).toArray 34)).alloc (.cells ([4, 4].map fun i => Value.int .i64 i).toArray 3))) := ((Kept.refl _ _).alloc _).alloc _
  have H1 := Lib.hid H1
  clear L1 i1 q1 hs1
  go_enter Try.func10, Try.ntmps10
  go_wp2_with fail
  refine H1.out.mono ?_
  clear H1
  intro e w1 h
  obtain ⟨ad1, c1, rfl, hA1, hk1⟩ := h.ok
  have HK1 := Lib.hid (HK1.out.trans hk1 (fun _ h => h.elim))
  have HA1 := Lib.hid hA1
  clear h hk1 hA1
  have H2 := K.fold _ _ 2 2 x2L none 0 0 [] true (lit_ents w1 x2L f2) (by decide) (by decide) ⟨rfl, .inl rfl⟩ (by unfold Fit64; decide) (fun _ => ⟨rfl, rfl⟩) (by decide)
  rw [q2] at H2
  have H2 := Lib.hid H2
  have HK2 := Lib.hid (HK1.out.alloc (.cells (cellsM x2L).toArray 34))
  have HA2 := Lib.hid (ents_keptK HA1.out ((Kept.refl _ _).alloc (.cells (cellsM x2L).toArray 34)))
  clear HK1 HA1 q2
  go_wp2_with fail
  refine H2.out.mono ?_
  clear H2
  intro e w2 h
  obtain ⟨ad2, c2, rfl, hA2, hk2⟩ := h.ok
  have HK2 := Lib.hid (HK2.out.trans hk2 (fun _ h => h.elim))
  have HA2 := Lib.hid (ents_keptK HA2.out hk2)
  clear h hk2 hA2
  have H3 := K.see _ _ 3 3 x3L 4 (lit_ents w2 x3L f3) (by decide) (by decide) (by unfold FitN; omega)
  rw [q3] at H3
  have H3 := Lib.hid H3
  have HK3 := Lib.hid (HK2.out.alloc (.cells (cellsM x3L).toArray 34))
  have HA3 := Lib.hid (ents_keptK HA2.out ((Kept.refl _ _).alloc (.cells (cellsM x3L).toArray 34)))
  clear HK2 HA2 q3
  go_wp2_with fail
  refine H3.out.mono ?_
  clear H3
  intro e w3 h
  obtain ⟨ad3, c3, rfl, hA3, hk3⟩ := h.ok
  have HK3 := Lib.hid (HK3.out.trans hk3 (fun _ h => h.elim))
  have HA3 := Lib.hid (ents_keptK HA3.out hk3)
  have HB3 := Lib.hid hA3
  clear h hk3 hA3
  have H4 := K.merge _ _ 2 2 _ (two_ls w3) (by decide) (by decide)
  rw [show mergeM [[y1], [y2]] = ([xE 97 1 false, xE 98 1 false], true) from q4] at H4
  have H4 := Lib.hid H4
  have hkk : Kept (fun _ => False) w3 (((w3.alloc Y1).alloc Y2).alloc (Y3 w3.heap.size)) := (((Kept.refl _ _).alloc _).alloc _).alloc _
  have HK4 := Lib.hid (HK3.out.trans hkk (fun _ h => h.elim))
  have HA4 := Lib.hid (ents_keptK HA3.out hkk)
  have HB4 := Lib.hid (ents_keptK HB3.out hkk)
  clear HK3 HA3 HB3 q4 hkk
  go_wp2_with fail
  refine H4.out.mono ?_
  clear H4
  intro e w4 h
  obtain ⟨ad4, c4, rfl, hA4, hk4⟩ := h.ok
  have HK4 := Lib.hid (HK4.out.trans hk4 (fun _ h => h.elim))
  have ha := ents_keptK HA4.out hk4
  have hb := ents_keptK HB4.out hk4
  clear h hk4 HA4 HB4
  obtain ⟨ga, oa, rfl, hga, _, ha1, _⟩ := ha.atS 1 (by decide)
  obtain ⟨gb, ob, rfl, hgb, _, hb1, _⟩ := hb.atS 0 (by decide)
  obtain ⟨gd, od, rfl, hgd, hd1, _⟩ := hA4.atS 0 (by decide)
  clear ha hb hA4
  simp only [List.getElem_cons_succ, List.getElem_cons_zero, xE, Nat.one_mul, Nat.zero_mul, Nat.add_zero] at ha1 hb1 hd1
  go_wp2
  go_ret
  exact ⟨rfl, HK4.out⟩

end Go.Proofs.Ythkejfhcdodggaa
