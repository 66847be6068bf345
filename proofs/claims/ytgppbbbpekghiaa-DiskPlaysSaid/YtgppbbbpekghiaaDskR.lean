/- The reference's disk in memory, and its small calls. -/
import Derived.Test.YtgppbbbpekghiaaProg
import Derived.Test.YtgppbbbpekghiaaFoot
import Derived.Test.YtgppbbbpekghiaaDskM
namespace Go.Proofs.Ytgppbbbpekghiaa
open Go.RowKit Go.Proofs Go.Proofs.Pk
attribute [local simp] mk_get wrap64_u8 mk_extract ByteArray.mk_append_mk get_1k

def flatC (C : List (Nat × List UInt8)) : List Value := C.flatMap fun x => [.int .i64 (x.1 : Int), .string ⟨x.2.toArray⟩]

/-- The reference's disk at the block p: what it is, and which blocks are its own, all from B on. -/
structure RefAt (w : World) (B p : Nat) (S : Dsk) (vL vC : Value) (X : Nat → Prop) : Prop where
  obj : Holds w p [vL, vC, .int .i64 S.fuse, .bool S.off, .int .i64 S.n] 49
  last : w.ownsRow B 9 1 vL S.L.length (S.L.map strV)
  cache : w.ownsRow B 69 2 vC S.C.length (flatC S.C)
  base : B ≤ p
  neL : vL.ownBlock ≠ some p
  neC : vC.ownBlock ≠ some p
  apart : vL.ownBlock = none ∨ vL.ownBlock ≠ vC.ownBlock
  own : ∀ k, X k ↔ k = p ∨ vL.ownBlock = some k ∨ vC.ownBlock = some k

def RefD (w : World) (B p : Nat) (S : Dsk) (X : Nat → Prop) : Prop := ∃ vL vC, RefAt w B p S vL vC X

theorem RefAt.lt {w : World} {B p : Nat} {S : Dsk} {vL vC : Value} {X : Nat → Prop} (h : RefAt w B p S vL vC X) : ∀ k, X k → B ≤ k ∧ k < w.heap.size := by
  intro k hk
  rcases (h.own k).1 hk with rfl | hk | hk
  · exact ⟨h.base, Holds.lt h.obj⟩
  · exact h.last.lt k hk
  · exact h.cache.lt k hk

/-- What another call keeps, this disk keeps. -/
theorem RefAt.kept {w w' : World} {B p : Nat} {S : Dsk} {vL vC : Value} {X Y : Nat → Prop} (h : RefAt w B p S vL vC X) (hk : Kept Y w w') (hd : ∀ k, X k → ¬Y k) : RefAt w' B p S vL vC X := by
  have blk : ∀ k, X k → w'.heap[k]? = w.heap[k]? := fun k hx => hk.block k (h.lt k hx).2 (hd k hx)
  exact ⟨h.obj.of_block (blk p ((h.own p).2 (.inl rfl))), owns_of_block h.last fun g hg => blk g ((h.own g).2 (.inr (.inl hg))), owns_of_block h.cache fun g hg => blk g ((h.own g).2 (.inr (.inr hg))),
    h.base, h.neL, h.neC, h.apart, h.own⟩

/-- A field of the object is written. -/
theorem RefAt.field {w : World} {B p : Nat} {S S' : Dsk} {vL vC : Value} {X : Nat → Prop} (h : RefAt w B p S vL vC X) (k : Nat) (u : Value) (hL : S'.L = S.L) (hC : S'.C = S.C)
    (hu : ([vL, vC, .int .i64 S.fuse, .bool S.off, .int .i64 S.n] : List Value).set k u = [vL, vC, .int .i64 S'.fuse, .bool S'.off, .int .i64 S'.n]) :
    RefAt (w.setCell ⟨p, k, none⟩ u) B p S' vL vC X := by
  refine ⟨?_, by rw [hL]; exact owns_setCell h.last h.neL, by rw [hC]; exact owns_setCell h.cache h.neC, h.base, h.neL, h.neC, h.apart, h.own⟩
  rw [← hu]; exact h.obj.set k u
theorem RefAt.mine {w : World} {B p : Nat} {S : Dsk} {vL vC : Value} {X : Nat → Prop} (h : RefAt w B p S vL vC X) : X p := (h.own p).2 (.inl rfl)

/-- The cache's blocks alone have turned, and the object says so. -/
theorem RefAt.swapC {w w' : World} {B p : Nat} {S : Dsk} {vL vC vC' : Value} {X : Nat → Prop} {C' : List (Nat × List UInt8)} (h : RefAt w B p S vL vC X) (hb : ∀ k, k < w.heap.size → vC.ownBlock ≠ some k → w'.heap[k]? = w.heap[k]?)
    (hc : w'.ownsRow B 69 2 vC' C'.length (flatC C')) (hn : vC'.ownBlock ≠ some p) (ha : vL.ownBlock = none ∨ vL.ownBlock ≠ vC'.ownBlock) :
    RefAt (w'.setCell ⟨p, 1, none⟩ vC') B p { S with C := C' } vL vC' (fun k => k = p ∨ vL.ownBlock = some k ∨ vC'.ownBlock = some k) := by
  have ho := h.obj.of_block (hb p h.obj.lt h.neC)
  refine ⟨ho.set 1 vC', owns_setCell (owns_of_block h.last fun g hg => hb g (h.lt g ((h.own g).2 (.inr (.inl hg)))).2 (fun e => ?_)) h.neL, owns_setCell hc hn, h.base, h.neL, hn, ha, fun _ => Iff.rfl⟩
  rcases h.apart with h0 | h0
  · rw [h0] at hg; cases hg
  · exact h0 (by rw [hg, e])

/-- A sector of what lasts is written. -/
theorem RefAt.setLast {w : World} {B p g cap : Nat} {S : Dsk} {vC : Value} {X : Nat → Prop} (h : RefAt w B p S (.slice (some ⟨g, 0, none⟩) S.L.length cap) vC X) (k : Nat) (d : List UInt8) :
    RefAt (w.setCell ⟨g, k, none⟩ (.string ⟨d.toArray⟩)) B p { S with L := S.L.set k d } (.slice (some ⟨g, 0, none⟩) (S.L.set k d).length cap) vC X := by
  have hgp : p ≠ g := fun e => h.neL (by rw [e]; rfl)
  have hC : vC.ownBlock ≠ some g := fun e => by
    rcases h.apart with h0 | h0
    · cases h0
    · exact h0 e.symm
  have hl : (S.L.set k d).length = S.L.length := by simp
  have hs := h.last.stored k (.string ⟨d.toArray⟩)
  rw [hl]
  refine ⟨h.obj.ne hgp _ _, ?_, owns_setCell h.cache hC, h.base, h.neL, h.neC, h.apart, h.own⟩
  have : (S.L.set k d).map strV = (S.L.map strV).set k (.string ⟨d.toArray⟩) := by rw [List.map_set]; rfl
  show World.ownsRow _ _ _ _ _ (S.L.set k d).length ((S.L.set k d).map strV)
  rw [hl, this]; exact hs.1
/-- The cache is no more. -/
theorem RefAt.noC {w : World} {B p : Nat} {S : Dsk} {vL vC : Value} {X : Nat → Prop} (h : RefAt w B p S vL vC X) :
    RefAt (w.setCell ⟨p, 1, none⟩ (.slice none 0 0)) B p { S with C := [] } vL (.slice none 0 0) (fun k => k = p ∨ vL.ownBlock = some k) := by
  refine ⟨h.obj.set 1 _, owns_setCell h.last h.neL, ⟨rfl, .inl ⟨rfl, rfl⟩⟩, h.base, h.neL, by simp [Value.ownBlock], ?_, fun k => by simp [Value.ownBlock]⟩
  cases hv : vL.ownBlock with
  | none => exact .inl rfl
  | some b => exact .inr (by simp [Value.ownBlock])

set_option maxHeartbeats 400000 in
theorem rFuse (n : Int) (w : World) (B p : Nat) (S : Dsk) (X : Nat → Prop) (h : RefD w B p S X) :
    Calls Try.prog 19 #[.pointer (some ⟨p, 0, none⟩), .int .i64 n] w fun e w' => e = .returned (.tuple #[]) ∧ RefD w' B p (S.setFuse n) X ∧ Kept X w w' := by
  obtain ⟨vL, vC, h⟩ := h
  have H := Lib.hid h
  have c2 := h.obj.cell 2 _ rfl
  have f2 := h.obj.free 2
  clear h
  go_enter Try.func19, Try.ntmps19
  by_cases hn : n < -1
  · have HN : Hid (S.setFuse n = { S with fuse := -1 }) := by show S.setFuse n = _; unfold Dsk.setFuse; rw [Int.max_eq_right (by omega)]
    go_wp2
    go_end0
    rw [HN.out]
    exact ⟨rfl, ⟨vL, vC, H.out.field 2 (.int .i64 (-1)) rfl rfl rfl⟩, (Kept.refl X w).setCell H.out.mine _⟩
  · have HN : Hid (S.setFuse n = { S with fuse := n }) := by show S.setFuse n = _; unfold Dsk.setFuse; rw [Int.max_eq_left (by omega)]
    go_wp2
    go_end0
    rw [HN.out]
    exact ⟨rfl, ⟨vL, vC, H.out.field 2 (.int .i64 n) rfl rfl rfl⟩, (Kept.refl X w).setCell H.out.mine _⟩

end Go.Proofs.Ytgppbbbpekghiaa
