/- What a call on an object leaves alone: all blocks but the object's own. No program. -/
import Derived.Test.YtgjblcjoglaldaaGen
namespace Go.Proofs.Pk
open Go.RowKit
set_option maxRecDepth 10000

/-- All that lay is as it was, but for the blocks of X. -/
structure Kept (X : Nat → Prop) (w w' : World) : Prop where
  os : w'.os = w.os
  tape : w'.tape = w.tape
  output : w'.output = w.output
  size : w.heap.size ≤ w'.heap.size
  block : ∀ k, k < w.heap.size → ¬X k → w'.heap[k]? = w.heap[k]?

theorem Kept.refl (X : Nat → Prop) (w : World) : Kept X w w := ⟨rfl, rfl, rfl, Nat.le_refl _, fun _ _ _ => rfl⟩
theorem Kept.trans {X Y : Nat → Prop} {a b c : World} (h : Kept X a b) (k : Kept Y b c) (hY : ∀ n, Y n → X n ∨ a.heap.size ≤ n) : Kept X a c :=
  ⟨k.os.trans h.os, k.tape.trans h.tape, k.output.trans h.output, Nat.le_trans h.size k.size, fun n hn hx =>
    (k.block n (Nat.lt_of_lt_of_le hn h.size) (fun hy => (hY n hy).elim hx (fun hl => by omega))).trans (h.block n hn hx)⟩
theorem Kept.mono {X Y : Nat → Prop} {a b : World} (h : Kept X a b) (hY : ∀ n, X n → Y n) : Kept Y a b :=
  ⟨h.os, h.tape, h.output, h.size, fun n hn hy => h.block n hn (fun hx => hy (hY n hx))⟩
theorem Kept.of_below (X : Nat → Prop) {a b : World} (h : Below a.heap.size a b) : Kept X a b :=
  ⟨h.os, h.tape, h.output, h.size, fun n hn _ => h.block n hn⟩
theorem Kept.below {X : Nat → Prop} {a b : World} {B : Nat} (h : Kept X a b) (hB : B ≤ a.heap.size) (hX : ∀ n, X n → B ≤ n) : Below B a b :=
  ⟨h.os, h.tape, h.output, h.size, fun n hn => h.block n (by omega) (fun hx => by have := hX n hx; omega)⟩
theorem Kept.cell {X : Nat → Prop} {a b : World} (h : Kept X a b) {p : Addr} (hp : p.block < a.heap.size) (hx : ¬X p.block) : b.cell? p = a.cell? p :=
  World.cell?_of_block (w := a) (h.block p.block hp hx)
theorem Kept.frozen {X : Nat → Prop} {a b : World} (h : Kept X a b) {p : Addr} (hp : p.block < a.heap.size) (hx : ¬X p.block) : b.frozen? p = a.frozen? p :=
  World.frozen?_of_block (w := a) (h.block p.block hp hx)
theorem Kept.setCell {X : Nat → Prop} {a w : World} (h : Kept X a w) {p : Addr} (hp : X p.block) (u : Value) : Kept X a (w.setCell p u) :=
  ⟨h.os, h.tape, h.output, by simpa using h.size, fun n hn hx => by
    rw [Below.heap_setCell _ _ _ _ (fun e => hx (by rw [e]; exact hp))]; exact h.block n hn hx⟩
theorem Kept.setNew {X : Nat → Prop} {a w : World} (h : Kept X a w) {p : Addr} (hp : a.heap.size ≤ p.block) (u : Value) : Kept X a (w.setCell p u) :=
  ⟨h.os, h.tape, h.output, by simpa using h.size, fun n hn hx => by
    rw [Below.heap_setCell _ _ _ _ (by omega)]; exact h.block n hn hx⟩
theorem Kept.drewN {X : Nat → Prop} {a w : World} (h : Kept X a w) (n : Nat) : Kept X a (w.drewN n) :=
  h.trans (Kept.of_below (fun _ => False) (belowN (Below.refl _ _) n)) (fun _ hf => hf.elim)
theorem Kept.alloc {X : Nat → Prop} {a w : World} (h : Kept X a w) (o : Obj) : Kept X a (w.alloc o) :=
  h.trans (Kept.of_below (fun _ => False) ((Below.refl _ _).alloc (Nat.le_refl _) o)) (fun _ hf => hf.elim)

/-- What an object's blocks are behind a call: of those that were, or new ones. -/
def Grows (w : World) (X X' : Nat → Prop) : Prop := ∀ n, X' n → X n ∨ w.heap.size ≤ n
theorem Grows.refl (w : World) (X : Nat → Prop) : Grows w X X := fun _ h => .inl h
theorem Grows.trans {a b : World} {X Y Z : Nat → Prop} (h : Grows a X Y) (k : Grows b Y Z) (hab : a.heap.size ≤ b.heap.size) : Grows a X Z := fun n hz =>
  (k n hz).elim (fun hy => h n hy) (fun hb => .inr (by omega))
/-- Blocks of which none is among X lie apart from what X has become. -/
theorem Grows.apart {w : World} {X X' Y : Nat → Prop} (h : Grows w X X') (hY : ∀ n, Y n → n < w.heap.size) (hd : ∀ n, X n → ¬Y n) : ∀ n, X' n → ¬Y n := fun n hx hy =>
  (h n hx).elim (fun hx => hd n hx hy) (fun hb => by have := hY n hy; omega)

/-- A block that holds just these cells, and they may be written. -/
def Holds (w : World) (g : Nat) (C : List Value) (e : TypeId) : Prop := w.heap[g]? = some (.cells C.toArray e)

theorem Holds.cell {w : World} {g : Nat} {C : List Value} {e : TypeId} (h : Holds w g C e) (k : Nat) (v : Value) (hk : C[k]? = some v) : w.cell? ⟨g, k, none⟩ = some v := by
  unfold World.cell?
  rw [show w.heap[(⟨g, k, none⟩ : Addr).block]? = some (.cells C.toArray e) from h]
  simpa using hk
theorem Holds.free {w : World} {g : Nat} {C : List Value} {e : TypeId} (h : Holds w g C e) (k : Nat) : w.frozen? ⟨g, k, none⟩ = false := by
  unfold World.frozen?
  rw [show w.heap[(⟨g, k, none⟩ : Addr).block]? = some (.cells C.toArray e) from h]
  simp
theorem Holds.set {w : World} {g : Nat} {C : List Value} {e : TypeId} (h : Holds w g C e) (k : Nat) (v : Value) : Holds (w.setCell ⟨g, k, none⟩ v) g (C.set k v) e := by
  unfold Holds at *
  simp only [World.setCell, Array.getElem?_modify]
  simp [h]

theorem Holds.ne {w : World} {g r : Nat} {C : List Value} {e : TypeId} (h : Holds w r C e) (hne : r ≠ g) (k : Nat) (v : Value) : Holds (w.setCell ⟨g, k, none⟩ v) r C e := by
  unfold Holds at *
  rw [Below.heap_setCell _ _ _ _ hne]; exact h

theorem owns_of_block {w w' : World} {B : Nat} {e : TypeId} {size : Nat} {v : Value} {n : Nat} {xs : List Value} (h : w.ownsRow B e size v n xs) (hb : ∀ g, v.ownBlock = some g → w'.heap[g]? = w.heap[g]?) : w'.ownsRow B e size v n xs := by
  refine ⟨h.1, ?_⟩
  rcases h.2 with h0 | ⟨g, cap, cur, rfl, h1, h2, h3⟩
  · exact .inl h0
  · exact .inr ⟨g, cap, cur, rfl, h1, by rw [hb g rfl]; exact h2, h3⟩
theorem owns_setCell {w : World} {B p k : Nat} {e : TypeId} {size : Nat} {v u : Value} {n : Nat} {xs : List Value} (h : w.ownsRow B e size v n xs) (hne : v.ownBlock ≠ some p) : (w.setCell ⟨p, k, none⟩ u).ownsRow B e size v n xs :=
  owns_of_block h fun g hg => Below.heap_setCell _ _ _ _ (fun e => hne (by rw [hg]; exact congrArg some e))
theorem Holds.lt {w : World} {g : Nat} {C : List Value} {e : TypeId} (h : Holds w g C e) : g < w.heap.size := (Array.getElem?_eq_some_iff.1 h).1
theorem Holds.of_block {w w' : World} {g : Nat} {C : List Value} {e : TypeId} (h : Holds w g C e) (hb : w'.heap[g]? = w.heap[g]?) : Holds w' g C e := by unfold Holds at *; rw [hb]; exact h

end Go.Proofs.Pk
