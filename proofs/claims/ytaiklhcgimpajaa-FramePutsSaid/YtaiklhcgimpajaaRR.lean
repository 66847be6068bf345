/- What a call returns that makes a list of texts in memory of its own. -/
import Derived.Test.YtaiklhcgimpajaaProg
import Derived.Test.YtaiklhcgimpajaaGen
namespace Go.Proofs.Ytaiklhcgimpajaa
open Go.RowKit Go.Proofs Go.Proofs.Pk
set_option maxRecDepth 10000

theorem info9 : (Try.prog.info? 9).map (fun i => (i.zero, i.size, i.bytes)) = some (some (.string ⟨#[]⟩), 1, 16) := by kernel_rfl

/-- A list of texts in new memory of the call's own, and an error x. -/
def RR (w : World) (T : List (List UInt8)) (x : Value) (e : Ending) (w' : World) : Prop :=
  ∃ v, e = .returned (.tuple #[v, x]) ∧ w'.ownsRow w.heap.size 9 1 v T.length (T.map strV) ∧ Below w.heap.size w w'

theorem RR.mk {w w' : World} {T : List (List UInt8)} {v x x' : Value} (hx : x' = x) (ho : w'.ownsRow w.heap.size 9 1 v T.length (T.map strV)) (h : Below w.heap.size w w') : RR w T x (.returned (.tuple #[v, x'])) w' := by
  subst hx; exact ⟨v, rfl, ho, h⟩

theorem RR.none {w w' : World} {x x' : Value} (hx : x' = x) (h : Below w.heap.size w w') : RR w [] x (.returned (.tuple #[.slice none 0 0, x'])) w' :=
  RR.mk hx (World.ownsRow_nil _ _ _ _) h

/-- A list of texts in new memory of the call's own, and two more results. -/
def RR3 (w : World) (T : List (List UInt8)) (x y : Value) (e : Ending) (w' : World) : Prop :=
  ∃ v, e = .returned (.tuple #[v, x, y]) ∧ w'.ownsRow w.heap.size 9 1 v T.length (T.map strV) ∧ Below w.heap.size w w'

theorem RR3.mk {w w' : World} {T : List (List UInt8)} {v x y x' y' : Value} (hx : x' = x) (hy : y' = y) (ho : w'.ownsRow w.heap.size 9 1 v T.length (T.map strV)) (h : Below w.heap.size w w') : RR3 w T x y (.returned (.tuple #[v, x', y'])) w' := by
  subst hx hy; exact ⟨v, rfl, ho, h⟩

theorem RR.strs {w w' : World} {T : List (List UInt8)} {x : Value} {e : Ending} (h : RR w T x e w') : ∃ ad cap, e = .returned (.tuple #[.slice ad T.length cap, x]) ∧ Strs w' ad T.length T ∧ Below w.heap.size w w' := by
  obtain ⟨v, rfl, ho, hb⟩ := h
  rcases ho.2 with ⟨hv, h0⟩ | ⟨g, cap, cur, hv, h1, h2, h3, h4, h5, h6⟩
  · subst hv
    have : T = [] := List.eq_nil_of_length_eq_zero h0
    subst this
    exact ⟨_, _, rfl, ⟨rfl, .inl rfl⟩, hb⟩
  · subst hv
    refine ⟨_, _, rfl, ⟨rfl, .inr ⟨g, 0, rfl, (Array.getElem?_eq_some_iff.1 h2).1, fun i hi => ?_⟩⟩, hb⟩
    rw [Nat.zero_add, ho.cellAt i (by omega)]
    simp [strV, hi]

theorem RR.owned {w w' : World} {T : List (List UInt8)} {x : Value} {e : Ending} (h : RR w T x e w') : ∃ ad cap, e = .returned (.tuple #[.slice ad T.length cap, x]) ∧ Strs w' ad T.length T ∧
    w'.ownsRow w.heap.size 9 1 (.slice ad T.length cap) T.length (T.map strV) ∧ Below w.heap.size w w' := by
  obtain ⟨v, rfl, ho, hb⟩ := h
  rcases ho.2 with ⟨hv, h0⟩ | ⟨g, cap, cur, hv, h1, h2, h3, h4, h5, h6⟩
  · subst hv
    have : T = [] := List.eq_nil_of_length_eq_zero h0
    subst this
    exact ⟨_, _, rfl, ⟨rfl, .inl rfl⟩, ho, hb⟩
  · subst hv
    refine ⟨_, _, rfl, ⟨rfl, .inr ⟨g, 0, rfl, (Array.getElem?_eq_some_iff.1 h2).1, fun i hi => ?_⟩⟩, ho, hb⟩
    rw [Nat.zero_add, ho.cellAt i (by omega)]
    simp [strV, hi]

theorem RR3.strs {w w' : World} {T : List (List UInt8)} {x y : Value} {e : Ending} (h : RR3 w T x y e w') : ∃ ad cap, e = .returned (.tuple #[.slice ad T.length cap, x, y]) ∧ Strs w' ad T.length T ∧ Below w.heap.size w w' := by
  obtain ⟨v, rfl, ho, hb⟩ := h
  rcases ho.2 with ⟨hv, h0⟩ | ⟨g, cap, cur, hv, h1, h2, h3, h4, h5, h6⟩
  · subst hv
    have : T = [] := List.eq_nil_of_length_eq_zero h0
    subst this
    exact ⟨_, _, rfl, ⟨rfl, .inl rfl⟩, hb⟩
  · subst hv
    refine ⟨_, _, rfl, ⟨rfl, .inr ⟨g, 0, rfl, (Array.getElem?_eq_some_iff.1 h2).1, fun i hi => ?_⟩⟩, hb⟩
    rw [Nat.zero_add, ho.cellAt i (by omega)]
    simp [strV, hi]

theorem RR3.owned {w w' : World} {T : List (List UInt8)} {x y : Value} {e : Ending} (h : RR3 w T x y e w') : ∃ ad cap, e = .returned (.tuple #[.slice ad T.length cap, x, y]) ∧ Strs w' ad T.length T ∧
    w'.ownsRow w.heap.size 9 1 (.slice ad T.length cap) T.length (T.map strV) ∧ Below w.heap.size w w' := by
  obtain ⟨v, rfl, ho, hb⟩ := h
  rcases ho.2 with ⟨hv, h0⟩ | ⟨g, cap, cur, hv, h1, h2, h3, h4, h5, h6⟩
  · subst hv
    have : T = [] := List.eq_nil_of_length_eq_zero h0
    subst this
    exact ⟨_, _, rfl, ⟨rfl, .inl rfl⟩, ho, hb⟩
  · subst hv
    refine ⟨_, _, rfl, ⟨rfl, .inr ⟨g, 0, rfl, (Array.getElem?_eq_some_iff.1 h2).1, fun i hi => ?_⟩⟩, ho, hb⟩
    rw [Nat.zero_add, ho.cellAt i (by omega)]
    simp [strV, hi]

def strLen : Value → Nat
  | .string s => s.size
  | _ => 0

end Go.Proofs.Ytaiklhcgimpajaa
