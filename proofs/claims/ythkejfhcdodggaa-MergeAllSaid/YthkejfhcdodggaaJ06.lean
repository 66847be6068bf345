/- Lit. -/
import Derived.Test.YthkejfhcdodggaaJ02
import Derived.Test.YthkejfhcdodggaaJ05
import Derived.Test.YthkejfhcdodggaaJ04

/- Slices that have just been made of some entries, of some numbers. -/
namespace Go.Proofs.Ythkejfhcdodggaa
open Go.RowKit Go.Proofs Go.Proofs.Pk
set_option maxRecDepth 10000

theorem size_al (w : World) (o : Obj) : (w.alloc o).heap.size = w.heap.size + 1 := by unfold World.alloc; exact Array.size_push _
theorem lit_ents (w : World) (l : List MEnt) (hf : ∀ e ∈ l, FitN e.2.1) : EntsW (w.alloc (.cells (cellsM l).toArray 34)) (some ⟨w.heap.size, 0, none⟩) l.length l := by
  have hh := Holds.new w (cellsM l) 34
  exact ⟨rfl, .inr ⟨_, 0, rfl, hh.lt, fun i hi => ⟨fun j v hv => hh.cell (0 + i * 4 + j) v (by rw [Nat.zero_add]; exact cellsM_get l i hi j v hv), hf _ (List.getElem_mem hi)⟩⟩⟩
theorem lit_ints (w : World) (l : List Int) : Ints (w.alloc (.cells (l.map fun i => Value.int .i64 i).toArray 3)) (some ⟨w.heap.size, 0, none⟩) l.length l := by
  have hh := Holds.new w (l.map fun i => Value.int .i64 i) 3
  exact ⟨rfl, .inr ⟨_, 0, rfl, hh.lt, fun i hi => hh.cell (0 + i) _ (by rw [Nat.zero_add, List.getElem?_map, List.getElem?_eq_getElem hi]; rfl)⟩⟩

end Go.Proofs.Ythkejfhcdodggaa
