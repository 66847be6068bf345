/- Layer 6 (root): files and roots as mathematics; files that a slice holds. -/
import Derived.Test.YtbfdhonmmoikdaaSpcB
namespace Go.Proofs.Ytbfdhonmmoikdaa
open Go.RowKit Go.Proofs Go.Proofs.Pk
set_option maxRecDepth 10000

/-- A file: its number, its first sector, how many. -/
abbrev FileV := Int × Int × Int
def fileV (f : FileV) : List Value := [.int .i64 f.1, .int .i64 f.2.1, .int .i64 f.2.2]
def FitF (f : FileV) : Prop := Fit f.1 ∧ Fit f.2.1 ∧ Fit f.2.2
/-- Files that a slice holds. -/
def Files (w : World) (ad : Option Addr) (len : Nat) (l : List FileV) : Prop :=
  l.length = len ∧ (l = [] ∨ ∃ b off, ad = some ⟨b, off, none⟩ ∧ b < w.heap.size ∧ ∀ i (h : i < l.length), w.rangeAt b (off + i * 3) (fileV l[i]) ∧ FitF l[i])
theorem Files.below {w w' : World} {ad : Option Addr} {len : Nat} {l : List FileV} (h : Files w ad len l) (hb : Below w.heap.size w w') : Files w' ad len l := by
  refine ⟨h.1, ?_⟩
  rcases h.2 with h | ⟨b, off, h1, h2, h3⟩
  · exact .inl h
  · exact .inr ⟨b, off, h1, Nat.lt_of_lt_of_le h2 hb.size, fun i hi => ⟨fun j v hv => by rw [hb.cell (p := ⟨b, off + i * 3 + j, none⟩) h2]; exact (h3 i hi).1 j v hv, (h3 i hi).2⟩⟩
theorem files_at {w : World} {ad : Option Addr} {len : Nat} {l : List FileV} (h : Files w ad len l) (j : Nat) (hj : j < len) :
    ∃ b off, ad = some ⟨b, off, none⟩ ∧ b < w.heap.size ∧ w.rangeAt b (off + j * 3) (fileV (l[j]'(by rw [h.1]; exact hj))) ∧ FitF (l[j]'(by rw [h.1]; exact hj)) := by
  have hl := h.1
  rcases h.2 with h | ⟨b, off, h1, h2, h3⟩
  · rw [h] at hl; simp at hl; omega
  · exact ⟨b, off, h1, h2, h3 j (by omega)⟩
theorem Files.fit {w : World} {ad : Option Addr} {len : Nat} {l : List FileV} (h : Files w ad len l) : ∀ f ∈ l, FitF f := by
  intro r hr
  rcases h.2 with h0 | ⟨b, off, _, _, h3⟩
  · rw [h0] at hr; simp at hr
  · obtain ⟨i, hi, rfl⟩ := List.getElem_of_mem hr
    exact (h3 i hi).2
theorem file_info : (Try.prog.info? 39).map (fun i => (i.zero, i.size, i.bytes)) = some (some (.agg #[.int .i64 0, .int .i64 0, .int .i64 0]), 3, 24) := by kernel_rfl
theorem root_info : (Try.prog.info? 24).map (fun i => (i.zero, i.size, i.bytes)) = some (some (.agg #[.int .i64 0, .int .i64 0, .int .i64 0, .slice none 0 0]), 4, 48) := by kernel_rfl

/-- Files looked at one behind the other: numbers that go up, below the next one, from sector 18 on. -/
def okF (next : Int) : Int → List FileV → Bool
  | _, [] => true
  | last, f :: l => !(decide (f.1 ≤ last) || decide (next ≤ f.1) || decide (f.2.1 < 18)) && okF next f.1 l
def usedF (l : List FileV) : List (Int × Int) := l.map (·.2)
def curF (cur : Int) (l : List FileV) : Bool := (cur == 0) || l.any (fun f => f.1 == cur)
def headF (seq next : Int) (n : Nat) : Bool := decide (1 ≤ seq) && decide (seq ≤ 9007199254740991) && decide (1 ≤ next) && decide (next ≤ 9007199254740991) && decide (n ≤ 24)
/-- Is a root right? -/
def rightV (T seq next cur : Int) (l : List FileV) : Bool := headF seq next l.length && okF next 0 l && curF cur l && (takenO T (usedF l)).isSome
theorem curF_snoc (cur : Int) (l : List FileV) (f : FileV) : curF cur (l ++ [f]) = (curF cur l || f.1 == cur) := by
  unfold curF; rw [List.any_append]; simp [Bool.or_assoc]
theorem usedF_snoc (l : List FileV) (f : FileV) : usedF (l ++ [f]) = usedF l ++ [f.2] := by unfold usedF; simp

end Go.Proofs.Ytbfdhonmmoikdaa
