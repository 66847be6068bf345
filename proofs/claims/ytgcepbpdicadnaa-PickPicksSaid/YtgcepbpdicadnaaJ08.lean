/- PkK, Lit, Ow14. -/
import Derived.Test.YtgcepbpdicadnaaJ04
import Derived.Test.YtgcepbpdicadnaaJ05
import Derived.Test.YtgcepbpdicadnaaJ06
import Derived.Test.YtgcepbpdicadnaaJ07
import Derived.Laws.AppendOwnNone

/- The contract that the laws of layer 16 want of the program's choice, whatever it is made by. -/
namespace Go.Proofs.Ytgcepbpdicadnaa
open Go.RowKit Go.Proofs Go.Proofs.Pk
set_option maxRecDepth 10000

def jobC (n : Int) (ia : Option Addr) (il ic : Nat) (ua : Option Addr) (ul uc : Nat) (b : Bool) : Value := .agg #[.int .i64 n, .slice ia il ic, .slice ua ul uc, .bool b]
/-- What Pick answers. -/
def JobE (w : World) (o : Option JobV) (e : Ending) (w' : World) : Prop :=
  ∃ ia il ic ua ul uc, e = .returned (.tuple #[jobC (o.getD zeroJ).1 ia il ic ua ul uc (o.getD zeroJ).2.2.2, .bool o.isSome]) ∧ Ints w' ia il (o.getD zeroJ).2.1 ∧ BndI ia il ic (o.getD zeroJ).2.1 ∧ Ints w' ua ul (o.getD zeroJ).2.2.1 ∧ BndI ua ul uc (o.getD zeroJ).2.2.1 ∧ Kept (fun _ => False) w w'
/-- A piece: where it lies, in a block of its own that is none of the list's. -/
structure PcAt (w0 w : World) (g : Nat) (p : Nat × Nat) (l : List MEnt) : Prop where
  base : w0.heap.size ≤ p.1
  lt : p.1 < w.heap.size
  ne : p.1 ≠ g
  free : ∀ o, w.frozen? ⟨p.1, o, none⟩ = false
  row : w.rangeAt p.1 p.2 (cellsM l)
  fit : ∀ e ∈ l, FitN e.2.1
/-- Pieces in memory: no two share a cell. -/
def PcsW (w0 w : World) (ad : Option Addr) (n : Nat) (Ls : List (List MEnt)) : Prop :=
  Ls.length = n ∧ (Ls = [] ∨ ∃ (g og : Nat) (pl : Nat → Nat × Nat), ad = some ⟨g, og, none⟩ ∧ g < w.heap.size ∧ w0.heap.size ≤ g ∧
    (∀ i (h : i < Ls.length), (∃ ci, w.cell? ⟨g, og + i, none⟩ = some (.slice (some ⟨(pl i).1, (pl i).2, none⟩) Ls[i].length ci) ∧ Ls[i].length ≤ ci) ∧ PcAt w0 w g (pl i) Ls[i]) ∧
    ∀ i k (h : i < Ls.length) (hk : k < Ls.length), i ≠ k → (pl i).1 ≠ (pl k).1 ∨ (pl i).2 + Ls[i].length * 4 ≤ (pl k).2 ∨ (pl k).2 + Ls[k].length * 4 ≤ (pl i).2)
/-- What Cut answers. -/
def CutE (w : World) (r : List (List MEnt) × Bool) (e : Ending) (w' : World) : Prop :=
  ∃ (ad : Option Addr) (cap : Nat), e = .returned (.tuple #[.slice ad r.1.length cap, errV 62 (if r.2 = true then 0 else 1)]) ∧ PcsW w w' ad r.1.length r.1 ∧ Kept (fun _ => False) w w'
def cutR (l : List MEnt) (k : Int) : List (List MEnt) × Bool := if 1 ≤ k then (cutP k.toNat l, true) else ([], false)
structure PkK : Prop where
  limit : ∀ (n : Int) (w : World), FitV n → Calls Try.prog 12 #[.int .i64 n] w fun e w' => e = .returned (.int .i64 (limM n)) ∧ Kept (fun _ => False) w w'
  pick : ∀ (w : World) (ad : Option Addr) (len cap : Nat) (ad2 : Option Addr) (len2 cap2 : Nat) (v : VerV), VerW w ad len cap ad2 len2 cap2 v →
    Calls Try.prog 9 #[verC ad len cap ad2 len2 cap2 v.2.2] w (JobE w (pickM v))
  cut : ∀ (w : World) (ad : Option Addr) (len cap : Nat) (l : List MEnt) (k : Int), EntsW w ad len l → len ≤ 1000 → len ≤ cap → FitN k →
    Calls Try.prog 15 #[.slice ad len cap, .int .i64 k] w (CutE w (cutR l k))
/-- The lesser contract of versions: asked whether one is right, and for a level. -/
structure VnJ : Prop where
  right : ∀ (w : World) (ad : Option Addr) (len cap : Nat) (ad2 : Option Addr) (len2 cap2 : Nat) (v : VerV), VerW w ad len cap ad2 len2 cap2 v →
    Calls Try.prog 18 #[verC ad len cap ad2 len2 cap2 v.2.2] w fun r w' => r = .returned (.bool (rightV v)) ∧ Kept (fun _ => False) w w'
  level : ∀ (w : World) (ad : Option Addr) (len cap : Nat) (ad2 : Option Addr) (len2 cap2 : Nat) (v : VerV) (n : Int), VerW w ad len cap ad2 len2 cap2 v → FitV n →
    Calls Try.prog 21 #[verC ad len cap ad2 len2 cap2 v.2.2, .int .i64 n] w fun r w' => ∃ ad len cap, r = .returned (.slice ad len cap) ∧ MetasW w' ad len (levelV v n) ∧ Kept (fun _ => False) w w'

/-- Pieces are entries that are read. -/
theorem PcAt.ents {w0 w : World} {g : Nat} {p : Nat × Nat} {l : List MEnt} (h : PcAt w0 w g p l) : EntsW w (some ⟨p.1, p.2, none⟩) l.length l :=
  ⟨rfl, .inr ⟨p.1, p.2, rfl, h.lt, fun i hi => ⟨fun j v hv => by
    have := h.row (i * 4 + j) v (cellsM_get l i hi j v hv)
    rw [Nat.add_assoc]; exact this, h.fit _ (List.getElem_mem hi)⟩⟩⟩
theorem PcAt.kept {w0 w w' : World} {g : Nat} {p : Nat × Nat} {l : List MEnt} (h : PcAt w0 w g p l) (hk : Kept (fun _ => False) w w') : PcAt w0 w' g p l where
  base := h.base
  lt := Nat.lt_of_lt_of_le h.lt hk.size
  ne := h.ne
  free o := by
    have hb := hk.block p.1 h.lt (fun f => f)
    have := h.free o
    unfold World.frozen? at this ⊢
    simp only [hb]
    exact this
  row j v hv := (hk.cell (p := ⟨p.1, p.2 + j, none⟩) h.lt (fun f => f)).trans (h.row j v hv)
  fit := h.fit
theorem PcsW.kept {w0 w w' : World} {ad : Option Addr} {n : Nat} {Ls : List (List MEnt)} (h : PcsW w0 w ad n Ls) (hk : Kept (fun _ => False) w w') : PcsW w0 w' ad n Ls := by
  refine ⟨h.1, h.2.imp_right ?_⟩
  rintro ⟨g, og, pl, h1, h2, h3, h4, h5⟩
  refine ⟨g, og, pl, h1, Nat.lt_of_lt_of_le h2 hk.size, h3, fun i hi => ?_, h5⟩
  obtain ⟨⟨ci, hc, hl⟩, hp⟩ := h4 i hi
  exact ⟨⟨ci, (hk.cell (p := ⟨g, og + i, none⟩) h2 (fun f => f)).trans hc, hl⟩, hp.kept hk⟩
theorem PcsW.ls {w0 w : World} {ad : Option Addr} {n : Nat} {Ls : List (List MEnt)} (h : PcsW w0 w ad n Ls) : LsE w ad n Ls := by
  refine ⟨h.1, h.2.imp_right ?_⟩
  rintro ⟨g, og, pl, h1, h2, h3, h4, h5⟩
  refine ⟨g, og, h1, h2, fun i hi => ?_⟩
  obtain ⟨⟨ci, hc, hl⟩, hp⟩ := h4 i hi
  exact ⟨_, ci, hc, hp.ents, hl⟩

end Go.Proofs.Ytgcepbpdicadnaa

/- Slices that have just been made of some entries, of some numbers. -/
namespace Go.Proofs.Ytgcepbpdicadnaa
open Go.RowKit Go.Proofs Go.Proofs.Pk
set_option maxRecDepth 10000

theorem size_al (w : World) (o : Obj) : (w.alloc o).heap.size = w.heap.size + 1 := by unfold World.alloc; exact Array.size_push _
theorem lit_ents (w : World) (l : List MEnt) (hf : ∀ e ∈ l, FitN e.2.1) : EntsW (w.alloc (.cells (cellsM l).toArray 45)) (some ⟨w.heap.size, 0, none⟩) l.length l := by
  have hh := Holds.new w (cellsM l) 45
  exact ⟨rfl, .inr ⟨_, 0, rfl, hh.lt, fun i hi => ⟨fun j v hv => hh.cell (0 + i * 4 + j) v (by rw [Nat.zero_add]; exact cellsM_get l i hi j v hv), hf _ (List.getElem_mem hi)⟩⟩⟩
theorem lit_ints (w : World) (l : List Int) : Ints (w.alloc (.cells (l.map fun i => Value.int .i64 i).toArray 3)) (some ⟨w.heap.size, 0, none⟩) l.length l := by
  have hh := Holds.new w (l.map fun i => Value.int .i64 i) 3
  exact ⟨rfl, .inr ⟨_, 0, rfl, hh.lt, fun i hi => hh.cell (0 + i) _ (by rw [Nat.zero_add, List.getElem?_map, List.getElem?_eq_getElem hi]; rfl)⟩⟩

end Go.Proofs.Ytgcepbpdicadnaa

/- Slices of numbers and of tables' descriptions that a call has built by append. -/
namespace Go.Proofs.Ytgcepbpdicadnaa
open Go.RowKit Go.Proofs Go.Proofs.Pk
set_option maxRecDepth 10000

def intC (n : Int) : Value := .int .i64 n
theorem int_info : (Try.prog.info? 3).map (fun i => (i.zero, i.size, i.bytes)) = some (some (.int .i64 0), 1, 8) := by kernel_rfl
theorem meta_info : (Try.prog.info? 49).map (fun i => (i.zero, i.size, i.bytes)) = some (some (.agg (metaC (0, 0, [], [], 0)).toArray), 5, 56) := by kernel_rfl
theorem parts_of {P : Program} {t : TypeId} {z : Value} {s b : Nat} (h : (P.info? t).map (fun i => (i.zero, i.size, i.bytes)) = some (some z, s, b)) : ∃ i, P.info? t = some i ∧ i.zero = some z ∧ i.size = s ∧ i.bytes = b := by
  cases hi : P.info? t with
  | none => rw [hi] at h; cases h
  | some i =>
    rw [hi] at h
    simp only [Option.map_some, Option.some.injEq, Prod.mk.injEq] at h
    exact ⟨i, rfl, h.1, h.2.1, h.2.2⟩
theorem meta_one (u : MetaV) : ∀ x ∈ metaC u, x.oneCell' = true := by
  intro x hx
  simp only [metaC, List.mem_cons, List.not_mem_nil, or_false] at hx
  rcases hx with rfl | rfl | rfl | rfl | rfl <;> rfl
theorem meta_size : (Try.prog.info? 49).map (·.size) = some 5 := by kernel_rfl
theorem metasC_length : ∀ T : List MetaV, (T.flatMap metaC).length = T.length * 5
  | [] => rfl
  | e :: T => by
    rw [List.flatMap_cons, List.length_append, metasC_length T, List.length_cons]
    show 5 + T.length * 5 = _
    omega
theorem metasC_get : ∀ (T : List MetaV) (i : Nat) (h : i < T.length) (t : Nat) (u : Value), (metaC T[i])[t]? = some u → (T.flatMap metaC)[i * 5 + t]? = some u
  | e :: T, 0, _, t, u, hu => by
    have ht : t < 5 := by have := (List.getElem?_eq_some_iff.1 hu).1; simpa [metaC] using this
    rw [List.flatMap_cons, List.getElem?_append_left (by show 0 * 5 + t < 5; omega), show 0 * 5 + t = t from by omega]
    exact hu
  | e :: T, i + 1, h, t, u, hu => by
    have := metasC_get T i (by simpa using h) t u (by simpa using hu)
    rw [List.flatMap_cons, List.getElem?_append_right (by show 5 ≤ (i + 1) * 5 + t; omega), show (i + 1) * 5 + t - (metaC e).length = i * 5 + t from by show (i + 1) * 5 + t - 5 = _; omega]
    exact this
theorem owns_ints {w : World} {B n : Nat} {v : Value} {l : List Int} (h : w.ownsRow B 3 1 v n (l.map intC)) (hl : l.length = n) : ∃ ad cap, v = .slice ad n cap ∧ Ints w ad n l ∧ n ≤ cap ∧ (ad = none → n = 0 ∧ cap = 0) := by
  rcases h.2 with ⟨h1, h2⟩ | ⟨g, cap, cur, h1, h2, h3, h4, h5, h6, h7⟩
  · subst h2
    have : l = [] := List.length_eq_zero_iff.1 hl
    subst this
    exact ⟨none, 0, h1, ⟨rfl, .inl rfl⟩, Nat.le_refl _, fun _ => ⟨rfl, rfl⟩⟩
  · refine ⟨some ⟨g, 0, none⟩, cap, h1, ⟨hl, .inr ⟨g, 0, rfl, World.ownsRow.lt h g (by rw [h1]; rfl) |>.2, fun i hi => ?_⟩⟩, h4, fun h => by cases h⟩
    have := World.ownsRow.cells h (g := g) (by rw [h1]; rfl) i (intC l[i]) (by rw [List.getElem?_map, List.getElem?_eq_getElem hi]; rfl)
    rw [Addr.add_mid] at this
    exact this
theorem owns_metas {w : World} {B n : Nat} {v : Value} {T : List MetaV} (h : w.ownsRow B 49 5 v n (T.flatMap metaC)) (hl : T.length = n) (hf : ∀ m ∈ T, FitMV m) :
    ∃ ad cap, v = .slice ad n cap ∧ MetasW w ad n T ∧ n ≤ cap ∧ FlatV ad ∧ (ad = none → n = 0 ∧ cap = 0) := by
  rcases h.2 with ⟨h1, h2⟩ | ⟨g, cap, cur, h1, h2, h3, h4, h5, h6, h7⟩
  · subst h2
    have : T = [] := List.length_eq_zero_iff.1 hl
    subst this
    exact ⟨none, 0, h1, ⟨rfl, .inl rfl⟩, Nat.le_refl _, .inl rfl, fun _ => ⟨rfl, rfl⟩⟩
  · refine ⟨some ⟨g, 0, none⟩, cap, h1, ⟨hl, .inr ⟨g, 0, rfl, World.ownsRow.lt h g (by rw [h1]; rfl) |>.2, fun i hi => ⟨fun j u hu => ?_, hf _ (List.getElem_mem hi)⟩⟩⟩, h4, .inr ⟨_, _, rfl⟩, fun h => by cases h⟩
    have := World.ownsRow.cells h (g := g) (by rw [h1]; rfl) (i * 5 + j) u (metasC_get T i hi j u hu)
    rw [Addr.add_mid, ← Nat.add_assoc] at this
    exact this

end Go.Proofs.Ytgcepbpdicadnaa
