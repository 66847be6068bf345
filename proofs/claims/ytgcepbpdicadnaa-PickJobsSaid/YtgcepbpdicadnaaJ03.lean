/- DskM, Mid, CrM. -/
import Derived.Test.YtgcepbpdicadnaaJ01
import Derived.Test.YtgcepbpdicadnaaJ02
import Derived.Deep.MidRow
import Derived.Laws.IdiomCopy
import Derived.Laws.CopyRow
import Derived.Lib.LazyBuf
import Derived.Great.BuildSlice
import Derived.Great.FillDense

/- Plain mathematics for layer 4 (disk): what a disk is, and what its calls do. No Go, no program. -/
namespace Go.Proofs.Pk
set_option maxRecDepth 10000

/-- What lasts, by sectors; the cache, the first write first; the fuse (-1: not set); whether the power is off; how many writes there were. -/
structure Dsk where
  L : List (List UInt8)
  C : List (Nat × List UInt8)
  fuse : Int
  off : Bool
  n : Nat

def padL (s : List UInt8) : List UInt8 := s ++ List.replicate (64 - s.length) 0
def Dsk.new (k : Nat) : Dsk := ⟨List.replicate k (List.replicate 64 0), [], -1, false, 0⟩
/-- The last write to a sector in the cache. -/
def lastW (C : List (Nat × List UInt8)) (k : Nat) : Option (List UInt8) := (C.reverse.find? (fun x => x.1 == k)).map (·.2)
/-- Read: the bytes, the error. -/
def Dsk.read (S : Dsk) (k : Int) : List UInt8 × Nat :=
  if S.off then ([], 6) else if k < 0 ∨ (S.L.length : Int) ≤ k then ([], 1)
  else ((lastW S.C k.toNat).getD (S.L.getD k.toNat []), 0)
/-- Write: the disk, the error. -/
def Dsk.write (S : Dsk) (k : Int) (s : List UInt8) : Dsk × Nat :=
  if S.off then (S, 6) else if k < 0 ∨ (S.L.length : Int) ≤ k then (S, 1) else if 64 < s.length then (S, 5)
  else if S.fuse = 0 then ({ S with off := true }, 6)
  else ({ S with fuse := if 0 < S.fuse then S.fuse - 1 else S.fuse, n := S.n + 1, C := S.C ++ [(k.toNat, padL s)] }, 0)
/-- The writes of the cache, one by one. -/
def syncL (L : List (List UInt8)) (C : List (Nat × List UInt8)) : List (List UInt8) := C.foldl (fun L x => L.set x.1 x.2) L
def Dsk.sync (S : Dsk) : Dsk × Nat := if S.off then (S, 6) else ({ S with L := syncL S.L S.C, C := [] }, 0)
def Dsk.setFuse (S : Dsk) (n : Int) : Dsk := { S with fuse := max n (-1) }
/-- What a crash does with the write of index i. -/
def crashOne (keeps : List Int) (torn bytes : Int) (L : List (List UInt8)) (i : Nat) (x : Nat × List UInt8) : List (List UInt8) :=
  if (i : Int) = torn then L.set x.1 (x.2.take (min (max bytes 0) 64).toNat ++ (L.getD x.1 []).drop (min (max bytes 0) 64).toNat)
  else if i < keeps.length ∧ (keeps.getD i 0) % 2 ≠ 0 then L.set x.1 x.2 else L
def crashL (keeps : List Int) (torn bytes : Int) (L : List (List UInt8)) (i : Nat) : List (Nat × List UInt8) → List (List UInt8)
  | [] => L
  | x :: C => crashL keeps torn bytes (crashOne keeps torn bytes L i x) (i + 1) C
def Dsk.crash (S : Dsk) (keeps : List Int) (torn bytes : Int) : Dsk := { S with L := crashL keeps torn bytes S.L 0 S.C, C := [], fuse := -1, off := false }

/-- A disk as it should be: sectors of 64 bytes, writes to sectors that are there. -/
structure Dsk.Ok (S : Dsk) : Prop where
  few : S.L.length ≤ 4000
  sect : ∀ s ∈ S.L, s.length = 64
  cach : ∀ x ∈ S.C, x.1 < S.L.length ∧ x.2.length = 64
  fus : -1 ≤ S.fuse ∧ S.fuse ≤ 9223372036854775807

theorem padL_length (s : List UInt8) (h : s.length ≤ 64) : (padL s).length = 64 := by
  unfold padL; rw [List.length_append, List.length_replicate]; omega
theorem Dsk.new_ok (k : Nat) (h : k ≤ 4000) : (Dsk.new k).Ok :=
  ⟨by simpa [Dsk.new] using h, by simp [Dsk.new], by simp [Dsk.new], by simp [Dsk.new]⟩
theorem Dsk.write_ok {S : Dsk} (h : S.Ok) (k : Int) (s : List UInt8) : (S.write k s).1.Ok := by
  unfold Dsk.write
  repeat' split
  all_goals (first | exact h | skip)
  · exact ⟨h.few, h.sect, h.cach, h.fus⟩
  · rename_i h1 h2 h3 h4
    refine ⟨h.few, h.sect, ?_, ?_⟩
    · intro x hx
      rcases List.mem_append.1 hx with hx | hx
      · exact h.cach x hx
      · have : x = (k.toNat, padL s) := by simpa using hx
        subst this
        exact ⟨by simp only []; omega, padL_length s (by omega)⟩
    · have := h.fus; simp only []; omega
  · rename_i h1 h2 h3 h4
    refine ⟨h.few, h.sect, ?_, ?_⟩
    · intro x hx
      rcases List.mem_append.1 hx with hx | hx
      · exact h.cach x hx
      · have : x = (k.toNat, padL s) := by simpa using hx
        subst this
        exact ⟨by simp only []; omega, padL_length s (by omega)⟩
    · have := h.fus; simp only []; omega

theorem lastW_nil (k : Nat) : lastW [] k = none := rfl
theorem lastW_snoc (C : List (Nat × List UInt8)) (x : Nat × List UInt8) (k : Nat) : lastW (C ++ [x]) k = if x.1 = k then some x.2 else lastW C k := by
  unfold lastW
  rw [List.reverse_append]
  simp only [List.reverse_cons, List.reverse_nil, List.nil_append, List.singleton_append, List.find?_cons]
  by_cases h : x.1 = k
  · simp [h]
  · rw [show (x.1 == k) = false from by simpa using h]; simp [h]
theorem lastW_take (C : List (Nat × List UInt8)) (j : Nat) (h : j < C.length) (k : Nat) : lastW (C.take (j + 1)) k = if (C[j]).1 = k then some (C[j]).2 else lastW (C.take j) k := by
  rw [List.take_succ_eq_append_getElem h, lastW_snoc]
theorem Dsk.read_off {S : Dsk} (h : S.off = true) (k : Int) : S.read k = ([], 6) := by unfold Dsk.read; rw [if_pos h]
theorem Dsk.read_arg {S : Dsk} (h : S.off = false) (k : Int) (hk : k < 0 ∨ (S.L.length : Int) ≤ k) : S.read k = ([], 1) := by unfold Dsk.read; rw [if_neg (by simp [h]), if_pos hk]
theorem Dsk.read_ok {S : Dsk} (h : S.off = false) (k : Nat) (hk : k < S.L.length) : S.read k = ((lastW S.C k).getD (S.L[k]), 0) := by
  unfold Dsk.read; rw [if_neg (by simp [h]), if_neg (by omega)]; simp [List.getD, hk]

end Go.Proofs.Pk

/- Rows of cells in the midst of a block: what is read of them, what a store makes of them. No program. -/
namespace Go.Proofs.Pk
open Go.RowKit
set_option maxRecDepth 10000

/-- A list with some cells written over from a place on. -/
def lay (C : List Value) (o : Nat) (vs : List Value) : List Value := C.take o ++ (vs ++ C.drop (o + vs.length))
theorem lay_length (C : List Value) (o : Nat) (vs : List Value) (h : o + vs.length ≤ C.length) : (lay C o vs).length = C.length := by
  unfold lay; simp; omega
theorem lay_all (C vs : List Value) (h : C.length = vs.length) : lay C 0 vs = vs := by
  unfold lay; rw [List.take_zero, List.nil_append, Nat.zero_add, ← h, List.drop_length, List.append_nil]
theorem lay_nil (C : List Value) (o : Nat) : lay C o [] = C := by unfold lay; simp
theorem lay_cons (C : List Value) (o : Nat) (v : Value) (vs : List Value) (h : o + (vs.length + 1) ≤ C.length) : lay (C.set o v) (o + 1) vs = lay C o (v :: vs) := by
  have := list_seg_step C o v vs h
  unfold lay
  simp only [List.append_assoc, List.length_cons, List.cons_append] at this ⊢
  rw [this]

theorem Holds.range {w : World} {g : Nat} {C : List Value} {e : TypeId} (h : Holds w g C e) (o : Nat) (cs : List Value) (hc : ∀ j v, cs[j]? = some v → C[o + j]? = some v) : w.rangeAt g o cs :=
  fun j v hv => h.cell (o + j) v (hc j v hv)
theorem Holds.there {w : World} {g : Nat} {C : List Value} {e : TypeId} (h : Holds w g C e) (o n : Nat) (hn : o + n ≤ C.length) : w.there g o n := fun j hj =>
  ⟨by rw [h.cell (o + j) C[o + j] (by rw [List.getElem?_eq_getElem (by omega)])]; rfl, h.free (o + j)⟩
theorem Holds.setCells {e : TypeId} {g : Nat} : ∀ (vs : List Value) (o : Nat) (w : World) (C : List Value), Holds w g C e → o + vs.length ≤ C.length → Holds (w.setCells g o vs) g (lay C o vs) e
  | [], o, w, C, h, _ => by rw [lay_nil]; exact h
  | v :: r, o, w, C, h, hl => by
    rw [List.length_cons] at hl
    rw [← lay_cons C o v r hl]
    exact Holds.setCells r (o + 1) (w.setCell ⟨g, o, none⟩ v) (C.set o v) (h.set o v) (by rw [List.length_set]; omega)
theorem setCells_other (g : Nat) (k : Nat) (hk : k ≠ g) : ∀ (vs : List Value) (o : Nat) (w : World), (w.setCells g o vs).heap[k]? = w.heap[k]?
  | [], _, _ => rfl
  | v :: r, o, w => by
    rw [World.setCells, setCells_other g k hk r (o + 1) _, Below.heap_setCell _ _ _ _ hk]
theorem setCells_size (g : Nat) : ∀ (vs : List Value) (o : Nat) (w : World), (w.setCells g o vs).heap.size = w.heap.size
  | [], _, _ => rfl
  | v :: r, o, w => by rw [World.setCells, setCells_size g r (o + 1) _]; simp
theorem Kept.setCells {X : Nat → Prop} {a : World} {g : Nat} (hg : X g) : ∀ (vs : List Value) (o : Nat) (w : World), Kept X a w → Kept X a (w.setCells g o vs)
  | [], _, _, h => h
  | v :: r, o, w, h => Kept.setCells hg r (o + 1) _ (h.setCell (p := ⟨g, o, none⟩) hg v)
theorem Kept.setCellsN {X : Nat → Prop} {a : World} {g : Nat} (hg : a.heap.size ≤ g) : ∀ (vs : List Value) (o : Nat) (w : World), Kept X a w → Kept X a (w.setCells g o vs)
  | [], _, _, h => h
  | v :: r, o, w, h => Kept.setCellsN hg r (o + 1) _ (h.setNew (p := ⟨g, o, none⟩) hg v)
theorem Holds.setOther {w : World} {g k o : Nat} {C vs : List Value} {e : TypeId} (h : Holds w k C e) (hk : k ≠ g) : Holds (w.setCells g o vs) k C e :=
  h.of_block (setCells_other g k hk vs o w)
theorem Holds.drew {w : World} {k : Nat} {C : List Value} {e : TypeId} (h : Holds w k C e) : Holds w.drew k C e := h
theorem Holds.alloc {w : World} {k : Nat} {C : List Value} {e : TypeId} (h : Holds w k C e) (o : Obj) : Holds (w.alloc o) k C e :=
  h.of_block (by have := h.lt; simp only [World.alloc]; rw [Array.getElem?_push_lt this, Array.getElem?_eq_getElem this])
theorem Holds.new (w : World) (C : List Value) (e : TypeId) : Holds (w.alloc (.cells C.toArray e)) w.heap.size C e := by
  unfold Holds World.alloc; rw [Array.getElem?_push_size]

/-- The cells of sectors. -/
def cellsL (L : List (List UInt8)) : List Value := L.flatMap Lib.byteCells
theorem bc_length (l : List UInt8) : (Lib.byteCells l).length = l.length := by simp [Lib.byteCells]
theorem bc_one (l : List UInt8) : ∀ v ∈ Lib.byteCells l, v.oneCell' = true := by
  intro v hv
  obtain ⟨c, _, rfl⟩ := List.mem_map.1 hv
  rfl
theorem bc_take (l : List UInt8) (n : Nat) : Lib.byteCells (l.take n) = (Lib.byteCells l).take n := by simp [Lib.byteCells, List.map_take]
theorem bc_drop (l : List UInt8) (n : Nat) : Lib.byteCells (l.drop n) = (Lib.byteCells l).drop n := by simp [Lib.byteCells, List.map_drop]
theorem cellsL_cons (x : List UInt8) (L : List (List UInt8)) : cellsL (x :: L) = Lib.byteCells x ++ cellsL L := rfl
theorem cellsL_append (L M : List (List UInt8)) : cellsL (L ++ M) = cellsL L ++ cellsL M := by simp [cellsL]
theorem cellsL_length : ∀ (L : List (List UInt8)), (∀ x ∈ L, x.length = 64) → (cellsL L).length = L.length * 64
  | [], _ => rfl
  | x :: L, h => by
    rw [cellsL_cons, List.length_append, bc_length, h x (by simp), cellsL_length L (fun y hy => h y (by simp [hy])), List.length_cons]; omega
theorem split_at (L : List (List UInt8)) (k : Nat) (hk : k < L.length) : ∃ A R, L = A ++ L[k] :: R ∧ A.length = k ∧ ∀ d, L.set k d = A ++ d :: R := by
  refine ⟨L.take k, L.drop (k + 1), ?_, by rw [List.length_take]; omega, fun d => ?_⟩
  · rw [List.getElem_cons_drop]; exact (List.take_append_drop k L).symm
  · rw [List.set_eq_take_append_cons_drop, if_pos hk]
/-- A sector's cells, among all. -/
theorem cellsL_get (L : List (List UInt8)) (h : ∀ x ∈ L, x.length = 64) (k : Nat) (hk : k < L.length) : ∀ j v, (Lib.byteCells L[k])[j]? = some v → (cellsL L)[k * 64 + j]? = some v := by
  intro j v hv
  obtain ⟨A, R, hL, hA, _⟩ := split_at L k hk
  have hA64 : (cellsL A).length = k * 64 := by rw [cellsL_length A (fun x hx => h x (by rw [hL]; simp [hx])), hA]
  rw [hL, cellsL_append, cellsL_cons, List.getElem?_append_right (by omega), hA64, show k * 64 + j - k * 64 = j from by omega]
  have hj := (List.getElem?_eq_some_iff.1 hv).1
  rw [List.getElem?_append_left hj]; exact hv
/-- A sector's first bytes are written. -/
theorem cellsL_lay (L : List (List UInt8)) (h : ∀ x ∈ L, x.length = 64) (k : Nat) (hk : k < L.length) (d : List UInt8) (m : Nat) (hd : d.length = m) (hm : m ≤ 64) :
    lay (cellsL L) (k * 64) (Lib.byteCells d) = cellsL (L.set k (d ++ L[k].drop m)) := by
  obtain ⟨A, R, hL, hA, hs⟩ := split_at L k hk
  have hA64 : (cellsL A).length = k * 64 := by rw [cellsL_length A (fun x hx => h x (by rw [hL]; simp [hx])), hA]
  have hx64 : L[k].length = 64 := h _ (List.getElem_mem hk)
  rw [hs]
  generalize L[k] = x at *
  subst hL
  unfold lay
  rw [bc_length, hd, cellsL_append, cellsL_cons, cellsL_append, cellsL_cons, List.take_append_of_le_length (by omega), List.take_of_length_le (by omega), List.drop_append, hA64,
    List.drop_eq_nil_of_le (by omega), List.nil_append, show k * 64 + m - k * 64 = m from by omega, List.drop_append_of_le_length (by rw [bc_length]; omega), Lib.byteCells_append, bc_drop]
  simp
theorem cellsL_put (L : List (List UInt8)) (h : ∀ x ∈ L, x.length = 64) (k : Nat) (hk : k < L.length) (d : List UInt8) (hd : d.length = 64) :
    lay (cellsL L) (k * 64) (Lib.byteCells d) = cellsL (L.set k d) := by
  rw [cellsL_lay L h k hk d 64 hd (Nat.le_refl _), List.drop_eq_nil_of_le (by rw [h _ (List.getElem_mem hk)]; exact Nat.le_refl _), List.append_nil]

/-- The cells of a write, of writes. -/
def cellW (x : Nat × List UInt8) : List Value := .int .i64 (x.1 : Int) :: Lib.byteCells x.2
def flatW (C : List (Nat × List UInt8)) : List Value := C.flatMap cellW
theorem cellW_one (x : Nat × List UInt8) : ∀ v ∈ cellW x, v.oneCell' = true := by
  intro v hv
  rcases List.mem_cons.1 hv with rfl | hv
  · rfl
  · exact bc_one _ v hv
theorem cellW_length (x : Nat × List UInt8) (h : x.2.length = 64) : (cellW x).length = 65 := by simp [cellW, bc_length, h]
theorem flatW_snoc (C : List (Nat × List UInt8)) (x : Nat × List UInt8) : flatW (C ++ [x]) = flatW C ++ cellW x := by simp [flatW]
theorem flatW_length : ∀ (C : List (Nat × List UInt8)), (∀ x ∈ C, x.2.length = 64) → (flatW C).length = C.length * 65
  | [], _ => rfl
  | x :: C, h => by
    rw [show flatW (x :: C) = cellW x ++ flatW C from rfl, List.length_append, cellW_length x (h x (by simp)), flatW_length C (fun y hy => h y (by simp [hy])), List.length_cons]; omega
theorem flatW_get : ∀ (C : List (Nat × List UInt8)) (_ : ∀ x ∈ C, x.2.length = 64) (k : Nat) (hk : k < C.length), ∀ j v, (cellW C[k])[j]? = some v → (flatW C)[k * 65 + j]? = some v
  | x :: C, _, 0, _, j, v, hv => by
    have hv' : (cellW x)[j]? = some v := hv
    rw [show flatW (x :: C) = cellW x ++ flatW C from rfl, Nat.zero_mul, Nat.zero_add, List.getElem?_append_left (List.getElem?_eq_some_iff.1 hv').1]; exact hv'
  | x :: C, h, k + 1, hk, j, v, hv => by
    have := flatW_get C (fun y hy => h y (by simp [hy])) k (by simpa using hk) j v (by simpa using hv)
    have hx := cellW_length x (h x (by simp))
    rw [show flatW (x :: C) = cellW x ++ flatW C from rfl, List.getElem?_append_right (by omega), hx, show (k + 1) * 65 + j - 65 = k * 65 + j from by omega]; exact this

theorem bc_get (l : List UInt8) (j : Nat) (v : Value) (h : (Lib.byteCells l)[j]? = some v) : (cellW (0, l))[1 + j]? = some v := by
  rw [show (1 + j) = j + 1 from by omega]; simpa [cellW] using h

/-- What the two reads of a disk have in common: the last write, or what lasted. -/
theorem syncL_length (C : List (Nat × List UInt8)) : ∀ L, (syncL L C).length = L.length := by
  induction C with
  | nil => intro L; rfl
  | cons x C ih => intro L; show (syncL (L.set x.1 x.2) C).length = _; rw [ih]; simp
theorem syncL_snoc (L : List (List UInt8)) (C : List (Nat × List UInt8)) (x : Nat × List UInt8) : syncL L (C ++ [x]) = (syncL L C).set x.1 x.2 := by simp [syncL]
theorem syncL_get (L : List (List UInt8)) (k : Nat) (hk : k < L.length) : ∀ n (C : List (Nat × List UInt8)), C.length = n → (syncL L C)[k]? = some ((lastW C k).getD L[k])
  | 0, C, h => by
    have : C = [] := List.eq_nil_of_length_eq_zero h
    subst this; rw [lastW_nil]; simp [syncL, hk]
  | n + 1, C, h => by
    have hne : C ≠ [] := by intro e; subst e; simp at h
    rw [← List.dropLast_concat_getLast hne, syncL_snoc, lastW_snoc, List.getElem?_set]
    have ih := syncL_get L k hk n C.dropLast (by rw [List.length_dropLast]; omega)
    by_cases e : (C.getLast hne).1 = k
    · rw [if_pos e, if_pos e, if_pos (by rw [syncL_length]; omega)]; rfl
    · rw [if_neg e, if_neg e]; exact ih
theorem syncL_64 {L : List (List UInt8)} {C : List (Nat × List UInt8)} (hL : ∀ x ∈ L, x.length = 64) (hC : ∀ x ∈ C, x.2.length = 64) : ∀ x ∈ syncL L C, x.length = 64 := by
  induction C generalizing L with
  | nil => exact hL
  | cons y C ih =>
    refine ih (L := L.set y.1 y.2) (fun x hx => ?_) (fun x hx => hC x (by simp [hx]))
    rcases List.mem_or_eq_of_mem_set hx with h | h
    · exact hL x h
    · subst h; exact hC y (by simp)

/-- The steps of a walk, by hand. -/
theorem wpStill_load_mid {P : Program} {ops : Array Oper} {w : World} {Q : Act → Prop} {a : Act} {o : Oper} {rest : List Oper} (hgd : o.guard = none) (ty : TypeId) (x : Operand) (ho : o.op = .load ty x)
    (b f : Nat) (hx : a.eval x = .pointer (some ⟨b, f, none⟩)) (cs : List Value) (d : TypeDesc) (hc : w.rangeAt b f cs)
    (hu : P.underlying ty = some d) (hd : d.isRow = true) (hi : (P.info? ty).map (·.size) = some cs.length)
    (h : wpStill P ops w Q rest (a.put o.dst (.agg cs.toArray))) : wpStill P ops w Q (o :: rest) a := by
  refine wpStill_step fun K hK => ?_
  have hw : Region.wanted o (yielded ops a.tmps) = true := by simp [Region.wanted, hgd]
  rw [if_pos hw]
  unfold Oper.still execOp
  simp only [ho, hx, Instr.loadAt, Instr.sureAddr, Sem.run_bind, Sem.run_pure, Result.andThen_ok, run_loadVar_mid w b f ty cs d hc hu hd hi, Oper.stillUpon_value]
  exact hK _ h

theorem wpList_copy_mid {P : Program} {w : World} {ops : Array Oper} {rest : List Oper} {o : Oper} {a : Act} {Q : Exit → Act → World → Prop} (hgd : o.guard = none) (d s : Operand) (dT sT : TypeId)
    (ho : o.op = .call { callee := .builtin .copy, args := #[d, s], argTypes := #[dT, sT] }) (elem : TypeId) (hu : P.underlying dT = some (.slice elem)) (hsz : (P.info? elem).map (·.size) = some 1)
    (b f dLen dCap b' f' sLen sCap : Nat) (hd : a.eval d = .slice (some ⟨b, f, none⟩) dLen dCap) (hs : a.eval s = .slice (some ⟨b', f', none⟩) sLen sCap)
    (cs : List Value) (hn : cs.length = Nat.min sLen dLen) (hsrc : w.rangeAt b' f' cs) (ht : w.there b f cs.length) (h1 : ∀ v ∈ cs, v.oneCell' = true)
    (h : wpList P ops Q rest (a.put o.dst (goInt cs.length)) (w.setCells b f cs)) : wpList P ops Q (o :: rest) a w := by
  refine wpList_plain hgd fun K hK => ?_
  have hrun := run_copy_cells (P := P) w dT sT o.type elem b f dLen dCap ⟨b', f', none⟩ sLen sCap cs hu hsz hn (fun j v hv => by rw [Addr.add_mid]; exact hsrc j v hv) (fun j hj => (ht j hj).1) (fun j hj => (ht j hj).2) h1
  unfold Oper.wp
  simp [execOp, ho, resolve, invoke, builtin, hd, hs, hrun, Result.andThen]
  exact hK _ _ h

theorem wpList_copy_text {P : Program} {w : World} {ops : Array Oper} {rest : List Oper} {o : Oper} {a : Act} {Q : Exit → Act → World → Prop} (hgd : o.guard = none) (d s : Operand) (dT sT : TypeId)
    (ho : o.op = .call { callee := .builtin .copy, args := #[d, s], argTypes := #[dT, sT] }) (elem : TypeId) (hu : P.underlying dT = some (.slice elem)) (hsz : (P.info? elem).map (·.size) = some 1)
    (b f dLen dCap : Nat) (t : List UInt8) (hd : a.eval d = .slice (some ⟨b, f, none⟩) dLen dCap) (hs : a.eval s = .string ⟨t.toArray⟩)
    (hn : t.length ≤ dLen) (ht : w.there b f t.length)
    (h : wpList P ops Q rest (a.put o.dst (goInt t.length)) (w.setCells b f (Lib.byteCells t))) : wpList P ops Q (o :: rest) a w := by
  refine wpList_plain hgd fun K hK => ?_
  have hz : ∀ w, (Go.sizeOf elem).run P w = .ok 1 w := fun w => by
    cases hq : P.info? elem with
    | none => simp [hq] at hsz
    | some i =>
      have hi : i.size = 1 := by simpa [hq] using hsz
      simp [sizeOf, typeInfo, hq, hi]
  have hrun := Go.run_copy_string (P := P) w dT sT o.type elem b f dLen dCap ⟨t.toArray⟩ hu hz (by simpa [mk_size] using hn) (fun j hj => (ht j (by simpa [mk_size] using hj)).1) (fun j hj => (ht j (by simpa [mk_size] using hj)).2)
  have e : (List.map (fun x : UInt8 => Value.int .u8 (x.toNat : Int)) (ByteArray.mk t.toArray).data.toList) = Lib.byteCells t := rfl
  rw [e, mk_size] at hrun
  unfold Oper.wp
  simp [execOp, ho, resolve, invoke, builtin, hd, hs, hrun, Result.andThen]
  exact hK _ _ h

theorem wpList_mv {P : Program} {w : World} {ops : Array Oper} {rest : List Oper} {o : Oper} {a : Act} {Q : Exit → Act → World → Prop} (hgd : o.guard = none) (x : Operand) (ho : o.op = .move x) (v : Value) (hx : a.eval x = v)
    (h : wpList P ops Q rest (a.put o.dst v) w) : wpList P ops Q (o :: rest) a w := by
  subst hx
  refine wpList_plain hgd fun K hK => ?_
  unfold Oper.wp execOp
  simp only [ho, Sem.run_pure]
  exact hK _ _ h

theorem wpList_alloc_row {P : Program} {w : World} {ops : Array Oper} {rest : List Oper} {o : Oper} {a : Act} {Q : Exit → Act → World → Prop} (hgd : o.guard = none) (ty : TypeId) (ho : o.op = .alloc ty) (i : TypeInfo) (C : List Value) (hi : P.info? ty = some i) (hz : i.zero = some (.agg C.toArray))
    (h : wpList P ops Q rest (a.put o.dst (.pointer (some ⟨w.heap.size, 0, none⟩))) (w.alloc (.cells C.toArray ty))) : wpList P ops Q (o :: rest) a w := by
  refine wpList_plain hgd fun K hK => ?_
  have hrun : (Instr.alloc ty true (.tuple #[])).run P w = .ok (.pointer (some ⟨w.heap.size, 0, none⟩)) (w.alloc (.cells C.toArray ty)) := by
    simp [Instr.alloc, zeroValue, typeInfo, hi, hz, newVar, newRow, Value.cells]
  unfold Oper.wp execOp
  simp only [ho, Sem.run_bind, hrun, Sem.run_pure, Result.andThen_ok]
  exact hK _ _ h

theorem wpList_buildSlice_row {P : Program} {w : World} {ops : Array Oper} {rest : List Oper} {o : Oper} {a : Act} {Q : Exit → Act → World → Prop} (hgd : o.guard = none) (t e : TypeId) (x : Operand) (ho : o.op = .buildSlice t 1 #[(0, x)])
    (i : TypeInfo) (z : Value) (C : List Value) (hu : P.underlying t = some (.slice e)) (hi : P.info? e = some i) (hz : i.zero = some z) (hs : i.size = C.length) (hpos : 0 < C.length) (hle : C.length ≤ 1000) (hx : (a.eval x).cells = C.toArray)
    (h : wpList P ops Q rest (a.put o.dst (.slice (some ⟨w.heap.size, 0, none⟩) 1 1)) (w.alloc (.cells C.toArray e))) : wpList P ops Q (o :: rest) a w := by
  refine wpList_buildSlice hgd t e 1 #[(0, x)] ho C.toArray i z hu hi hz (by rw [hs]; omega) (by rw [hs]; omega) ?_ h
  have := Go.Great.fill_whole (s := i.size) (by omega) [a.eval x] ((Array.range (1 * i.size)).map (z.cells[· % z.cells.size]!)) (by simp [hx, hs]) (by simp)
  simpa [hx] using this

theorem run_buildSlice_one {P : Program} (w : World) (t e : TypeId) (i : TypeInfo) (z : Value) (C : List Value) (hu : P.underlying t = some (.slice e)) (hi : P.info? e = some i) (hz : i.zero = some z) (hs : i.size = C.length) (hpos : 0 < C.length) (hle : C.length ≤ 1000) :
    (Instr.buildSlice t 1 #[(0, .agg C.toArray)]).run P w = .ok (.slice (some ⟨w.heap.size, 0, none⟩) 1 1) (w.alloc (.cells C.toArray e)) := by
  have hf := Go.Great.fill_whole (s := C.length) hpos [.agg C.toArray] ((Array.range (1 * C.length)).map (z.cells[· % z.cells.size]!)) (by simp [Value.cells]) (by simp)
  simp only [List.zipIdx_cons, List.zipIdx_nil, List.map_cons, List.map_nil, List.flatMap_cons, List.flatMap_nil, List.append_nil, Value.cells, Nat.one_mul] at hf
  have h1 : ¬ C.length > 16777216 := by omega
  have h2 : ¬ C = [] := by intro e; subst e; simp at hpos
  simp [Instr.buildSlice, run_underlying hu, sizeOf, typeInfo, hi, zeroValue, hz, hs, h1, h2, newRow]
  simp only [Value.cells] at hf ⊢
  rw [hf]
  simp [newRow]

theorem exec_buildSlice {P : Program} {w w' : World} {o : Oper} {a : Act} {t : TypeId} {x : Operand} {v r : Value} (hr : (Instr.buildSlice t 1 #[(0, v)]).run P w = .ok r w') (ho : o.op = .buildSlice t 1 #[(0, x)]) (hx : a.eval x = v) :
    (execOp a.eval o).run P w = .ok (.value r) w' := by
  subst hx
  unfold execOp
  simp only [ho, List.map_toArray, List.map_cons, List.map_nil, Sem.run_bind, hr, Result.andThen_ok, Sem.run_pure]

theorem exec_append {P : Program} {w w' : World} {o : Oper} {a : Act} {t ty : TypeId} {s x : Operand} {v u r : Value} (hr : (Builtin.append_ #[t, t] ty #[v, u]).run P w = .ok r w') (ho : o.op = .call { callee := .builtin .append, args := #[s, x], argTypes := #[t, t] }) (hty : o.type = ty) (hs : a.eval s = v) (hx : a.eval x = u) :
    (execOp a.eval o).run P w = .ok (.value r) w' := by
  subst hty
  unfold execOp
  simp only [ho, resolve, invoke, builtin, Sem.run_bind, Sem.run_pure, Result.andThen_ok, List.map_toArray, List.map_cons, List.map_nil, hs, hx, hr]

theorem exec_make {P : Program} {w w' : World} {o : Oper} {a : Act} {t : TypeId} {l c : Operand} {v u r : Value} (hr : (Instr.makeSlice t v u).run P w = .ok r w') (ho : o.op = .makeSlice t l c) (hl : a.eval l = v) (hc : a.eval c = u) :
    (execOp a.eval o).run P w = .ok (.value r) w' := by
  subst hl hc
  unfold execOp
  simp only [ho, Sem.run_bind, hr, Result.andThen_ok, Sem.run_pure]
theorem exec_convert {P : Program} {w w' : World} {o : Oper} {a : Act} {t t' : TypeId} {x : Operand} {v r : Value} (hr : (convert t t' v).run P w = .ok r w') (ho : o.op = .convert t t' x) (hx : a.eval x = v) :
    (execOp a.eval o).run P w = .ok (.value r) w' := by
  subst hx
  unfold execOp
  simp only [ho, Sem.run_bind, hr, Result.andThen_ok, Sem.run_pure]

theorem wpList_of_run {P : Program} {w w' : World} {ops : Array Oper} {rest : List Oper} {o : Oper} {a : Act} {Q : Exit → Act → World → Prop} {v : Value} (hg : o.guard = none) (d : Option Tmp) (hd : o.dst = d) (hr : (execOp a.eval o).run P w = .ok (.value v) w')
    (h : wpList P ops Q rest (a.put d v) w') : wpList P ops Q (o :: rest) a w := by
  subst hd
  refine wpList_plain hg fun K hK => ?_
  unfold Oper.wp
  rw [hr, Oper.upon_value]
  exact hK _ _ h

end Go.Proofs.Pk

/- Mathematics of a crash: what it makes of the sectors, step by step. No program. -/
namespace Go.Proofs.Pk
set_option maxRecDepth 10000

theorem sec_in (L : List (List UInt8)) (d : List UInt8) {k : Nat} (h : k < L.length) : L.getD k d = L[k] := by simp [List.getD, h]
theorem crashL_append (ks : List Int) (t b : Int) : ∀ (A : List (Nat × List UInt8)) (L : List (List UInt8)) (i : Nat) (x : Nat × List UInt8), crashL ks t b L i (A ++ [x]) = crashOne ks t b (crashL ks t b L i A) (i + A.length) x
  | [], L, i, x => rfl
  | a :: A, L, i, x => by
    rw [List.cons_append, crashL, crashL_append ks t b A, crashL, List.length_cons, show i + 1 + A.length = i + (A.length + 1) from by omega]
theorem crashL_take (ks : List Int) (t b : Int) (L : List (List UInt8)) (C : List (Nat × List UInt8)) (j : Nat) (h : j < C.length) :
    crashL ks t b L 0 (C.take (j + 1)) = crashOne ks t b (crashL ks t b L 0 (C.take j)) j C[j] := by
  rw [List.take_succ_eq_append_getElem h, crashL_append, List.length_take, Nat.zero_add, Nat.min_eq_left (by omega)]
theorem crashOne_length (ks : List Int) (t b : Int) (L : List (List UInt8)) (i : Nat) (x : Nat × List UInt8) : (crashOne ks t b L i x).length = L.length := by
  unfold crashOne; repeat' split
  all_goals simp
theorem crashL_length (ks : List Int) (t b : Int) : ∀ (C : List (Nat × List UInt8)) (L : List (List UInt8)) (i : Nat), (crashL ks t b L i C).length = L.length
  | [], _, _ => rfl
  | x :: C, L, i => by rw [crashL, crashL_length ks t b C, crashOne_length]
theorem tear_length (x y : List UInt8) (b : Int) (hx : x.length = 64) (hy : y.length = 64) : (x.take (min (max b 0) 64).toNat ++ y.drop (min (max b 0) 64).toNat).length = 64 := by
  rw [List.length_append, List.length_take, List.length_drop]; omega
theorem crashOne_64 (ks : List Int) (t b : Int) {L : List (List UInt8)} (i : Nat) {x : Nat × List UInt8} (hL : ∀ s ∈ L, s.length = 64) (hx : x.1 < L.length ∧ x.2.length = 64) : ∀ s ∈ crashOne ks t b L i x, s.length = 64 := by
  intro s hs
  unfold crashOne at hs
  split at hs
  · rcases List.mem_or_eq_of_mem_set hs with h | rfl
    · exact hL s h
    · refine tear_length _ _ b hx.2 ?_
      rw [sec_in _ _ hx.1]; exact hL _ (List.getElem_mem _)
  · split at hs
    · rcases List.mem_or_eq_of_mem_set hs with h | rfl
      · exact hL s h
      · exact hx.2
    · exact hL s hs
theorem crashL_64 (ks : List Int) (t b : Int) : ∀ (C : List (Nat × List UInt8)) (L : List (List UInt8)) (i : Nat), (∀ s ∈ L, s.length = 64) → (∀ x ∈ C, x.1 < L.length ∧ x.2.length = 64) → ∀ s ∈ crashL ks t b L i C, s.length = 64
  | [], _, _, h, _ => h
  | x :: C, L, i, h, hc => by
    rw [crashL]
    exact crashL_64 ks t b C _ _ (crashOne_64 ks t b i h (hc x (by simp))) (fun y hy => by rw [crashOne_length]; exact hc y (by simp [hy]))

/-- What no write speaks of stays. -/
theorem syncL_other (k : Nat) : ∀ (C : List (Nat × List UInt8)) (L : List (List UInt8)), (∀ x ∈ C, x.1 ≠ k) → (syncL L C)[k]? = L[k]?
  | [], _, _ => rfl
  | x :: C, L, h => by
    show (syncL (L.set x.1 x.2) C)[k]? = _
    rw [syncL_other k C _ (fun y hy => h y (by simp [hy])), List.getElem?_set_ne (h x (by simp))]
theorem crashOne_other (ks : List Int) (t b : Int) (k : Nat) (L : List (List UInt8)) (i : Nat) (x : Nat × List UInt8) (h : x.1 ≠ k) : (crashOne ks t b L i x)[k]? = L[k]? := by
  unfold crashOne; repeat' split
  all_goals first | rw [List.getElem?_set_ne h] | rfl
theorem crashL_other (ks : List Int) (t b : Int) (k : Nat) : ∀ (C : List (Nat × List UInt8)) (L : List (List UInt8)) (i : Nat), (∀ x ∈ C, x.1 ≠ k) → (crashL ks t b L i C)[k]? = L[k]?
  | [], _, _, _ => rfl
  | x :: C, L, i, h => by rw [crashL, crashL_other ks t b k C _ _ (fun y hy => h y (by simp [hy])), crashOne_other ks t b k L i x (h x (by simp))]

/-- Each sector that a write speaks of is seen anew. -/
def seeL (D M : List (List UInt8)) (C : List (Nat × List UInt8)) : List (List UInt8) := C.foldl (fun M x => M.set x.1 (D.getD x.1 [])) M
theorem seeL_length (D : List (List UInt8)) : ∀ (C : List (Nat × List UInt8)) (M : List (List UInt8)), (seeL D M C).length = M.length
  | [], _ => rfl
  | x :: C, M => by show (seeL D (M.set x.1 (D.getD x.1 [])) C).length = _; rw [seeL_length D C]; simp
theorem seeL_take (D M : List (List UInt8)) (C : List (Nat × List UInt8)) (j : Nat) (h : j < C.length) : seeL D M (C.take (j + 1)) = (seeL D M (C.take j)).set (C[j]).1 (D.getD (C[j]).1 []) := by
  rw [List.take_succ_eq_append_getElem h]; unfold seeL; rw [List.foldl_append]; rfl
theorem seeL_64 {D : List (List UInt8)} (hD : ∀ x ∈ D, x.length = 64) : ∀ (C : List (Nat × List UInt8)) (M : List (List UInt8)), (∀ x ∈ C, x.1 < D.length) → (∀ x ∈ M, x.length = 64) → ∀ x ∈ seeL D M C, x.length = 64
  | [], _, _, h => h
  | y :: C, M, hc, h => by
    refine seeL_64 hD C (M.set y.1 (D.getD y.1 [])) (fun x hx => hc x (by simp [hx])) (fun x hx => ?_)
    rcases List.mem_or_eq_of_mem_set hx with hx | rfl
    · exact h x hx
    · rw [sec_in _ _ (hc y (by simp))]; exact hD _ (List.getElem_mem _)
theorem seeL_get (D : List (List UInt8)) (k : Nat) (hk : k < D.length) : ∀ (C : List (Nat × List UInt8)) (M : List (List UInt8)), M.length = D.length → ((∃ x ∈ C, x.1 = k) ∨ M[k]? = D[k]?) → (seeL D M C)[k]? = D[k]?
  | [], M, _, h => by
    rcases h with ⟨x, hx, _⟩ | h
    · cases hx
    · exact h
  | y :: C, M, hl, h => by
    refine seeL_get D k hk C (M.set y.1 (D.getD y.1 [])) (by simpa using hl) ?_
    by_cases e : y.1 = k
    · right; subst e; rw [List.getElem?_set_self (by omega), sec_in _ _ hk, List.getElem?_eq_getElem hk]
    · rw [List.getElem?_set_ne e]
      rcases h with ⟨x, hx, hxk⟩ | h
      · rcases List.mem_cons.1 hx with rfl | hx
        · exact absurd hxk e
        · exact .inl ⟨x, hx, hxk⟩
      · exact .inr h
/-- Behind a crash the sectors are seen as they last. -/
theorem seeL_crash (ks : List Int) (t b : Int) (L : List (List UInt8)) (C : List (Nat × List UInt8)) : seeL (crashL ks t b L 0 C) (syncL L C) C = crashL ks t b L 0 C := by
  apply List.ext_getElem?
  intro k
  have hD := crashL_length ks t b C L 0
  by_cases hk : k < L.length
  · refine seeL_get _ k (by rw [hD]; exact hk) C _ (by rw [syncL_length, hD]) ?_
    by_cases h : ∃ x ∈ C, x.1 = k
    · exact .inl h
    · have hne : ∀ x ∈ C, x.1 ≠ k := fun x hx e => h ⟨x, hx, e⟩
      exact .inr (by rw [syncL_other k C L hne, crashL_other ks t b k C L 0 hne])
  · rw [List.getElem?_eq_none (by rw [seeL_length, syncL_length]; omega), List.getElem?_eq_none (by rw [hD]; omega)]

/-- Numbers that a slice of int holds. -/
def Ints (w : World) (ad : Option Addr) (len : Nat) (l : List Int) : Prop :=
  l.length = len ∧ (l = [] ∨ ∃ b off, ad = some ⟨b, off, none⟩ ∧ b < w.heap.size ∧ ∀ i (h : i < l.length), w.cell? ⟨b, off + i, none⟩ = some (.int .i64 l[i]))
def IntsOff (X : Nat → Prop) (ad : Option Addr) : Prop := ∀ b off, ad = some ⟨b, off, none⟩ → ¬X b
theorem Ints.kept {w w' : World} {ad : Option Addr} {len : Nat} {l : List Int} {X : Nat → Prop} (h : Ints w ad len l) (hk : Kept X w w') (hx : l = [] ∨ IntsOff X ad) : Ints w' ad len l := by
  refine ⟨h.1, ?_⟩
  rcases h.2 with h | ⟨b, off, h1, h2, h3⟩
  · exact .inl h
  · rcases hx with hx | hx
    · exact .inl hx
    · exact .inr ⟨b, off, h1, Nat.lt_of_lt_of_le h2 hk.size, fun i hi => by rw [hk.cell (p := ⟨b, off + i, none⟩) h2 (hx b off h1)]; exact h3 i hi⟩
theorem odd_iff (x : Int) : (x.tmod 2 = 0) ↔ (x % 2 = 0) := by
  have := Int.tmod_eq_emod_of_nonneg (a := x) (b := 2)
  have h := Int.dvd_iff_tmod_eq_zero (a := 2) (b := x)
  have h2 := Int.dvd_iff_emod_eq_zero (a := 2) (b := x)
  exact h.symm.trans h2

theorem Dsk.sync_ok {S : Dsk} (h : S.Ok) : S.sync.1.Ok := by
  unfold Dsk.sync
  split
  · exact h
  · exact ⟨by simp only [syncL_length]; exact h.few, syncL_64 h.sect (fun x hx => (h.cach x hx).2), by simp, h.fus⟩
theorem Dsk.setFuse_ok {S : Dsk} (h : S.Ok) (n : Int) (hn : n ≤ 9223372036854775807) : (S.setFuse n).Ok :=
  ⟨h.few, h.sect, h.cach, by unfold Dsk.setFuse; simp only []; omega⟩
theorem Dsk.crash_ok {S : Dsk} (h : S.Ok) (ks : List Int) (t b : Int) : (S.crash ks t b).Ok :=
  ⟨by simp only [Dsk.crash, crashL_length]; exact h.few, crashL_64 ks t b _ _ _ h.sect h.cach, by simp [Dsk.crash], by simp [Dsk.crash]⟩
theorem Dsk.read_len {S : Dsk} (h : S.Ok) (k : Int) (hc : (S.read k).2 = 0) : (S.read k).1.length = 64 := by
  unfold Dsk.read at *
  split at hc
  · cases hc
  · rename_i ho
    split at hc
    · cases hc
    · rename_i hk
      rw [if_neg ho, if_neg hk]
      obtain ⟨n, rfl⟩ := Int.eq_ofNat_of_zero_le (show 0 ≤ k by omega)
      have hn : n < S.L.length := by omega
      have e := syncL_get S.L n hn S.C.length S.C rfl
      have h64 := syncL_64 h.sect (fun x hx => (h.cach x hx).2) ((syncL S.L S.C)[n]'(by rw [syncL_length]; exact hn)) (List.getElem_mem _)
      rw [List.getElem?_eq_getElem (by rw [syncL_length]; exact hn)] at e
      rw [Option.some.inj e] at h64
      simpa [List.getD, hn] using h64

end Go.Proofs.Pk
