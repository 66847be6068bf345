/- Rows of cells in the midst of a block: what is read of them, what a store makes of them. No program. -/
import Derived.Test.YtgjblcjoglaldaaFoot
import Derived.Test.YtgjblcjoglaldaaDskM
import Derived.Deep.MidRow
import Derived.Laws.IdiomCopy
import Derived.Laws.CopyRow
import Derived.Lib.LazyBuf
import Derived.Great.BuildSlice
import Derived.Great.FillDense
namespace Go.Proofs.Pk
open Go.RowKit
set_option maxRecDepth 10000

/-- A list with some cells written over from a place on. -/
def lay (C : List Value) (o : Nat) (vs : List Value) : List Value := C.take o ++ (vs ++ C.drop (o + vs.length))
theorem lay_length (C : List Value) (o : Nat) (vs : List Value) (h : o + vs.length ≤ C.length) : (lay C o vs).length = C.length := by
  unfold lay; simp; omega
theorem lay_all (C vs : List Value) (h : C.length = vs.length) : lay C 0 vs = vs := by
  unfold lay; rw [List.take_zero, List.nil_append, Nat.zero_add, ← h, List.drop_length, List.append_nil]
theorem lay_nil (C : List Value) (o : Nat) : lay C o [] = C := by unfold lay; simp
theorem lay_cons (C : List Value) (o : Nat) (v : Value) (vs : List Value) (h : o + (vs.length + 1) ≤ C.length) : lay (C.set o v) (o + 1) vs = lay C o (v :: vs) := by
  have := list_seg_step C o v vs h
  unfold lay
  simp only [List.append_assoc, List.length_cons, List.cons_append] at this ⊢
  rw [this]

theorem Holds.range {w : World} {g : Nat} {C : List Value} {e : TypeId} (h : Holds w g C e) (o : Nat) (cs : List Value) (hc : ∀ j v, cs[j]? = some v → C[o + j]? = some v) : w.rangeAt g o cs :=
  fun j v hv => h.cell (o + j) v (hc j v hv)
theorem Holds.there {w : World} {g : Nat} {C : List Value} {e : TypeId} (h : Holds w g C e) (o n : Nat) (hn : o + n ≤ C.length) : w.there g o n := fun j hj =>
  ⟨by rw [h.cell (o + j) C[o + j] (by rw [List.getElem?_eq_getElem (by omega)])]; rfl, h.free (o + j)⟩
theorem Holds.setCells {e : TypeId} {g : Nat} : ∀ (vs : List Value) (o : Nat) (w : World) (C : List Value), Holds w g C e → o + vs.length ≤ C.length → Holds (w.setCells g o vs) g (lay C o vs) e
  | [], o, w, C, h, _ => by rw [lay_nil]; exact h
  | v :: r, o, w, C, h, hl => by
    rw [List.length_cons] at hl
    rw [← lay_cons C o v r hl]
    exact Holds.setCells r (o + 1) (w.setCell ⟨g, o, none⟩ v) (C.set o v) (h.set o v) (by rw [List.length_set]; omega)
theorem setCells_other (g : Nat) (k : Nat) (hk : k ≠ g) : ∀ (vs : List Value) (o : Nat) (w : World), (w.setCells g o vs).heap[k]? = w.heap[k]?
  | [], _, _ => rfl
  | v :: r, o, w => by
    rw [World.setCells, setCells_other g k hk r (o + 1) _, Below.heap_setCell _ _ _ _ hk]
theorem setCells_size (g : Nat) : ∀ (vs : List Value) (o : Nat) (w : World), (w.setCells g o vs).heap.size = w.heap.size
  | [], _, _ => rfl
  | v :: r, o, w => by rw [World.setCells, setCells_size g r (o + 1) _]; simp
theorem Kept.setCells {X : Nat → Prop} {a : World} {g : Nat} (hg : X g) : ∀ (vs : List Value) (o : Nat) (w : World), Kept X a w → Kept X a (w.setCells g o vs)
  | [], _, _, h => h
  | v :: r, o, w, h => Kept.setCells hg r (o + 1) _ (h.setCell (p := ⟨g, o, none⟩) hg v)
theorem Kept.setCellsN {X : Nat → Prop} {a : World} {g : Nat} (hg : a.heap.size ≤ g) : ∀ (vs : List Value) (o : Nat) (w : World), Kept X a w → Kept X a (w.setCells g o vs)
  | [], _, _, h => h
  | v :: r, o, w, h => Kept.setCellsN hg r (o + 1) _ (h.setNew (p := ⟨g, o, none⟩) hg v)
theorem Holds.setOther {w : World} {g k o : Nat} {C vs : List Value} {e : TypeId} (h : Holds w k C e) (hk : k ≠ g) : Holds (w.setCells g o vs) k C e :=
  h.of_block (setCells_other g k hk vs o w)
theorem Holds.drew {w : World} {k : Nat} {C : List Value} {e : TypeId} (h : Holds w k C e) : Holds w.drew k C e := h
theorem Holds.alloc {w : World} {k : Nat} {C : List Value} {e : TypeId} (h : Holds w k C e) (o : Obj) : Holds (w.alloc o) k C e :=
  h.of_block (by have := h.lt; simp only [World.alloc]; rw [Array.getElem?_push_lt this, Array.getElem?_eq_getElem this])
theorem Holds.new (w : World) (C : List Value) (e : TypeId) : Holds (w.alloc (.cells C.toArray e)) w.heap.size C e := by
  unfold Holds World.alloc; rw [Array.getElem?_push_size]

/-- The cells of sectors. -/
def cellsL (L : List (List UInt8)) : List Value := L.flatMap Lib.byteCells
theorem bc_length (l : List UInt8) : (Lib.byteCells l).length = l.length := by simp [Lib.byteCells]
theorem bc_one (l : List UInt8) : ∀ v ∈ Lib.byteCells l, v.oneCell' = true := by
  intro v hv
  obtain ⟨c, _, rfl⟩ := List.mem_map.1 hv
  rfl
theorem bc_take (l : List UInt8) (n : Nat) : Lib.byteCells (l.take n) = (Lib.byteCells l).take n := by simp [Lib.byteCells, List.map_take]
theorem bc_drop (l : List UInt8) (n : Nat) : Lib.byteCells (l.drop n) = (Lib.byteCells l).drop n := by simp [Lib.byteCells, List.map_drop]
theorem cellsL_cons (x : List UInt8) (L : List (List UInt8)) : cellsL (x :: L) = Lib.byteCells x ++ cellsL L := rfl
theorem cellsL_append (L M : List (List UInt8)) : cellsL (L ++ M) = cellsL L ++ cellsL M := by simp [cellsL]
theorem cellsL_length : ∀ (L : List (List UInt8)), (∀ x ∈ L, x.length = 64) → (cellsL L).length = L.length * 64
  | [], _ => rfl
  | x :: L, h => by
    rw [cellsL_cons, List.length_append, bc_length, h x (by simp), cellsL_length L (fun y hy => h y (by simp [hy])), List.length_cons]; omega
theorem split_at (L : List (List UInt8)) (k : Nat) (hk : k < L.length) : ∃ A R, L = A ++ L[k] :: R ∧ A.length = k ∧ ∀ d, L.set k d = A ++ d :: R := by
  refine ⟨L.take k, L.drop (k + 1), ?_, by rw [List.length_take]; omega, fun d => ?_⟩
  · rw [List.getElem_cons_drop]; exact (List.take_append_drop k L).symm
  · rw [List.set_eq_take_append_cons_drop, if_pos hk]
/-- A sector's cells, among all. -/
theorem cellsL_get (L : List (List UInt8)) (h : ∀ x ∈ L, x.length = 64) (k : Nat) (hk : k < L.length) : ∀ j v, (Lib.byteCells L[k])[j]? = some v → (cellsL L)[k * 64 + j]? = some v := by
  intro j v hv
  obtain ⟨A, R, hL, hA, _⟩ := split_at L k hk
  have hA64 : (cellsL A).length = k * 64 := by rw [cellsL_length A (fun x hx => h x (by rw [hL]; simp [hx])), hA]
  rw [hL, cellsL_append, cellsL_cons, List.getElem?_append_right (by omega), hA64, show k * 64 + j - k * 64 = j from by omega]
  have hj := (List.getElem?_eq_some_iff.1 hv).1
  rw [List.getElem?_append_left hj]; exact hv
/-- A sector's first bytes are written. -/
theorem cellsL_lay (L : List (List UInt8)) (h : ∀ x ∈ L, x.length = 64) (k : Nat) (hk : k < L.length) (d : List UInt8) (m : Nat) (hd : d.length = m) (hm : m ≤ 64) :
    lay (cellsL L) (k * 64) (Lib.byteCells d) = cellsL (L.set k (d ++ L[k].drop m)) := by
  obtain ⟨A, R, hL, hA, hs⟩ := split_at L k hk
  have hA64 : (cellsL A).length = k * 64 := by rw [cellsL_length A (fun x hx => h x (by rw [hL]; simp [hx])), hA]
  have hx64 : L[k].length = 64 := h _ (List.getElem_mem hk)
  rw [hs]
  generalize L[k] = x at *
  subst hL
  unfold lay
  rw [bc_length, hd, cellsL_append, cellsL_cons, cellsL_append, cellsL_cons, List.take_append_of_le_length (by omega), List.take_of_length_le (by omega), List.drop_append, hA64,
    List.drop_eq_nil_of_le (by omega), List.nil_append, show k * 64 + m - k * 64 = m from by omega, List.drop_append_of_le_length (by rw [bc_length]; omega), Lib.byteCells_append, bc_drop]
  simp
theorem cellsL_put (L : List (List UInt8)) (h : ∀ x ∈ L, x.length = 64) (k : Nat) (hk : k < L.length) (d : List UInt8) (hd : d.length = 64) :
    lay (cellsL L) (k * 64) (Lib.byteCells d) = cellsL (L.set k d) := by
  rw [cellsL_lay L h k hk d 64 hd (Nat.le_refl _), List.drop_eq_nil_of_le (by rw [h _ (List.getElem_mem hk)]; exact Nat.le_refl _), List.append_nil]

/-- The cells of a write, of writes. -/
def cellW (x : Nat × List UInt8) : List Value := .int .i64 (x.1 : Int) :: Lib.byteCells x.2
def flatW (C : List (Nat × List UInt8)) : List Value := C.flatMap cellW
theorem cellW_one (x : Nat × List UInt8) : ∀ v ∈ cellW x, v.oneCell' = true := by
  intro v hv
  rcases List.mem_cons.1 hv with rfl | hv
  · rfl
  · exact bc_one _ v hv
theorem cellW_length (x : Nat × List UInt8) (h : x.2.length = 64) : (cellW x).length = 65 := by simp [cellW, bc_length, h]
theorem flatW_snoc (C : List (Nat × List UInt8)) (x : Nat × List UInt8) : flatW (C ++ [x]) = flatW C ++ cellW x := by simp [flatW]
theorem flatW_length : ∀ (C : List (Nat × List UInt8)), (∀ x ∈ C, x.2.length = 64) → (flatW C).length = C.length * 65
  | [], _ => rfl
  | x :: C, h => by
    rw [show flatW (x :: C) = cellW x ++ flatW C from rfl, List.length_append, cellW_length x (h x (by simp)), flatW_length C (fun y hy => h y (by simp [hy])), List.length_cons]; omega
theorem flatW_get : ∀ (C : List (Nat × List UInt8)) (_ : ∀ x ∈ C, x.2.length = 64) (k : Nat) (hk : k < C.length), ∀ j v, (cellW C[k])[j]? = some v → (flatW C)[k * 65 + j]? = some v
  | x :: C, _, 0, _, j, v, hv => by
    have hv' : (cellW x)[j]? = some v := hv
    rw [show flatW (x :: C) = cellW x ++ flatW C from rfl, Nat.zero_mul, Nat.zero_add, List.getElem?_append_left (List.getElem?_eq_some_iff.1 hv').1]; exact hv'
  | x :: C, h, k + 1, hk, j, v, hv => by
    have := flatW_get C (fun y hy => h y (by simp [hy])) k (by simpa using hk) j v (by simpa using hv)
    have hx := cellW_length x (h x (by simp))
    rw [show flatW (x :: C) = cellW x ++ flatW C from rfl, List.getElem?_append_right (by omega), hx, show (k + 1) * 65 + j - 65 = k * 65 + j from by omega]; exact this

theorem bc_get (l : List UInt8) (j : Nat) (v : Value) (h : (Lib.byteCells l)[j]? = some v) : (cellW (0, l))[1 + j]? = some v := by
  rw [show (1 + j) = j + 1 from by omega]; simpa [cellW] using h

/-- What the two reads of a disk have in common: the last write, or what lasted. -/
theorem syncL_length (C : List (Nat × List UInt8)) : ∀ L, (syncL L C).length = L.length := by
  induction C with
  | nil => intro L; rfl
  | cons x C ih => intro L; show (syncL (L.set x.1 x.2) C).length = _; rw [ih]; simp
theorem syncL_snoc (L : List (List UInt8)) (C : List (Nat × List UInt8)) (x : Nat × List UInt8) : syncL L (C ++ [x]) = (syncL L C).set x.1 x.2 := by simp [syncL]
theorem syncL_get (L : List (List UInt8)) (k : Nat) (hk : k < L.length) : ∀ n (C : List (Nat × List UInt8)), C.length = n → (syncL L C)[k]? = some ((lastW C k).getD L[k])
  | 0, C, h => by
    have : C = [] := List.eq_nil_of_length_eq_zero h
    subst this; rw [lastW_nil]; simp [syncL, hk]
  | n + 1, C, h => by
    have hne : C ≠ [] := by intro e; subst e; simp at h
    rw [← List.dropLast_concat_getLast hne, syncL_snoc, lastW_snoc, List.getElem?_set]
    have ih := syncL_get L k hk n C.dropLast (by rw [List.length_dropLast]; omega)
    by_cases e : (C.getLast hne).1 = k
    · rw [if_pos e, if_pos e, if_pos (by rw [syncL_length]; omega)]; rfl
    · rw [if_neg e, if_neg e]; exact ih
theorem syncL_64 {L : List (List UInt8)} {C : List (Nat × List UInt8)} (hL : ∀ x ∈ L, x.length = 64) (hC : ∀ x ∈ C, x.2.length = 64) : ∀ x ∈ syncL L C, x.length = 64 := by
  induction C generalizing L with
  | nil => exact hL
  | cons y C ih =>
    refine ih (L := L.set y.1 y.2) (fun x hx => ?_) (fun x hx => hC x (by simp [hx]))
    rcases List.mem_or_eq_of_mem_set hx with h | h
    · exact hL x h
    · subst h; exact hC y (by simp)

/-- The steps of a walk, by hand. -/
theorem wpStill_load_mid {P : Program} {ops : Array Oper} {w : World} {Q : Act → Prop} {a : Act} {o : Oper} {rest : List Oper} (hgd : o.guard = none) (ty : TypeId) (x : Operand) (ho : o.op = .load ty x)
    (b f : Nat) (hx : a.eval x = .pointer (some ⟨b, f, none⟩)) (cs : List Value) (d : TypeDesc) (hc : w.rangeAt b f cs)
    (hu : P.underlying ty = some d) (hd : d.isRow = true) (hi : (P.info? ty).map (·.size) = some cs.length)
    (h : wpStill P ops w Q rest (a.put o.dst (.agg cs.toArray))) : wpStill P ops w Q (o :: rest) a := by
  refine wpStill_step fun K hK => ?_
  have hw : Region.wanted o (yielded ops a.tmps) = true := by simp [Region.wanted, hgd]
  rw [if_pos hw]
  unfold Oper.still execOp
  simp only [ho, hx, Instr.loadAt, Instr.sureAddr, Sem.run_bind, Sem.run_pure, Result.andThen_ok, run_loadVar_mid w b f ty cs d hc hu hd hi, Oper.stillUpon_value]
  exact hK _ h

theorem wpList_copy_mid {P : Program} {w : World} {ops : Array Oper} {rest : List Oper} {o : Oper} {a : Act} {Q : Exit → Act → World → Prop} (hgd : o.guard = none) (d s : Operand) (dT sT : TypeId)
    (ho : o.op = .call { callee := .builtin .copy, args := #[d, s], argTypes := #[dT, sT] }) (elem : TypeId) (hu : P.underlying dT = some (.slice elem)) (hsz : (P.info? elem).map (·.size) = some 1)
    (b f dLen dCap b' f' sLen sCap : Nat) (hd : a.eval d = .slice (some ⟨b, f, none⟩) dLen dCap) (hs : a.eval s = .slice (some ⟨b', f', none⟩) sLen sCap)
    (cs : List Value) (hn : cs.length = Nat.min sLen dLen) (hsrc : w.rangeAt b' f' cs) (ht : w.there b f cs.length) (h1 : ∀ v ∈ cs, v.oneCell' = true)
    (h : wpList P ops Q rest (a.put o.dst (goInt cs.length)) (w.setCells b f cs)) : wpList P ops Q (o :: rest) a w := by
  refine wpList_plain hgd fun K hK => ?_
  have hrun := run_copy_cells (P := P) w dT sT o.type elem b f dLen dCap ⟨b', f', none⟩ sLen sCap cs hu hsz hn (fun j v hv => by rw [Addr.add_mid]; exact hsrc j v hv) (fun j hj => (ht j hj).1) (fun j hj => (ht j hj).2) h1
  unfold Oper.wp
  simp [execOp, ho, resolve, invoke, builtin, hd, hs, hrun, Result.andThen]
  exact hK _ _ h

theorem wpList_copy_text {P : Program} {w : World} {ops : Array Oper} {rest : List Oper} {o : Oper} {a : Act} {Q : Exit → Act → World → Prop} (hgd : o.guard = none) (d s : Operand) (dT sT : TypeId)
    (ho : o.op = .call { callee := .builtin .copy, args := #[d, s], argTypes := #[dT, sT] }) (elem : TypeId) (hu : P.underlying dT = some (.slice elem)) (hsz : (P.info? elem).map (·.size) = some 1)
    (b f dLen dCap : Nat) (t : List UInt8) (hd : a.eval d = .slice (some ⟨b, f, none⟩) dLen dCap) (hs : a.eval s = .string ⟨t.toArray⟩)
    (hn : t.length ≤ dLen) (ht : w.there b f t.length)
    (h : wpList P ops Q rest (a.put o.dst (goInt t.length)) (w.setCells b f (Lib.byteCells t))) : wpList P ops Q (o :: rest) a w := by
  refine wpList_plain hgd fun K hK => ?_
  have hz : ∀ w, (Go.sizeOf elem).run P w = .ok 1 w := fun w => by
    cases hq : P.info? elem with
    | none => simp [hq] at hsz
    | some i =>
      have hi : i.size = 1 := by simpa [hq] using hsz
      simp [sizeOf, typeInfo, hq, hi]
  have hrun := Go.run_copy_string (P := P) w dT sT o.type elem b f dLen dCap ⟨t.toArray⟩ hu hz (by simpa [mk_size] using hn) (fun j hj => (ht j (by simpa [mk_size] using hj)).1) (fun j hj => (ht j (by simpa [mk_size] using hj)).2)
  have e : (List.map (fun x : UInt8 => Value.int .u8 (x.toNat : Int)) (ByteArray.mk t.toArray).data.toList) = Lib.byteCells t := rfl
  rw [e, mk_size] at hrun
  unfold Oper.wp
  simp [execOp, ho, resolve, invoke, builtin, hd, hs, hrun, Result.andThen]
  exact hK _ _ h

theorem wpList_mv {P : Program} {w : World} {ops : Array Oper} {rest : List Oper} {o : Oper} {a : Act} {Q : Exit → Act → World → Prop} (hgd : o.guard = none) (x : Operand) (ho : o.op = .move x) (v : Value) (hx : a.eval x = v)
    (h : wpList P ops Q rest (a.put o.dst v) w) : wpList P ops Q (o :: rest) a w := by
  subst hx
  refine wpList_plain hgd fun K hK => ?_
  unfold Oper.wp execOp
  simp only [ho, Sem.run_pure]
  exact hK _ _ h

theorem wpList_alloc_row {P : Program} {w : World} {ops : Array Oper} {rest : List Oper} {o : Oper} {a : Act} {Q : Exit → Act → World → Prop} (hgd : o.guard = none) (ty : TypeId) (ho : o.op = .alloc ty) (i : TypeInfo) (C : List Value) (hi : P.info? ty = some i) (hz : i.zero = some (.agg C.toArray))
    (h : wpList P ops Q rest (a.put o.dst (.pointer (some ⟨w.heap.size, 0, none⟩))) (w.alloc (.cells C.toArray ty))) : wpList P ops Q (o :: rest) a w := by
  refine wpList_plain hgd fun K hK => ?_
  have hrun : (Instr.alloc ty true (.tuple #[])).run P w = .ok (.pointer (some ⟨w.heap.size, 0, none⟩)) (w.alloc (.cells C.toArray ty)) := by
    simp [Instr.alloc, zeroValue, typeInfo, hi, hz, newVar, newRow, Value.cells]
  unfold Oper.wp execOp
  simp only [ho, Sem.run_bind, hrun, Sem.run_pure, Result.andThen_ok]
  exact hK _ _ h

theorem wpList_buildSlice_row {P : Program} {w : World} {ops : Array Oper} {rest : List Oper} {o : Oper} {a : Act} {Q : Exit → Act → World → Prop} (hgd : o.guard = none) (t e : TypeId) (x : Operand) (ho : o.op = .buildSlice t 1 #[(0, x)])
    (i : TypeInfo) (z : Value) (C : List Value) (hu : P.underlying t = some (.slice e)) (hi : P.info? e = some i) (hz : i.zero = some z) (hs : i.size = C.length) (hpos : 0 < C.length) (hle : C.length ≤ 1000) (hx : (a.eval x).cells = C.toArray)
    (h : wpList P ops Q rest (a.put o.dst (.slice (some ⟨w.heap.size, 0, none⟩) 1 1)) (w.alloc (.cells C.toArray e))) : wpList P ops Q (o :: rest) a w := by
  refine wpList_buildSlice hgd t e 1 #[(0, x)] ho C.toArray i z hu hi hz (by rw [hs]; omega) (by rw [hs]; omega) ?_ h
  have := Go.Great.fill_whole (s := i.size) (by omega) [a.eval x] ((Array.range (1 * i.size)).map (z.cells[· % z.cells.size]!)) (by simp [hx, hs]) (by simp)
  simpa [hx] using this

theorem run_buildSlice_one {P : Program} (w : World) (t e : TypeId) (i : TypeInfo) (z : Value) (C : List Value) (hu : P.underlying t = some (.slice e)) (hi : P.info? e = some i) (hz : i.zero = some z) (hs : i.size = C.length) (hpos : 0 < C.length) (hle : C.length ≤ 1000) :
    (Instr.buildSlice t 1 #[(0, .agg C.toArray)]).run P w = .ok (.slice (some ⟨w.heap.size, 0, none⟩) 1 1) (w.alloc (.cells C.toArray e)) := by
  have hf := Go.Great.fill_whole (s := C.length) hpos [.agg C.toArray] ((Array.range (1 * C.length)).map (z.cells[· % z.cells.size]!)) (by simp [Value.cells]) (by simp)
  simp only [List.zipIdx_cons, List.zipIdx_nil, List.map_cons, List.map_nil, List.flatMap_cons, List.flatMap_nil, List.append_nil, Value.cells, Nat.one_mul] at hf
  have h1 : ¬ C.length > 16777216 := by omega
  have h2 : ¬ C = [] := by intro e; subst e; simp at hpos
  simp [Instr.buildSlice, run_underlying hu, sizeOf, typeInfo, hi, zeroValue, hz, hs, h1, h2, newRow]
  simp only [Value.cells] at hf ⊢
  rw [hf]
  simp [newRow]

theorem exec_buildSlice {P : Program} {w w' : World} {o : Oper} {a : Act} {t : TypeId} {x : Operand} {v r : Value} (hr : (Instr.buildSlice t 1 #[(0, v)]).run P w = .ok r w') (ho : o.op = .buildSlice t 1 #[(0, x)]) (hx : a.eval x = v) :
    (execOp a.eval o).run P w = .ok (.value r) w' := by
  subst hx
  unfold execOp
  simp only [ho, List.map_toArray, List.map_cons, List.map_nil, Sem.run_bind, hr, Result.andThen_ok, Sem.run_pure]

theorem exec_append {P : Program} {w w' : World} {o : Oper} {a : Act} {t ty : TypeId} {s x : Operand} {v u r : Value} (hr : (Builtin.append_ #[t, t] ty #[v, u]).run P w = .ok r w') (ho : o.op = .call { callee := .builtin .append, args := #[s, x], argTypes := #[t, t] }) (hty : o.type = ty) (hs : a.eval s = v) (hx : a.eval x = u) :
    (execOp a.eval o).run P w = .ok (.value r) w' := by
  subst hty
  unfold execOp
  simp only [ho, resolve, invoke, builtin, Sem.run_bind, Sem.run_pure, Result.andThen_ok, List.map_toArray, List.map_cons, List.map_nil, hs, hx, hr]

theorem exec_make {P : Program} {w w' : World} {o : Oper} {a : Act} {t : TypeId} {l c : Operand} {v u r : Value} (hr : (Instr.makeSlice t v u).run P w = .ok r w') (ho : o.op = .makeSlice t l c) (hl : a.eval l = v) (hc : a.eval c = u) :
    (execOp a.eval o).run P w = .ok (.value r) w' := by
  subst hl hc
  unfold execOp
  simp only [ho, Sem.run_bind, hr, Result.andThen_ok, Sem.run_pure]
theorem exec_convert {P : Program} {w w' : World} {o : Oper} {a : Act} {t t' : TypeId} {x : Operand} {v r : Value} (hr : (convert t t' v).run P w = .ok r w') (ho : o.op = .convert t t' x) (hx : a.eval x = v) :
    (execOp a.eval o).run P w = .ok (.value r) w' := by
  subst hx
  unfold execOp
  simp only [ho, Sem.run_bind, hr, Result.andThen_ok, Sem.run_pure]

theorem wpList_of_run {P : Program} {w w' : World} {ops : Array Oper} {rest : List Oper} {o : Oper} {a : Act} {Q : Exit → Act → World → Prop} {v : Value} (hg : o.guard = none) (d : Option Tmp) (hd : o.dst = d) (hr : (execOp a.eval o).run P w = .ok (.value v) w')
    (h : wpList P ops Q rest (a.put d v) w') : wpList P ops Q (o :: rest) a w := by
  subst hd
  refine wpList_plain hg fun K hK => ?_
  unfold Oper.wp
  rw [hr, Oper.upon_value]
  exact hK _ _ h

end Go.Proofs.Pk
