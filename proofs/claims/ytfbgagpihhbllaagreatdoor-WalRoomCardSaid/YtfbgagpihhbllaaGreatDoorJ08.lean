/- Ord, RtX, RtZ. -/
import Derived.OrdersHeld
import Derived.StillTail
import Derived.KernelRfl
import Derived.Tactics
import Derived.Test.YtfbgagpihhbllaaGreatDoorJ06
import Derived.Test.YtfbgagpihhbllaaGreatDoorJ07
import Derived.Laws.ResultCell
import Derived.Test.YtfbgagpihhbllaaGreatDoorJ04

/- A region that draws its order, in which a fact on the memory holds until its last operations come up (a store to a cell that the region has loaded). No program. -/
namespace Go.Proofs.Pk
section
variable {P : Program} {ops : Array Oper} {Q : Exit → Act → World → Prop} {md : Region.Mode} {S : World → Prop} {z : Nat}

/-- Whatever order is picked, and S holds behind each operation ahead of number z. -/
def wpAnyU (P : Program) (md : Region.Mode) (ops : Array Oper) (Q : Exit → Act → World → Prop) (S : World → Prop) (z : Nat) : Nat → Array Bool → Act → World → Prop
  | 0, listed, a, w => Region.ready md ops listed = [] ∧ Q .normal a w
  | fuel + 1, listed, a, w =>
    (Region.ready md ops listed = [] → Q .normal a w) ∧
    ∀ i ∈ Region.ready md ops listed, wpOp P ops Q i (fun a' w' => (i < z → S w') ∧ wpAnyU P md ops Q S z fuel (listed.setIfInBounds i true) a' w') a w

theorem wpAny_of_until : ∀ (fuel : Nat) (listed : Array Bool) (a : Act) (w : World), wpAnyU P md ops Q S z fuel listed a w → wpAny P md ops Q fuel listed a w
  | 0, _, _, _, h => h
  | fuel + 1, _, _, _, h => ⟨h.1, fun i hi => wpOp_mono (fun a' w' h' => wpAny_of_until fuel _ a' w' h'.2) (h.2 i hi)⟩

/-- All operations from z on wait for number i. -/
def lateB (md : Region.Mode) (ops : Array Oper) (z i : Nat) : Bool := (List.range ops.size).all fun j => decide (j < z) || Region.waitsFor md ops j i

theorem late_ready {i j : Nat} {listed : Array Bool} (hl : lateB md ops z i = true) (hi : i ∈ Region.ready md ops listed) (hj : j ∈ Region.ready md ops listed) : j < z := by
  obtain ⟨hjun, oj, hoj, hall⟩ := mem_ready.1 hj
  have hlt : j < ops.size := (Array.getElem?_eq_some_iff.1 hoj).1
  have := List.all_eq_true.1 hl j (List.mem_range.2 hlt)
  rcases Bool.or_eq_true _ _ ▸ this with h | h
  · exact of_decide_eq_true h
  · obtain ⟨oj', hoj', e, he, hb, heq⟩ := Region.waitsFor_spec h
    rw [hoj] at hoj'
    obtain rfl := Option.some.inj hoj'
    have h1 := hall e he hb
    rw [heq] at h1
    have h0 := getD_both (mem_ready.1 hi).1
    rw [h0] at h1; cases h1

/-- An operation that reads may be taken first. -/
theorem wpAnyU_first {i : Nat} {oi : Oper} {v : Value} (hi : ops[i]? = some oi) (hsel : ∀ (j : Nat) (o : Oper) cs b, ops[j]? = some o → o.op ≠ .select cs b)
    (hQ : ∀ c a w, Q (.panic c) (a.put oi.dst v) w → Q (.panic c) a w) (hl : lateB md ops z i = true) :
    ∀ (fuel : Nat) (listed : Array Bool) (a : Act) (w : World),
      (∀ j oj, ops[j]? = some oj → j ≠ i → listed.getD j true = false → (∀ e ∈ oj.after, Region.binds md e = true → e.on ≠ i) → oi.apart ops oj = true) →
      i ∈ Region.ready md ops listed → YieldsIf P ops S oi v a → S w →
      wpAnyU P md ops Q S z fuel (listed.setIfInBounds i true) (a.put oi.dst v) w → wpAnyU P md ops Q S z (fuel + 1) listed a w := by
  intro fuel
  induction fuel with
  | zero =>
    intro listed a w _ hr hy hS H
    refine ⟨fun h => absurd (h ▸ hr) (by simp), fun j hj => ?_⟩
    by_cases hji : j = i
    · subst hji; exact hy.wpOp hi hS ⟨fun _ => hS, H⟩
    · exact absurd (H.1 ▸ ready_mono hj hji) (by simp)
  | succ fuel ih =>
    intro listed a w hfree hr hy hS H
    refine ⟨fun h => absurd (h ▸ hr) (by simp), fun j hj => ?_⟩
    by_cases hji : j = i
    · subst hji; exact hy.wpOp hi hS ⟨fun _ => hS, H⟩
    · have hjz := late_ready hl hr hj
      obtain ⟨hjun, oj, hoj, hall⟩ := mem_ready.1 hj
      have hnot : ∀ e ∈ oj.after, Region.binds md e = true → e.on ≠ i := fun e he hb heq => by
        have h1 := hall e he hb
        rw [heq, getD_both (mem_ready.1 hr).1] at h1; cases h1
      have h2 := wpOp_putIf hoj (hfree j oj hoj hji hjun hnot) (fun cs b => hsel i oi cs b hi) (fun cs b => hsel j oj cs b hoj) hQ hy (H.2 j (ready_mono hj hji))
      refine wpOp_mono (fun a' w' h3 => ⟨h3.2.1, ih (listed.setIfInBounds j true) a' w' ?_ (ready_mono hr (Ne.symm hji)) h3.1 (h3.2.1 hjz) ?_⟩) h2
      · intro k ok hk hki hun hno
        refine hfree k ok hk hki ?_ hno
        by_cases hjk : j = k
        · subst hjk; exact hjun
        · rwa [getD_set_ne true hjk] at hun
      · rw [Array.setIfInBounds_comm _ _ hji]; exact h3.2.2

theorem wpAnyU_take {i : Nat} {oi : Oper} {v : Value} {fuel : Nat} {listed : Array Bool} {a : Act} {w : World} (d : Option Tmp) (hi : ops[i]? = some oi) (hd : oi.dst = d)
    (hs : Region.noSelect ops = true) (hf : Region.free md ops listed i = true) (hr : (Region.ready md ops listed).contains i = true) (hl : lateB md ops z i = true)
    (hQ : ∀ c a w, Q (.panic c) (a.put oi.dst v) w → Q (.panic c) a w) (hS : S w) (hy : YieldsIf P ops S oi v a)
    (h : wpAnyU P md ops Q S z fuel (listed.setIfInBounds i true) (a.put d v) w) : wpAnyU P md ops Q S z (fuel + 1) listed a w := by
  subst hd
  exact wpAnyU_first hi (Region.noSelect_spec hs) hQ hl fuel listed a w (Region.free_spec hi hf) (by simpa using hr) hy hS h

/-- One alone may come up: what it does is known. -/
theorem wpAnyU_run {i : Nat} {oi : Oper} {v : Value} {w' : World} {fuel : Nat} {listed : Array Bool} {a : Act} {w : World} (d : Option Tmp) (hi : ops[i]? = some oi) (hd : oi.dst = d)
    (hr : Region.ready md ops listed = [i]) (hg : Region.wanted oi (yielded ops a.tmps) = true) (hrun : (execOp a.eval oi).run P w = .ok (.value v) w') (hS : i < z → S w')
    (h : wpAnyU P md ops Q S z fuel (listed.setIfInBounds i true) (a.put d v) w') : wpAnyU P md ops Q S z (fuel + 1) listed a w := by
  subst hd
  refine ⟨fun h0 => absurd (hr ▸ h0) (by simp), ?_⟩
  rw [hr]
  intro j hj
  obtain rfl : j = i := by simpa using hj
  unfold wpOp
  simp only [hi, hg, if_true, Oper.wp, hrun, Oper.upon]
  exact .inl ⟨hS, h⟩
theorem wpAnyU_skip {i : Nat} {oi : Oper} {w' : World} {fuel : Nat} {listed : Array Bool} {a : Act} {w : World} (d : Option Tmp) (hi : ops[i]? = some oi) (hd : oi.dst = d)
    (hr : Region.ready md ops listed = [i]) (hg : Region.wanted oi (yielded ops a.tmps) = true) (hrun : (execOp a.eval oi).run P w = .ok .skip w') (hS : i < z → S w')
    (h : wpAnyU P md ops Q S z fuel (listed.setIfInBounds i true) (a.put d undef) w') : wpAnyU P md ops Q S z (fuel + 1) listed a w := by
  subst hd
  refine ⟨fun h0 => absurd (hr ▸ h0) (by simp), ?_⟩
  rw [hr]
  intro j hj
  obtain rfl : j = i := by simpa using hj
  unfold wpOp
  simp only [hi, hg, if_true, Oper.wp, hrun, Oper.upon]
  exact .inl ⟨hS, h⟩

/-- One alone may come up, and it is a call. -/
theorem wpAnyU_call {i : Nat} {oi : Oper} {f : Nat} {args : Array Value} {fuel : Nat} {listed : Array Bool} {a : Act} {w : World} (d : Option Tmp) (hi : ops[i]? = some oi) (hd : oi.dst = d)
    (hr : Region.ready md ops listed = [i]) (hg : Region.wanted oi (yielded ops a.tmps) = true) (hrun : (execOp a.eval oi).run P w = .ok (.enter f args) w)
    (h : Calls P f args w fun e w' => ∃ v, e = .returned v ∧ (i < z → S w') ∧ wpAnyU P md ops Q S z fuel (listed.setIfInBounds i true) (a.put d v) w') : wpAnyU P md ops Q S z (fuel + 1) listed a w := by
  subst hd
  refine ⟨fun h0 => absurd (hr ▸ h0) (by simp), ?_⟩
  rw [hr]
  intro j hj
  obtain rfl : j = i := by simpa using hj
  unfold wpOp
  simp only [hi, hg, if_true, Oper.wp, hrun, Oper.upon]
  refine .inl (h.mono ?_)
  rintro e w' ⟨v, rfl, h1, h2⟩
  exact ⟨h1, h2⟩
/-- What is not wanted. -/
theorem unwanted {o : Oper} {a : Act} (hw : Region.wanted o (yielded ops a.tmps) = false) : YieldsIf P ops S o undef a := .inr ⟨hw, rfl⟩

theorem wpAnyU_done {listed : Array Bool} {a : Act} {w : World} (hr : Region.ready md ops listed = []) (h : Q .normal a w) :
    ∀ fuel, wpAnyU P md ops Q S z fuel listed a w
  | 0 => ⟨hr, h⟩
  | _ + 1 => ⟨fun _ => h, by rw [hr]; simp⟩

/-- The beginning. -/
theorem wp_region_until {id : Nat} {a : Act} {w : World} (S : World → Prop) (z : Nat) (hm : P.follows .mixedOrders = true)
    (h : wpAnyU P .any ops Q S z ops.size (Array.replicate ops.size false) a w.drew) : (Code.region id ops true).wp P Q a w :=
  wp_region_any hm (wpAny_of_until _ _ _ _ h)

/-- What an operation that reads yields, whatever the world. -/
theorem yields_mv {o : Oper} {a : Act} {x : Operand} {v : Value} (hw : Region.wanted o (yielded ops a.tmps) = true) (ho : o.op = .move x) (hx : a.eval x = v) : YieldsIf P ops S o v a :=
  .inl ⟨hw, fun w _ => by subst hx; unfold execOp; simp only [ho, Sem.run_pure]⟩
theorem yields_of {o : Oper} {a : Act} {v : Value} (hw : Region.wanted o (yielded ops a.tmps) = true) (h : ∀ w, S w → (execOp a.eval o).run P w = .ok (.value v) w) : YieldsIf P ops S o v a := .inl ⟨hw, h⟩
end

/-- A frame that is written out, with one slot put. -/
theorem put_lit (l : List Value) (ds : List Deferred) (d : Nat) (v : Value) : Act.put ⟨l.toArray, ds⟩ (some d) v = ⟨(l.set d v).toArray, ds⟩ := by simp [Act.put]

end Go.Proofs.Pk

/- Layer 6: roots as numbers and bytes (mathematics; no reference) -/
namespace Go.Proofs.YtfbgagpihhbllaaGreatDoor
open Go.RowKit Go.Proofs Go.Proofs.Pk
set_option maxRecDepth 10000
attribute [local simp] mk_get wrap64_u8 mk_extract ByteArray.mk_append_mk get_1k

/-- A file in natural numbers. -/
abbrev FileN := Nat × Nat × Nat
def fileI (f : FileN) : FileV := ((f.1 : Int), (f.2.1 : Int), (f.2.2 : Int))
theorem okF_bounds (next : Int) : ∀ (l : List FileV) (last : Int), okF next last l = true → ∀ f ∈ l, last < f.1 ∧ f.1 < next ∧ 18 ≤ f.2.1
  | [], _, _, f, hf => by simp at hf
  | x :: l, last, h, f, hf => by
    simp only [okF, Bool.and_eq_true, Bool.not_eq_true', Bool.or_eq_false_iff, decide_eq_false_iff_not] at h
    obtain ⟨⟨⟨h1, h2⟩, h3⟩, h4⟩ := h
    rcases List.mem_cons.1 hf with rfl | hf
    · omega
    · have := okF_bounds next l x.1 h4 f hf; omega
theorem rightV_iff {T seq next cur : Int} {l : List FileV} (h : rightV T seq next cur l = true) : (1 ≤ seq ∧ seq ≤ 9007199254740991) ∧ (1 ≤ next ∧ next ≤ 9007199254740991) ∧ l.length ≤ 24 ∧ okF next 0 l = true ∧ curF cur l = true ∧ (takenO T (usedF l)).isSome = true := by
  unfold rightV headF at h
  simp only [Bool.and_eq_true, decide_eq_true_eq] at h
  obtain ⟨⟨⟨⟨⟨⟨⟨h1, h2⟩, h3⟩, h4⟩, h5⟩, h6⟩, h7⟩, h8⟩ := h
  exact ⟨⟨h1, h2⟩, ⟨h3, h4⟩, h5, h6, h7, h8⟩
theorem right_files {T seq next cur : Int} {l : List FileV} (h : rightV T seq next cur l = true) : ∀ f ∈ l, (0 < f.1 ∧ f.1 < next) ∧ (18 ≤ f.2.1 ∧ f.2.1 ≤ 4000) ∧ (1 ≤ f.2.2 ∧ f.2.2 ≤ 4000) := by
  obtain ⟨_, _, _, h4, _, h6⟩ := rightV_iff h
  obtain ⟨t, ht⟩ := Option.isSome_iff_exists.1 h6
  obtain ⟨N, rfl, hN, _, htk, _⟩ := takenO_some ht
  have hg := (takeAll_some _ _ _ _ (by simp) htk).1
  intro f hf
  have h1 := okF_bounds next l 0 h4 f hf
  have h2 := hg f.2 (by unfold usedF; exact List.mem_map.2 ⟨f, hf, rfl⟩)
  unfold Go.Proofs.Pk.Good at h2
  omega
theorem right_cur {T seq next cur : Int} {l : List FileV} (h : rightV T seq next cur l = true) : 0 ≤ cur ∧ cur < next := by
  obtain ⟨_, h2, _, _, h5, _⟩ := rightV_iff h
  unfold curF at h5
  rcases Bool.or_eq_true _ _ ▸ h5 with h | h'
  · have : cur = 0 := by simpa using h
    omega
  · obtain ⟨f, hf, he⟩ := List.any_eq_true.1 h'
    have := (right_files h f hf).1
    have : f.1 = cur := by simpa using he
    omega
theorem right_nat {T seq next cur : Int} {l : List FileV} (h : rightV T seq next cur l = true) : ∃ (s n c : Nat) (fs : List FileN), seq = (s : Int) ∧ next = (n : Int) ∧ cur = (c : Int) ∧ l = fs.map fileI ∧ s ≤ MaxN ∧ n ≤ MaxN ∧ c ≤ MaxN ∧ fs.length ≤ 24 ∧ ∀ f ∈ fs, f.1 ≤ MaxN ∧ f.2.1 ≤ MaxN ∧ f.2.2 ≤ MaxN := by
  obtain ⟨h1, h2, h3, _⟩ := rightV_iff h
  have h4 := right_files h
  have h5 := right_cur h
  refine ⟨seq.toNat, next.toNat, cur.toNat, l.map (fun f => (f.1.toNat, f.2.1.toNat, f.2.2.toNat)), by omega, by omega, by omega, ?_, by unfold MaxN; omega, by unfold MaxN; omega, by unfold MaxN; omega, by simpa using h3, ?_⟩
  · rw [List.map_map]
    conv => lhs; rw [← List.map_id l]
    refine List.map_congr_left fun f hf => ?_
    have := h4 f hf
    obtain ⟨a, b, c⟩ := f
    simp only [id, Function.comp, fileI] at *
    ext <;> simp <;> omega
  · intro f hf
    obtain ⟨x, hx, rfl⟩ := List.mem_map.1 hf
    have := h4 x hx
    unfold MaxN
    simp only
    omega
def filesN (l : List FileN) : List Nat := l.flatMap fun f => [f.1, f.2.1, f.2.2]
def rootN (s n c : Nat) (l : List FileN) : List Nat := [s, n, c, l.length] ++ filesN l
/-- A root's bytes. -/
def rootB (s n c : Nat) (l : List FileN) : List UInt8 := (rootN s n c l).flatMap numL
theorem filesN_length : ∀ l : List FileN, (filesN l).length = l.length * 3
  | [] => rfl
  | f :: l => by have := filesN_length l; simp only [filesN, List.flatMap_cons, List.length_append, List.length_cons, List.length_nil] at *; omega
theorem filesN_snoc (l : List FileN) (f : FileN) : filesN (l ++ [f]) = filesN l ++ [f.1, f.2.1, f.2.2] := by unfold filesN; simp
theorem intsN_append (a b : List Nat) : intsN (a ++ b) = intsN a ++ intsN b := by unfold intsN; simp
theorem flatNum_len (l : List Nat) : (l.flatMap numL).length ≤ l.length * 8 := by
  induction l with
  | nil => simp
  | cons n l ih => have := numL_len_le n; simp only [List.flatMap_cons, List.length_append, List.length_cons]; omega
theorem exec_buildSlice3 {P : Program} {w w' : World} {o : Oper} {a : Act} {t : TypeId} {x y z : Operand} {u v u' r : Value} (hr : (Instr.buildSlice t 3 #[(0, u), (1, v), (2, u')]).run P w = .ok r w') (ho : o.op = .buildSlice t 3 #[(0, x), (1, y), (2, z)]) (hx : a.eval x = u) (hy : a.eval y = v) (hz : a.eval z = u') :
    (execOp a.eval o).run P w = .ok (.value r) w' := by
  subst hx hy hz
  unfold execOp
  simp only [ho, List.map_toArray, List.map_cons, List.map_nil, Sem.run_bind, hr, Result.andThen_ok, Sem.run_pure]

end Go.Proofs.YtfbgagpihhbllaaGreatDoor

/- Layer 6: what bytes are as a root (mathematics; no reference) -/
namespace Go.Proofs.YtfbgagpihhbllaaGreatDoor
open Go.RowKit Go.Proofs Go.Proofs.Pk
set_option maxRecDepth 10000
attribute [local simp] mk_get wrap64_u8 mk_extract ByteArray.mk_append_mk get_1k

theorem exec_alloc {P : Program} {w : World} {o : Oper} {a : Act} {ty : TypeId} (i : TypeInfo) (C : List Value) (hi : P.info? ty = some i) (hz : i.zero = some (.agg C.toArray)) (ho : o.op = .alloc ty) :
    (execOp a.eval o).run P w = .ok (.value (.pointer (some ⟨w.heap.size, 0, none⟩))) (w.alloc (.cells C.toArray ty)) := by
  have hrun : (Instr.alloc ty true (.tuple #[])).run P w = .ok (.pointer (some ⟨w.heap.size, 0, none⟩)) (w.alloc (.cells C.toArray ty)) := by
    simp [Instr.alloc, zeroValue, typeInfo, hi, hz, newVar, newRow, Value.cells]
  unfold execOp
  simp only [ho, Sem.run_bind, hrun, Sem.run_pure, Result.andThen_ok]
theorem exec_store_mid {P : Program} {w : World} {op : Oper} {a : Act} (ty : TypeId) (x y : Operand) (ho : op.op = .store ty x y) (b o : Nat) (cells : Array Value) (hx : a.eval x = .pointer (some ⟨b, o, none⟩)) (hy : a.eval y = .agg cells)
    (ht : w.there b o cells.size) (hi : (P.info? ty).map (·.size) = some cells.size) (h1 : cells.all (·.oneCell') = true) : (execOp a.eval op).run P w = .ok .skip (w.setCells b o cells.toList) := by
  unfold execOp
  simp only [ho, hx, hy, Instr.storeAt, Instr.sureAddr, Sem.run_bind, Sem.run_pure, Result.andThen_ok, run_storeVar_mid w b o ty cells ht hi h1]
theorem own_ints {w : World} {B : Nat} {e : TypeId} {v : Value} {L : List Nat} (h : w.ownsRow B e 1 v L.length (intsN L)) :
    ∃ ad cap, v = .slice ad L.length cap ∧ ∀ k (hk : k < L.length), ∃ g, ad = some ⟨g, 0, none⟩ ∧ g < w.heap.size ∧ w.cell? ⟨g, k, none⟩ = some (.int .i64 (L[k] : Int)) := by
  by_cases h0 : 0 < L.length
  · obtain ⟨g, cap, rfl, _, hl⟩ := h.form h0
    refine ⟨_, _, rfl, fun k hk => ⟨g, rfl, ?_, ?_⟩⟩
    · rcases h.2 with ⟨h1, _⟩ | ⟨g', c', cur, h1, _, h2, _⟩
      · cases h1
      · cases h1; exact (Array.getElem?_eq_some_iff.1 h2).1
    · rw [h.cellAt _ (by omega)]
      unfold intsN
      rw [List.getElem?_map, List.getElem?_eq_getElem hk]; rfl
  · rcases h.2 with ⟨rfl, hz⟩ | ⟨g, cap, cur, rfl, _⟩
    · exact ⟨none, 0, by rw [hz], fun k hk => by omega⟩
    · exact ⟨_, _, rfl, fun k hk => by omega⟩
/-- Numbers by threes: files. -/
def group : List Nat → List FileN
  | a :: b :: c :: l => (a, b, c) :: group l
  | _ => []
theorem group_length : ∀ (n : Nat) (l : List Nat), l.length = 3 * n → (group l).length = n
  | 0, l, h => by have : l = [] := List.length_eq_zero_iff.1 (by omega); subst this; rfl
  | n + 1, l, h => by
    match l, h with
    | a :: b :: c :: l, h => simp only [group, List.length_cons]; rw [group_length n l (by simp at h; omega)]
theorem group_get : ∀ (n : Nat) (l : List Nat) (hl : l.length = 3 * n) (j : Nat) (hj : j < n), (group l)[j]'(by rw [group_length n l hl]; exact hj) = (l[3 * j]'(by omega), l[3 * j + 1]'(by omega), l[3 * j + 2]'(by omega))
  | 0, l, h, j, hj => by omega
  | n + 1, l, h, j, hj => by
    match l, h with
    | a :: b :: c :: l, h =>
      cases j with
      | zero => rfl
      | succ j =>
        have := group_get n l (by simp at h; omega) j (by omega)
        simp only [group, List.getElem_cons_succ]
        rw [this]
        simp only [show 3 * (j + 1) = 3 * j + 1 + 1 + 1 from by omega, show 3 * j + 1 + 1 + 1 + 1 = (3 * j + 1) + 1 + 1 + 1 from by omega, show 3 * j + 1 + 1 + 1 + 2 = (3 * j + 2) + 1 + 1 + 1 from by omega, List.getElem_cons_succ]
def cellsF (l : List FileN) : List Value := l.flatMap fun f => fileV (fileI f)
theorem fit_nat {n : Nat} (h : n ≤ MaxN) : Fit (n : Int) := ⟨by omega, by unfold MaxN at h; omega⟩
theorem group_fit : ∀ (l : List Nat), (∀ n ∈ l, n ≤ MaxN) → ∀ f ∈ group l, FitF (fileI f)
  | a :: b :: c :: l, h, f, hf => by
    rcases List.mem_cons.1 hf with rfl | hf
    · exact ⟨fit_nat (h a (by simp)), fit_nat (h b (by simp)), fit_nat (h c (by simp))⟩
    · exact group_fit l (fun n hn => h n (by simp [hn])) f hf
  | [], _, f, hf => by simp [group] at hf
  | [a], _, f, hf => by simp [group] at hf
  | [a, b], _, f, hf => by simp [group] at hf
theorem cellsF_get : ∀ (fs : List FileN) (k t : Nat) (hk : k < fs.length), t < 3 → (cellsF fs)[k * 3 + t]? = (fileV (fileI fs[k]))[t]?
  | f :: fs, 0, t, _, ht => by
    have : t = 0 ∨ t = 1 ∨ t = 2 := by omega
    rcases this with rfl | rfl | rfl <;> rfl
  | f :: fs, k + 1, t, hk, ht => by
    have := cellsF_get fs k t (by simpa using hk) ht
    rw [show (k + 1) * 3 + t = k * 3 + t + 1 + 1 + 1 from by omega]
    simpa [cellsF, fileV] using this
theorem own_files {w : World} {B : Nat} {v : Value} {n : Nat} {fs : List FileN} (h : w.ownsRow B 102 3 v n (cellsF fs)) (hn : fs.length = n) (hf : ∀ f ∈ fs, FitF (fileI f)) :
    ∃ ad cap, v = .slice ad n cap ∧ Files w ad n (fs.map fileI) := by
  rcases h.2 with ⟨rfl, h0⟩ | ⟨g, cap, cur, rfl, _, h2, _⟩
  · exact ⟨none, 0, by rw [h0], by simp [hn], .inl (by have : fs = [] := List.length_eq_zero_iff.1 (by omega); rw [this]; rfl)⟩
  · refine ⟨_, cap, rfl, by simp [hn], .inr ⟨g, 0, rfl, (Array.getElem?_eq_some_iff.1 h2).1, fun i hi => ?_⟩⟩
    have hi2 : i < fs.length := by simpa using hi
    have e : (fs.map fileI)[i]'hi = fileI fs[i] := by simp
    rw [e]
    refine ⟨fun t u hu => ?_, hf _ (List.getElem_mem hi2)⟩
    have ht : t < 3 := by
      rcases Nat.lt_or_ge t 3 with h | h
      · exact h
      · rw [List.getElem?_eq_none (by simpa [fileV] using h)] at hu; cases hu
    rw [show 0 + i * 3 + t = i * 3 + t from by omega, h.cellAt _ (by omega), cellsF_get fs i t hi2 ht]
    exact hu
/-- A root, and the error. -/
abbrev RootN := Nat × Nat × Nat × List FileN
def rootZ : RootN := (0, 0, 0, [])
def decV (T : Int) (b : List UInt8) : RootN × Nat :=
  if 512 < b.length then (rootZ, 5) else
  let r := rdNums 4 b
  if r.2.2 ≠ 0 then (rootZ, r.2.2) else
  if 24 < r.1.getD 3 0 then (rootZ, 5) else
  let m := rdNums (3 * r.1.getD 3 0) r.2.1
  if m.2.2 ≠ 0 then (rootZ, m.2.2) else
  if m.2.1 ≠ [] then (rootZ, 3) else
  if rightV T (r.1.getD 0 0 : Nat) (r.1.getD 1 0 : Nat) (r.1.getD 2 0 : Nat) ((group m.1).map fileI) then ((r.1.getD 0 0, r.1.getD 1 0, r.1.getD 2 0, group m.1), 0) else (rootZ, 1)
/-- A root's cell written over with nothing, and handed back. -/
theorem root_stored {w : World} {p : Nat} {a b c d a' b' c' d' : Value} (h : Holds w p [a, b, c, d] 78) :
    Holds ((((w.setCell ⟨p, 0, none⟩ a').setCell ⟨p, 1, none⟩ b').setCell ⟨p, 2, none⟩ c').setCell ⟨p, 3, none⟩ d') p [a', b', c', d'] 78 := by
  have := (((h.set 0 a').set 1 b').set 2 c').set 3 d'
  exact this
theorem below_stored {w w' : World} {B p : Nat} {a' b' c' d' : Value} (h : Below B w w') (hp : B ≤ p) :
    Below B w ((((w'.setCell ⟨p, 0, none⟩ a').setCell ⟨p, 1, none⟩ b').setCell ⟨p, 2, none⟩ c').setCell ⟨p, 3, none⟩ d') :=
  (((h.setCell (p := ⟨p, 0, none⟩) hp _).setCell (p := ⟨p, 1, none⟩) hp _).setCell (p := ⟨p, 2, none⟩) hp _).setCell (p := ⟨p, 3, none⟩) hp _

end Go.Proofs.YtfbgagpihhbllaaGreatDoor
