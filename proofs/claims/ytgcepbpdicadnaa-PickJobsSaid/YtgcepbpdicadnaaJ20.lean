/- VpM, Va14, VnR. -/
import Derived.Test.YtgcepbpdicadnaaJ01
import Derived.Test.YtgcepbpdicadnaaJ19
import Derived.Maps.OwnSet
import Derived.Test.YtgcepbpdicadnaaJ06

/- Mathematics of layer 14's landed program: an edit read with a flag for what failed; numbers without one twice. No program. -/
namespace Go.Proofs.Pk
set_option maxRecDepth 10000

/-! Reading: what is left of a text; none if it failed. -/
def restO (o : Option VTxt) : VTxt := o.getD []
def numP (most : Nat) (o : Option VTxt) : Int × Option VTxt :=
  if (rdNum (restO o)).2.2 ≠ 0 ∨ most < (rdNum (restO o)).1 then (0, none) else (((rdNum (restO o)).1 : Int), some (rdNum (restO o)).2.1)
def txtP (o : Option VTxt) : VTxt × Option VTxt := if (rdTxt (restO o)).2.2 ≠ 0 then ([], none) else ((rdTxt (restO o)).1, some (rdTxt (restO o)).2.1)
def metaP (o : Option VTxt) : MetaV × Option VTxt :=
  (((numP MaxN o).1, (numP MaxN (numP MaxN o).2).1, (txtP (numP MaxN (numP MaxN o).2).2).1, (txtP (txtP (numP MaxN (numP MaxN o).2).2).2).1, (numP MaxN (txtP (txtP (numP MaxN (numP MaxN o).2).2).2).2).1),
    (numP MaxN (txtP (txtP (numP MaxN (numP MaxN o).2).2).2).2).2)
def manyP {α : Type} (f : Option VTxt → α × Option VTxt) : Nat → Option VTxt → List α × Option VTxt
  | 0, o => ([], o)
  | n + 1, o => ((f o).1 :: (manyP f n (f o).2).1, (manyP f n (f o).2).2)
def numsP (most : Nat) (o : Option VTxt) : List Int × Option VTxt := manyP (numP MaxN) (numP most o).1.toNat (numP most o).2
def tabsP (o : Option VTxt) : List MetaV × Option VTxt := manyP metaP (numP 200 o).1.toNat (numP 200 o).2
def edP (b : VTxt) : EdV × Option VTxt :=
  (((tabsP (some b)).1, (numsP 200 (tabsP (some b)).2).1, (numsP 20 (numsP 200 (tabsP (some b)).2).2).1, (numsP 20 (numsP 20 (numsP 200 (tabsP (some b)).2).2).2).1, (numP MaxN (numsP 20 (numsP 20 (numsP 200 (tabsP (some b)).2).2).2).2).1),
    (numP MaxN (numsP 20 (numsP 20 (numsP 200 (tabsP (some b)).2).2).2).2).2)

theorem manyP_snoc {α : Type} (f : Option VTxt → α × Option VTxt) : ∀ (n : Nat) (o : Option VTxt), manyP f (n + 1) o = ((manyP f n o).1 ++ [(f (manyP f n o).2).1], (f (manyP f n o).2).2)
  | 0, _ => rfl
  | n + 1, o => by
    rw [manyP, manyP_snoc f n (f o).2]
    rfl
theorem manyP_len {α : Type} (f : Option VTxt → α × Option VTxt) : ∀ (n : Nat) (o : Option VTxt), (manyP f n o).1.length = n
  | 0, _ => rfl
  | n + 1, o => by rw [manyP, List.length_cons, manyP_len f n]
theorem numP_range (most : Nat) (o : Option VTxt) : 0 ≤ (numP most o).1 ∧ (numP most o).1 ≤ most ∧ (numP most o).1 ≤ 9007199254740991 := by
  unfold numP
  have h := rdNum_le (restO o)
  unfold MaxN at h
  split
  · simp
  · rename_i hc
    simp only [not_or] at hc
    refine ⟨?_, ?_, ?_⟩ <;> simp only <;> omega
theorem numP_len (most : Nat) (o : Option VTxt) : (restO (numP most o).2).length ≤ (restO o).length := by
  unfold numP
  split
  · simp [restO]
  · exact rdNum_len _
theorem txtP_len (o : Option VTxt) : (restO (txtP o).2).length ≤ (restO o).length := by
  unfold txtP
  split
  · simp [restO]
  · exact rdTxt_len _
theorem rdTxt_all (b : VTxt) (h : (rdTxt b).2.2 = 0) : txtL (rdTxt b).1 ++ (rdTxt b).2.1 = b ∧ (rdTxt b).1.length ≤ MaxT := by
  have hb := rdNum_back b
  unfold rdTxt at h ⊢
  repeat' split at h
  all_goals simp only at h
  all_goals first | omega | skip
  rename_i h1 h2 h3
  rw [if_neg h1, if_neg h2, if_neg h3]
  have h0 : (rdNum b).2.2 = 0 := by omega
  simp only
  unfold txtL
  rw [List.length_take, Nat.min_eq_left (by omega), List.append_assoc, List.take_append_drop]
  exact ⟨hb h0, by omega⟩

/-! What was read is what lay there. -/
theorem numP_back {most : Nat} {o : Option VTxt} {r : VTxt} (h : (numP most o).2 = some r) : o = some (numL (numP most o).1.toNat ++ r) := by
  unfold numP at h ⊢
  split at h
  · cases h
  · rename_i hc
    rw [if_neg hc]
    simp only [not_or, Decidable.not_not] at hc
    have hb := rdNum_back (restO o) hc.1
    injection h with h
    simp only [Int.toNat_natCast]
    rw [← h, hb]
    cases o with
    | none => exact absurd hc.1 (by simp [restO, rdNum])
    | some b => rfl
theorem txtP_back {o : Option VTxt} {r : VTxt} (h : (txtP o).2 = some r) : o = some (txtL (txtP o).1 ++ r) := by
  unfold txtP at h ⊢
  split at h
  · cases h
  · rename_i hc
    rw [if_neg hc]
    simp only [Decidable.not_not] at hc
    have hb := (rdTxt_all (restO o) hc).1
    injection h with h
    simp only
    rw [← h, hb]
    cases o with
    | none => exact absurd hc (by simp [restO, rdTxt, rdNum])
    | some b => rfl
theorem metaP_back {o : Option VTxt} {r : VTxt} (h : (metaP o).2 = some r) : o = some (metaB (metaP o).1 ++ r) := by
  unfold metaP at h ⊢
  simp only at h ⊢
  have h5 := numP_back h
  have h4 := txtP_back h5
  have h3 := txtP_back h4
  have h2 := numP_back h3
  have h1 := numP_back h2
  unfold metaB
  simp only [List.append_assoc]
  exact h1
theorem manyP_back {α : Type} {f : Option VTxt → α × Option VTxt} {enc : α → VTxt} (hf : ∀ o r, (f o).2 = some r → o = some (enc (f o).1 ++ r)) : ∀ (n : Nat) (o : Option VTxt) (r : VTxt), (manyP f n o).2 = some r → o = some ((manyP f n o).1.flatMap enc ++ r)
  | 0, o, r, h => by simpa [manyP] using h
  | n + 1, o, r, h => by
    rw [manyP] at h ⊢
    simp only at h ⊢
    have h1 := manyP_back hf n (f o).2 r h
    have h2 := hf o _ h1
    rw [List.flatMap_cons, List.append_assoc]
    exact h2
theorem numsP_back {most : Nat} {o : Option VTxt} {r : VTxt} (h : (numsP most o).2 = some r) : o = some (rowE (numsP most o).1 ++ r) := by
  unfold numsP at h ⊢
  have h1 := manyP_back (f := numP MaxN) (enc := fun n => numL n.toNat) (fun o r h => numP_back h) _ _ _ h
  have h2 := numP_back h1
  have hl := manyP_len (numP MaxN) (numP most o).1.toNat (numP most o).2
  unfold rowE
  rw [hl, List.append_assoc]
  exact h2
theorem tabsP_back {o : Option VTxt} {r : VTxt} (h : (tabsP o).2 = some r) : o = some (numL (tabsP o).1.length ++ ((tabsP o).1.flatMap metaB ++ r)) := by
  unfold tabsP at h ⊢
  have h1 := manyP_back (f := metaP) (enc := metaB) (fun o r h => metaP_back h) _ _ _ h
  have h2 := numP_back h1
  have hl := manyP_len metaP (numP 200 o).1.toNat (numP 200 o).2
  rw [hl]
  exact h2
theorem edP_back {b r : VTxt} (h : (edP b).2 = some r) : b = bodyE (edP b).1 ++ r := by
  unfold edP at h ⊢
  simp only at h ⊢
  have h5 := numP_back h
  have h4 := numsP_back h5
  have h3 := numsP_back h4
  have h2 := numsP_back h3
  have h1 := tabsP_back h2
  injection h1 with h1
  unfold bodyE
  simp only [List.append_assoc]
  exact h1

/-! What is written is read. -/
theorem numP_numL {most n : Nat} (h : n ≤ MaxN) (hm : n ≤ most) (t : VTxt) : numP most (some (numL n ++ t)) = ((n : Int), some t) := by
  unfold numP
  rw [show restO (some (numL n ++ t)) = numL n ++ t from rfl, rdNum_numL n h t]
  simp only
  rw [if_neg (by omega)]
theorem numP_int {n : Int} (h0 : 0 ≤ n) (h : n ≤ 9007199254740991) (t : VTxt) : numP MaxN (some (numL n.toNat ++ t)) = (n, some t) := by
  rw [numP_numL (by unfold MaxN; omega) (by unfold MaxN; omega)]
  rw [show ((n.toNat : Nat) : Int) = n from by omega]
theorem txtP_txtL {s : VTxt} (h : s.length ≤ MaxT) (t : VTxt) : txtP (some (txtL s ++ t)) = (s, some t) := by
  unfold txtP
  rw [show restO (some (txtL s ++ t)) = txtL s ++ t from rfl, rdTxt_txtL s t h]
  simp
theorem metaP_metaB (m : MetaV) (h : metaOk m = true) (t : VTxt) : metaP (some (metaB m ++ t)) = (m, some t) := by
  obtain ⟨h1, h2, h3, h4, h5, h6, h7, h8, _, h9, h10⟩ := meta_of h
  obtain ⟨a, l, x, y, c⟩ := m
  simp only at *
  have e0 : metaB (a, l, x, y, c) ++ t = numL a.toNat ++ (numL l.toNat ++ (txtL x ++ (txtL y ++ (numL c.toNat ++ t)))) := by unfold metaB; simp only [List.append_assoc]
  have e1 := numP_int (n := a) (by omega) (by omega) (numL l.toNat ++ (txtL x ++ (txtL y ++ (numL c.toNat ++ t))))
  have e2 := numP_int (n := l) (by omega) (by omega) (txtL x ++ (txtL y ++ (numL c.toNat ++ t)))
  have e3 := txtP_txtL (s := x) (by unfold MaxT; omega) (txtL y ++ (numL c.toNat ++ t))
  have e4 := txtP_txtL (s := y) (by unfold MaxT; omega) (numL c.toNat ++ t)
  have e5 := numP_int (n := c) (by omega) (by omega) t
  unfold metaP
  rw [e0, e1]; simp only
  rw [e2]; simp only
  rw [e3]; simp only
  rw [e4]; simp only
  rw [e5]
theorem manyP_enc {α : Type} {f : Option VTxt → α × Option VTxt} {enc : α → VTxt} : ∀ (l : List α), (∀ x ∈ l, ∀ t, f (some (enc x ++ t)) = (x, some t)) → ∀ t, manyP f l.length (some (l.flatMap enc ++ t)) = (l, some t)
  | [], _, _ => rfl
  | x :: l, h, t => by
    rw [List.length_cons, manyP, List.flatMap_cons, List.append_assoc, h x (by simp)]
    simp only
    rw [manyP_enc l (fun y hy => h y (by simp [hy]))]
theorem numsP_row (l : List Int) (many : Nat) (hm : many ≤ 200) (h : numsOk l many = true) (t : VTxt) : numsP many (some (rowE l ++ t)) = (l, some t) := by
  obtain ⟨h1, h2⟩ := nums_of h
  unfold numsP rowE
  rw [List.append_assoc, numP_numL (by unfold MaxN; omega) h2]
  simp only [Int.toNat_natCast]
  exact manyP_enc (enc := fun n => numL n.toNat) l (fun x hx t => numP_int (h1 x hx).1 (h1 x hx).2 t) t
theorem edP_body (e : EdV) (h : edOk e = true) : edP (bodyE e) = (e, some []) := by
  obtain ⟨h1, h2, h3, h4, h5, h6, h7⟩ := ed_of h
  obtain ⟨a, d, x, y, s⟩ := e
  simp only at *
  have e0 : bodyE (a, d, x, y, s) = numL a.length ++ (a.flatMap metaB ++ (rowE d ++ (rowE x ++ (rowE y ++ (numL s.toNat ++ []))))) := by unfold bodyE; simp only [List.append_assoc, List.append_nil]
  have e1 : tabsP (some (numL a.length ++ (a.flatMap metaB ++ (rowE d ++ (rowE x ++ (rowE y ++ (numL s.toNat ++ []))))))) = (a, some (rowE d ++ (rowE x ++ (rowE y ++ (numL s.toNat ++ []))))) := by
    unfold tabsP
    rw [numP_numL (by unfold MaxN; omega) h1]
    simp only [Int.toNat_natCast]
    exact manyP_enc a (fun m hm t => metaP_metaB m (h2 m hm) t) _
  unfold edP
  rw [e0, e1]
  simp only
  rw [numsP_row d 200 (by omega) h3]
  simp only
  rw [numsP_row x 20 (by omega) h4]
  simp only
  rw [numsP_row y 20 (by omega) h5]
  simp only
  rw [numP_int h6 h7]
/-- Decode, by way of the flag. -/
theorem decE_edP (b : VTxt) : decE b = if (edP b).2 = some [] ∧ edOk (edP b).1 = true then ((edP b).1, true) else (zeroE, false) := by
  by_cases h : (edP b).2 = some [] ∧ edOk (edP b).1 = true
  · rw [if_pos h]
    refine decE_iff.2 ?_
    have hb := edP_back h.1
    rw [List.append_nil] at hb
    unfold encE
    rw [if_pos h.2, ← hb]
  · rw [if_neg h]
    cases hd : (decE b).2 with
    | false => exact decE_no hd
    | true =>
      exfalso
      have h1 : encE (decE b).1 = (b, true) := decE_iff.1 (by rw [← hd])
      obtain ⟨h2, h3⟩ := encE_ok h1
      have h4 := edP_body _ h2
      rw [← h3] at h4
      rw [h4] at h
      exact h ⟨rfl, h2⟩

/-! Numbers, each once. -/
def addI (S : List Int) (x : Int) : List Int := if x ∈ S then S else S ++ [x]
def onceI (l : List Int) : List Int := l.foldl addI []
theorem addI_nodup {S : List Int} (h : S.Nodup) (x : Int) : (addI S x).Nodup := by
  unfold addI
  split
  · exact h
  · rename_i hx
    rw [List.nodup_append]
    exact ⟨h, by simp, fun a ha b hb => by rw [List.mem_singleton] at hb; subst hb; exact fun e => hx (e ▸ ha)⟩
theorem mem_addI {S : List Int} {x y : Int} : y ∈ addI S x ↔ y ∈ S ∨ y = x := by
  unfold addI
  split
  · rename_i hx
    exact ⟨.inl, fun h => h.elim id (fun e => e ▸ hx)⟩
  · simp
theorem onceI_go : ∀ (l S : List Int), S.Nodup → (l.foldl addI S).length ≤ S.length + l.length ∧ ((l.foldl addI S).length = S.length + l.length ↔ (S ++ l).Nodup)
  | [], S, h => by simp [h]
  | x :: l, S, h => by
    obtain ⟨h1, h2⟩ := onceI_go l (addI S x) (addI_nodup h x)
    rw [List.foldl_cons, List.length_cons]
    unfold addI at h1 h2 ⊢
    by_cases hx : x ∈ S
    · rw [if_pos hx] at h1 h2 ⊢
      refine ⟨by omega, ⟨fun e => by omega, fun hn => ?_⟩⟩
      exact absurd rfl ((List.nodup_append.1 hn).2.2 x hx x (by simp))
    · rw [if_neg hx] at h1 h2 ⊢
      rw [List.length_append, List.length_singleton] at h1 h2
      refine ⟨by omega, ?_⟩
      rw [show S.length + (l.length + 1) = S.length + 1 + l.length from by omega, h2]
      simp
theorem onceI_len (l : List Int) : ((onceI l).length = l.length) ↔ l.Nodup := by
  have := (onceI_go l [] List.nodup_nil).2
  simpa [onceI] using this
theorem onceI_le (l : List Int) : (onceI l).length ≤ l.length := by
  have := (onceI_go l [] List.nodup_nil).1
  simpa [onceI] using this
theorem onceI_snoc (l : List Int) (x : Int) : onceI (l ++ [x]) = addI (onceI l) x := by simp [onceI]
end Go.Proofs.Pk

/- Layer 14's landed program: sets of numbers (map[int]struct{}); apart. -/
namespace Go.Proofs.Ytgcepbpdicadnaa
open Go.RowKit Go.Proofs Go.Proofs.Pk
open Go.ChangeMaps Go.MapKept Go.WideShapes
set_option maxRecDepth 10000

/-- Block b is a set that has just the numbers of S. -/
def SetI (w : World) (b n : Nat) (S : List Int) : Prop :=
  ∃ D : DataW Unit, w.ownsMap Try.prog 3 unitElem b n D ∧ S.Nodup ∧ (∀ x : Int, Maps.has D (.int .i64 x) = decide (x ∈ S)) ∧ Maps.size D = S.length
theorem intKey : Maps.Keyed Try.prog 3 := Maps.int_keyed Try.underlying3
theorem unitZero (w : World) : (zeroValue 77).run Try.prog w = .ok (.agg #[]) w := by kernel_rfl
theorem wf_fit {x : Int} (h : FitV x) : (Lit.int .i64 x).wf = true := by simpa [FitV, Lit.wf, IntKind.min, IntKind.max, IntKind.signed, IntKind.bits] using h
theorem keyI {x : Int} (h : FitV x) : keyOf Try.prog 3 (.int .i64 x) = some (.int .i64 x) := Maps.keyOf_int_mk Try.underlying3 (wf_fit h)
theorem keyLit (x : Int) : WideAt.IsKeyLit (.int .i64 x) := trivial
theorem SetI.made (w : World) : SetI (w.alloc (.map #[] 0)) w.heap.size 0 [] :=
  ⟨.map [], World.ownsMap_made _ _ _ _, List.nodup_nil, fun x => by simp [Maps.has_eq], by simp [Maps.size_eq]⟩
theorem SetI.of_block {w w' : World} {b n : Nat} {S : List Int} (h : SetI w b n S) (hb : w'.heap[b]? = w.heap[b]?) : SetI w' b n S := by
  obtain ⟨D, ⟨es, clock, h1, h2⟩, h3⟩ := h
  exact ⟨D, ⟨es, clock, hb.trans h1, h2⟩, h3⟩
theorem SetI.lt {w : World} {b n : Nat} {S : List Int} (h : SetI w b n S) : b < w.heap.size := by
  obtain ⟨D, ⟨es, clock, h1, _⟩, _⟩ := h
  exact (Array.getElem?_eq_some_iff.1 h1).1
theorem SetI.kept {w w' : World} {b n : Nat} {S : List Int} {X : Nat → Prop} (h : SetI w b n S) (hk : Kept X w w') (hx : ¬X b) : SetI w' b n S := h.of_block (hk.block b h.lt hx)
theorem kept_turned {w w' : World} {b : Nat} (h : w.mapTurned w' b) : Kept (fun k => k = b) w w' := by
  have hg := h.grown
  exact ⟨hg.os, hg.tape, hg.output, hg.size, fun k hk hx => hg.block k hk (fun e => hx (by cases e; rfl))⟩
theorem SetI.put {w w' : World} {b n m : Nat} {S : List Int} {D : DataW Unit} {x : Int} (h1 : w.ownsMap Try.prog 3 unitElem b n D) (h2 : S.Nodup) (h3 : ∀ x : Int, Maps.has D (.int .i64 x) = decide (x ∈ S)) (h4 : Maps.size D = S.length)
    (h5 : w'.ownsMap Try.prog 3 unitElem b m (D.put (.int .i64 x) (.agg []))) : SetI w' b m (addI S x) := by
  refine ⟨_, h5, addI_nodup h2 x, fun y => ?_, ?_⟩
  · by_cases e : y = x
    · subst e
      rw [Maps.has_put_same h1.isMap (keyLit y)]
      exact (decide_eq_true (mem_addI.2 (.inr rfl))).symm
    · rw [Maps.has_put_other (fun h => e (by injection h)), h3]
      rw [Bool.eq_iff_iff, decide_eq_true_eq, decide_eq_true_eq, mem_addI]
      exact ⟨.inl, fun h => h.resolve_right e⟩
  · rw [Maps.size_put (h1.tidy intKey), h3, h4]
    unfold addI
    by_cases hx : x ∈ S <;> simp [hx]
theorem SetI.del {w w' : World} {b n m : Nat} {S : List Int} {D : DataW Unit} {x : Int} (h1 : w.ownsMap Try.prog 3 unitElem b n D) (h2 : S.Nodup) (h3 : ∀ x : Int, Maps.has D (.int .i64 x) = decide (x ∈ S)) (h4 : Maps.size D = S.length)
    (h5 : w'.ownsMap Try.prog 3 unitElem b m (D.del (.int .i64 x))) : SetI w' b m (S.erase x) := by
  refine ⟨_, h5, h2.erase x, fun y => ?_, ?_⟩
  · by_cases e : y = x
    · subst e
      rw [Maps.has_del_same]
      refine (decide_eq_false fun hc => ?_).symm
      exact (h2.mem_erase_iff.1 hc).1 rfl
    · rw [Maps.has_del_other (fun h => e (by injection h)), h3]
      rw [Bool.eq_iff_iff, decide_eq_true_eq, decide_eq_true_eq, h2.mem_erase_iff]
      exact ⟨fun h => ⟨e, h⟩, fun h => h.2⟩
  · have := Maps.size_del (k := .int .i64 x) (h1.tidy intKey)
    rw [h3, h4] at this
    rw [List.length_erase]
    by_cases hx : x ∈ S
    · simp [hx] at this ⊢; omega
    · simp [hx] at this ⊢; omega

section
variable {ops : Array Oper} {rest : List Oper} {o : Oper} {a : Act} {w : World} {Q : Exit → Act → World → Prop}
theorem wpList_set_put (hg : o.guard = none) (m x v : Operand) (hop : o.op = Op.mapUpdate 76 m x v) (b n : Nat) (S : List Int) (hm : a.eval m = .map (some b)) (h : SetI w b n S) (hn : n < maxLen) (y : Int) (hx : a.eval x = .int .i64 y) (hv : a.eval v = .agg #[]) (hy : FitV y)
    (hK : ∀ w', SetI w' b (n + 1) (addI S y) → Kept (fun k => k = b) w w' → wpList Try.prog ops Q rest (a.put o.dst undef) w') : wpList Try.prog ops Q (o :: rest) a w := by
  obtain ⟨D, h1, h2, h3, h4⟩ := h
  exact wpList_mapUpdate_in w hg m x v _ hop _ _ intKey Try.underlying76 unitElem b n D hm h1 hn _ _ _ hx hv (keyI hy) _ _ unitElem_mk (fun w' k1 k2 => hK w' (SetI.put h1 h2 h3 h4 k1) (kept_turned k2))
theorem wpList_set_del (hg : o.guard = none) (m x : Operand) (hop : o.op = Op.call { callee := Callee.builtin Builtin.delete, args := #[m, x], argTypes := #[76, 3] }) (b n : Nat) (S : List Int) (hm : a.eval m = .map (some b)) (h : SetI w b n S) (y : Int) (hx : a.eval x = .int .i64 y) (hy : FitV y)
    (hK : ∀ w', SetI w' b n (S.erase y) → Kept (fun k => k = b) w w' → wpList Try.prog ops Q rest (a.put o.dst (.tuple #[])) w') : wpList Try.prog ops Q (o :: rest) a w := by
  obtain ⟨D, h1, h2, h3, h4⟩ := h
  exact wpList_delete_own w hg m x _ _ hop _ intKey Try.underlying76 unitElem b n D hm h1 _ _ hx (keyI hy) (fun w' k1 k2 => hK w' (SetI.del h1 h2 h3 h4 k1) (kept_turned k2))
theorem wpList_set_has (hg : o.guard = none) (m x : Operand) (hop : o.op = Op.lookup 76 m x true) (b n : Nat) (S : List Int) (hm : a.eval m = .map (some b)) (h : SetI w b n S) (y : Int) (hx : a.eval x = .int .i64 y) (hy : FitV y)
    (hK : wpList Try.prog ops Q rest (a.put o.dst (.tuple #[.agg #[], .bool (decide (y ∈ S))])) w) : wpList Try.prog ops Q (o :: rest) a w := by
  obtain ⟨D, h1, h2, h3, h4⟩ := h
  exact wpList_lookup_own_unit w hg m x _ hop _ _ intKey Try.underlying76 (unitZero w) b n D hm h1 _ _ hx (keyI hy) (by rw [h3]; exact hK)
theorem wpList_set_len (hg : o.guard = none) (m : Operand) (hop : o.op = Op.call { callee := Callee.builtin Builtin.len, args := #[m], argTypes := #[76] }) (b n : Nat) (S : List Int) (hm : a.eval m = .map (some b)) (h : SetI w b n S)
    (hK : wpList Try.prog ops Q rest (a.put o.dst (.int .i64 (S.length : Int))) w) : wpList Try.prog ops Q (o :: rest) a w := by
  obtain ⟨D, h1, h2, h3, h4⟩ := h
  exact wpList_len_own w hg m _ hop _ _ Try.underlying76 unitElem b n D hm h1 (by rw [h4]; exact hK)
end

set_option maxHeartbeats 2000000 in
theorem apartP14 (ad : Option Addr) (len cap : Nat) (l : List Int) (w : World) (h : Ints w ad len l) (hf : ∀ x ∈ l, FitV x) (hlen : (len : Int) ≤ 140737488355328) :
    Calls Try.prog 36 #[.slice ad len cap] w fun e w' => e = .returned (.bool (decide l.Nodup)) ∧ Kept (fun _ => False) w w' := by
  have hmm := @run_makeMap Try.prog
  have hl := h.1
  have HW := Lib.hid h
  have HF := Lib.hid hf
  have HL := Lib.hid hl
  clear h hf hl
  go_enter Try.func36, Try.ntmps36
  go_wp2
  go_loopw [9] (fun i wr => ∃ k : Nat, i = .int .i64 (k : Int) ∧ k ≤ len ∧ Hid (SetI wr w.heap.size k (onceI (l.take k)) ∧ Kept (fun _ => False) w wr)) (fun i _ => len - (intOf i).toNat)
  case atStart => exact ⟨0, rfl, Nat.zero_le _, Lib.hid ⟨by simpa [onceI] using SetI.made w, (Kept.refl _ _).alloc _⟩⟩
  case round =>
    obtain ⟨k, rfl, hk, hI⟩ := hrel
    have k0 : (0 : Int) ≤ (k : Int) := by omega
    have hwk : IntKind.i64.wrap ((k : Int) + 1) = (k : Int) + 1 := IntWalk.i64_in _ (by omega)
    by_cases hlt : k < len
    · have kN : (k : Int) < (len : Int) := by omega
      have hkl : k < l.length := by rw [HL.out]; exact hlt
      obtain ⟨b, off, rfl, hbl, hc⟩ := ints_at (ints_keptV HW.out hI.out.2) k hkl
      have hx := HF.out l[k] (List.getElem_mem hkl)
      have hst : Hid (onceI (l.take (k + 1)) = addI (onceI (l.take k)) l[k]) := Lib.hid (by rw [List.take_succ_eq_append_getElem hkl, onceI_snoc])
      generalize l[k] = x at hc hx hst
      go_wp2_with (at_mapUpdate; refine wpList_set_put rfl _ _ _ rfl w.heap.size k _ rfl hI.out.1 (by unfold maxLen; omega) x rfl rfl hx ?_)
      intro w1 hs1 hk1
      have HN := Lib.hid (And.intro hs1 (hI.out.2.trans hk1 (fun j hj => .inr (Nat.le_of_eq hj.symm))))
      clear hs1 hk1
      go_wp2
      go_roundw
      case rel => exact ⟨k + 1, by first | rfl | go_num, by omega, Lib.hid ⟨by rw [hst.out]; exact HN.out.1, HN.out.2⟩⟩
      case measure => simp [intOf]; omega
    · have kN : ¬(k : Int) < (len : Int) := by omega
      have hkl : k = l.length := by rw [HL.out]; omega
      have HE : Hid ((((onceI l).length : Int) == (len : Int)) = decide l.Nodup) := Lib.hid (by
        rw [Bool.eq_iff_iff, beq_iff_eq, decide_eq_true_eq, ← onceI_len, ← HL.out]
        omega)
      go_wp2_with (at_len; refine wpList_set_len rfl _ rfl w.heap.size k _ rfl hI.out.1 ?_)
      go_ret
      exact ⟨ret_bool HE.out, hI.out.2⟩

end Go.Proofs.Ytgcepbpdicadnaa

/- Layer 14: right but for numbers that stand twice. -/
namespace Go.Proofs.Ytgcepbpdicadnaa
open Go.RowKit Go.Proofs Go.Proofs.Pk
set_option maxRecDepth 10000

theorem chain_iff : ∀ l : List MetaV, chainM l = true ↔ ∀ i (h : i + 1 < l.length), okM (l[i]'(by omega)) l[i + 1] = true
  | [] => by simp [chainM]
  | [a] => by simp [chainM]
  | a :: b :: r => by
    have ih := chain_iff (b :: r)
    simp only [chainM, Bool.and_eq_true, ih]
    constructor
    · rintro ⟨h1, h2⟩ i hi
      cases i with
      | zero => exact h1
      | succ i => exact h2 i (by simpa using hi)
    · intro h
      exact ⟨h 0 (by simp), fun i hi => h (i + 1) (by simpa using hi)⟩
/-- Right, but for the numbers that stand twice. -/
structure AlmostR (v : VerV) : Prop where
  a : v.1.length ≤ 200 ∧ v.2.1.length ≤ 20 ∧ 0 ≤ v.2.2 ∧ v.2.2 ≤ 9007199254740991
  b : ∀ n ∈ v.2.1, 1 ≤ n ∧ n ≤ 9007199254740991
  c : ∀ m ∈ v.1, metaOk m = true
  d : ∀ i (h : i + 1 < v.1.length), okM (v.1[i]'(by omega)) v.1[i + 1] = true
theorem right_almost {v : VerV} (h : rightV v = true) : AlmostR v := by
  obtain ⟨h1, h2, h3, h4, _⟩ := right_ofV h
  exact ⟨h1, h2, h3, (chain_iff v.1).1 h4⟩
theorem almost_right {v : VerV} (h : AlmostR v) : rightV v = decide (idsV v).Nodup := by
  have h4 := (chain_iff v.1).2 h.d
  unfold rightV
  rw [decide_eq_true h.a, List.all_eq_true.2 (fun n hn => decide_eq_true (h.b n hn)), List.all_eq_true.2 h.c, h4]
  simp

end Go.Proofs.Ytgcepbpdicadnaa
