/- Mathematics of layer 12 (block): entries with shared beginnings of keys, written and read. No program. -/
import Derived.Test.YtbiifeahdinjjaaMathR
import Derived.Test.YtbiifeahdinjjaaMmM
namespace Go.Proofs.Pk
set_option maxRecDepth 10000

def sortF : Option MEnt → List MEnt → Bool
  | _, [] => true
  | none, e :: r => rightM e && sortF (some e) r
  | some p, e :: r => rightM e && befM p e && sortF (some e) r
/-- Sorted, as the chapter says. -/
def sortB (l : List MEnt) : Bool := sortF none l
/-- How many bytes two texts begin with alike. -/
def lcpL : Txt → Txt → Nat
  | a :: r, b :: s => if a = b then lcpL r s + 1 else 0
  | _, _ => 0
def shareB (last : Txt) (i : Nat) (k : Txt) : Nat := if i % 4 = 0 then 0 else lcpL last k
def dropB (e : MEnt) : Txt := if e.2.2.1 = true then numL 1 else numL 0 ++ txtL e.2.2.2
def recB (last : Txt) (i : Nat) (e : MEnt) : Txt := numL (shareB last i e.1) ++ txtL (e.1.drop (shareB last i e.1)) ++ numL e.2.1.toNat ++ dropB e
def bodyB : Txt → Nat → List MEnt → Txt
  | _, _, [] => []
  | last, i, e :: r => recB last i e ++ bodyB e.1 (i + 1) r
def encB (l : List MEnt) : Txt × Nat := if 200 < l.length then ([], 5) else if sortB l = true then (numL l.length ++ bodyB [] 0 l, 0) else ([], 1)
/-- One entry at the beginning of a text, behind a key; the rest; false: there is none. -/
def rdOne (b last : Txt) : MEnt × Txt × Bool :=
  if (rdNum b).2.2 ≠ 0 ∨ last.length < (rdNum b).1 then (zeroM, [], false)
  else if (rdTxt (rdNum b).2.1).2.2 ≠ 0 then (zeroM, [], false)
  else if (rdNum (rdTxt (rdNum b).2.1).2.1).2.2 ≠ 0 then (zeroM, [], false)
  else if (rdNum (rdNum (rdTxt (rdNum b).2.1).2.1).2.1).2.2 ≠ 0 ∨ 1 < (rdNum (rdNum (rdTxt (rdNum b).2.1).2.1).2.1).1 then (zeroM, [], false)
  else if (rdNum (rdNum (rdTxt (rdNum b).2.1).2.1).2.1).1 = 1 then
    ((last.take (rdNum b).1 ++ (rdTxt (rdNum b).2.1).1, ((rdNum (rdTxt (rdNum b).2.1).2.1).1 : Int), true, []), (rdNum (rdNum (rdTxt (rdNum b).2.1).2.1).2.1).2.1, true)
  else if (rdTxt (rdNum (rdNum (rdTxt (rdNum b).2.1).2.1).2.1).2.1).2.2 ≠ 0 then (zeroM, [], false)
  else ((last.take (rdNum b).1 ++ (rdTxt (rdNum b).2.1).1, ((rdNum (rdTxt (rdNum b).2.1).2.1).1 : Int), false, (rdTxt (rdNum (rdNum (rdTxt (rdNum b).2.1).2.1).2.1).2.1).1), (rdTxt (rdNum (rdNum (rdTxt (rdNum b).2.1).2.1).2.1).2.1).2.1, true)
def rdMany : Nat → Txt → Txt → Option (List MEnt × Txt)
  | 0, b, _ => some ([], b)
  | n + 1, b, last => if (rdOne b last).2.2 = true then (match rdMany n (rdOne b last).2.1 (rdOne b last).1.1 with
      | some (l, t) => some ((rdOne b last).1 :: l, t)
      | none => none) else none
/-- The list of a block's bytes, and whether they are one. -/
def decB (b : Txt) : List MEnt × Bool :=
  if (rdNum b).2.2 ≠ 0 ∨ 200 < (rdNum b).1 then ([], false) else match rdMany (rdNum b).1 (rdNum b).2.1 [] with
    | some (l, _) => if encB l = (b, 0) then (l, true) else ([], false)
    | none => ([], false)

theorem lcp_le_left : ∀ a b : Txt, lcpL a b ≤ a.length
  | [], _ => by simp [lcpL]
  | _ :: _, [] => by simp [lcpL]
  | a :: r, b :: s => by unfold lcpL; split; (have := lcp_le_left r s; simp; omega); simp
theorem lcp_le_right : ∀ a b : Txt, lcpL a b ≤ b.length
  | [], _ => by simp [lcpL]
  | _ :: _, [] => by simp [lcpL]
  | a :: r, b :: s => by unfold lcpL; split; (have := lcp_le_right r s; simp; omega); simp
theorem lcp_take : ∀ a b : Txt, a.take (lcpL a b) = b.take (lcpL a b)
  | [], _ => by simp [lcpL]
  | _ :: _, [] => by simp [lcpL]
  | a :: r, b :: s => by
    unfold lcpL
    split
    · rename_i h
      subst h
      simp only [List.take_succ_cons, lcp_take r s]
    · simp
theorem share_le (last : Txt) (i : Nat) (k : Txt) : shareB last i k ≤ last.length ∧ shareB last i k ≤ k.length := by
  unfold shareB
  split
  · simp
  · exact ⟨lcp_le_left _ _, lcp_le_right _ _⟩
theorem share_back (last : Txt) (i : Nat) (k : Txt) : last.take (shareB last i k) ++ k.drop (shareB last i k) = k := by
  unfold shareB
  split
  · simp
  · rw [lcp_take, List.take_append_drop]
theorem right_of {e : MEnt} (h : rightM e = true) : e.1 ≠ [] ∧ e.1.length ≤ 80 ∧ e.2.2.2.length ≤ 300 ∧ 1 ≤ e.2.1 ∧ e.2.1 ≤ 9007199254740991 ∧ (e.2.2.1 = true → e.2.2.2 = []) := by
  unfold rightM at h; exact of_decide_eq_true h
/-- What was written of one entry is read. -/
theorem rdOne_rec (last : Txt) (i : Nat) (e : MEnt) (he : rightM e = true) (t : Txt) : rdOne (recB last i e ++ t) last = (e, t, true) := by
  obtain ⟨_, h2, h3, h4, h5, h6⟩ := right_of he
  have hs := share_le last i e.1
  have hb := share_back last i e.1
  unfold recB
  generalize shareB last i e.1 = n at hs hb ⊢
  have hn : n ≤ MaxN := by unfold MaxN; omega
  have hq : e.2.1.toNat ≤ MaxN := by unfold MaxN; omega
  have ht : (e.1.drop n).length ≤ MaxT := by unfold MaxT; simp; omega
  have hv : e.2.2.2.length ≤ MaxT := by unfold MaxT; omega
  have e1 : rdNum (numL n ++ txtL (e.1.drop n) ++ numL e.2.1.toNat ++ dropB e ++ t) = (n, txtL (e.1.drop n) ++ (numL e.2.1.toNat ++ (dropB e ++ t)), 0) := by
    rw [List.append_assoc, List.append_assoc, List.append_assoc, rdNum_numL n hn]
  have e2 := rdTxt_txtL (e.1.drop n) (numL e.2.1.toNat ++ (dropB e ++ t)) ht
  have e3 := rdNum_numL e.2.1.toNat hq (dropB e ++ t)
  have hqi : ((e.2.1.toNat : Nat) : Int) = e.2.1 := by omega
  unfold rdOne
  rw [e1]
  simp only
  rw [e2]
  simp only
  rw [e3]
  simp only
  rw [if_neg (by simp; omega), if_neg (by simp), if_neg (by simp)]
  unfold dropB
  obtain ⟨k, q, d, v⟩ := e
  simp only at *
  by_cases hd : d = true
  · subst hd
    have := h6 rfl
    subst this
    rw [if_pos rfl]
    have e4 := rdNum_numL 1 (by unfold MaxN; omega) t
    rw [e4]
    simp only
    rw [if_neg (by simp), if_pos (by trivial), hb, hqi]
  · rw [if_neg hd]
    have e4 := rdNum_numL 0 (by unfold MaxN; omega) (txtL v ++ t)
    rw [List.append_assoc, e4]
    simp only
    have e5 := rdTxt_txtL v t hv
    rw [e5]
    simp only
    have hdf : d = false := by simpa using hd
    subst hdf
    rw [if_neg (by simp), if_neg (by simp), if_neg (by simp), hb, hqi]
theorem sortF_cons {p : Option MEnt} {e : MEnt} {r : List MEnt} (h : sortF p (e :: r) = true) : rightM e = true ∧ sortF (some e) r = true := by
  cases p with
  | none => simp only [sortF, Bool.and_eq_true] at h; exact h
  | some p => simp only [sortF, Bool.and_eq_true] at h; exact ⟨h.1.1, h.2⟩
/-- What was written of a list is read, whatever lies behind it. -/
theorem rdMany_body : ∀ (l : List MEnt) (p : Option MEnt) (last : Txt) (i : Nat) (t : Txt), sortF p l = true → rdMany l.length (bodyB last i l ++ t) last = some (l, t)
  | [], _, _, _, _, _ => rfl
  | e :: r, p, last, i, t, h => by
    obtain ⟨h1, h2⟩ := sortF_cons h
    show rdMany (r.length + 1) (recB last i e ++ bodyB e.1 (i + 1) r ++ t) last = _
    unfold rdMany
    rw [List.append_assoc, rdOne_rec last i e h1]
    simp only
    rw [rdMany_body r (some e) e.1 (i + 1) t h2, if_pos trivial]
theorem enc_ok {l : List MEnt} {b : Txt} (h : encB l = (b, 0)) : l.length ≤ 200 ∧ sortB l = true ∧ b = numL l.length ++ bodyB [] 0 l := by
  unfold encB at h
  split at h
  · cases h
  · split at h
    · rename_i h1 h2; cases h; exact ⟨by omega, h2, rfl⟩
    · cases h
/-- A block's bytes, with whatever behind them, are read so far. -/
theorem read_block {l : List MEnt} {b : Txt} (h : encB l = (b, 0)) (t : Txt) : (rdNum (b ++ t)).2.2 = 0 ∧ (rdNum (b ++ t)).1 = l.length ∧ rdMany (rdNum (b ++ t)).1 (rdNum (b ++ t)).2.1 [] = some (l, t) := by
  obtain ⟨h1, h2, rfl⟩ := enc_ok h
  have e := rdNum_numL l.length (by unfold MaxN; omega) (bodyB [] 0 l ++ t)
  rw [List.append_assoc, e]
  exact ⟨rfl, rfl, rdMany_body l none [] 0 t h2⟩
theorem dec_iff {l : List MEnt} {b : Txt} : decB b = (l, true) ↔ encB l = (b, 0) := by
  constructor
  · intro h
    unfold decB at h
    split at h
    · cases h
    · split at h
      · split at h
        · rename_i h3; cases h; exact h3
        · cases h
      · cases h
  · intro h
    obtain ⟨h1, h2, h3⟩ := read_block h []
    rw [List.append_nil] at h1 h2 h3
    have := (enc_ok h).1
    unfold decB
    rw [if_neg (by omega), h3]
    simp only
    rw [if_pos h]
theorem dec_no {b : Txt} (h : (decB b).2 = false) : decB b = ([], false) := by
  unfold decB at h ⊢
  split
  · rfl
  · split
    · split
      · rename_i h1 _ _ _ h2 h3
        rw [if_neg h1, h2] at h
        simp only at h
        rw [if_pos h3] at h; cases h
      · rfl
    · rfl
theorem enc_bad {l : List MEnt} (h : (encB l).2 ≠ 0) : (encB l).1 = [] := by
  unfold encB at h ⊢
  split
  · rfl
  · split
    · rename_i h1 h2; rw [if_neg h1, if_pos h2] at h; exact absurd rfl h
    · rfl
/-- No block begins another. -/
theorem no_begin {l l' : List MEnt} {b t : Txt} (h : encB l = (b, 0)) (h' : encB l' = (b ++ t, 0)) : t = [] := by
  obtain ⟨h1, h2, h3⟩ := read_block h t
  obtain ⟨k1, k2, k3⟩ := read_block h' []
  rw [List.append_nil] at k1 k2 k3
  rw [h3] at k3
  have := Option.some.inj k3
  exact (Prod.mk.inj this).2
theorem dec_cut {l : List MEnt} {a : Txt} (h : encB l = (a, 0)) {n : Nat} (hn : n < a.length) : decB (a.take n) = ([], false) := by
  apply dec_no
  rw [Bool.eq_false_iff]
  intro hd
  have h1 : decB (a.take n) = ((decB (a.take n)).1, true) := by rw [← hd]
  have h2 := dec_iff.1 h1
  have h3 := no_begin h2 (t := a.drop n) (by rw [List.take_append_drop]; exact h)
  have := congrArg List.length h3
  simp at this
  omega
theorem dec_more {l : List MEnt} {a t : Txt} (h : encB l = (a, 0)) (ht : t ≠ []) : decB (a ++ t) = ([], false) := by
  apply dec_no
  rw [Bool.eq_false_iff]
  intro hd
  have h1 : decB (a ++ t) = ((decB (a ++ t)).1, true) := by rw [← hd]
  exact ht (no_begin h (dec_iff.1 h1))
/-! Parts of a sorted list. -/
theorem sortF_weak {p : Option MEnt} {l : List MEnt} (h : sortF p l = true) : sortF none l = true := by
  cases l with
  | nil => rfl
  | cons e r => obtain ⟨h1, h2⟩ := sortF_cons h; simp only [sortF, h1, h2, Bool.and_self]
theorem sortF_take : ∀ (l : List MEnt) (p : Option MEnt) (n : Nat), sortF p l = true → sortF p (l.take n) = true
  | [], p, n, _ => by simp [sortF]
  | e :: r, p, 0, _ => by simp [sortF]
  | e :: r, p, n + 1, h => by
    have h2 := sortF_take r (some e) n (sortF_cons h).2
    cases p with
    | none => simp only [sortF, Bool.and_eq_true] at h; simp only [List.take_succ_cons, sortF, h.1, h2, Bool.and_self]
    | some p => simp only [sortF, Bool.and_eq_true] at h; simp only [List.take_succ_cons, sortF, h.1.1, h.1.2, h2, Bool.and_self]
theorem sortF_drop : ∀ (l : List MEnt) (p : Option MEnt) (n : Nat), sortF p l = true → sortF none (l.drop n) = true
  | [], p, n, _ => by simp [sortF]
  | e :: r, p, 0, h => sortF_weak h
  | e :: r, p, n + 1, h => by rw [List.drop_succ_cons]; exact sortF_drop r (some e) n (sortF_cons h).2
theorem sort_take {l : List MEnt} (n : Nat) (h : sortB l = true) : sortB (l.take n) = true := sortF_take l none n h
theorem sort_drop {l : List MEnt} (n : Nat) (h : sortB l = true) : sortB (l.drop n) = true := sortF_drop l none n h
/-- Two sorted lists, one behind the other. -/
theorem sortF_join : ∀ (l : List MEnt) (p : Option MEnt) (a b : MEnt) (r : List MEnt), sortF p (l ++ [a]) = true → sortF none (b :: r) = true → sortF p (l ++ a :: b :: r) = befM a b
  | [], p, a, b, r, h, k => by
    simp only [sortF, Bool.and_eq_true] at k
    cases p with
    | none => simp only [List.nil_append, sortF, Bool.and_eq_true] at h ⊢; simp [h.1, k.1, k.2]
    | some p => simp only [List.nil_append, sortF, Bool.and_eq_true] at h ⊢; simp [h.1, k.1, k.2]
  | e :: l, p, a, b, r, h, k => by
    have h2 := sortF_join l (some e) a b r (sortF_cons h).2 k
    cases p with
    | none => simp only [List.cons_append, sortF, Bool.and_eq_true] at h ⊢; rw [h2]; simp [h.1]
    | some p => simp only [List.cons_append, sortF, Bool.and_eq_true] at h ⊢; rw [h2]; simp [h.1]
theorem sort_join {l : List MEnt} {n : Nat} (h0 : 0 < n) (hn : n < l.length) (h : sortB (l.take n) = true) (k : sortB (l.drop n) = true) : sortB l = befM (l[n - 1]) (l[n]) := by
  obtain ⟨m, rfl⟩ : ∃ m, n = m + 1 := ⟨n - 1, by omega⟩
  have e1 : l.take (m + 1) = l.take m ++ [l[m]] := by rw [List.take_succ_eq_append_getElem (by omega)]
  have e2 : l.drop (m + 1) = l[m + 1] :: l.drop (m + 2) := List.drop_eq_getElem_cons hn
  have e3 : l = l.take m ++ l[m] :: l[m + 1] :: l.drop (m + 2) := by
    rw [← e2, ← List.singleton_append, ← List.append_assoc, ← e1, List.take_append_drop]
  have := sortF_join (l.take m) none l[m] l[m + 1] (l.drop (m + 2)) (by rw [← e1]; exact h) (by rw [← e2]; exact k)
  rw [← e3] at this
  exact this
theorem sort_one {e : MEnt} : sortB [e] = rightM e := by simp [sortB, sortF]
theorem sort_mem : ∀ (l : List MEnt) (p : Option MEnt), sortF p l = true → ∀ e ∈ l, rightM e = true
  | [], _, _, _, he => by cases he
  | x :: r, p, h, e, he => by
    obtain ⟨h1, h2⟩ := sortF_cons h
    rcases List.mem_cons.1 he with rfl | he
    · exact h1
    · exact sort_mem r _ h2 e he

/-! How long a block is. -/
theorem numL_small {n : Nat} (h : n < 256) : (numL n).length ≤ 2 := by
  rw [numL_length]
  have : nb n ≤ nb 255 := nb_mono (by omega)
  have e : nb 255 = 1 := by decide
  omega
theorem txtL_mono {s t : Txt} (h : s.length ≤ t.length) : (txtL s).length ≤ (txtL t).length := by
  unfold txtL
  rw [List.length_append, List.length_append, numL_length, numL_length]
  have := nb_mono h
  omega
theorem rec_len (last : Txt) (i : Nat) (e : MEnt) (he : rightM e = true) : (recB last i e).length ≤ (recB [] 0 e).length + 1 := by
  obtain ⟨_, h2, _⟩ := right_of he
  have hs := (share_le last i e.1).2
  unfold recB
  have e0 : shareB [] 0 e.1 = 0 := by simp [shareB]
  rw [e0, List.drop_zero]
  generalize shareB last i e.1 = n at hs
  have h3 := numL_small (n := n) (by omega)
  have h4 := txtL_mono (s := e.1.drop n) (t := e.1) (by simp)
  have h5 : (numL 0).length = 1 := by decide
  simp only [List.length_append]
  omega
theorem body_len : ∀ (l : List MEnt) (p : Option MEnt) (last : Txt) (i : Nat), sortF p l = true → (bodyB last i l).length ≤ (l.map fun e => (recB [] 0 e).length + 1).sum
  | [], _, _, _, _ => by simp [bodyB]
  | e :: r, p, last, i, h => by
    obtain ⟨h1, h2⟩ := sortF_cons h
    have := body_len r (some e) e.1 (i + 1) h2
    have h3 := rec_len last i e h1
    show (recB last i e ++ bodyB e.1 (i + 1) r).length ≤ _
    rw [List.length_append, List.map_cons, List.sum_cons]
    omega
theorem enc_one {e : MEnt} (he : rightM e = true) : encB [e] = (numL 1 ++ recB [] 0 e, 0) := by
  unfold encB
  rw [if_neg (by simp), sort_one, if_pos he]
  simp [bodyB]
/-- The statement's bound: two bytes for each entry, and three. -/
theorem enc_short {l : List MEnt} {b : Txt} (hl : l.length ≤ 60) (h : encB l = (b, 0)) : b.length ≤ 3 + (l.map fun e => (encB [e]).1.length + 2).sum := by
  obtain ⟨h1, h2, rfl⟩ := enc_ok h
  have h3 := body_len l none [] 0 h2
  have h4 := numL_small (n := l.length) (by omega)
  have h5 : (l.map fun e => (recB [] 0 e).length + 1).sum ≤ (l.map fun e => (encB [e]).1.length + 2).sum := by
    have hr := sort_mem l none h2
    clear h h1 h2 h3 h4 hl
    induction l with
    | nil => simp
    | cons e r ih =>
      have h6 := ih (fun x hx => hr x (by simp [hx]))
      have h7 := enc_one (hr e (by simp))
      rw [List.map_cons, List.sum_cons, List.map_cons, List.sum_cons, h7]
      simp only [List.length_append]
      omega
  rw [List.length_append]
  omega
end Go.Proofs.Pk
