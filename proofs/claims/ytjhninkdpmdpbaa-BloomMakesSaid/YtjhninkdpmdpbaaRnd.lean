/- A region that draws its order, in the body of a loop over a function: from what is known of it outside. No program. -/
import Derived.Test.YtjhninkdpmdpbaaOrd
import Derived.OrdersIn
import Derived.TacticsIn
import Derived.RangeFuncCalls
namespace Go.Proofs.Pk
section
variable {P : Program} {ops : Array Oper} {Q : Exit → Act → World → Prop} {md : Region.Mode} {n l : Nat}

/-- The way on, and no other. -/
def OnlyN (K : Act → World → Prop) : Exit → Act → World → Prop
  | .normal, a, w => K a w
  | _, _, _ => False
theorem only_out (K : Act → World → Prop) : ¬LetsOut (OnlyN K) := fun ⟨_, _, h⟩ => h

theorem op_round {o : Oper} {a : Act} {w : World} {K K' : Act → World → Prop} (hd : ∀ c, o.op ≠ .defer c) (hK : ∀ a w, K a w → K' a w) (h : o.wp P a w K (OnlyN (Q .normal))) : o.wpIn (Fence.wide.inRound l) n P a w K' Q := by
  refine ⟨fun _ _ => trivial, ?_⟩
  rw [Fence.inRound_round, Oper.semAt_some l a.eval o hd]
  unfold Oper.wp at h
  generalize (execOp a.eval o).run P w = r at h ⊢
  cases r with
  | ok x w' =>
    cases x with
    | value v => exact hK _ _ h
    | skip => exact hK _ _ h
    | defer d => exact hK _ _ h
    | enter f args =>
      refine ⟨fun hh => (by cases hh), CallsIn.inRound l ((callsIn_wide.2 h).mono ?_)⟩
      intro e w'' he
      cases e with
      | returned v => exact hK _ _ he
      | panicked ch => exact he.elim
      | outgrown => exact (only_out _ he).elim
    | row row args =>
      refine ⟨fun hh => (by cases hh), fun c cs _ => ?_⟩
      obtain ⟨v, w'', he, hs⟩ := h c cs
      exact ⟨v, w'', hK _ _ he, stepsIn_wide.2 hs⟩
    | _ => exact h.elim
  | halt x w' => cases x <;> exact h.elim

/-- No statement of defer in the region. -/
def tameB (ops : Array Oper) : Bool := ops.toList.all fun o => match o.op with
  | .defer _ => false
  | _ => true
theorem tame_defer (h : tameB ops = true) {i : Nat} {o : Oper} (hi : ops[i]? = some o) : ∀ c, o.op ≠ .defer c := fun c e => by
  have := List.all_eq_true.1 h o (by rw [Array.mem_toList_iff]; exact Array.mem_of_getElem? hi)
  simp [e] at this

theorem any_round (hd : tameB ops = true) : ∀ (fuel : Nat) (listed : Array Bool) (a : Act) (w : World), wpAny P md ops (OnlyN (Q .normal)) fuel listed a w → wpAnyIn (Fence.wide.inRound l) n P md ops Q fuel listed a w
  | 0, _, _, _, h => h
  | fuel + 1, listed, a, w, h => by
    refine ⟨h.1, fun i hi => ?_⟩
    have h2 := h.2 i hi
    unfold wpOp at h2
    unfold wpOpIn
    split
    · rename_i hn
      simp only [hn] at h2
      exact any_round hd fuel _ _ _ h2
    · rename_i o ho
      simp only [ho] at h2
      split
      · rename_i hw
        simp only [hw, if_true] at h2
        rcases h2 with h2 | h2
        · exact op_round (tame_defer hd ho) (fun a' w' h3 => any_round hd fuel _ _ _ h3) h2
        · exact (only_out _ h2.2).elim
      · rename_i hw
        simp only [hw] at h2
        exact ⟨fun _ _ => trivial, any_round hd fuel _ _ _ h2⟩

/-- The region in a round, from what is known of it in whatever order. -/
theorem region_round {id : Nat} {a : Act} {w : World} (hm : P.follows .mixedOrders = true) (hd : tameB ops = true)
    (h : wpAny P .any ops (OnlyN (Q .normal)) ops.size (Array.replicate ops.size false) a w.drew) : (Code.region id ops true).wpIn (Fence.wide.inRound l) n P Q a w :=
  wpIn_region_any hm (any_round hd _ _ _ _ h)
/-- Reads first, in whatever order; the last operations one behind the other. -/
theorem still_round {id : Nat} {a : Act} {w : World} {os : List Oper} (k : Nat) (hm : P.follows .mixedOrders = true) (hB : Region.lexTailB .any os.toArray k = true) (hd : tameB os.toArray = true)
    (h : wpStill P os.toArray w.drew (fun a' => wpList P os.toArray (OnlyN (Q .normal)) (os.drop k) a' w.drew) (os.take k) a) : (Code.region id os.toArray true).wpIn (Fence.wide.inRound l) n P Q a w := by
  refine region_round hm hd ?_
  simp only [Region.lexTailB, Bool.and_eq_true, decide_eq_true_eq] at hB
  obtain ⟨⟨⟨⟨b1, b2⟩, b3⟩, b4⟩, b5⟩ := hB
  have hk : k < os.length := by simpa using b2
  have ht : (os.take k).length = k := by simp; omega
  have hl : (os.drop k).length = os.toArray.size - k := by simp
  have H := wpAnyL_lex (md := .any) (g := os.toArray.size - k) b1 b3 b4 b2 (os.take k) 0 (Array.replicate os.toArray.size false) a
    (fun j hj => by rw [ht] at hj; simp [hj]) (by simpa using ht) ⟨by simp, fun j oj _ hf => (by rw [getD_replicate_false] at hf; cases hf), fun t _ hs => getD_in (by simpa using hs) (getD_replicate_false _ _)⟩ (by rw [ht]; exact b5) h
  have H2 := wpAny_of_head (Q' := OnlyN (Q .normal)) (g := os.toArray.size - k) (fun listed a' hL => by
    have e := wpAny_of_seq (md := .any) (Q' := OnlyN (Q .normal)) (os.drop k) k listed a' w.drew (fun j => by simp [List.getElem?_drop]) (by rw [hl]; exact hL.1) hL.2
    rwa [hl] at e) _ _ _ H
  rw [ht, show k + (os.toArray.size - k) = os.toArray.size from by omega] at H2
  exact H2
theorem region_round_until {id : Nat} {a : Act} {w : World} (S : World → Prop) (z : Nat) (hm : P.follows .mixedOrders = true) (hd : tameB ops = true)
    (h : wpAnyU P .any ops (OnlyN (Q .normal)) S z ops.size (Array.replicate ops.size false) a w.drew) : (Code.region id ops true).wpIn (Fence.wide.inRound l) n P Q a w :=
  region_round hm hd (wpAny_of_until _ _ _ _ h)
end
end Go.Proofs.Pk
