/- A region that draws its order, of whose memory one fact S alone is known on the way: what reads, and a call whose answer S tells and behind which S holds, may be taken first: one walk for all orders of its calls. No program. -/
import Derived.Test.YtgjblcjoglaldaaOrd
namespace Go.Proofs.Pk
section
variable {P : Program} {ops : Array Oper} {Q : Exit → Act → World → Prop} {md : Region.Mode} {S : World → Prop} {z : Nat}

/-- Another operation's slot is filled already: it makes no difference to this one, and what holds of the frame for good holds behind it. -/
theorem wpOp_swap {j : Nat} {oj : Oper} {d : Option Tmp} {v : Value} (hj : ops[j]? = some oj) (h1 : ∀ t, d = some t → t ∉ oj.looksAt ops) (h2 : ∀ t, d = some t → oj.dst ≠ some t)
    (hs : ∀ cs b, oj.op ≠ .select cs b) (hQ : ∀ c a w, Q (.panic c) (a.put d v) w → Q (.panic c) a w) {R : Act → Prop} (hR : ∀ a u, R a → R (a.put oj.dst u))
    (hD : ∀ (a : Act) (x : Deferred), R a → R { a with defers := x :: a.defers }) {K : Act → World → Prop} {a : Act} {w : World} (ha : R a)
    (h : wpOp P ops Q j K (a.put d v) w) : wpOp P ops Q j (fun a' w' => R a' ∧ K (a'.put d v) w') a w := by
  have hc : ∀ (b : Act) (u : Value), (b.put d v).put oj.dst u = (b.put oj.dst u).put d v := fun b u => Act.put_comm b v u h2
  unfold wpOp at h ⊢
  simp only [hj] at h ⊢
  rw [wanted_put oj a d v h1] at h
  by_cases hw : Region.wanted oj (yielded ops a.tmps) = true
  · rw [if_pos hw] at h ⊢
    rcases h with h | ⟨hA, hL⟩
    · refine .inl ?_
      unfold Oper.wp at h ⊢
      rw [execOp_put oj hs a d v h1] at h
      generalize (execOp a.eval oj).run P w = r at h ⊢
      rcases r with ⟨n, w'⟩ | ⟨x, w'⟩
      · cases n with
        | value u => exact ⟨hR a u ha, by rw [← hc]; exact h⟩
        | skip => exact ⟨hR a undef ha, by rw [← hc]; exact h⟩
        | defer x => exact ⟨hR _ undef (hD a x ha), by rw [← hc, ← Act.put_defers]; exact h⟩
        | enter f args =>
          refine Calls.mono h fun e w2 he => ?_
          cases e with
          | returned u => exact ⟨hR a u ha, by rw [← hc]; exact he⟩
          | panicked c => exact hQ _ _ _ he
          | outgrown => exact he
        | row f args => exact Rows.mono h fun u w2 he => ⟨hR a u ha, by rw [← hc]; exact he⟩
        | _ => exact h
      · cases x with
        | panic u => exact hQ _ _ _ h
        | _ => exact h
    · refine .inr ⟨?_, hL⟩
      unfold Oper.asks at hA ⊢
      rw [execOp_put oj hs a d v h1] at hA
      exact hA
  · rw [if_neg hw] at h ⊢
    exact ⟨hR a undef ha, by rw [← hc]; exact h⟩

/-- Whatever order is picked, in whatever world of which S holds; ahead of number z every operation keeps S. -/
def wpAnyS (P : Program) (md : Region.Mode) (ops : Array Oper) (Q : Exit → Act → World → Prop) (S : World → Prop) (z : Nat) : Nat → Array Bool → Act → Prop
  | 0, listed, a => Region.ready md ops listed = [] ∧ ∀ w, S w → Q .normal a w
  | fuel + 1, listed, a =>
    (Region.ready md ops listed = [] → ∀ w, S w → Q .normal a w) ∧
    ∀ i ∈ Region.ready md ops listed, ∀ w, S w → (i < z → wpOp P ops Q i (fun a' w' => S w' ∧ wpAnyS P md ops Q S z fuel (listed.setIfInBounds i true) a') a w) ∧
      (¬i < z → wpOp P ops Q i (wpAny P md ops Q fuel (listed.setIfInBounds i true)) a w)

theorem wpAny_of_S : ∀ (fuel : Nat) (listed : Array Bool) (a : Act) (w : World), wpAnyS P md ops Q S z fuel listed a → S w → wpAny P md ops Q fuel listed a w
  | 0, _, _, w, h, hS => ⟨h.1, h.2 w hS⟩
  | fuel + 1, _, _, w, h, hS => ⟨fun h0 => h.1 h0 w hS, fun i hi => by
      have h2 := h.2 i hi w hS
      by_cases hz : i < z
      · exact wpOp_mono (fun a' w' h' => wpAny_of_S fuel _ a' w' h'.2 h'.1) (h2.1 hz)
      · exact h2.2 hz⟩

/-- What waits for number i, straight or by way of others. -/
def behindB (md : Region.Mode) (ops : Array Oper) (i : Nat) : List Nat := (List.range ops.size).foldl (fun B j => if (j == i || B.any fun b => Region.waitsFor md ops j b) = true then j :: B else B) []
/-- All operations from z on wait so for number i, and none of these is listed. -/
def lateS (md : Region.Mode) (ops : Array Oper) (z : Nat) (listed : Array Bool) (i : Nat) : Bool :=
  decide (i < z) && ((List.range ops.size).all fun j => decide (j < z) || (behindB md ops i).contains j) &&
  (behindB md ops i).all fun j => !listed.getD j true && (j == i || (behindB md ops i).any fun b => Region.waitsFor md ops j b)
theorem lateS_ready {i j : Nat} {listed : Array Bool} (hl : lateS md ops z listed i = true) (hj : j ∈ Region.ready md ops listed) (hne : j ≠ i) : j ∉ behindB md ops i ∧ j < z := by
  unfold lateS at hl
  simp only [Bool.and_eq_true] at hl
  obtain ⟨⟨_, h1⟩, h2⟩ := hl
  obtain ⟨hjun, oj, hoj, hall⟩ := mem_ready.1 hj
  have hlt : j < ops.size := (Array.getElem?_eq_some_iff.1 hoj).1
  have hnot : j ∉ behindB md ops i := fun hB => by
    have h3 := List.all_eq_true.1 h2 j hB
    simp only [Bool.and_eq_true, Bool.or_eq_true, beq_iff_eq] at h3
    rcases h3.2 with h | h
    · exact hne h
    · obtain ⟨b, hb, hw⟩ := List.any_eq_true.1 h
      obtain ⟨oj', hoj', e, he, hbi, heq⟩ := Region.waitsFor_spec hw
      rw [hoj] at hoj'
      obtain rfl := Option.some.inj hoj'
      have h4 := hall e he hbi
      have h5 := List.all_eq_true.1 h2 b hb
      simp only [Bool.and_eq_true, Bool.not_eq_true'] at h5
      rw [heq, getD_both h5.1] at h4
      cases h4
  refine ⟨hnot, ?_⟩
  have h3 := List.all_eq_true.1 h1 j (List.mem_range.2 hlt)
  simp only [Bool.or_eq_true, decide_eq_true_eq, List.contains_iff_mem] at h3
  exact h3.resolve_right hnot
theorem lateS_lt {i : Nat} {listed : Array Bool} (hl : lateS md ops z listed i = true) : i < z := by
  unfold lateS at hl
  simp only [Bool.and_eq_true, decide_eq_true_eq] at hl
  exact hl.1.1
theorem lateS_set {i j : Nat} {listed : Array Bool} (hl : lateS md ops z listed i = true) (hj : j ∉ behindB md ops i) : lateS md ops z (listed.setIfInBounds j true) i = true := by
  unfold lateS at hl ⊢
  simp only [Bool.and_eq_true] at hl ⊢
  refine ⟨hl.1, List.all_eq_true.2 fun k hk => ?_⟩
  have h := List.all_eq_true.1 hl.2 k hk
  have hne : j ≠ k := fun e => hj (by rw [e]; exact hk)
  rw [getD_set_ne true hne]
  exact h

/-- An operation of which it is known, in each world of which S holds, what it leaves, and that S holds behind it, may be taken first. R: what of the frame makes it so. -/
theorem wpAnyS_first {i : Nat} {oi : Oper} {v : Value} (hi : ops[i]? = some oi) (hsel : ∀ (j : Nat) (o : Oper) cs b, ops[j]? = some o → o.op ≠ .select cs b)
    (hQ : ∀ c a w, Q (.panic c) (a.put oi.dst v) w → Q (.panic c) a w) (R : Act → Prop)
    (hR : ∀ oj, oi.apart ops oj = true → ∀ a u, R a → R (a.put oj.dst u)) (hD : ∀ (a : Act) (x : Deferred), R a → R { a with defers := x :: a.defers })
    (hdo : ∀ a, R a → ∀ (w : World) (K : Act → World → Prop), S w → (∀ w', S w' → K (a.put oi.dst v) w') → wpOp P ops Q i K a w) :
    ∀ (fuel : Nat) (listed : Array Bool) (a : Act),
      (∀ j oj, ops[j]? = some oj → j ≠ i → listed.getD j true = false → (∀ e ∈ oj.after, Region.binds md e = true → e.on ≠ i) → oi.apart ops oj = true) →
      i ∈ Region.ready md ops listed → lateS md ops z listed i = true → R a →
      wpAnyS P md ops Q S z fuel (listed.setIfInBounds i true) (a.put oi.dst v) → wpAnyS P md ops Q S z (fuel + 1) listed a := by
  intro fuel
  induction fuel with
  | zero =>
    intro listed a _ hr hl hRa H
    refine ⟨fun h => absurd (h ▸ hr) (by simp), fun j hj w hw => ?_⟩
    by_cases hji : j = i
    · subst hji
      exact ⟨fun _ => hdo a hRa w _ hw fun w' hw' => ⟨hw', H⟩, fun h => absurd (lateS_lt hl) h⟩
    · exact absurd (H.1 ▸ ready_mono hj hji) (by simp)
  | succ fuel ih =>
    intro listed a hfree hr hl hRa H
    refine ⟨fun h => absurd (h ▸ hr) (by simp), fun j hj w hw => ?_⟩
    by_cases hji : j = i
    · subst hji
      exact ⟨fun _ => hdo a hRa w _ hw fun w' hw' => ⟨hw', H⟩, fun h => absurd (lateS_lt hl) h⟩
    · obtain ⟨hjB, hjz⟩ := lateS_ready hl hj hji
      obtain ⟨hjun, oj, hoj, hall⟩ := mem_ready.1 hj
      have hnot : ∀ e ∈ oj.after, Region.binds md e = true → e.on ≠ i := fun e he hb heq => by
        have h1 := hall e he hb
        rw [heq, getD_both (mem_ready.1 hr).1] at h1; cases h1
      have hap := hfree j oj hoj hji hjun hnot
      obtain ⟨p1, p2, _⟩ := Oper.apart_spec hap
      have h2 := wpOp_swap (R := R) hoj p1 p2 (fun cs b => hsel j oj cs b hoj) hQ (fun a u h => hR oj hap a u h) hD hRa ((H.2 j (ready_mono hj hji) w hw).1 hjz)
      refine ⟨fun _ => wpOp_mono (fun a' w' h3 => ⟨h3.2.1, ih (listed.setIfInBounds j true) a' ?_ (ready_mono hr (Ne.symm hji)) (lateS_set hl hjB) h3.1 ?_⟩) h2, fun h => absurd hjz h⟩
      · intro k ok hk hki hun hno
        refine hfree k ok hk hki ?_ hno
        by_cases hjk : j = k
        · subst hjk; exact hjun
        · rwa [getD_set_ne true hjk] at hun
      · rw [Array.setIfInBounds_comm _ _ hji]; exact h3.2.2

/-- What of the frame an operation looks at. -/
def Looks (ops : Array Oper) (o : Oper) (E : Sem Next) (b : Bool) (a : Act) : Prop := execOp a.eval o = E ∧ Region.wanted o (yielded ops a.tmps) = b
theorem Looks.put {oi : Oper} {E : Sem Next} {b : Bool} (hsi : ∀ cs b, oi.op ≠ .select cs b) (oj : Oper) (hap : oi.apart ops oj = true) (a : Act) (u : Value) (h : Looks ops oi E b a) : Looks ops oi E b (a.put oj.dst u) := by
  obtain ⟨_, _, h3⟩ := Oper.apart_spec hap
  exact ⟨(execOp_put oi hsi a oj.dst u h3).trans h.1, (wanted_put oi a oj.dst u h3).trans h.2⟩

/-- A call whose answer S tells. -/
theorem wpAnyS_call {i : Nat} {oi : Oper} {v : Value} {f : Nat} {args : Array Value} {fuel : Nat} {listed : Array Bool} {a : Act} (d : Option Tmp) (hi : ops[i]? = some oi) (hd : oi.dst = d)
    (hs : Region.noSelect ops = true) (hf : Region.free md ops listed i = true) (hr : (Region.ready md ops listed).contains i = true) (hl : lateS md ops z listed i = true)
    (hQ : ∀ c a w, Q (.panic c) (a.put oi.dst v) w → Q (.panic c) a w) (hg : Region.wanted oi (yielded ops a.tmps) = true)
    (hrun : ∀ w, S w → (execOp a.eval oi).run P w = .ok (.enter f args) w) (hc : ∀ w, S w → Calls P f args w fun e w' => e = .returned v ∧ S w')
    (h : wpAnyS P md ops Q S z fuel (listed.setIfInBounds i true) (a.put d v)) : wpAnyS P md ops Q S z (fuel + 1) listed a := by
  subst hd
  have hsel := Region.noSelect_spec hs
  refine wpAnyS_first hi hsel hQ (Looks ops oi (execOp a.eval oi) true) (fun oj hap b u hb => Looks.put (fun cs b => hsel i oi cs b hi) oj hap b u hb) (fun b x hb => hb) ?_ fuel listed a (Region.free_spec hi hf) (by simpa using hr) hl ⟨rfl, hg⟩ h
  rintro b ⟨h1, h2⟩ w K hS hK
  unfold wpOp
  simp only [hi, h2, if_true, Oper.wp, h1, hrun w hS, Oper.upon]
  refine .inl ((hc w hS).mono ?_)
  rintro e w' ⟨rfl, h3⟩
  exact hK w' h3
/-- What reads. -/
theorem wpAnyS_take {i : Nat} {oi : Oper} {v : Value} {fuel : Nat} {listed : Array Bool} {a : Act} (d : Option Tmp) (hi : ops[i]? = some oi) (hd : oi.dst = d)
    (hs : Region.noSelect ops = true) (hf : Region.free md ops listed i = true) (hr : (Region.ready md ops listed).contains i = true) (hl : lateS md ops z listed i = true)
    (hQ : ∀ c a w, Q (.panic c) (a.put oi.dst v) w → Q (.panic c) a w) (hg : Region.wanted oi (yielded ops a.tmps) = true)
    (hrun : ∀ w, S w → (execOp a.eval oi).run P w = .ok (.value v) w)
    (h : wpAnyS P md ops Q S z fuel (listed.setIfInBounds i true) (a.put d v)) : wpAnyS P md ops Q S z (fuel + 1) listed a := by
  subst hd
  have hsel := Region.noSelect_spec hs
  refine wpAnyS_first hi hsel hQ (Looks ops oi (execOp a.eval oi) true) (fun oj hap b u hb => Looks.put (fun cs b => hsel i oi cs b hi) oj hap b u hb) (fun b x hb => hb) ?_ fuel listed a (Region.free_spec hi hf) (by simpa using hr) hl ⟨rfl, hg⟩ h
  rintro b ⟨h1, h2⟩ w K hS hK
  unfold wpOp
  simp only [hi, h2, if_true, Oper.wp, h1, hrun w hS, Oper.upon]
  exact .inl (hK w hS)
/-- What is not wanted. -/
theorem wpAnyS_unwanted {i : Nat} {oi : Oper} {fuel : Nat} {listed : Array Bool} {a : Act} (d : Option Tmp) (hi : ops[i]? = some oi) (hd : oi.dst = d)
    (hs : Region.noSelect ops = true) (hf : Region.free md ops listed i = true) (hr : (Region.ready md ops listed).contains i = true) (hl : lateS md ops z listed i = true)
    (hQ : ∀ c a w, Q (.panic c) (a.put oi.dst undef) w → Q (.panic c) a w) (hg : Region.wanted oi (yielded ops a.tmps) = false)
    (h : wpAnyS P md ops Q S z fuel (listed.setIfInBounds i true) (a.put d undef)) : wpAnyS P md ops Q S z (fuel + 1) listed a := by
  subst hd
  have hsel := Region.noSelect_spec hs
  refine wpAnyS_first hi hsel hQ (Looks ops oi (execOp a.eval oi) false) (fun oj hap b u hb => Looks.put (fun cs b => hsel i oi cs b hi) oj hap b u hb) (fun b x hb => hb) ?_ fuel listed a (Region.free_spec hi hf) (by simpa using hr) hl ⟨rfl, hg⟩ h
  rintro b ⟨_, h2⟩ w K hS hK
  unfold wpOp
  simp only [hi, h2, Bool.false_eq_true, if_false]
  exact hK w hS
theorem wpAnyS_done {listed : Array Bool} {a : Act} (hr : Region.ready md ops listed = []) (h : ∀ w, S w → Q .normal a w) : ∀ fuel, wpAnyS P md ops Q S z fuel listed a
  | 0 => ⟨hr, h⟩
  | _ + 1 => ⟨fun _ => h, by rw [hr]; simp⟩
/-- The last ones: one alone may come up, and S need not hold behind it. -/
theorem wpAnyS_last {i : Nat} {fuel : Nat} {listed : Array Bool} {a : Act} (hr : Region.ready md ops listed = [i]) (hz : z ≤ i)
    (h : ∀ w, S w → wpOp P ops Q i (wpAny P md ops Q fuel (listed.setIfInBounds i true)) a w) : wpAnyS P md ops Q S z (fuel + 1) listed a := by
  refine ⟨fun h0 => absurd (hr ▸ h0) (by simp), ?_⟩
  rw [hr]
  intro j hj w hw
  obtain rfl : j = i := by simpa using hj
  exact ⟨fun hlt => absurd hlt (by omega), fun _ => h w hw⟩
theorem wp_region_S {id : Nat} {a : Act} {w : World} (S : World → Prop) (z : Nat) (hm : P.follows .mixedOrders = true) (hS : S w.drew)
    (h : wpAnyS P .any ops Q S z ops.size (Array.replicate ops.size false) a) : (Code.region id ops true).wp P Q a w :=
  wp_region_any hm (wpAny_of_S _ _ _ _ h hS)
end
end Go.Proofs.Pk
