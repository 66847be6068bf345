/- A definition's steps copied, and one more appended; three operations that come up in any order (layer 18). -/
import Derived.Test.YtgjblcjoglaldaaRf18
import Derived.Deep.DeepAppendWide
namespace Go.Proofs.Pk
section
variable {P : Program} {ops : Array Oper} {Q : Exit → Act → World → Prop} {md : Region.Mode} {S : World → Prop} {z : Nat}
/-- Several may come up; each goes its own way on. -/
theorem wpAnyU_each {fuel : Nat} {listed : Array Bool} {a : Act} {w : World} (L : List Nat) (hr : Region.ready md ops listed = L) (hL : L ≠ [])
    (h : ∀ i ∈ L, ∃ oi d v w1, ops[i]? = some oi ∧ oi.dst = some d ∧ oi.guard = none ∧ (execOp a.eval oi).run P w = .ok (.value v) w1 ∧ S w1 ∧ wpAnyU P md ops Q S z fuel (listed.setIfInBounds i true) (a.put (some d) v) w1) :
    wpAnyU P md ops Q S z (fuel + 1) listed a w := by
  refine ⟨fun h0 => absurd (hr ▸ h0) hL, ?_⟩
  rw [hr]
  intro k hk
  obtain ⟨oi, d, v, w1, hi, hd, hg, e1, s1, x⟩ := h k hk
  have wi : ∀ b : Act, Region.wanted oi (yielded ops b.tmps) = true := fun b => by simp [Region.wanted, hg]
  unfold wpOp
  simp only [hi, wi, if_true, Oper.wp, e1, Oper.upon, hd]
  exact .inl ⟨fun _ => s1, x⟩
end
end Go.Proofs.Pk
namespace Go.Proofs.Ytgjblcjoglaldaa
open Go.RowKit Go.Proofs Go.Proofs.Pk
set_option maxRecDepth 10000

theorem stepsC_length (T : List StV) : (T.flatMap stC).length = T.length * 2 := by
  induction T with
  | nil => rfl
  | cons a r ih => rw [List.flatMap_cons, List.length_append, ih, List.length_cons]; show 2 + r.length * 2 = _; omega
theorem steps_one (T : List StV) : ∀ x ∈ T.flatMap stC, x.oneCell' = true := fun x hx => by
  obtain ⟨u, _, h⟩ := List.mem_flatMap.1 hx
  exact step_one u x h
theorem steps_get {w : World} {b off : Nat} {T : List StV} (h : ∀ i (hi : i < T.length), StAt w b (off + i * 2) T[i]) : ∀ j u, (T.flatMap stC)[j]? = some u → w.cell? ⟨b, off + j, none⟩ = some u := fun j u hj => by
  have hjl : j < T.length * 2 := by have := (List.getElem?_eq_some_iff.1 hj).1; rwa [stepsC_length] at this
  have hi : j / 2 < T.length := by omega
  have hlt : j % 2 < (stC T[j / 2]).length := by show _ < 2; omega
  have e := stepsC_get T (j / 2) hi (j % 2) _ (List.getElem?_eq_getElem hlt)
  rw [show j / 2 * 2 + j % 2 = j by omega] at e
  rw [e] at hj
  injection hj with hj
  have := (h (j / 2) hi).row (j % 2) _ (List.getElem?_eq_getElem hlt)
  rw [show off + j / 2 * 2 + j % 2 = off + j by omega] at this
  rw [this, hj]
/-- The steps of a definition, copied into a row of their own. -/
theorem app_copy {W : World} (B : Nat) {ad : Option Addr} {len cap : Nat} {T : List StV} (hS : StepsW W ad len T) (hB : BndS ad len cap) (hb : B ≤ W.heap.size) :
    ∃ a p W', (Builtin.append_ #[22, 22] 22 #[.slice none 0 0, .slice ad len cap]).run Try.prog W = .ok (.slice a len p) W' ∧ W'.ownsRow B 43 2 (.slice a len p) len (T.flatMap stC) ∧ Kept (fun _ => False) W W' := by
  obtain ⟨i0, hi, hz0, hz1, hz2⟩ := parts_ofD step_info
  have hlen := hS.1
  have ho : W.ownsRow B 43 2 (.slice none 0 0) 0 [] := World.ownsRow_nil _ _ _ _
  have key : ∃ v' W', (Builtin.append_ #[22, 22] 22 #[.slice none 0 0, .slice ad len cap]).run Try.prog W = .ok v' W' ∧ W'.ownsRow B 43 2 v' len (T.flatMap stC) ∧ Kept (fun _ => False) W W' := by
    obtain ⟨hfl, hlc, hbig, hno⟩ := hB
    rcases ad with _ | a
    · obtain ⟨rfl, rfl⟩ := hno rfl
      have : T = [] := List.length_eq_zero_iff.1 hlen
      subst this
      exact ⟨_, W, run_append_owned_none (P := Try.prog) (w := W) B 22 22 43 i0 2 Try.underlying22 hi _ 0 _ ho, ho, Kept.refl _ W⟩
    · obtain ⟨v', W', h1, h2, h3, _⟩ := run_append_own_wide (P := Try.prog) W B 22 22 43 i0 _ 2 16 Try.underlying22 hi hz0 hz1 hz2 rfl (by decide) _ 0 _ ho a len cap (T.flatMap stC) (by rw [stepsC_length, hlen]) (by
        rcases hS.2 with h0 | ⟨b', off', h1, _, h3⟩
        · subst h0; intro j u hj; simp at hj
        · cases h1
          intro j u hj
          rw [Addr.add_mid]
          exact steps_get h3 j u hj) (steps_one T) (by unfold maxLen; omega) (by omega) hb
      rw [Nat.zero_add, List.nil_append] at h2
      exact ⟨v', W', h1, h2, kept_grown (Kept.refl _ W) h3 (fun b hb => by cases hb)⟩
  obtain ⟨v', W', h1, h2, h3⟩ := key
  have hx : ∃ a p, v' = .slice a len p := by
    rcases h2.2 with ⟨k1, k2⟩ | ⟨g, cap, cur, k1, _⟩
    · exact ⟨none, 0, by rw [k1, k2]⟩
    · exact ⟨_, _, k1⟩
  obtain ⟨a, p, rfl⟩ := hx
  exact ⟨a, p, W', h1, h2, h3⟩
/-- One more step, out of a row of one. -/
theorem app_more {W : World} {B : Nat} {a : Option Addr} {len p : Nat} {T : List StV} (s : StV) {bb : Nat} (ho : W.ownsRow B 43 2 (.slice a len p) len (T.flatMap stC)) (hn : Holds W bb (stC s) 43) (hl : (len : Int) * 16 ≤ 140737488353280) (hb : B ≤ W.heap.size) :
    ∃ a2 p2 W', (Builtin.append_ #[22, 22] 22 #[.slice a len p, .slice (some ⟨bb, 0, none⟩) 1 1]).run Try.prog W = .ok (.slice a2 (len + 1) p2) W' ∧ W'.ownsRow B 43 2 (.slice a2 (len + 1) p2) (len + 1) ((T ++ [s]).flatMap stC) ∧
      Kept (fun z => (Value.slice a len p).ownBlock = some z) W W' := by
  obtain ⟨i0, hi, hz0, hz1, hz2⟩ := parts_ofD step_info
  obtain ⟨v', W', h1, h2, h3, _⟩ := run_append_own_wide (P := Try.prog) W B 22 22 43 i0 _ 2 16 Try.underlying22 hi hz0 hz1 hz2 rfl (by decide) _ len _ ho ⟨bb, 0, none⟩ 1 1 (stC s) rfl
    (fun j u hj => by rw [Addr.add_mid, Nat.zero_add]; exact hn.cell j u hj) (step_one s) (by unfold maxLen; omega) (by omega) hb
  have e : (T ++ [s]).flatMap stC = T.flatMap stC ++ stC s := by simp
  have hx : ∃ a p, v' = .slice a (len + 1) p := by
    rcases h2.2 with ⟨k1, k2⟩ | ⟨g, cap, cur, k1, _⟩
    · omega
    · exact ⟨_, _, k1⟩
  obtain ⟨a2, p2, rfl⟩ := hx
  exact ⟨a2, p2, W', h1, by rw [e]; exact h2, kept_grown (Kept.refl _ W) h3 (fun b hb => .inl hb)⟩
theorem own_ne_boxD {w : World} {B n : Nat} {e e' : TypeId} {sz : Nat} {v : Value} {X C : List Value} {g : Nat} (h : w.ownsRow B e sz v n X) (h' : Holds w g C e') (hne : e ≠ e') : ¬v.ownBlock = some g := by
  intro hg
  rcases h.2 with ⟨k1, _⟩ | ⟨a, cap, cur, k1, _, k3, _⟩
  · rw [k1] at hg; cases hg
  · rw [k1] at hg
    injection hg with hg
    have ea : a = g := hg
    rw [ea, show w.heap[g]? = some (.cells C.toArray e') from h'] at k3
    injection k3 with k3
    injection k3 with _ j4
    exact hne j4.symm
theorem owns_kept {W W' : World} {B : Nat} {v : Value} {n : Nat} {X : List Value} (h : W.ownsRow B 43 2 v n X) (hk : Kept (fun _ => False) W W') : W'.ownsRow B 43 2 v n X := owns_of_block h fun g hg => hk.block g (h.lt g hg).2 (fun f => f)
theorem holds_kept {W W' : World} {g : Nat} {C : List Value} {e : TypeId} (h : Holds W g C e) (hk : Kept (fun _ => False) W W') : Holds W' g C e := h.of_block (hk.block g h.lt (fun f => f))
/-- A definition's box whose two cells are stored. -/
theorem DBox.stored {w W : World} {cb : Nat} {a : Option Addr} {n p : Nat} {nm : DTxt} {T : List StV} (hk : Kept (fun _ => False) w W) (hc : Holds W cb [.string ⟨#[]⟩, .slice none 0 0] 24) (hcb : w.heap.size ≤ cb) (ho : W.ownsRow w.heap.size 43 2 (.slice a n p) n (T.flatMap stC)) (hl : T.length = n) (hf : ∀ m ∈ T, FitSt m)
    (hn : (n : Int) * 16 ≤ 140737488353280) (hnm : (nm.length : Int) ≤ 140737488351232) : DBox w ((W.setCell ⟨cb, 0, none⟩ (.string ⟨nm.toArray⟩)).setCell ⟨cb, 1, none⟩ (.slice a n p)) cb a n p (nm, T) ∧
      ((W.setCell ⟨cb, 0, none⟩ (.string ⟨nm.toArray⟩)).setCell ⟨cb, 1, none⟩ (.slice a n p)).ownsRow w.heap.size 43 2 (.slice a n p) n (T.flatMap stC) ∧ Kept (fun z => z = cb) W ((W.setCell ⟨cb, 0, none⟩ (.string ⟨nm.toArray⟩)).setCell ⟨cb, 1, none⟩ (.slice a n p)) := by
  have hks : Kept (fun z => z = cb) W ((W.setCell ⟨cb, 0, none⟩ (.string ⟨nm.toArray⟩)).setCell ⟨cb, 1, none⟩ (.slice a n p)) :=
    ((Kept.refl (fun z => z = cb) W).setCell (p := ⟨cb, 0, none⟩) rfl _).setCell (p := ⟨cb, 1, none⟩) rfl _
  have ho' := owns_of_block ho fun g hg => hks.block g (ho.lt g hg).2 (fun e => own_ne_boxD ho hc (by decide) (by rw [hg, e]))
  obtain ⟨a', p', he, h1, h2, h3, h4⟩ := owns_steps ho' hl hf
  cases he
  exact ⟨⟨hk.trans hks (fun z hz => .inr (by omega)), (Holds.set hc 0 (.string ⟨nm.toArray⟩)).set 1 (.slice a n p), h1, ⟨.inr h3, h2, hn, h4⟩, hnm⟩, ho', hks⟩
theorem DBox.past {w W W' : World} {X : Nat → Prop} {g : Nat} {ad : Option Addr} {len cap : Nat} {d : DefV} (h : DBox w W g ad len cap d) (h0 : StepsW w ad len d.2) (hk : Kept X W W') (hg : ¬X g) (hx : ∀ z, X z → w.heap.size ≤ z) : DBox w W' g ad len cap d := by
  have k := h.kept.trans hk (fun z f => .inr (hx z f))
  exact ⟨k, h.box.of_block (hk.block g h.box.lt hg), steps_kept h0 k, h.df.2⟩
end Go.Proofs.Ytgjblcjoglaldaa
