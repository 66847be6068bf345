/- Layer 14's landed program: what Apply's two appends make. -/
import Derived.Test.YtjdolimeibpacaaGreatVd14
import Derived.Test.YtjdolimeibpacaaGreatOrd
namespace Go.Proofs.Pk
section
variable {P : Program} {ops : Array Oper} {Q : Exit → Act → World → Prop} {md : Region.Mode} {S : World → Prop} {z : Nat}
/-- Two may come up, i or j; each goes its own way on. -/
theorem wpAnyU_either {i j : Nat} {oi oj : Oper} {fuel : Nat} {listed : Array Bool} {a : Act} {w : World} (di dj : Tmp) (hi : ops[i]? = some oi) (hj : ops[j]? = some oj) (hdi : oi.dst = some di) (hdj : oj.dst = some dj)
    (hr : Region.ready md ops listed = [i, j]) (hgi : oi.guard = none) (hgj : oj.guard = none)
    (h1 : ∃ vi w1, (execOp a.eval oi).run P w = .ok (.value vi) w1 ∧ S w1 ∧ wpAnyU P md ops Q S z fuel (listed.setIfInBounds i true) (a.put (some di) vi) w1)
    (h2 : ∃ vj w1, (execOp a.eval oj).run P w = .ok (.value vj) w1 ∧ S w1 ∧ wpAnyU P md ops Q S z fuel (listed.setIfInBounds j true) (a.put (some dj) vj) w1) :
    wpAnyU P md ops Q S z (fuel + 1) listed a w := by
  refine ⟨fun h0 => absurd (hr ▸ h0) (by simp), ?_⟩
  rw [hr]
  intro k hk
  have hk2 : k = i ∨ k = j := by simpa using hk
  have wi : ∀ b : Act, Region.wanted oi (yielded ops b.tmps) = true := fun b => by simp [Region.wanted, hgi]
  have wj : ∀ b : Act, Region.wanted oj (yielded ops b.tmps) = true := fun b => by simp [Region.wanted, hgj]
  rcases hk2 with rfl | rfl
  · obtain ⟨vi, w1, e1, s1, x⟩ := h1
    unfold wpOp
    simp only [hi, wi, if_true, Oper.wp, e1, Oper.upon, hdi]
    exact .inl ⟨fun _ => s1, x⟩
  · obtain ⟨vj, w1, e1, s1, x⟩ := h2
    unfold wpOp
    simp only [hj, wj, if_true, Oper.wp, e1, Oper.upon, hdj]
    exact .inl ⟨fun _ => s1, x⟩
end
end Go.Proofs.Pk
namespace Go.Proofs.YtjdolimeibpacaaGreat
open Go.RowKit Go.Proofs Go.Proofs.Pk
set_option maxRecDepth 10000

theorem own_ne_own {w : World} {B B' n n' : Nat} {e e' : TypeId} {sz sz' : Nat} {v v' : Value} {X X' : List Value} (h : w.ownsRow B e sz v n X) (h' : w.ownsRow B' e' sz' v' n' X') (hne : e ≠ e') (g : Nat) (hg : v.ownBlock = some g) : ¬v'.ownBlock = some g := by
  intro hg'
  rcases h.2 with ⟨k1, _⟩ | ⟨a, cap, cur, k1, _, k3, _⟩
  · rw [k1] at hg; cases hg
  · rcases h'.2 with ⟨j1, _⟩ | ⟨b, cap', cur', j1, _, j3, _⟩
    · rw [j1] at hg'; cases hg'
    · rw [k1] at hg
      rw [j1] at hg'
      injection hg with hg
      injection hg' with hg'
      have ea : a = g := hg
      have eb : b = g := hg'
      rw [ea] at k3
      rw [eb, k3] at j3
      injection j3 with j3
      injection j3 with _ j4
      exact hne j4
theorem own_ne_box {w : World} {B n : Nat} {e e' : TypeId} {sz : Nat} {v : Value} {X C : List Value} {g : Nat} (h : w.ownsRow B e sz v n X) (h' : Holds w g C e') (hne : e ≠ e') : ¬v.ownBlock = some g := by
  intro hg
  rcases h.2 with ⟨k1, _⟩ | ⟨a, cap, cur, k1, _, k3, _⟩
  · rw [k1] at hg; cases hg
  · rw [k1] at hg
    injection hg with hg
    have ea : a = g := hg
    rw [ea, show w.heap[g]? = some (.cells C.toArray e') from h'] at k3
    injection k3 with k3
    injection k3 with _ j4
    exact hne j4.symm

theorem appMetas (W : World) (B : Nat) (v : Value) (n : Nat) (L : List MetaV) (ho : W.ownsRow B 45 5 v n (L.flatMap metaC)) (hn : n ≤ 200) (bd : Option Addr) (bl bc : Nat) (A : List MetaV) (hA : MetasW W bd bl A) (hB : BndM bd bl bc) (hf : ∀ m ∈ L, FitMV m) (hl : L.length = n) (hb : B ≤ W.heap.size) :
    ∃ a p W', (Builtin.append_ #[22, 22] 22 #[v, .slice bd bl bc]).run Tryz.prog W = .ok (.slice a (n + bl) p) W' ∧ W'.ownsRow B 45 5 (.slice a (n + bl) p) (n + bl) ((L ++ A).flatMap metaC) ∧ Kept (fun k => v.ownBlock = some k) W W' := by
  obtain ⟨i0, hi, hz0, hz1, hz2⟩ := parts_of meta_info
  have hAl := hA.1
  have key : ∃ v' W', (Builtin.append_ #[22, 22] 22 #[v, .slice bd bl bc]).run Tryz.prog W = .ok v' W' ∧ W'.ownsRow B 45 5 v' (n + bl) ((L ++ A).flatMap metaC) ∧ Kept (fun k => v.ownBlock = some k) W W' := by
    obtain ⟨hfl, hlc, hbig, hno⟩ := hB
    rcases hfl with rfl | ⟨b, off, rfl⟩
    · obtain ⟨rfl, rfl⟩ := hno rfl
      have : A = [] := List.length_eq_zero_iff.1 hAl
      subst this
      refine ⟨v, W, run_append_owned_none (P := Tryz.prog) (w := W) B 22 22 45 i0 5 Tryz.underlying22 hi v n _ ho, by simpa using ho, Kept.refl _ _⟩
    · obtain ⟨v', W', h1, h2, h3, _⟩ := run_append_own_wide (P := Tryz.prog) W B 22 22 45 i0 _ 5 56 Tryz.underlying22 hi hz0 hz1 hz2 rfl (by decide) v n _ ho ⟨b, off, none⟩ bl bc (A.flatMap metaC) (by rw [metasC_length, hAl]) (by
        rcases hA.2 with h0 | ⟨b', off', h1, _, h3⟩
        · subst h0; intro j u hj; simp at hj
        · cases h1
          intro j u hj
          rw [Addr.add_lit]
          exact metas_get h3 j u hj) (metas_one A) (by unfold maxLen; omega) (by omega) hb
      exact ⟨v', W', h1, by rw [List.flatMap_append]; exact h2, kept_grown (Kept.refl _ W) h3 (fun b hb => .inl hb)⟩
  obtain ⟨v', W', h1, h2, h3⟩ := key
  have hx : ∃ a p, v' = .slice a (n + bl) p := by
    rcases h2.2 with ⟨k1, k2⟩ | ⟨g, cap, cur, k1, _⟩
    · exact ⟨none, 0, by rw [k1, k2]⟩
    · exact ⟨_, _, k1⟩
  obtain ⟨a, p, rfl⟩ := hx
  exact ⟨a, p, W', h1, h2, h3⟩
theorem appInts (W : World) (B : Nat) (v : Value) (n : Nat) (L : List Int) (ho : W.ownsRow B 3 1 v n (L.map intC)) (hn : n ≤ 20) (bd : Option Addr) (bl bc : Nat) (A : List Int) (hA : Ints W bd bl A) (hB : BndI bd bl bc A) (hl : L.length = n) (hb : B ≤ W.heap.size) :
    ∃ a p W', (Builtin.append_ #[23, 23] 23 #[v, .slice bd bl bc]).run Tryz.prog W = .ok (.slice a (n + bl) p) W' ∧ W'.ownsRow B 3 1 (.slice a (n + bl) p) (n + bl) ((L ++ A).map intC) ∧ Kept (fun k => v.ownBlock = some k) W W' := by
  obtain ⟨i0, hi, hz0, hz1, hz2⟩ := parts_of int_info
  have hAl := hA.1
  have key : ∃ v' W', (Builtin.append_ #[23, 23] 23 #[v, .slice bd bl bc]).run Tryz.prog W = .ok v' W' ∧ W'.ownsRow B 3 1 v' (n + bl) ((L ++ A).map intC) ∧ Kept (fun k => v.ownBlock = some k) W W' := by
    obtain ⟨hfl, hlc, hbig, hno⟩ := hB
    cases bd with
    | none =>
      obtain ⟨rfl, rfl⟩ := hno rfl
      have : A = [] := List.length_eq_zero_iff.1 hAl
      subst this
      refine ⟨v, W, run_append_owned_none (P := Tryz.prog) (w := W) B 23 23 3 i0 1 Tryz.underlying23 hi v n _ ho, by simpa using ho, Kept.refl _ _⟩
    | some a =>
      obtain ⟨v', W', h1, h2, h3, _⟩ := run_append_own_wide (P := Tryz.prog) W B 23 23 3 i0 _ 1 8 Tryz.underlying23 hi hz0 hz1 hz2 rfl (by decide) v n _ ho a bl bc (A.map intC) (by rw [List.length_map, hAl]; omega) (by
        rcases hA.2 with h0 | ⟨b', off', h1, _, h3⟩
        · subst h0; intro j u hj; simp at hj
        · cases h1
          intro j u hj
          have hj' : j < A.length := by have := (List.getElem?_eq_some_iff.1 hj).1; simpa using this
          rw [List.getElem?_map, List.getElem?_eq_getElem hj'] at hj
          rw [Addr.add_lit, h3 j hj']
          exact hj) (fun u hu => by obtain ⟨x, _, rfl⟩ := List.mem_map.1 hu; rfl) (by unfold maxLen; omega) (by omega) hb
      exact ⟨v', W', h1, by rw [List.map_append]; exact h2, kept_grown (Kept.refl _ W) h3 (fun b hb => .inl hb)⟩
  obtain ⟨v', W', h1, h2, h3⟩ := key
  have hx : ∃ a p, v' = .slice a (n + bl) p := by
    rcases h2.2 with ⟨k1, k2⟩ | ⟨g, cap, cur, k1, _⟩
    · exact ⟨none, 0, by rw [k1, k2]⟩
    · exact ⟨_, _, k1⟩
  obtain ⟨a, p, rfl⟩ := hx
  exact ⟨a, p, W', h1, h2, h3⟩

/-- The version that Apply builds, in its box. -/
structure NxW (W : World) (nb B : Nat) (T : List MetaV) (l : List Int) (mx : Int) (a1 : Option Addr) (n1 p1 : Nat) (a2 : Option Addr) (n2 p2 : Nat) : Prop where
  box : Holds W nb [.slice a1 n1 p1, .slice a2 n2 p2, .int .i64 mx] 41
  off : B ≤ nb
  ownT : W.ownsRow B 45 5 (.slice a1 n1 p1) n1 (T.flatMap metaC)
  ownL : W.ownsRow B 3 1 (.slice a2 n2 p2) n2 (l.map intC)
  lenT : T.length = n1
  lenL : l.length = n2
theorem NxW.kept {W W' : World} {nb B : Nat} {T : List MetaV} {l : List Int} {mx : Int} {a1 : Option Addr} {n1 p1 : Nat} {a2 : Option Addr} {n2 p2 : Nat} (h : NxW W nb B T l mx a1 n1 p1 a2 n2 p2) (hk : Kept (fun _ => False) W W') : NxW W' nb B T l mx a1 n1 p1 a2 n2 p2 :=
  ⟨Holds.of_block h.box (hk.block _ (Holds.lt h.box) (fun f => f)), h.off, owns_of_block h.ownT (fun g hg => hk.block g (h.ownT.lt g hg).2 (fun f => f)), owns_of_block h.ownL (fun g hg => hk.block g (h.ownL.lt g hg).2 (fun f => f)), h.lenT, h.lenL⟩
theorem NxW.store {W : World} {nb B : Nat} {T : List MetaV} {l : List Int} {a1 : Option Addr} {n1 p1 : Nat} {a2 : Option Addr} {n2 p2 : Nat} (mx : Int) (hb : Holds W nb [.slice none 0 0, .slice none 0 0, .int .i64 0] 41) (hB : B ≤ nb)
    (h1 : W.ownsRow B 45 5 (.slice a1 n1 p1) n1 (T.flatMap metaC)) (h2 : W.ownsRow B 3 1 (.slice a2 n2 p2) n2 (l.map intC)) (h3 : T.length = n1) (h4 : l.length = n2) :
    NxW (((W.setCell ⟨nb, 0, none⟩ (.slice a1 n1 p1)).setCell ⟨nb, 1, none⟩ (.slice a2 n2 p2)).setCell ⟨nb, 2, none⟩ (.int .i64 mx)) nb B T l mx a1 n1 p1 a2 n2 p2 ∧ Kept (fun k => k = nb) W (((W.setCell ⟨nb, 0, none⟩ (.slice a1 n1 p1)).setCell ⟨nb, 1, none⟩ (.slice a2 n2 p2)).setCell ⟨nb, 2, none⟩ (.int .i64 mx)) := by
  have hk : Kept (fun k => k = nb) W (((W.setCell ⟨nb, 0, none⟩ (.slice a1 n1 p1)).setCell ⟨nb, 1, none⟩ (.slice a2 n2 p2)).setCell ⟨nb, 2, none⟩ (.int .i64 mx)) :=
    (((Kept.refl (fun k => k = nb) W).setCell (p := ⟨nb, 0, none⟩) rfl _).setCell (p := ⟨nb, 1, none⟩) rfl _).setCell (p := ⟨nb, 2, none⟩) rfl _
  refine ⟨⟨((Holds.set hb 0 (.slice a1 n1 p1)).set 1 (.slice a2 n2 p2)).set 2 (.int .i64 mx), hB, owns_of_block h1 (fun g hg => hk.block g (h1.lt g hg).2 (fun e => own_ne_box h1 hb (by decide) (by rw [hg, e]))), owns_of_block h2 (fun g hg => hk.block g (h2.lt g hg).2 (fun e => own_ne_box h2 hb (by decide) (by rw [hg, e]))), h3, h4⟩, hk⟩

theorem NxW.x {W : World} {nb B : Nat} {T : List MetaV} {l : List Int} {mx : Int} {a1 : Option Addr} {n1 p1 : Nat} {a2 : Option Addr} {n2 p2 : Nat} (h : NxW W nb B T l mx a1 n1 p1 a2 n2 p2) (hT : ∀ m ∈ T, FitMV m) (hL : ∀ x ∈ l, FitV x) (b1 : (n1 : Int) * 56 ≤ 140737488375328) (b2 : (n2 : Int) * 8 ≤ 140737488355328) :
    VerX W a1 n1 p1 a2 n2 p2 T l := by
  obtain ⟨ad, cap, e1, hM, _⟩ := owns_metas h.ownT h.lenT hT
  cases e1
  obtain ⟨ad, cap, e2, hI, _, hn⟩ := owns_ints h.ownL h.lenL
  cases e2
  exact ⟨hM, hI, hT, hL, b1, b2, hn⟩

end Go.Proofs.YtjdolimeibpacaaGreat
