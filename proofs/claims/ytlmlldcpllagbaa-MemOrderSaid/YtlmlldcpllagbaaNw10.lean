/- The law MemNewest (layer 10): the table, the entries that are given, and those that were taken, in memory. -/
import Derived.Test.YtlmlldcpllagbaaRt10
namespace Go.Proofs.Ytlmlldcpllagbaa
open Go.RowKit Go.Proofs Go.Proofs.Pk
set_option maxRecDepth 10000

structure Nw (At : MmOf) (w1 wr : World) (t : Nat) (v0 vi : Value) (L D T : List MEnt) (X : Nat → Prop) : Prop where
  mt : Mt At w1 wr t T X
  row : wr.ownsRow w1.heap.size 34 4 v0 L.length (cellsM L)
  rin : wr.ownsRow w1.heap.size 34 4 vi D.length (cellsM D)
  ap0 : ∀ b, v0.ownBlock = some b → ¬X b
  apn : ∀ b, vi.ownBlock = some b → ¬X b
  ap2 : ∀ b, vi.ownBlock = some b → v0.ownBlock ≠ some b
theorem Nw.still {At : MmOf} (K : MmK At) {w1 wr w' : World} {t : Nat} {v0 vi : Value} {L D T : List MEnt} {X : Nat → Prop} (h : Nw At w1 wr t v0 vi L D T X) (hk : Kept (fun _ => False) wr w') : Nw At w1 w' t v0 vi L D T X :=
  ⟨h.mt.still K hk, owns_of_block h.row fun g hg => hk.block g (h.row.lt g hg).2 (fun f => f), owns_of_block h.rin fun g hg => hk.block g (h.rin.lt g hg).2 (fun f => f), h.ap0, h.apn, h.ap2⟩
theorem Nw.put {At : MmOf} (K : MmK At) {w1 wr : World} {t : Nat} {v0 vi : Value} {L D T : List MEnt} {X : Nat → Prop} (h : Nw At w1 wr t v0 vi L D T X) (hl : T.length ≤ 200) (e : MEnt) (hf : FitN e.2.1) :
    Calls Try.prog 9 #[.pointer (some ⟨t, 0, none⟩), .agg (entC e).toArray] wr fun r w' => r = .returned (errV 55 (putC T e)) ∧ ∃ X', Nw At w1 w' t v0 vi L D (putM T e) X' := by
  refine (h.mt.put K hl e hf).mono ?_
  rintro r w' ⟨rfl, hk, X', h1, hg⟩
  refine ⟨rfl, X', h1, owns_of_block h.row fun g hv => hk.block g (h.row.lt g hv).2 (h.ap0 g hv), owns_of_block h.rin fun g hv => hk.block g (h.rin.lt g hv).2 (h.apn g hv), fun b hb hx => ?_, fun b hb hx => ?_, h.ap2⟩
  · rcases hg b hx with h2 | h2
    · exact h.ap0 b hb h2
    · have := (h.row.lt b hb).2; omega
  · rcases hg b hx with h2 | h2
    · exact h.apn b hb h2
    · have := (h.rin.lt b hb).2; omega
theorem Nw.app {At : MmOf} (K : MmK At) {w1 wr w4 : World} {o : Obj} {t : Nat} {v0 vi v' : Value} {L D T : List MEnt} {X : Nat → Prop} (h : Nw At w1 wr t v0 vi L D T X) (e : MEnt)
    (hown : w4.ownsRow w1.heap.size 34 4 v' (D.length + 1) (cellsM D ++ entC e)) (hgr : (wr.alloc o).grownBy w4 vi.ownBlock) (hpl : v'.ownBlock = vi.ownBlock ∨ v'.ownBlock = some (wr.heap.size + 1)) : Nw At w1 w4 t v0 v' L (D ++ [e]) T X := by
  have hk : Kept (fun b => vi.ownBlock = some b) wr w4 := kept_grown ((Kept.refl _ wr).alloc o) hgr (fun b hb => .inl hb)
  refine ⟨h.mt.kept K hk (fun b hb => ⟨(h.rin.lt b hb).1, h.apn b hb⟩), owns_of_block h.row fun g hv => hk.block g (h.row.lt g hv).2 (fun hi => h.ap2 g hi hv), ?_, h.ap0, fun b hb hx => ?_, fun b hb h0 => ?_⟩
  · refine owns_lenM hown (by simp) ?_
    rw [cellsM_append]; simp [cellsM]
  · rcases hpl with e1 | e1
    · exact h.apn b (e1 ▸ hb) hx
    · rw [e1] at hb; cases hb; have := (K.lt h.mt.sk _ hx).2; omega
  · rcases hpl with e1 | e1
    · exact h.ap2 b (e1 ▸ hb) h0
    · rw [e1] at hb; cases hb; have := (h.row.lt _ h0).2; omega
/-- An entry of a row of its own. -/
theorem owns_S {w : World} {B : Nat} {v : Value} {T : List MEnt} (h : w.ownsRow B 34 4 v T.length (cellsM T)) (i : Nat) (hi : i < T.length) : ∃ g cap, v = .slice (some ⟨g, 0, none⟩) T.length cap ∧ g < w.heap.size ∧ SEnt g (i * 4) T[i] w := by
  obtain ⟨g, cap, h1, h2, _, h3⟩ := rows_range h i hi
  exact ⟨g, cap, h1, h2, SEnt.mk h3⟩
theorem owns_slice {w : World} {B n : Nat} {v : Value} {xs : List Value} {e : TypeId} {s : Nat} (h : w.ownsRow B e s v n xs) : ∃ ad cap, v = .slice ad n cap := by
  rcases h.2 with ⟨rfl, rfl⟩ | ⟨g, cap, cur, rfl, _⟩
  · exact ⟨none, 0, rfl⟩
  · exact ⟨_, cap, rfl⟩
/-- The best of those that were taken, up to a place. -/
def BestI (D : List MEnt) (k : Txt) (s : Int) (j : Nat) (b : Int) : Prop :=
  (b = -1 ∧ ∀ m (hm : m < D.length), m < j → ¬(D[m].1 = k ∧ D[m].2.1 ≤ s)) ∨
  ∃ n : Nat, b = n ∧ ∃ hn : n < D.length, n < j ∧ (D[n].1 = k ∧ D[n].2.1 ≤ s) ∧ ∀ m (hm : m < D.length), m < j → D[m].1 = k → D[m].2.1 ≤ s → D[m].2.1 ≤ D[n].2.1
theorem BestI.zero (D : List MEnt) (k : Txt) (s : Int) : BestI D k s 0 (-1) := .inl ⟨rfl, fun m _ h => by omega⟩
theorem BestI.skip {D : List MEnt} {k : Txt} {s : Int} {j : Nat} {b : Int} (h : BestI D k s j b) (hj : j < D.length) (hn : ¬(D[j].1 = k ∧ D[j].2.1 ≤ s)) : BestI D k s (j + 1) b := by
  rcases h with ⟨h1, h2⟩ | ⟨n, h1, h2, h3, h4, h5⟩
  · refine .inl ⟨h1, fun m hm hlt => ?_⟩
    by_cases e : m = j
    · subst e; exact hn
    · exact h2 m hm (by omega)
  · refine .inr ⟨n, h1, h2, by omega, h4, fun m hm hlt hk hs => ?_⟩
    by_cases e : m = j
    · subst e; exact absurd ⟨hk, hs⟩ hn
    · exact h5 m hm (by omega) hk hs
theorem BestI.first {D : List MEnt} {k : Txt} {s : Int} {j : Nat} (h : BestI D k s j (-1)) (hj : j < D.length) (hc : D[j].1 = k ∧ D[j].2.1 ≤ s) : BestI D k s (j + 1) (j : Int) := by
  rcases h with ⟨_, h2⟩ | ⟨n, h1, _⟩
  · refine .inr ⟨j, rfl, hj, by omega, hc, fun m hm hlt hk hs => ?_⟩
    by_cases e : m = j
    · subst e; exact Int.le_refl _
    · exact absurd ⟨hk, hs⟩ (h2 m hm (by omega))
  · omega
theorem BestI.take {D : List MEnt} {k : Txt} {s : Int} {j n : Nat} (h : BestI D k s j (n : Int)) (hj : j < D.length) (hn : n < D.length) (hc : D[j].1 = k ∧ D[j].2.1 ≤ s) (hg : D[n].2.1 < D[j].2.1) : BestI D k s (j + 1) (j : Int) := by
  rcases h with ⟨h1, _⟩ | ⟨n', h1, h2, h3, h4, h5⟩
  · omega
  · obtain rfl : n' = n := by omega
    refine .inr ⟨j, rfl, hj, by omega, hc, fun m hm hlt hk hs => ?_⟩
    by_cases e : m = j
    · subst e; exact Int.le_refl _
    · have := h5 m hm (by omega) hk hs; omega
theorem BestI.keep {D : List MEnt} {k : Txt} {s : Int} {j n : Nat} (h : BestI D k s j (n : Int)) (hj : j < D.length) (hn : n < D.length) (hg : ¬D[n].2.1 < D[j].2.1) : BestI D k s (j + 1) (n : Int) := by
  rcases h with ⟨h1, _⟩ | ⟨n', h1, h2, h3, h4, h5⟩
  · omega
  · obtain rfl : n' = n := by omega
    refine .inr ⟨n', rfl, h2, by omega, h4, fun m hm hlt hk hs => ?_⟩
    by_cases e : m = j
    · subst e; omega
    · exact h5 m hm (by omega) hk hs
theorem BestI.end {D T : List MEnt} {k : Txt} {s : Int} {b : Int} (hT : MmOk T) (hm : ∀ x, x ∈ T ↔ x ∈ D) (h : BestI D k s D.length b) : (b = -1 ∧ getM T k s = (zeroM, false)) ∨ ∃ n : Nat, b = n ∧ ∃ hn : n < D.length, getM T k s = (D[n], true) := by
  rcases h with ⟨h1, h2⟩ | ⟨n, h1, h2, h3, h4, h5⟩
  · refine .inl ⟨h1, ?_⟩
    unfold getM
    rw [find_no fun y hy hk hs => ?_]
    obtain ⟨i, hi, rfl⟩ := List.getElem_of_mem ((hm y).1 hy)
    exact h2 i hi hi ⟨hk, hs⟩
  · refine .inr ⟨n, h1, h2, ?_⟩
    unfold getM
    rw [find_best hT ((hm _).2 (List.getElem_mem h2)) h4.1 h4.2 fun y hy hk hs => ?_]
    obtain ⟨i, hi, rfl⟩ := List.getElem_of_mem ((hm y).1 hy)
    exact h5 i hi hi hk hs

end Go.Proofs.Ytlmlldcpllagbaa
