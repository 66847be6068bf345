/- The law MemOrder (layer 10): two tables and a row of entries in memory. -/
import Derived.Test.YtlmlldcpllagbaaNw10
namespace Go.Proofs.Ytlmlldcpllagbaa
open Go.RowKit Go.Proofs Go.Proofs.Pk
set_option maxRecDepth 10000

structure Ow (At : MmOf) (w1 wr : World) (ta tb : Nat) (v0 : Value) (L Ta Tb : List MEnt) (Xa Xb : Nat → Prop) : Prop where
  a : Mt At w1 wr ta Ta Xa
  b : Mt At w1 wr tb Tb Xb
  row : wr.ownsRow w1.heap.size 34 4 v0 L.length (cellsM L)
  apa : ∀ k, v0.ownBlock = some k → ¬Xa k
  apb : ∀ k, v0.ownBlock = some k → ¬Xb k
  ap : ∀ k, Xa k → ¬Xb k
theorem Ow.still {At : MmOf} (K : MmK At) {w1 wr w' : World} {ta tb : Nat} {v0 : Value} {L Ta Tb : List MEnt} {Xa Xb : Nat → Prop} (h : Ow At w1 wr ta tb v0 L Ta Tb Xa Xb) (hk : Kept (fun _ => False) wr w') : Ow At w1 w' ta tb v0 L Ta Tb Xa Xb :=
  ⟨h.a.still K hk, h.b.still K hk, owns_of_block h.row fun g hg => hk.block g (h.row.lt g hg).2 (fun f => f), h.apa, h.apb, h.ap⟩
theorem Ow.putA {At : MmOf} (K : MmK At) {w1 wr : World} {ta tb : Nat} {v0 : Value} {L Ta Tb : List MEnt} {Xa Xb : Nat → Prop} (h : Ow At w1 wr ta tb v0 L Ta Tb Xa Xb) (hl : Ta.length ≤ 200) (e : MEnt) (hf : FitN e.2.1) :
    Calls Try.prog 9 #[.pointer (some ⟨ta, 0, none⟩), .agg (entC e).toArray] wr fun r w' => r = .returned (errV 55 (putC Ta e)) ∧ ∃ X', Ow At w1 w' ta tb v0 L (putM Ta e) Tb X' Xb := by
  refine (h.a.put K hl e hf).mono ?_
  rintro r w' ⟨rfl, hk, X', h1, hg⟩
  refine ⟨rfl, X', h1, h.b.kept K hk (fun k hx => ⟨(K.lt h.a.sk k hx).1, h.ap k hx⟩), owns_of_block h.row fun g hv => hk.block g (h.row.lt g hv).2 (h.apa g hv), fun k hb hx => ?_, h.apb, fun k hx hy => ?_⟩
  · rcases hg k hx with h2 | h2
    · exact h.apa k hb h2
    · have := (h.row.lt k hb).2; omega
  · rcases hg k hx with h2 | h2
    · exact h.ap k h2 hy
    · have := (K.lt h.b.sk k hy).2; omega
theorem Ow.swap {At : MmOf} {w1 wr : World} {ta tb : Nat} {v0 : Value} {L Ta Tb : List MEnt} {Xa Xb : Nat → Prop} (h : Ow At w1 wr ta tb v0 L Ta Tb Xa Xb) : Ow At w1 wr tb ta v0 L Tb Ta Xb Xa := ⟨h.b, h.a, h.row, h.apb, h.apa, fun k hy hx => h.ap k hx hy⟩
theorem Ow.putB {At : MmOf} (K : MmK At) {w1 wr : World} {ta tb : Nat} {v0 : Value} {L Ta Tb : List MEnt} {Xa Xb : Nat → Prop} (h : Ow At w1 wr ta tb v0 L Ta Tb Xa Xb) (hl : Tb.length ≤ 200) (e : MEnt) (hf : FitN e.2.1) :
    Calls Try.prog 9 #[.pointer (some ⟨tb, 0, none⟩), .agg (entC e).toArray] wr fun r w' => r = .returned (errV 55 (putC Tb e)) ∧ ∃ X', Ow At w1 w' ta tb v0 L Ta (putM Tb e) Xa X' := by
  refine (h.swap.putA K hl e hf).mono ?_
  rintro r w' ⟨rfl, X', h1⟩
  exact ⟨rfl, X', h1.swap⟩
theorem Ow.rowOf {At : MmOf} (K : MmK At) {w1 wr : World} {ta tb : Nat} {v0 v : Value} {L M Ta Tb : List MEnt} {Xa Xb : Nat → Prop} {wp : World} (h : Ow At w1 wr ta tb v0 L Ta Tb Xa Xb) (hr : wr.ownsRow wp.heap.size 34 4 v M.length (cellsM M)) (hw : Ow At w1 wp ta tb v0 L Ta Tb Xa Xb) : Ow At w1 wr ta tb v M Ta Tb Xa Xb := by
  refine ⟨h.a, h.b, owns_base hr hw.a.below.size, fun k hb hx => ?_, fun k hb hx => ?_, h.ap⟩
  · have := (hr.lt k hb).1; have := (K.lt hw.a.sk k hx).2; omega
  · have := (hr.lt k hb).1; have := (K.lt hw.b.sk k hx).2; omega
/-- A row of its own reads as a list. -/
theorem owns_rows {w : World} {B : Nat} {ad : Option Addr} {cap : Nat} {T : List MEnt} (h : w.ownsRow B 34 4 (.slice ad T.length cap) T.length (cellsM T)) : RowsM w ad T.length T := by
  refine ⟨rfl, ?_⟩
  by_cases h0 : T = []
  · exact .inl h0
  · have hpos : 0 < T.length := List.length_pos_iff.2 h0
    obtain ⟨g, cap', e, hg, _, _⟩ := rows_range h 0 hpos
    refine .inr ⟨g, by injection e, hg, fun i hi => ?_⟩
    obtain ⟨g', cap2, e2, _, _, hr⟩ := rows_range h i hi
    rw [e] at e2
    cases e2
    exact hr
theorem right_fit {e : MEnt} (h : rightM e = true) : FitN e.2.1 := by
  unfold rightM at h; simp only [decide_eq_true_eq] at h; unfold FitN; omega

end Go.Proofs.Ytlmlldcpllagbaa
