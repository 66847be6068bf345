/- One table of the program's in a law: its entries put by put. -/
import Derived.Test.YtlmlldcpllagbaaEx10
import Derived.Test.YtlmlldcpllagbaaOrd
namespace Go.Proofs.Ytlmlldcpllagbaa
open Go.RowKit Go.Proofs Go.Proofs.Pk
set_option maxRecDepth 10000

/-- An entry at a place in memory, whole and cell by cell. -/
def SEnt (b o : Nat) (x : MEnt) (w : World) : Prop :=
  w.rangeAt b o (entC x) ∧ w.cell? ⟨b, o, none⟩ = some (.string ⟨x.1.toArray⟩) ∧ w.cell? ⟨b, o + 1, none⟩ = some (.int .i64 x.2.1) ∧ w.cell? ⟨b, o + 2, none⟩ = some (.bool x.2.2.1) ∧ w.cell? ⟨b, o + 3, none⟩ = some (.string ⟨x.2.2.2.toArray⟩)
theorem SEnt.mk {b o : Nat} {x : MEnt} {w : World} (h : w.rangeAt b o (entC x)) : SEnt b o x w := ⟨h, h 0 _ rfl, h 1 _ rfl, h 2 _ rfl, h 3 _ rfl⟩
theorem SEnt.kept {b o : Nat} {x : MEnt} {w w' : World} (h : SEnt b o x w) (hk : Kept (fun _ => False) w w') (hb : b < w.heap.size) : SEnt b o x w' := SEnt.mk (range_kept h.1 hk hb)
theorem entsW_S {w : World} {ad : Option Addr} {len : Nat} {l : List MEnt} (h : EntsW w ad len l) (i : Nat) (hi : i < len) : ∃ b off, ad = some ⟨b, off, none⟩ ∧ b < w.heap.size ∧ ∃ h' : i < l.length, FitN (l[i]).2.1 ∧ ∀ w', Below w.heap.size w w' → SEnt b (off + i * 4) l[i] w' := by
  obtain ⟨b, off, h1, h2, h3, h4, h5⟩ := entsW_all h i hi
  exact ⟨b, off, h1, h2, h3, h4, fun w' hb => SEnt.mk (h5 w' hb)⟩

structure Mt (At : MmOf) (w1 wr : World) (t : Nat) (T : List MEnt) (X : Nat → Prop) : Prop where
  sk : At wr w1.heap.size t T X
  below : Below w1.heap.size w1 wr
theorem Mt.kept {At : MmOf} (K : MmK At) {w1 wr w' : World} {t : Nat} {T : List MEnt} {X Y : Nat → Prop} (h : Mt At w1 wr t T X) (hk : Kept Y wr w') (hY : ∀ k, Y k → w1.heap.size ≤ k ∧ ¬X k) : Mt At w1 w' t T X :=
  ⟨K.kept h.sk hk (fun k hx hy => (hY k hy).2 hx), h.below.trans (hk.below h.below.size (fun k hy => (hY k hy).1))⟩
theorem Mt.still {At : MmOf} (K : MmK At) {w1 wr w' : World} {t : Nat} {T : List MEnt} {X : Nat → Prop} (h : Mt At w1 wr t T X) (hk : Kept (fun _ => False) wr w') : Mt At w1 w' t T X := h.kept K hk (fun _ hf => hf.elim)
theorem Mt.put {At : MmOf} (K : MmK At) {w1 wr : World} {t : Nat} {T : List MEnt} {X : Nat → Prop} (h : Mt At w1 wr t T X) (hl : T.length ≤ 200) (e : MEnt) (hf : FitN e.2.1) :
    Calls Try.prog 9 #[.pointer (some ⟨t, 0, none⟩), .agg (entC e).toArray] wr fun r w' => r = .returned (errV 55 (putC T e)) ∧ Kept X wr w' ∧ ∃ X', Mt At w1 w' t (putM T e) X' ∧ Grows wr X X' := by
  refine (K.put h.sk hl e hf).mono ?_
  rintro r w' ⟨rfl, X', hs, hg, hk⟩
  exact ⟨rfl, hk, X', ⟨hs, h.below.trans (hk.below h.below.size (fun k hx => (K.lt h.sk k hx).1))⟩, hg⟩
theorem Mt.new {At : MmOf} (K : MmK At) {w w1 : World} (hb : Below w.heap.size w w1) {ad : Option Addr} {len cap : Nat} {hs : List Int} (hi : Ints w ad len hs) (h1 : Fit64 hs) (h2 : len ≤ cap) (h3 : (len : Int) * 8 ≤ 140737488351232) (h4 : ad = none → len = 0 ∧ cap = 0) :
    Calls Try.prog 8 #[.slice ad len cap] w1 fun e w' => ∃ t X, e = .returned (.pointer (some ⟨t, 0, none⟩)) ∧ Mt At w1 w' t [] X ∧ Kept (fun _ => False) w1 w' ∧ ∀ k, X k → w1.heap.size ≤ k := by
  have hi1 : Ints w1 ad len hs := ⟨hi.1, hi.2.elim .inl fun ⟨b, off, g1, g2, g3⟩ => .inr ⟨b, off, g1, Nat.lt_of_lt_of_le g2 hb.size, fun i hi => (hb.cell (p := ⟨b, off + i, none⟩) g2).trans (g3 i hi)⟩⟩
  refine (K.new w1 w1.heap.size ad len cap hs (Nat.le_refl _) hi1 h1 h2 h3 h4).mono ?_
  rintro e w' ⟨t, X, rfl, h, hx, hk⟩
  exact ⟨t, X, rfl, ⟨h, hk.below (Nat.le_refl _) (fun _ hf => hf.elim)⟩, hk, hx⟩
theorem put_len_le (T : List MEnt) (e : MEnt) {j : Nat} (hl : T.length ≤ j) : (putM T e).length ≤ j + 1 := by
  rw [put_length]; split <;> omega
theorem putC_cases (T : List MEnt) (e : MEnt) : putC T e = 0 ∨ putC T e = 9 ∨ putC T e = 1 := by
  unfold putC; repeat' split
  all_goals omega
theorem putC_right {T : List MEnt} {e : MEnt} : rightM e = (putC T e == 0 || putC T e == 9) := by
  unfold putC
  cases h : rightM e with
  | true => cases h2 : hasM T e <;> rfl
  | false => rfl
theorem putM_not {T : List MEnt} {e : MEnt} (h : putC T e ≠ 0) : putM T e = T := by unfold putM; rw [if_neg h]

end Go.Proofs.Ytlmlldcpllagbaa
