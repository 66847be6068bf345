/- What the laws of layer 5 share: an owned slice of runs reads as runs; which runs are right. -/
import Derived.Test.YtcjomigngmmjkaaEx5
import Derived.Test.YtcjomigngmmjkaaSpcL
import Derived.BigQuiet
import Derived.SliceStrings
namespace Go.Proofs.Ytcjomigngmmjkaa
open Go.RowKit Go.Proofs Go.Proofs.Pk
set_option maxRecDepth 10000

theorem own_runs {w : World} {B : Nat} {v : Value} {n : Nat} {L : List (Int × Int)} (h : w.ownsRow B 32 2 v n (L.flatMap runV)) (hf : ∀ r ∈ L, Fit r.1 ∧ Fit r.2) :
    L.length = n ∧ ∃ ad cap, v = .slice ad n cap ∧ Flat ad ∧ n ≤ cap ∧ Runs w ad n L := by
  have hl : L.length = n := by have := h.1; rw [flatV_length] at this; omega
  refine ⟨hl, ?_⟩
  rcases h.2 with ⟨rfl, h0⟩ | ⟨g, cap, cur, rfl, _, h2, h3, _⟩
  · refine ⟨none, 0, by rw [h0], .inl rfl, by omega, hl, .inl (List.length_eq_zero_iff.1 (by omega))⟩
  · refine ⟨_, cap, rfl, .inr ⟨_, _, rfl⟩, h3, hl, .inr ⟨g, 0, rfl, (Array.getElem?_eq_some_iff.1 h2).1, fun i hi => ⟨fun t u hu => ?_, hf _ (List.getElem_mem hi)⟩⟩⟩
    have ht : t < 2 := by
      rcases Nat.lt_or_ge t 2 with h | h
      · exact h
      · rw [List.getElem?_eq_none (by simpa [runV] using h)] at hu; cases hu
    rw [show 0 + i * 2 + t = i * 2 + t from by omega, h.cellAt _ (by omega), flatV_get L i t hi ht]
    exact hu

theorem takenO_some {T : Int} {l : List (Int × Int)} {t : List Bool} (h : takenO T l = some t) : ∃ N : Nat, T = (N : Int) ∧ N ≤ 4000 ∧ l.length ≤ 200 ∧ takeAll N l (List.replicate N false) = some t ∧ t.length = N := by
  unfold takenO at h
  split at h
  · cases h
  · rename_i hb
    obtain ⟨N, rfl⟩ := Int.eq_ofNat_of_zero_le (show 0 ≤ T by omega)
    rw [Int.toNat_natCast] at h
    exact ⟨N, rfl, by omega, by omega, h, (takeAll_some _ _ _ _ (by simp) h).2.2.2.1⟩
theorem takenO_nat {N : Nat} {l : List (Int × Int)} (h1 : N ≤ 4000) (h2 : l.length ≤ 200) : takenO (N : Int) l = takeAll N l (List.replicate N false) := by
  unfold takenO
  rw [if_neg (by omega), Int.toNat_natCast]
theorem takenO_perm {T : Int} {l l' : List (Int × Int)} (h : l.Perm l') : takenO T l = takenO T l' := by
  unfold takenO
  rw [h.length_eq, takeAll_perm h]
theorem room_sum {T : Int} {l : List (Int × Int)} {t : List Bool} (h : takenO T l = some t) : (roomL (freeL t) : Int) + (((l.map natR).map (·.2)).sum : Nat) = T := by
  obtain ⟨N, rfl, _, _, h1, _⟩ := takenO_some h
  have := takeAll_count _ _ _ _ (by simp) h1
  rw [List.count_replicate_self] at this
  have h4 := freeL_sum t
  unfold roomL
  omega
theorem fitO_lt (o : Option (List (Nat × Nat))) (n : Int) : ((fitO o n).2 = 0 ∨ (fitO o n).2 = 1) ∨ (fitO o n).2 = 7 := by
  unfold fitO
  cases o with
  | none => exact .inl (.inr rfl)
  | some l =>
    simp only
    split
    · exact .inl (.inr rfl)
    · induction l with
      | nil => exact .inr rfl
      | cons r l ih => unfold fitL; split
                       · exact .inl (.inl rfl)
                       · exact ih
theorem runs_sub {w : World} {ad : Option Addr} {len : Nat} {l : List (Int × Int)} (h : Runs w ad len l) (h0 : len ≠ 0) : ∃ x l', l = x :: l' := by
  cases l with
  | nil => exact absurd h.1.symm h0
  | cons x l' => exact ⟨x, l', rfl⟩
theorem Runs.pop' {w : World} {ad : Option Addr} {n : Nat} {x : Int × Int} {l : List (Int × Int)} (h : Runs w ad n (x :: l)) :
    0 < n ∧ ∃ b off, ad = some ⟨b, off, none⟩ ∧ b < w.heap.size ∧ w.cell? ⟨b, off, none⟩ = some (.int .i64 x.1) ∧ w.cell? ⟨b, off + 1, none⟩ = some (.int .i64 x.2) ∧ Runs w (some ⟨b, off + 2, none⟩) (n - 1) l := by
  obtain ⟨m, rfl⟩ : ∃ m, n = m + 1 := ⟨n - 1, by have := h.1; simp at this; omega⟩
  exact ⟨by omega, h.pop⟩
theorem errV_form (c : Nat) : errV 47 c = .nilIface ∨ ∃ k : Int, errV 47 c = .iface 47 (.int .i64 k) := by
  unfold errV
  split
  · exact .inl rfl
  · exact .inr ⟨_, rfl⟩

end Go.Proofs.Ytcjomigngmmjkaa
