/- Mathematics of a crash: what it makes of the sectors, step by step. No program. -/
import Derived.Test.YtjdolimeibpacaaMid
namespace Go.Proofs.Pk
set_option maxRecDepth 10000

theorem sec_in (L : List (List UInt8)) (d : List UInt8) {k : Nat} (h : k < L.length) : L.getD k d = L[k] := by simp [List.getD, h]
theorem crashL_append (ks : List Int) (t b : Int) : ∀ (A : List (Nat × List UInt8)) (L : List (List UInt8)) (i : Nat) (x : Nat × List UInt8), crashL ks t b L i (A ++ [x]) = crashOne ks t b (crashL ks t b L i A) (i + A.length) x
  | [], L, i, x => rfl
  | a :: A, L, i, x => by
    rw [List.cons_append, crashL, crashL_append ks t b A, crashL, List.length_cons, show i + 1 + A.length = i + (A.length + 1) from by omega]
theorem crashL_take (ks : List Int) (t b : Int) (L : List (List UInt8)) (C : List (Nat × List UInt8)) (j : Nat) (h : j < C.length) :
    crashL ks t b L 0 (C.take (j + 1)) = crashOne ks t b (crashL ks t b L 0 (C.take j)) j C[j] := by
  rw [List.take_succ_eq_append_getElem h, crashL_append, List.length_take, Nat.zero_add, Nat.min_eq_left (by omega)]
theorem crashOne_length (ks : List Int) (t b : Int) (L : List (List UInt8)) (i : Nat) (x : Nat × List UInt8) : (crashOne ks t b L i x).length = L.length := by
  unfold crashOne; repeat' split
  all_goals simp
theorem crashL_length (ks : List Int) (t b : Int) : ∀ (C : List (Nat × List UInt8)) (L : List (List UInt8)) (i : Nat), (crashL ks t b L i C).length = L.length
  | [], _, _ => rfl
  | x :: C, L, i => by rw [crashL, crashL_length ks t b C, crashOne_length]
theorem tear_length (x y : List UInt8) (b : Int) (hx : x.length = 64) (hy : y.length = 64) : (x.take (min (max b 0) 64).toNat ++ y.drop (min (max b 0) 64).toNat).length = 64 := by
  rw [List.length_append, List.length_take, List.length_drop]; omega
theorem crashOne_64 (ks : List Int) (t b : Int) {L : List (List UInt8)} (i : Nat) {x : Nat × List UInt8} (hL : ∀ s ∈ L, s.length = 64) (hx : x.1 < L.length ∧ x.2.length = 64) : ∀ s ∈ crashOne ks t b L i x, s.length = 64 := by
  intro s hs
  unfold crashOne at hs
  split at hs
  · rcases List.mem_or_eq_of_mem_set hs with h | rfl
    · exact hL s h
    · refine tear_length _ _ b hx.2 ?_
      rw [sec_in _ _ hx.1]; exact hL _ (List.getElem_mem _)
  · split at hs
    · rcases List.mem_or_eq_of_mem_set hs with h | rfl
      · exact hL s h
      · exact hx.2
    · exact hL s hs
theorem crashL_64 (ks : List Int) (t b : Int) : ∀ (C : List (Nat × List UInt8)) (L : List (List UInt8)) (i : Nat), (∀ s ∈ L, s.length = 64) → (∀ x ∈ C, x.1 < L.length ∧ x.2.length = 64) → ∀ s ∈ crashL ks t b L i C, s.length = 64
  | [], _, _, h, _ => h
  | x :: C, L, i, h, hc => by
    rw [crashL]
    exact crashL_64 ks t b C _ _ (crashOne_64 ks t b i h (hc x (by simp))) (fun y hy => by rw [crashOne_length]; exact hc y (by simp [hy]))

/-- What no write speaks of stays. -/
theorem syncL_other (k : Nat) : ∀ (C : List (Nat × List UInt8)) (L : List (List UInt8)), (∀ x ∈ C, x.1 ≠ k) → (syncL L C)[k]? = L[k]?
  | [], _, _ => rfl
  | x :: C, L, h => by
    show (syncL (L.set x.1 x.2) C)[k]? = _
    rw [syncL_other k C _ (fun y hy => h y (by simp [hy])), List.getElem?_set_ne (h x (by simp))]
theorem crashOne_other (ks : List Int) (t b : Int) (k : Nat) (L : List (List UInt8)) (i : Nat) (x : Nat × List UInt8) (h : x.1 ≠ k) : (crashOne ks t b L i x)[k]? = L[k]? := by
  unfold crashOne; repeat' split
  all_goals first | rw [List.getElem?_set_ne h] | rfl
theorem crashL_other (ks : List Int) (t b : Int) (k : Nat) : ∀ (C : List (Nat × List UInt8)) (L : List (List UInt8)) (i : Nat), (∀ x ∈ C, x.1 ≠ k) → (crashL ks t b L i C)[k]? = L[k]?
  | [], _, _, _ => rfl
  | x :: C, L, i, h => by rw [crashL, crashL_other ks t b k C _ _ (fun y hy => h y (by simp [hy])), crashOne_other ks t b k L i x (h x (by simp))]

/-- Each sector that a write speaks of is seen anew. -/
def seeL (D M : List (List UInt8)) (C : List (Nat × List UInt8)) : List (List UInt8) := C.foldl (fun M x => M.set x.1 (D.getD x.1 [])) M
theorem seeL_length (D : List (List UInt8)) : ∀ (C : List (Nat × List UInt8)) (M : List (List UInt8)), (seeL D M C).length = M.length
  | [], _ => rfl
  | x :: C, M => by show (seeL D (M.set x.1 (D.getD x.1 [])) C).length = _; rw [seeL_length D C]; simp
theorem seeL_take (D M : List (List UInt8)) (C : List (Nat × List UInt8)) (j : Nat) (h : j < C.length) : seeL D M (C.take (j + 1)) = (seeL D M (C.take j)).set (C[j]).1 (D.getD (C[j]).1 []) := by
  rw [List.take_succ_eq_append_getElem h]; unfold seeL; rw [List.foldl_append]; rfl
theorem seeL_64 {D : List (List UInt8)} (hD : ∀ x ∈ D, x.length = 64) : ∀ (C : List (Nat × List UInt8)) (M : List (List UInt8)), (∀ x ∈ C, x.1 < D.length) → (∀ x ∈ M, x.length = 64) → ∀ x ∈ seeL D M C, x.length = 64
  | [], _, _, h => h
  | y :: C, M, hc, h => by
    refine seeL_64 hD C (M.set y.1 (D.getD y.1 [])) (fun x hx => hc x (by simp [hx])) (fun x hx => ?_)
    rcases List.mem_or_eq_of_mem_set hx with hx | rfl
    · exact h x hx
    · rw [sec_in _ _ (hc y (by simp))]; exact hD _ (List.getElem_mem _)
theorem seeL_get (D : List (List UInt8)) (k : Nat) (hk : k < D.length) : ∀ (C : List (Nat × List UInt8)) (M : List (List UInt8)), M.length = D.length → ((∃ x ∈ C, x.1 = k) ∨ M[k]? = D[k]?) → (seeL D M C)[k]? = D[k]?
  | [], M, _, h => by
    rcases h with ⟨x, hx, _⟩ | h
    · cases hx
    · exact h
  | y :: C, M, hl, h => by
    refine seeL_get D k hk C (M.set y.1 (D.getD y.1 [])) (by simpa using hl) ?_
    by_cases e : y.1 = k
    · right; subst e; rw [List.getElem?_set_self (by omega), sec_in _ _ hk, List.getElem?_eq_getElem hk]
    · rw [List.getElem?_set_ne e]
      rcases h with ⟨x, hx, hxk⟩ | h
      · rcases List.mem_cons.1 hx with rfl | hx
        · exact absurd hxk e
        · exact .inl ⟨x, hx, hxk⟩
      · exact .inr h
/-- Behind a crash the sectors are seen as they last. -/
theorem seeL_crash (ks : List Int) (t b : Int) (L : List (List UInt8)) (C : List (Nat × List UInt8)) : seeL (crashL ks t b L 0 C) (syncL L C) C = crashL ks t b L 0 C := by
  apply List.ext_getElem?
  intro k
  have hD := crashL_length ks t b C L 0
  by_cases hk : k < L.length
  · refine seeL_get _ k (by rw [hD]; exact hk) C _ (by rw [syncL_length, hD]) ?_
    by_cases h : ∃ x ∈ C, x.1 = k
    · exact .inl h
    · have hne : ∀ x ∈ C, x.1 ≠ k := fun x hx e => h ⟨x, hx, e⟩
      exact .inr (by rw [syncL_other k C L hne, crashL_other ks t b k C L 0 hne])
  · rw [List.getElem?_eq_none (by rw [seeL_length, syncL_length]; omega), List.getElem?_eq_none (by rw [hD]; omega)]

/-- Numbers that a slice of int holds. -/
def Ints (w : World) (ad : Option Addr) (len : Nat) (l : List Int) : Prop :=
  l.length = len ∧ (l = [] ∨ ∃ b off, ad = some ⟨b, off, none⟩ ∧ b < w.heap.size ∧ ∀ i (h : i < l.length), w.cell? ⟨b, off + i, none⟩ = some (.int .i64 l[i]))
def IntsOff (X : Nat → Prop) (ad : Option Addr) : Prop := ∀ b off, ad = some ⟨b, off, none⟩ → ¬X b
theorem Ints.kept {w w' : World} {ad : Option Addr} {len : Nat} {l : List Int} {X : Nat → Prop} (h : Ints w ad len l) (hk : Kept X w w') (hx : l = [] ∨ IntsOff X ad) : Ints w' ad len l := by
  refine ⟨h.1, ?_⟩
  rcases h.2 with h | ⟨b, off, h1, h2, h3⟩
  · exact .inl h
  · rcases hx with hx | hx
    · exact .inl hx
    · exact .inr ⟨b, off, h1, Nat.lt_of_lt_of_le h2 hk.size, fun i hi => by rw [hk.cell (p := ⟨b, off + i, none⟩) h2 (hx b off h1)]; exact h3 i hi⟩
theorem odd_iff (x : Int) : (x.tmod 2 = 0) ↔ (x % 2 = 0) := by
  have := Int.tmod_eq_emod_of_nonneg (a := x) (b := 2)
  have h := Int.dvd_iff_tmod_eq_zero (a := 2) (b := x)
  have h2 := Int.dvd_iff_emod_eq_zero (a := 2) (b := x)
  exact h.symm.trans h2

theorem Dsk.sync_ok {S : Dsk} (h : S.Ok) : S.sync.1.Ok := by
  unfold Dsk.sync
  split
  · exact h
  · exact ⟨by simp only [syncL_length]; exact h.few, syncL_64 h.sect (fun x hx => (h.cach x hx).2), by simp, h.fus⟩
theorem Dsk.setFuse_ok {S : Dsk} (h : S.Ok) (n : Int) (hn : n ≤ 9223372036854775807) : (S.setFuse n).Ok :=
  ⟨h.few, h.sect, h.cach, by unfold Dsk.setFuse; simp only []; omega⟩
theorem Dsk.crash_ok {S : Dsk} (h : S.Ok) (ks : List Int) (t b : Int) : (S.crash ks t b).Ok :=
  ⟨by simp only [Dsk.crash, crashL_length]; exact h.few, crashL_64 ks t b _ _ _ h.sect h.cach, by simp [Dsk.crash], by simp [Dsk.crash]⟩
theorem Dsk.read_len {S : Dsk} (h : S.Ok) (k : Int) (hc : (S.read k).2 = 0) : (S.read k).1.length = 64 := by
  unfold Dsk.read at *
  split at hc
  · cases hc
  · rename_i ho
    split at hc
    · cases hc
    · rename_i hk
      rw [if_neg ho, if_neg hk]
      obtain ⟨n, rfl⟩ := Int.eq_ofNat_of_zero_le (show 0 ≤ k by omega)
      have hn : n < S.L.length := by omega
      have e := syncL_get S.L n hn S.C.length S.C rfl
      have h64 := syncL_64 h.sect (fun x hx => (h.cach x hx).2) ((syncL S.L S.C)[n]'(by rw [syncL_length]; exact hn)) (List.getElem_mem _)
      rw [List.getElem?_eq_getElem (by rw [syncL_length]; exact hn)] at e
      rw [Option.some.inj e] at h64
      simpa [List.getD, hn] using h64

end Go.Proofs.Pk
