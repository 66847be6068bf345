/- slices.Clone and slices.SortFunc at runs (package space), in words of layer 5: the shelf's contracts laid at this program, and its closure walked. -/
import Derived.Test.YtbfdhonmmoikdaaSpcB
import Derived.Test.YtbfdhonmmoikdaaSlfM
import Derived.Test.YtbfdhonmmoikdaaShelfG
namespace Go.Proofs.Ytbfdhonmmoikdaa
open Go.RowKit Go.Proofs Go.Proofs.Pk
set_option maxRecDepth 10000

/-- Where a slice lies, if anywhere: in a block of cells. -/
def Flat (ad : Option Addr) : Prop := ad = none ∨ ∃ b off, ad = some ⟨b, off, none⟩

theorem flatV_length : ∀ l : List (Int × Int), (l.flatMap runV).length = l.length * 2
  | [] => rfl
  | x :: l => by have := flatV_length l; simp only [List.flatMap_cons, List.length_append, List.length_cons, runV, List.length_nil] at *; omega
theorem flatV_at : ∀ (l : List (Int × Int)) (j : Nat) (u : Value), (l.flatMap runV)[j]? = some u → ∃ (i t : Nat) (hi : i < l.length), j = i * 2 + t ∧ t < 2 ∧ (runV l[i])[t]? = some u
  | [], j, u, h => by simp at h
  | x :: l, 0, u, h => ⟨0, 0, by simp, rfl, by omega, by simpa [runV] using h⟩
  | x :: l, 1, u, h => ⟨0, 1, by simp, rfl, by omega, by simpa [runV] using h⟩
  | x :: l, j + 2, u, h => by
    obtain ⟨i, t, hi, h1, h2, h3⟩ := flatV_at l j u (by simpa [runV] using h)
    exact ⟨i + 1, t, by simpa using hi, by omega, h2, by simpa using h3⟩
theorem flatV_get : ∀ (l : List (Int × Int)) (i t : Nat) (hi : i < l.length), t < 2 → (l.flatMap runV)[i * 2 + t]? = (runV l[i])[t]?
  | x :: l, 0, 0, _, _ => rfl
  | x :: l, 0, 1, _, _ => rfl
  | x :: l, i + 1, t, hi, ht => by
    rw [show (i + 1) * 2 + t = (i * 2 + t) + 2 from by omega]
    have := flatV_get l i t (by simpa using hi) ht
    simpa [runV] using this

theorem cloneRuns (ad : Option Addr) (len cap : Nat) (l : List (Int × Int)) (w : World) (h : Runs w ad len l) (hp : Flat ad) (hlen : len ≤ 200) :
    Calls Try.prog 39 #[.slice ad len cap] w fun e w' => ∃ ad' cap', e = .returned (.slice ad' len cap') ∧ Flat ad' ∧ w'.ownsRow w.heap.size 68 2 (.slice ad' len cap') len (l.flatMap runV) ∧ Below w.heap.size w w' := by
  obtain ⟨iR, hiR, hzR, hsR, hbR⟩ := info_parts run_info
  have hl := h.1
  rcases hp with rfl | ⟨b, off, rfl⟩
  · have hnil : l = [] := by
      rcases h.2 with h0 | ⟨b, off, h0, _⟩
      · exact h0
      · cases h0
    subst hnil
    obtain rfl : len = 0 := by simpa using hl.symm
    refine Calls.mono (AnyE.slices_Clone_nil Try.cloneRun 0 cap w) ?_
    rintro e w' ⟨rfl, rfl⟩
    exact ⟨none, 0, rfl, .inl rfl, World.ownsRow_nil _ _ _ _, Below.refl _ _⟩
  · refine Calls.mono (AnyE.slices_Clone Try.cloneRun iR _ 2 16 hiR hzR hsR hbR rfl (by omega) Try.sizeOf68 b off len cap (l.flatMap runV) w (by rw [flatV_length, hl]) (by unfold maxLen; omega) (by omega) ?_ ?_) ?_
    · intro j u hj
      obtain ⟨i, t, hi, rfl, ht, hu⟩ := flatV_at l j u hj
      rcases h.2 with h0 | ⟨b', off', h0, _, h3⟩
      · rw [h0] at hi; simp at hi
      · cases h0
        have := (h3 i hi).1 t u hu
        rwa [Nat.add_assoc] at this
    · intro u hu
      obtain ⟨x, _, hx⟩ := List.mem_flatMap.1 hu
      simp only [runV, List.mem_cons, List.not_mem_nil, or_false] at hx
      rcases hx with rfl | rfl <;> rfl
    · rintro e w' ⟨v, rfl, ho, _, hb⟩
      rcases ho.2 with ⟨rfl, h0⟩ | ⟨g, c, cur, rfl, h1⟩
      · exact ⟨none, 0, by rw [h0], .inl rfl, by rw [h0] at ho ⊢; exact ho, hb⟩
      · exact ⟨_, c, rfl, .inr ⟨_, _, rfl⟩, ho, hb⟩

/-- How the closure orders two runs. -/
def cmpR (x y : Int × Int) : Int := Lib.compareInt x.1 y.1
theorem cmpR_lt (x y : Int × Int) : ltOf cmpR x y = decide (x.1 < y.1) := by
  unfold ltOf cmpR Lib.compareInt
  by_cases h1 : x.1 < y.1
  · simp [h1]
  · by_cases h2 : y.1 < x.1 <;> simp [h1, h2]
theorem cmpR_swo : Go.Sort.SWO (ltOf cmpR) where
  irrefl x := by rw [cmpR_lt]; simp
  trans x y z h1 h2 := by rw [cmpR_lt] at *; simp at *; omega
  ntrans x y z h1 h2 := by rw [cmpR_lt] at *; simp at *; omega

set_option maxHeartbeats 1000000 in
theorem closureP (x y : Int × Int) (W : World) : Calls Try.prog 41 #[.agg #[.int .i64 x.1, .int .i64 x.2], .agg #[.int .i64 y.1, .int .i64 y.2]] W fun e w' => e = .returned (.int .i64 (cmpR x y)) ∧ ∃ q os', w' = Go.Sort.grow (W.drewN q) os' := by
  have hcon : ∀ W', Calls Try.prog 42 #[.int .i64 x.1, .int .i64 y.1] W' fun e w' => e = .returned (.int .i64 (cmpR x y)) ∧ w' = W' := fun W' => AnyG.cmp_Compare_int Try.cmpInt x.1 y.1 W'
  generalize cmpR x y = r at hcon ⊢
  go_enter Try.func41, Try.ntmps41
  go_wp2_with (go_at_call 42; refine (hcon _).mono ?_; rintro e w' ⟨rfl, rfl⟩)
  go_ret
  exact ⟨rfl, 0, _, by rw [Go.Sort.alloc_eq_grow, Go.Sort.alloc_eq_grow, Go.Sort.grow_grow]; rfl⟩

theorem sortRuns (B : Nat) (ad : Option Addr) (len cap : Nat) (l : List (Int × Int)) (w : World) (h : w.ownsRow B 68 2 (.slice ad len cap) len (l.flatMap runV)) (hp : Flat ad) (hl : l.length = len) (hf : ∀ r ∈ l, Fit r.1 ∧ Fit r.2) (hlen : len ≤ 200) :
    Calls Try.prog 40 #[.slice ad len cap, .func (.func 41) #[] #[]] w fun e w' =>
      e = .returned (.tuple #[]) ∧ ∃ L : List (Int × Int), L.Perm l ∧ L.Pairwise (fun r s => r.1 ≤ s.1) ∧ Runs w' ad len L ∧ Below B w w' := by
  by_cases h0 : len = 0
  · subst h0
    have hnil : l = [] := List.length_eq_zero_iff.1 hl
    subst hnil
    refine Calls.mono (AnyF.slices_SortFunc_none Try.sortRun ad cap _ w) ?_
    rintro e w' ⟨rfl, rfl⟩
    exact ⟨rfl, [], List.Perm.refl _, List.Pairwise.nil, ⟨rfl, .inl rfl⟩, Below.refl _ _⟩
  · obtain ⟨g, c, hv, hgB, _⟩ := h.form (by omega)
    injection hv with hv1 hv2 hv3
    subst hv1
    subst hv3
    have hgl : g < w.heap.size := by
      rcases h.2 with ⟨h1, _⟩ | ⟨g', c', cur, h1, _, h2, _⟩
      · cases h1
      · cases h1; exact (Array.getElem?_eq_some_iff.1 h2).1
    have hsz : l.toArray.size = len := by simpa using hl
    have hH : Go.Sort.HoldsK runV 2 w g 0 l.toArray := by
      intro j hj
      rw [Go.Sort.size_flatK, hsz] at hj
      refine ⟨?_, by have := h.frozenAt (0 + j); simpa using this⟩
      rw [Nat.zero_add, h.cellAt _ (by omega)]
      have hi : j / 2 < l.length := by omega
      have h1 := flatV_get l (j / 2) (j % 2) hi (by omega)
      rw [show j / 2 * 2 + j % 2 = j from by omega] at h1
      rw [h1, id, Go.Sort.get_flatK _ _ _ _ (by rw [hsz]; exact hj)]
      have h2 : l.toArray[j / 2]! = l[j / 2] := by rw [getElem!_pos _ _ (by rw [hsz]; omega)]; simp
      rw [h2]
      have h3 : j % 2 = 0 ∨ j % 2 = 1 := by omega
      rcases h3 with h3 | h3 <;> rw [h3] <;> rfl
    have hcmp : CmpLays Try.prog 41 #[] runV 2 cmpR g 0 l.toArray.size w := fun _ _ _ _ x y => closureP x y _
    have eg : ∀ args w, (callFunc 41 args).run Try.prog w = .ok (.enter 41 args) w := enters_of Try.func41 (by kernel_rfl) rfl
    have HC := AnyQ.slices_SortFunc Try.sortRun 2 Try.isAgg68 Try.sizeOf68 runV (fun _ => rfl) (fun x v hv => by simp [runV] at hv; rcases hv with rfl | rfl <;> rfl) cmpR cmpR_swo 41 #[] g 0 cap l.toArray w eg hcmp hH hgl (by omega)
    rw [hsz] at HC
    refine Calls.mono HC ?_
    rintro e w' ⟨rfl, d, n, os, ⟨hd1, _, hd3⟩, hs, rfl⟩
    rw [hsz] at hd1
    have hdl : d.toList.length = len := by simpa using hd1
    have hperm : d.toList.Perm l := by
      have e1 : d.extract 0 len = d := by rw [← hd1]; exact Array.extract_size
      have e2 : l.toArray.extract 0 len = l.toArray := by rw [← hsz]; exact Array.extract_size
      rw [e1, e2] at hd3
      simpa using hd3
    have hHK := holdsK_sortWorldK_c runV 2 w g 0 l.toArray d n os hH hgl (by rw [hsz]; exact hd1)
    refine ⟨rfl, d.toList, hperm, ?_, ⟨hdl, .inr ⟨g, 0, rfl, ?_, fun i hi => ⟨fun t u hu => ?_, hf _ (hperm.mem_iff.1 (List.getElem_mem hi))⟩⟩⟩, ?_⟩
    · rw [List.pairwise_iff_getElem]
      intro i j hi hj hij
      have := hs i j (Nat.zero_le _) hij (by omega)
      rw [cmpR_lt, getElem!_pos d i (by omega), getElem!_pos d j (by omega)] at this
      simp at this
      simpa using this
    · exact Nat.lt_of_lt_of_le hgl (size_sortWorldK_c runV 2 w g 0 n d os)
    · have ht : t < 2 := by
        rcases Nat.lt_or_ge t 2 with h | h
        · exact h
        · rw [List.getElem?_eq_none (by simpa [runV] using h)] at hu; cases hu
      have h1 := (hHK.cell (i := i) (c := t) (by omega) ht).1
      rw [h1, getElem!_pos d i (by omega)]
      have h3 : t = 0 ∨ t = 1 := by omega
      rcases h3 with rfl | rfl
      · simpa [runV] using hu
      · simpa [runV] using hu
    · refine ⟨rfl, rfl, rfl, size_sortWorldK_c runV 2 w g 0 n d os, fun k hk => ?_⟩
      show (w.heap.modify g _ ++ os)[k]? = _
      rw [Array.getElem?_append_left (by simp; omega), Array.getElem?_modify, if_neg (by omega)]

end Go.Proofs.Ytbfdhonmmoikdaa
