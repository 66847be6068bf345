/- Layer 14's landed program: slices.Clone and slices.Sort of numbers; rightNumbers. -/
import Derived.Test.YtjdolimeibpacaaGreatOw14
import Derived.Test.YtjdolimeibpacaaGreatVw14
import Derived.Test.YtjdolimeibpacaaGreatShelfV
namespace Go.Proofs.YtjdolimeibpacaaGreat
open Go.RowKit Go.Proofs Go.Proofs.Pk
set_option maxRecDepth 10000

theorem cloneInts (ad : Option Addr) (len cap : Nat) (l : List Int) (w : World) (h : Ints w ad len l) (hn : ad = none → len = 0 ∧ cap = 0) (hb : (len : Int) * 8 ≤ 140737488355328) :
    Calls Tryz.prog 41 #[.slice ad len cap] w fun e w' => ∃ v, e = .returned v ∧ w'.ownsRow w.heap.size 3 1 v len (l.map intC) ∧ Below w.heap.size w w' := by
  have hl := h.1
  cases ad with
  | none =>
    obtain ⟨rfl, rfl⟩ := hn rfl
    have : l = [] := List.length_eq_zero_iff.1 hl
    subst this
    refine Calls.mono (AnyG.slices_Clone_int_nil Tryz.cloneInt 0 0 w) ?_
    rintro e w' ⟨rfl, rfl⟩
    exact ⟨_, rfl, World.ownsRow_nil _ _ _ _, Below.refl _ _⟩
  | some a =>
    rcases h.2 with h0 | ⟨b, off, h1, h2, h3⟩
    · subst h0
      obtain rfl : len = 0 := by simpa using hl.symm
      refine Calls.mono (AnyG.slices_Clone_int_zero Tryz.cloneInt a cap w) ?_
      rintro e w' ⟨v, rfl, ho, _, hb⟩
      exact ⟨v, rfl, ho, hb⟩
    · injection h1 with h1
      subst h1
      refine Calls.mono (AnyG.slices_Clone_int Tryz.cloneInt b off len cap l w (by omega) (by omega) (fun j hj => ?_)) ?_
      · rw [h3 j hj, List.getD_eq_getElem?_getD, List.getElem?_eq_getElem hj]; rfl
      · rintro e w' ⟨v, rfl, ho, _, hb⟩
        rw [List.take_of_length_le (by omega)] at ho
        exact ⟨v, rfl, ho, hb⟩

theorem sortInts (B : Nat) (v : Value) (l : List Int) (w : World) (h : w.ownsRow B 3 1 v l.length (l.map intC)) (hlen : l.length < 4611686018427387904) :
    Calls Tryz.prog 42 #[v] w fun e w' => e = .returned (.tuple #[]) ∧ ∃ ad cap L, v = .slice ad l.length cap ∧ Ints w' ad l.length L ∧ L.Perm l ∧ L.Pairwise (· ≤ ·) ∧ Below B w w' := by
  rcases h.2 with ⟨h1, h2⟩ | ⟨g, cap, cur, h1, h2, h3, h4, h5, h6, h7⟩
  · have : l = [] := List.length_eq_zero_iff.1 h2
    subst this
    subst h1
    refine Calls.mono (AnyG.slices_Sort_int_none Tryz.sortInt none 0 w) ?_
    rintro e w' ⟨rfl, rfl⟩
    exact ⟨rfl, none, 0, [], rfl, ⟨rfl, .inl rfl⟩, List.Perm.refl _, List.Pairwise.nil, Below.refl _ _⟩
  · subst h1
    have hgl : g < w.heap.size := (Array.getElem?_eq_some_iff.1 h3).1
    have hH : Go.Sort.Holds (Value.int .i64) w g 0 l.toArray := by
      intro j hj
      have hj' : j < l.length := by simpa using hj
      have h9 := World.ownsRow.cells h (g := g) rfl j (intC l[j]) (by rw [List.getElem?_map, List.getElem?_eq_getElem hj']; rfl)
      rw [Addr.add_mid] at h9
      refine ⟨?_, by have := h.frozenAt (0 + j); simpa using this⟩
      rw [h9, getElem!_pos l.toArray j hj]; simp [intC]
    have hle : ∀ a b : Int, decide (a ≤ b) = true ∨ decide (b ≤ a) = true := fun a b => by simp only [decide_eq_true_eq]; omega
    have htr : ∀ a b c : Int, decide (a ≤ b) = true → decide (b ≤ c) = true → decide (a ≤ c) = true := fun a b c h k => by simp only [decide_eq_true_eq] at *; omega
    have hperm : (l.mergeSort fun x y => decide (x ≤ y)).Perm l := List.mergeSort_perm _ _
    have hsort : (l.mergeSort fun x y => decide (x ≤ y)).Pairwise (· ≤ ·) := (List.pairwise_mergeSort (le := fun x y : Int => decide (x ≤ y)) (fun a b c h k => htr a b c h k) (fun a b => by have := hle a b; simpa using this) l).imp (fun h => of_decide_eq_true h)
    have hlen2 : (l.mergeSort fun x y => decide (x ≤ y)).length = l.length := (List.mergeSort_perm _ _).length_eq
    refine Calls.mono (AnyG.slices_Sort_int Tryz.sortInt g 0 cap l w hH hgl hlen) ?_
    rintro e w' ⟨rfl, n, os, rfl⟩
    generalize (l.mergeSort fun x y => decide (x ≤ y)) = L at *
    have hHL : Go.Sort.Holds (Value.int .i64) (Go.Sort.putRow (Value.int .i64) (Go.Sort.ahead w n) g 0 L.toArray) g 0 L.toArray := Go.Sort.holds_putRow _ _ _ _ _ _ (Go.Sort.holds_ahead _ _ n _ _ _ hH) (by simp [hlen2])
    have hgp : g < (Go.Sort.putRow (Value.int .i64) (Go.Sort.ahead w n) g 0 L.toArray).heap.size := by simpa using hgl
    refine ⟨rfl, some ⟨g, 0, none⟩, cap, L, rfl, ⟨hlen2, .inr ⟨g, 0, rfl, ?_, fun i hi => ?_⟩⟩, hperm, hsort, ?_⟩
    · simp [Go.Sort.grow]; omega
    · rw [Go.Sort.cell?_grow _ _ _ hgp, (hHL i (by simpa using hi)).1, getElem!_pos L.toArray i (by simpa using hi)]; simp
    · refine ⟨rfl, rfl, rfl, by simp [Go.Sort.grow], fun k hk => ?_⟩
      show ((w.heap.modify g _) ++ os)[k]? = _
      rw [Array.getElem?_append_left (by simp; omega), Array.getElem?_modify, if_neg (by omega)]

theorem pred_num (least : Int) (B : Nat) (w : World) (hB : B < w.heap.size) (hcell : w.cell? ⟨B, 0, none⟩ = some (.int .i64 least)) :
    PredAt Tryz.prog 64 #[.pointer (some ⟨B, 0, none⟩)] (Value.int .i64) (fun x => !decide (least ≤ x ∧ x ≤ 9007199254740991)) w := fun W x hb => by
  have hc : W.cell? ⟨B, 0, none⟩ = some (.int .i64 least) := (hb.cell (p := ⟨B, 0, none⟩) hB).trans hcell
  have H : ∀ w, _ := fun w => within14 x least 9007199254740991 w
  show Calls Tryz.prog 64 #[.int .i64 x, .pointer (some ⟨B, 0, none⟩)] W fun e w' => e = .returned (.bool (!decide (least ≤ x ∧ x ≤ 9007199254740991))) ∧ ∃ q, w' = W.drewN q
  generalize decide (least ≤ x ∧ x ≤ 9007199254740991) = b at H ⊢
  go_enter Tryz.func64, Tryz.ntmps64
  go_wp2_with (go_at_call 43; refine (H _).mono ?_; rintro e w' ⟨rfl, rfl⟩)
  go_ret
  exact ⟨rfl, 0, rfl⟩

set_option maxHeartbeats 1000000 in
theorem numbers14 (ad : Option Addr) (len cap : Nat) (l : List Int) (least : Int) (w : World) (h : Ints w ad len l) (hlen : len ≤ 9223372036854775807) :
    Calls Tryz.prog 46 #[.slice ad len cap, .int .i64 least] w fun e w' => e = .returned (.bool (l.all fun x => decide (least ≤ x ∧ x ≤ 9007199254740991))) ∧ Kept (fun _ => False) w w' := by
  have hl := h.1
  have hcon : Calls Tryz.prog 63 #[.slice ad len cap, .func (.func 64) #[] #[.pointer (some ⟨w.heap.size, 0, none⟩)]] (w.alloc (.cells #[.int .i64 least] 3)) fun e w' =>
      e = .returned (.bool (!(l.all fun x => decide (least ≤ x ∧ x ≤ 9007199254740991)))) ∧ ∃ q, w' = (w.alloc (.cells #[.int .i64 least] 3)).drewN q := by
    rw [List.not_all_eq_any_not]
    rcases h.2 with h0 | ⟨b, off, h1, h2, h3⟩
    · subst h0
      obtain rfl : len = 0 := by simpa using hl.symm
      refine Calls.mono (AnyE.slices_ContainsFunc_empty Tryz.hasInt ad cap _ _) ?_
      rintro e w' ⟨rfl, rfl⟩
      exact ⟨rfl, 0, rfl⟩
    · subst h1
      have eg : ∀ args w, (callFunc 64 args).run Tryz.prog w = .ok (.enter 64 args) w := enters_of Tryz.func64 (by kernel_rfl) rfl
      have := AnyE.slices_ContainsFunc Tryz.hasInt (Value.int .i64) (fun x => !decide (least ≤ x ∧ x ≤ 9007199254740991)) 64 #[.pointer (some ⟨w.heap.size, 0, none⟩)] eg b off len cap l (w.alloc (.cells #[.int .i64 least] 3))
        (pred_num least w.heap.size _ (by simp) (by simp)) (by omega) hlen (fun j hj => by
          refine Lib.cell?_alloc_some _ ?_
          rw [h3 j hj, getElem!_pos l j hj])
      rw [List.take_of_length_le (by omega)] at this
      exact this
  generalize (l.all fun x => decide (least ≤ x ∧ x ≤ 9007199254740991)) = r at hcon ⊢
  go_enter Tryz.func46, Tryz.ntmps46
  go_wp2_with (go_at_call 63; refine hcon.mono ?_; rintro e w' ⟨rfl, q, rfl⟩)
  go_ret
  exact ⟨ret_bool (by simp), ((Kept.refl _ _).alloc _).drewN q⟩

end Go.Proofs.YtjdolimeibpacaaGreat
