/- Layer 14's landed program: slices.Clone, ContainsFunc and SortFunc of tables' descriptions. -/
import Derived.Test.YtjdolimeibpacaaGreatVs14
namespace Go.Proofs.YtjdolimeibpacaaGreat
open Go.RowKit Go.Proofs Go.Proofs.Pk
set_option maxRecDepth 10000

theorem metas_get {w : World} {b off : Nat} {T : List MetaV} (h : ∀ i (h : i < T.length), MetaAt w b (off + i * 5) T[i]) : ∀ j u, (T.flatMap metaC)[j]? = some u → w.cell? ⟨b, off + j, none⟩ = some u := by
  intro j u hj
  have hl := metasC_length T
  have hjl : j < T.length * 5 := by rw [← hl]; exact (List.getElem?_eq_some_iff.1 hj).1
  have hi : j / 5 < T.length := by omega
  have ht : j % 5 < (metaC T[j / 5]).length := by show j % 5 < 5; omega
  have h1 := metasC_get T (j / 5) hi (j % 5) _ (List.getElem?_eq_getElem ht)
  rw [show j / 5 * 5 + j % 5 = j from by omega, hj] at h1
  injection h1 with h1
  have h2 := (h (j / 5) hi).row (j % 5) u (by rw [List.getElem?_eq_getElem ht, ← h1])
  rw [show off + j / 5 * 5 + j % 5 = off + j from by omega] at h2
  exact h2
theorem metas_one (T : List MetaV) : ∀ u ∈ T.flatMap metaC, u.oneCell' = true := fun u hu => by
  obtain ⟨m, _, hm⟩ := List.mem_flatMap.1 hu
  exact meta_one m u hm

theorem pred_table (w : World) : PredBelow Tryz.prog 48 #[] (fun x : MetaV => .agg (metaC x).toArray) (fun x => !metaOk x) w := fun W x hb => by
  have H : ∀ w, _ := fun w => table14 x w
  show Calls Tryz.prog 48 #[.agg #[.int .i64 x.1, .int .i64 x.2.1, .string ⟨x.2.2.1.toArray⟩, .string ⟨x.2.2.2.1.toArray⟩, .int .i64 x.2.2.2.2]] W fun e w' => e = .returned (.bool (!metaOk x)) ∧ Below w.heap.size w w'
  have H2 : ∀ w, Calls Tryz.prog 44 #[.agg #[.int .i64 x.1, .int .i64 x.2.1, .string ⟨x.2.2.1.toArray⟩, .string ⟨x.2.2.2.1.toArray⟩, .int .i64 x.2.2.2.2]] w fun e w' => e = .returned (.bool (metaOk x)) ∧ Kept (fun _ => False) w w' := H
  clear H
  generalize metaOk x = r at H2 ⊢
  go_enter Tryz.func48, Tryz.ntmps48
  go_wp2_with (go_at_call 44; refine (H2 _).mono ?_; rintro e w' ⟨rfl, hk⟩)
  go_ret
  have hk2 := ((Kept.refl (fun _ => False) W).alloc _).trans hk (fun _ f => f.elim)
  exact ⟨rfl, hb.trans (hk2.below hb.size (fun _ f => f.elim))⟩

theorem noneIdx (ad : Option Addr) (cap : Nat) (fv : Value) (w : World) : Calls Tryz.prog 65 #[.slice ad 0 cap, fv] w fun e w' => e = .returned (.int .i64 (-1)) ∧ w' = w := by
  go_enter Tryz.func65, Tryz.ntmps65
  go_wp2
  go_loopg [5, 8] 0 (fun _ _ s8 wr => s8 = .int .i64 0 ∧ wr = w)
  case atStart => exact ⟨rfl, rfl⟩
  case round =>
    obtain ⟨rfl, rfl⟩ := hrel
    go_wp2
    go_ret
    exact ⟨rfl, rfl⟩
theorem noneBad (ad : Option Addr) (cap : Nat) (fv : Value) (w : World) : Calls Tryz.prog 47 #[.slice ad 0 cap, fv] w fun e w' => e = .returned (.bool false) ∧ w' = w := by
  go_enter Tryz.func47, Tryz.ntmps47
  go_wp2_with (go_at_call 65; refine (noneIdx ad cap fv _).mono ?_; rintro e w' ⟨rfl, rfl⟩)
  go_ret
  exact ⟨rfl, rfl⟩

theorem anyBad (ad : Option Addr) (len cap : Nat) (T : List MetaV) (w : World) (h : MetasW w ad len T) (hlen : len ≤ 9223372036854775807) :
    Calls Tryz.prog 47 #[.slice ad len cap, .func (.func 48) #[] #[]] w fun e w' => e = .returned (.bool (!T.all metaOk)) ∧ Kept (fun _ => False) w w' := by
  have hl := h.1
  rw [List.not_all_eq_any_not]
  rcases h.2 with h0 | ⟨b, off, h1, h2, h3⟩
  · subst h0
    obtain rfl : len = 0 := by simpa using hl.symm
    refine (noneBad ad cap _ w).mono ?_
    rintro e w' ⟨rfl, rfl⟩
    exact ⟨rfl, Kept.refl _ _⟩
  · subst h1
    have eg : ∀ args w, (callFunc 48 args).run Tryz.prog w = .ok (.enter 48 args) w := enters_of Tryz.func48 (by kernel_rfl) rfl
    have HC := AnyQ.slices_ContainsFunc Tryz.hasMeta 5 Tryz.isAgg45 Tryz.sizeOf45 metaC (fun _ => rfl) (fun x => !metaOk x) 48 #[] eg b off len cap T w (pred_table w) (by omega) hlen h2 (fun j hj i v hv => by
      have := (h3 j hj).row i v (by rw [getElem!_pos T j hj] at hv; exact hv)
      exact this)
    rw [List.take_of_length_le (by omega)] at HC
    exact HC.mono fun e w' h => ⟨h.1, Kept.of_below _ h.2⟩

theorem isNaN14 (x : VTxt) (w : World) : Calls Tryz.prog 61 #[.string ⟨x.toArray⟩] w fun e w' => e = .returned (.bool false) ∧ w' = w := by
  go_enter Tryz.func61, Tryz.ntmps61
  go_wp2
  go_ret
  exact ⟨by simp, rfl⟩
def cmpS (x y : VTxt) : Int := if x < y then -1 else if y < x then 1 else 0
set_option maxHeartbeats 1000000 in
theorem cmp14 (x y : VTxt) (w : World) : Calls Tryz.prog 40 #[.string ⟨x.toArray⟩, .string ⟨y.toArray⟩] w fun e w' => e = .returned (.int .i64 (cmpS x y)) ∧ w' = w := by
  by_cases h : x < y
  · have h1 : Op.bytesLess x y = true := by rw [bytesLess_eq]; exact decide_eq_true h
    go_enter Tryz.func40, Tryz.ntmps40
    go_wp2_with (go_at_call 61; refine (isNaN14 _ _).mono ?_; rintro e w' ⟨rfl, rfl⟩)
    go_ret
    exact ⟨ret_int (by unfold cmpS; rw [if_pos h]), rfl⟩
  · have h1 : Op.bytesLess x y = false := by rw [bytesLess_eq]; exact decide_eq_false h
    by_cases h2 : y < x
    · have h3 : (x == y) = false := by rw [beq_eq_false_iff_ne]; exact fun e => List.lt_irrefl y (by rw [e] at h2; exact h2)
      go_enter Tryz.func40, Tryz.ntmps40
      go_wp2_with (go_at_call 61; refine (isNaN14 _ _).mono ?_; rintro e w' ⟨rfl, rfl⟩)
      go_ret
      exact ⟨ret_int (by unfold cmpS; rw [if_neg h, if_pos h2]), rfl⟩
    · have h3 : (x == y) = true := by
        rw [beq_iff_eq]
        by_cases e : x = y
        · exact e
        · exact absurd (vlt_tri e h) h2
      go_enter Tryz.func40, Tryz.ntmps40
      go_wp2_with (go_at_call 61; refine (isNaN14 _ _).mono ?_; rintro e w' ⟨rfl, rfl⟩)
      go_ret
      exact ⟨ret_int (by unfold cmpS; rw [if_neg h, if_neg h2]), rfl⟩

/-- How the closure orders two tables. -/
def cmpT (a b : MetaV) : Int := if a.2.1 ≠ b.2.1 then Lib.compareInt a.2.1 b.2.1 else if a.2.1 ≠ 0 ∧ a.2.2.1 ≠ b.2.2.1 then cmpS a.2.2.1 b.2.2.1 else Lib.compareInt a.1 b.1
theorem cmpI_lt (x y : Int) : decide (Lib.compareInt x y < 0) = decide (x < y) := by
  unfold Lib.compareInt
  by_cases h1 : x < y
  · simp [h1]
  · by_cases h2 : y < x <;> simp [h1, h2]
theorem cmpS_lt (x y : VTxt) : decide (cmpS x y < 0) = decide (x < y) := by
  unfold cmpS
  by_cases h1 : x < y
  · simp [h1]
  · by_cases h2 : y < x <;> simp [h1, h2]
theorem cmpT_lt (a b : MetaV) : ltOf cmpT a b = Pk.ahead a b := by
  unfold ltOf cmpT Pk.ahead
  split
  · exact cmpI_lt _ _
  · split
    · exact cmpS_lt _ _
    · exact cmpI_lt _ _
theorem cmpT_swo : Go.Sort.SWO (ltOf cmpT) where
  irrefl x := by
    rw [cmpT_lt]
    cases h : Pk.ahead x x with
    | false => rfl
    | true => exact absurd h (by rw [ahead_asymm h]; simp)
  trans x y z h1 h2 := by simp only [cmpT_lt] at *; exact ahead_trans h1 h2
  ntrans x y z h1 h2 := by simp only [cmpT_lt] at *; exact ahead_weak h2 h1

set_option maxHeartbeats 4000000 in
theorem closure14 (a b : MetaV) (W : World) : Calls Tryz.prog 38 #[.agg (metaC a).toArray, .agg (metaC b).toArray] W fun e w' => e = .returned (.int .i64 (cmpT a b)) ∧ ∃ q os', w' = Go.Sort.grow (W.drewN q) os' := by
  obtain ⟨id, lv, x, y, c⟩ := a
  obtain ⟨id2, lv2, x2, y2, c2⟩ := b
  have HI : ∀ (x y : Int) W', Calls Tryz.prog 39 #[.int .i64 x, .int .i64 y] W' fun e w' => e = .returned (.int .i64 (Lib.compareInt x y)) ∧ w' = W' := fun x y W' => AnyG.cmp_Compare_int Tryz.cmpInt x y W'
  show Calls Tryz.prog 38 #[.agg #[.int .i64 id, .int .i64 lv, .string ⟨x.toArray⟩, .string ⟨y.toArray⟩, .int .i64 c], .agg #[.int .i64 id2, .int .i64 lv2, .string ⟨x2.toArray⟩, .string ⟨y2.toArray⟩, .int .i64 c2]] W _
  have hk : ∀ w : World, ∀ o o2 : Obj, ∃ q os', (w.alloc o).alloc o2 = Go.Sort.grow (w.drewN q) os' := fun w o o2 => ⟨0, _, by rw [Go.Sort.alloc_eq_grow, Go.Sort.alloc_eq_grow, Go.Sort.grow_grow]; rfl⟩
  by_cases h : lv = lv2
  · subst h
    by_cases h0 : lv ≠ 0 ∧ x ≠ x2
    · have hb : (lv == 0) = false := by simpa using h0.1
      have hx : (x == x2) = false := by simpa using h0.2
      go_enter Tryz.func38, Tryz.ntmps38
      go_wp2_with (go_at_call 40; refine (cmp14 _ _ _).mono ?_; rintro e w' ⟨rfl, rfl⟩)
      go_ret
      exact ⟨ret_int (by unfold cmpT; rw [if_neg (by simp), if_pos h0]), hk _ _ _⟩
    · have hc : lv = 0 ∨ x = x2 := by
        by_cases hz : lv = 0
        · exact .inl hz
        · exact .inr (by by_cases hx : x = x2; exact hx; exact absurd ⟨hz, hx⟩ h0)
      rcases hc with hc | hc
      · subst hc
        go_enter Tryz.func38, Tryz.ntmps38
        go_wp2_with (go_at_call 39; refine (HI _ _ _).mono ?_; rintro e w' ⟨rfl, rfl⟩)
        go_ret
        exact ⟨ret_int (by unfold cmpT; rw [if_neg (by simp), if_neg h0]), hk _ _ _⟩
      · subst hc
        by_cases hz : lv = 0
        · subst hz
          go_enter Tryz.func38, Tryz.ntmps38
          go_wp2_with (go_at_call 39; refine (HI _ _ _).mono ?_; rintro e w' ⟨rfl, rfl⟩)
          go_ret
          exact ⟨ret_int (by unfold cmpT; rw [if_neg (by simp), if_neg h0]), hk _ _ _⟩
        · have hb : (lv == 0) = false := by simpa using hz
          go_enter Tryz.func38, Tryz.ntmps38
          go_wp2_with (go_at_call 39; refine (HI _ _ _).mono ?_; rintro e w' ⟨rfl, rfl⟩)
          go_ret
          exact ⟨ret_int (by unfold cmpT; rw [if_neg (by simp), if_neg h0]), hk _ _ _⟩
  · have hb : (lv == lv2) = false := by simpa using h
    go_enter Tryz.func38, Tryz.ntmps38
    go_wp2_with (go_at_call 39; refine (HI _ _ _).mono ?_; rintro e w' ⟨rfl, rfl⟩)
    go_ret
    exact ⟨ret_int (by unfold cmpT; rw [if_pos h]), hk _ _ _⟩

end Go.Proofs.YtjdolimeibpacaaGreat
