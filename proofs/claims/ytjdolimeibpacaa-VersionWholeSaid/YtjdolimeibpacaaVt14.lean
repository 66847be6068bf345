/- Layer 14's landed program: slices.Clone, ContainsFunc and SortFunc of tables' descriptions. -/
import Derived.Test.YtjdolimeibpacaaVs14
namespace Go.Proofs.Ytjdolimeibpacaa
open Go.RowKit Go.Proofs Go.Proofs.Pk
set_option maxRecDepth 10000

theorem metas_get {w : World} {b off : Nat} {T : List MetaV} (h : ∀ i (h : i < T.length), MetaAt w b (off + i * 5) T[i]) : ∀ j u, (T.flatMap metaC)[j]? = some u → w.cell? ⟨b, off + j, none⟩ = some u := by
  intro j u hj
  have hl := metasC_length T
  have hjl : j < T.length * 5 := by rw [← hl]; exact (List.getElem?_eq_some_iff.1 hj).1
  have hi : j / 5 < T.length := by omega
  have ht : j % 5 < (metaC T[j / 5]).length := by show j % 5 < 5; omega
  have h1 := metasC_get T (j / 5) hi (j % 5) _ (List.getElem?_eq_getElem ht)
  rw [show j / 5 * 5 + j % 5 = j from by omega, hj] at h1
  injection h1 with h1
  have h2 := (h (j / 5) hi).row (j % 5) u (by rw [List.getElem?_eq_getElem ht, ← h1])
  rw [show off + j / 5 * 5 + j % 5 = off + j from by omega] at h2
  exact h2
theorem metas_one (T : List MetaV) : ∀ u ∈ T.flatMap metaC, u.oneCell' = true := fun u hu => by
  obtain ⟨m, _, hm⟩ := List.mem_flatMap.1 hu
  exact meta_one m u hm

theorem cloneMetas (ad : Option Addr) (len cap : Nat) (T : List MetaV) (w : World) (h : MetasW w ad len T) (hb : BndM ad len cap) :
    Calls Try.prog 32 #[.slice ad len cap] w fun e w' => ∃ v, e = .returned v ∧ w'.ownsRow w.heap.size 44 5 v len (T.flatMap metaC) ∧ Below w.heap.size w w' := by
  obtain ⟨iM, hiM, hzM, hsM, hbM⟩ := parts_of meta_info
  have hl := h.1
  obtain ⟨hf, hlc, hbig, hn⟩ := hb
  rcases hf with rfl | ⟨b, off, rfl⟩
  · obtain ⟨rfl, rfl⟩ := hn rfl
    have : T = [] := List.length_eq_zero_iff.1 hl
    subst this
    refine Calls.mono (AnyE.slices_Clone_nil Try.cloneMeta 0 0 w) ?_
    rintro e w' ⟨rfl, rfl⟩
    exact ⟨_, rfl, World.ownsRow_nil _ _ _ _, Below.refl _ _⟩
  · refine Calls.mono (AnyE.slices_Clone Try.cloneMeta iM _ 5 56 hiM hzM hsM hbM rfl (by omega) Try.sizeOf44 b off len cap (T.flatMap metaC) w (by rw [metasC_length, hl]) (by unfold maxLen; omega) (by omega) ?_ (metas_one T)) ?_
    · rcases h.2 with h0 | ⟨b', off', h1, _, h3⟩
      · subst h0; intro j u hj; simp at hj
      · cases h1
        exact metas_get h3
    · rintro e w' ⟨v, rfl, ho, _, hb⟩
      exact ⟨v, rfl, ho, hb⟩

theorem pred_table (w : World) : PredBelow Try.prog 52 #[] (fun x : MetaV => .agg (metaC x).toArray) (fun x => !metaOk x) w := fun W x hb => by
  have H : ∀ w, _ := fun w => table14 x w
  show Calls Try.prog 52 #[.agg #[.int .i64 x.1, .int .i64 x.2.1, .string ⟨x.2.2.1.toArray⟩, .string ⟨x.2.2.2.1.toArray⟩, .int .i64 x.2.2.2.2]] W fun e w' => e = .returned (.bool (!metaOk x)) ∧ Below w.heap.size w w'
  have H2 : ∀ w, Calls Try.prog 20 #[.agg #[.int .i64 x.1, .int .i64 x.2.1, .string ⟨x.2.2.1.toArray⟩, .string ⟨x.2.2.2.1.toArray⟩, .int .i64 x.2.2.2.2]] w fun e w' => e = .returned (.bool (metaOk x)) ∧ Kept (fun _ => False) w w' := H
  clear H
  generalize metaOk x = r at H2 ⊢
  go_enter Try.func52, Try.ntmps52
  go_wp2_with (go_at_call 20; refine (H2 _).mono ?_; rintro e w' ⟨rfl, hk⟩)
  go_ret
  have hk2 := ((Kept.refl (fun _ => False) W).alloc _).trans hk (fun _ f => f.elim)
  exact ⟨rfl, hb.trans (hk2.below hb.size (fun _ f => f.elim))⟩

theorem noneIdx (ad : Option Addr) (cap : Nat) (fv : Value) (w : World) : Calls Try.prog 71 #[.slice ad 0 cap, fv] w fun e w' => e = .returned (.int .i64 (-1)) ∧ w' = w := by
  go_enter Try.func71, Try.ntmps71
  go_wp2
  go_loopg [5, 8] 0 (fun _ _ s8 wr => s8 = .int .i64 0 ∧ wr = w)
  case atStart => exact ⟨rfl, rfl⟩
  case round =>
    obtain ⟨rfl, rfl⟩ := hrel
    go_wp2
    go_ret
    exact ⟨rfl, rfl⟩
theorem noneBad (ad : Option Addr) (cap : Nat) (fv : Value) (w : World) : Calls Try.prog 51 #[.slice ad 0 cap, fv] w fun e w' => e = .returned (.bool false) ∧ w' = w := by
  go_enter Try.func51, Try.ntmps51
  go_wp2_with (go_at_call 71; refine (noneIdx ad cap fv _).mono ?_; rintro e w' ⟨rfl, rfl⟩)
  go_ret
  exact ⟨rfl, rfl⟩

theorem anyBad (ad : Option Addr) (len cap : Nat) (T : List MetaV) (w : World) (h : MetasW w ad len T) (hlen : len ≤ 9223372036854775807) :
    Calls Try.prog 51 #[.slice ad len cap, .func (.func 52) #[] #[]] w fun e w' => e = .returned (.bool (!T.all metaOk)) ∧ Kept (fun _ => False) w w' := by
  have hl := h.1
  rw [List.not_all_eq_any_not]
  rcases h.2 with h0 | ⟨b, off, h1, h2, h3⟩
  · subst h0
    obtain rfl : len = 0 := by simpa using hl.symm
    refine (noneBad ad cap _ w).mono ?_
    rintro e w' ⟨rfl, rfl⟩
    exact ⟨rfl, Kept.refl _ _⟩
  · subst h1
    have eg : ∀ args w, (callFunc 52 args).run Try.prog w = .ok (.enter 52 args) w := enters_of Try.func52 (by kernel_rfl) rfl
    have HC := AnyQ.slices_ContainsFunc Try.hasMeta 5 Try.isAgg44 Try.sizeOf44 metaC (fun _ => rfl) (fun x => !metaOk x) 52 #[] eg b off len cap T w (pred_table w) (by omega) hlen h2 (fun j hj i v hv => by
      have := (h3 j hj).row i v (by rw [getElem!_pos T j hj] at hv; exact hv)
      exact this)
    rw [List.take_of_length_le (by omega)] at HC
    exact HC.mono fun e w' h => ⟨h.1, Kept.of_below _ h.2⟩

theorem isNaN14 (x : VTxt) (w : World) : Calls Try.prog 50 #[.string ⟨x.toArray⟩] w fun e w' => e = .returned (.bool false) ∧ w' = w := by
  go_enter Try.func50, Try.ntmps50
  go_wp2
  go_ret
  exact ⟨by simp, rfl⟩
def cmpS (x y : VTxt) : Int := if x < y then -1 else if y < x then 1 else 0
set_option maxHeartbeats 1000000 in
theorem cmp14 (x y : VTxt) (w : World) : Calls Try.prog 31 #[.string ⟨x.toArray⟩, .string ⟨y.toArray⟩] w fun e w' => e = .returned (.int .i64 (cmpS x y)) ∧ w' = w := by
  by_cases h : x < y
  · have h1 : Op.bytesLess x y = true := by rw [bytesLess_eq]; exact decide_eq_true h
    go_enter Try.func31, Try.ntmps31
    go_wp2_with (go_at_call 50; refine (isNaN14 _ _).mono ?_; rintro e w' ⟨rfl, rfl⟩)
    go_ret
    exact ⟨ret_int (by unfold cmpS; rw [if_pos h]), rfl⟩
  · have h1 : Op.bytesLess x y = false := by rw [bytesLess_eq]; exact decide_eq_false h
    by_cases h2 : y < x
    · have h3 : (x == y) = false := by rw [beq_eq_false_iff_ne]; exact fun e => List.lt_irrefl y (by rw [e] at h2; exact h2)
      go_enter Try.func31, Try.ntmps31
      go_wp2_with (go_at_call 50; refine (isNaN14 _ _).mono ?_; rintro e w' ⟨rfl, rfl⟩)
      go_ret
      exact ⟨ret_int (by unfold cmpS; rw [if_neg h, if_pos h2]), rfl⟩
    · have h3 : (x == y) = true := by
        rw [beq_iff_eq]
        by_cases e : x = y
        · exact e
        · exact absurd (vlt_tri e h) h2
      go_enter Try.func31, Try.ntmps31
      go_wp2_with (go_at_call 50; refine (isNaN14 _ _).mono ?_; rintro e w' ⟨rfl, rfl⟩)
      go_ret
      exact ⟨ret_int (by unfold cmpS; rw [if_neg h, if_neg h2]), rfl⟩

/-- How the closure orders two tables. -/
def cmpT (a b : MetaV) : Int := if a.2.1 ≠ b.2.1 then Lib.compareInt a.2.1 b.2.1 else if a.2.1 ≠ 0 ∧ a.2.2.1 ≠ b.2.2.1 then cmpS a.2.2.1 b.2.2.1 else Lib.compareInt a.1 b.1
theorem cmpI_lt (x y : Int) : decide (Lib.compareInt x y < 0) = decide (x < y) := by
  unfold Lib.compareInt
  by_cases h1 : x < y
  · simp [h1]
  · by_cases h2 : y < x <;> simp [h1, h2]
theorem cmpS_lt (x y : VTxt) : decide (cmpS x y < 0) = decide (x < y) := by
  unfold cmpS
  by_cases h1 : x < y
  · simp [h1]
  · by_cases h2 : y < x <;> simp [h1, h2]
theorem cmpT_lt (a b : MetaV) : ltOf cmpT a b = Pk.ahead a b := by
  unfold ltOf cmpT Pk.ahead
  split
  · exact cmpI_lt _ _
  · split
    · exact cmpS_lt _ _
    · exact cmpI_lt _ _
theorem cmpT_swo : Go.Sort.SWO (ltOf cmpT) where
  irrefl x := by
    rw [cmpT_lt]
    cases h : Pk.ahead x x with
    | false => rfl
    | true => exact absurd h (by rw [ahead_asymm h]; simp)
  trans x y z h1 h2 := by simp only [cmpT_lt] at *; exact ahead_trans h1 h2
  ntrans x y z h1 h2 := by simp only [cmpT_lt] at *; exact ahead_weak h2 h1

set_option maxHeartbeats 4000000 in
theorem closure14 (a b : MetaV) (W : World) : Calls Try.prog 29 #[.agg (metaC a).toArray, .agg (metaC b).toArray] W fun e w' => e = .returned (.int .i64 (cmpT a b)) ∧ ∃ q os', w' = Go.Sort.grow (W.drewN q) os' := by
  obtain ⟨id, lv, x, y, c⟩ := a
  obtain ⟨id2, lv2, x2, y2, c2⟩ := b
  have HI : ∀ (x y : Int) W', Calls Try.prog 30 #[.int .i64 x, .int .i64 y] W' fun e w' => e = .returned (.int .i64 (Lib.compareInt x y)) ∧ w' = W' := fun x y W' => AnyG.cmp_Compare_int Try.cmpInt x y W'
  show Calls Try.prog 29 #[.agg #[.int .i64 id, .int .i64 lv, .string ⟨x.toArray⟩, .string ⟨y.toArray⟩, .int .i64 c], .agg #[.int .i64 id2, .int .i64 lv2, .string ⟨x2.toArray⟩, .string ⟨y2.toArray⟩, .int .i64 c2]] W _
  have hk : ∀ w : World, ∀ o o2 : Obj, ∃ q os', (w.alloc o).alloc o2 = Go.Sort.grow (w.drewN q) os' := fun w o o2 => ⟨0, _, by rw [Go.Sort.alloc_eq_grow, Go.Sort.alloc_eq_grow, Go.Sort.grow_grow]; rfl⟩
  by_cases h : lv = lv2
  · subst h
    by_cases h0 : lv ≠ 0 ∧ x ≠ x2
    · have hb : (lv == 0) = false := by simpa using h0.1
      have hx : (x == x2) = false := by simpa using h0.2
      go_enter Try.func29, Try.ntmps29
      go_wp2_with (go_at_call 31; refine (cmp14 _ _ _).mono ?_; rintro e w' ⟨rfl, rfl⟩)
      go_ret
      exact ⟨ret_int (by unfold cmpT; rw [if_neg (by simp), if_pos h0]), hk _ _ _⟩
    · have hc : lv = 0 ∨ x = x2 := by
        by_cases hz : lv = 0
        · exact .inl hz
        · exact .inr (by by_cases hx : x = x2; exact hx; exact absurd ⟨hz, hx⟩ h0)
      rcases hc with hc | hc
      · subst hc
        go_enter Try.func29, Try.ntmps29
        go_wp2_with (go_at_call 30; refine (HI _ _ _).mono ?_; rintro e w' ⟨rfl, rfl⟩)
        go_ret
        exact ⟨ret_int (by unfold cmpT; rw [if_neg (by simp), if_neg h0]), hk _ _ _⟩
      · subst hc
        by_cases hz : lv = 0
        · subst hz
          go_enter Try.func29, Try.ntmps29
          go_wp2_with (go_at_call 30; refine (HI _ _ _).mono ?_; rintro e w' ⟨rfl, rfl⟩)
          go_ret
          exact ⟨ret_int (by unfold cmpT; rw [if_neg (by simp), if_neg h0]), hk _ _ _⟩
        · have hb : (lv == 0) = false := by simpa using hz
          go_enter Try.func29, Try.ntmps29
          go_wp2_with (go_at_call 30; refine (HI _ _ _).mono ?_; rintro e w' ⟨rfl, rfl⟩)
          go_ret
          exact ⟨ret_int (by unfold cmpT; rw [if_neg (by simp), if_neg h0]), hk _ _ _⟩
  · have hb : (lv == lv2) = false := by simpa using h
    go_enter Try.func29, Try.ntmps29
    go_wp2_with (go_at_call 30; refine (HI _ _ _).mono ?_; rintro e w' ⟨rfl, rfl⟩)
    go_ret
    exact ⟨ret_int (by unfold cmpT; rw [if_pos h]), hk _ _ _⟩

end Go.Proofs.Ytjdolimeibpacaa
