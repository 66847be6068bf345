/- Layer 14's landed program: within, rightTable, follows. -/
import Derived.Test.YtjdolimeibpacaaGreatVnL
import Derived.Test.YtjdolimeibpacaaGreatProg
import Derived.Sort.Walk0
import Derived.BigQuiet
namespace Go.Proofs.YtjdolimeibpacaaGreat
open Go.RowKit Go.Proofs Go.Proofs.Pk
set_option maxRecDepth 10000

theorem within14 (n least most : Int) (w : World) : Calls Tryz.prog 43 #[.int .i64 n, .int .i64 least, .int .i64 most] w fun e w' => e = .returned (.bool (decide (least ≤ n ∧ n ≤ most))) ∧ w' = w := by
  by_cases h : least ≤ n
  · go_enter Tryz.func43, Tryz.ntmps43
    go_wp2
    go_ret
    simp [h]
  · have hb : decide (least ≤ n) = false := decide_eq_false h
    go_enter Tryz.func43, Tryz.ntmps43
    go_wp2
    go_ret
    simp [h]

theorem leqV_is (x y : VTxt) : (Op.bytesLess x y || x == y) = decide (¬y < x) := by
  rw [bytesLess_eq]
  by_cases h : y < x
  · have h1 : ¬x < y := vlt_asymm h
    have h2 : x ≠ y := fun e => List.lt_irrefl x (by rw [e] at h; rw [e]; exact h)
    simp [h, h1, h2]
  · by_cases h1 : x < y
    · simp [h, h1]
    · have : x = y := by
        by_cases e : x = y
        · exact e
        · exact absurd (vlt_tri e h1) h
      simp [this, List.lt_irrefl]
theorem metaOk_parts (id lv : Int) (x y : VTxt) (c : Int) : metaOk (id, lv, x, y, c) =
    (decide (1 ≤ id ∧ id ≤ 9007199254740991) && decide (0 ≤ lv ∧ lv ≤ 3) && decide (1 ≤ (x.length : Int) ∧ (x.length : Int) ≤ 80) && decide (1 ≤ (y.length : Int) ∧ (y.length : Int) ≤ 80) && (Op.bytesLess x y || x == y) && decide (1 ≤ c ∧ c ≤ 1048576)) := by
  have e1 : (x ≠ []) ↔ 1 ≤ (x.length : Int) := by cases x <;> simp; omega
  have e2 : (y ≠ []) ↔ 1 ≤ (y.length : Int) := by cases y <;> simp; omega
  rw [leqV_is, Bool.eq_iff_iff]
  unfold metaOk
  simp only [decide_eq_true_eq, Bool.and_eq_true, e1, e2]
  constructor
  · rintro ⟨h1, h2, h3, h4, h5, h6, h7, h8, h9, h10, h11⟩
    exact ⟨⟨⟨⟨⟨⟨h1, h2⟩, h3, by omega⟩, h5, by omega⟩, h7, by omega⟩, h9⟩, h10, h11⟩
  · rintro ⟨⟨⟨⟨⟨⟨h1, h2⟩, h3, h4⟩, h5, h6⟩, h7, h8⟩, h9⟩, h10, h11⟩
    exact ⟨h1, h2, h3, by omega, h5, by omega, h7, by omega, h9, h10, h11⟩

set_option maxHeartbeats 4000000 in
theorem table14 (m : MetaV) (w : World) : Calls Tryz.prog 44 #[.agg (metaC m).toArray] w fun e w' => e = .returned (.bool (metaOk m)) ∧ Kept (fun _ => False) w w' := by
  obtain ⟨id, lv, x, y, c⟩ := m
  show Calls Tryz.prog 44 #[.agg #[.int .i64 id, .int .i64 lv, .string ⟨x.toArray⟩, .string ⟨y.toArray⟩, .int .i64 c]] w _
  rw [metaOk_parts]
  go_enter Tryz.func44, Tryz.ntmps44
  go_wp2_with (go_at_call 43; refine (within14 _ _ _ _).mono ?_; rintro e w' ⟨rfl, rfl⟩)
  all_goals (go_ret; refine ⟨ret_bool ?_, (Kept.refl _ _).alloc _⟩; simp_all; try (intros; omega))

set_option maxHeartbeats 4000000 in
theorem follows14 (a b : MetaV) (w : World) : Calls Tryz.prog 45 #[.agg (metaC a).toArray, .agg (metaC b).toArray] w fun e w' => e = .returned (.bool (okM a b)) ∧ Kept (fun _ => False) w w' := by
  obtain ⟨id, lv, x, y, c⟩ := a
  obtain ⟨id2, lv2, x2, y2, c2⟩ := b
  show Calls Tryz.prog 45 #[.agg #[.int .i64 id, .int .i64 lv, .string ⟨x.toArray⟩, .string ⟨y.toArray⟩, .int .i64 c], .agg #[.int .i64 id2, .int .i64 lv2, .string ⟨x2.toArray⟩, .string ⟨y2.toArray⟩, .int .i64 c2]] w _
  have hk : ∀ w : World, ∀ o o2 : Obj, Kept (fun _ => False) w ((w.alloc o).alloc o2) := fun w o o2 => ((Kept.refl _ _).alloc _).alloc _
  by_cases h : lv = lv2
  · subst h
    by_cases h0 : lv = 0
    · subst h0
      go_enter Tryz.func45, Tryz.ntmps45
      go_wp2
      go_ret
      exact ⟨ret_bool (by simp [okM]), hk _ _ _⟩
    · have hb : (lv == 0) = false := by simpa using h0
      go_enter Tryz.func45, Tryz.ntmps45
      go_wp2
      go_ret
      exact ⟨ret_bool (by rw [bytesLess_eq]; simp [okM, h0]), hk _ _ _⟩
  · have hb : (lv == lv2) = false := by simpa using h
    go_enter Tryz.func45, Tryz.ntmps45
    go_wp2
    go_ret
    exact ⟨ret_bool (by simp [okM, h]), hk _ _ _⟩

end Go.Proofs.YtjdolimeibpacaaGreat
