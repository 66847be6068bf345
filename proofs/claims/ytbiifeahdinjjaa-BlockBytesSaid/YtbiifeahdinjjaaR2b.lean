/- The reference of layer 12: one. -/
import Derived.Test.YtbiifeahdinjjaaR2a
import Derived.Test.YtbiifeahdinjjaaBkD
import Derived.Test.YtbiifeahdinjjaaRefT
import Derived.Laws.ResultCell
namespace Go.Proofs.Ytbiifeahdinjjaa
open Go.RowKit Go.Proofs Go.Proofs.Pk
set_option maxRecDepth 10000
attribute [local simp] mk_get wrap64_u8 mk_extract ByteArray.mk_append_mk get_1k

theorem results_three {fn : Func} {p u v : Tmp} {ty : TypeId} (h : fn.results = #[.cell p ty, .tmp u, .tmp v]) (tmps : Array Value) (P : Program) (w : World) :
    (results fn tmps).run P w = ((asAddr (tmps.getD p undef)).run P w).andThen fun a w₁ => ((loadVar ty a).run P w₁).andThen fun x w₂ => .ok (.tuple #[x, tmps.getD u undef, tmps.getD v undef]) w₂ := by
  simp only [results, h]
  simp [Sem.run_bind, Result.andThen]
/-- What 'one' answers. -/
def OneP (w : World) (r : MEnt × Txt × Bool) (e : Ending) (w' : World) : Prop :=
  ∃ (u : MEnt) (t : Txt), e = .returned (.tuple #[.agg (entC u).toArray, .string ⟨t.toArray⟩, .bool r.2.2]) ∧ (r.2.2 = true → u = r.1 ∧ t = r.2.1) ∧ Kept (fun _ => False) w w'
/-- The result's block and the entry's, behind it. -/
structure OnW (w wr : World) (ob : Nat) (X : MEnt) : Prop where
  kept : Kept (fun _ => False) w wr
  new : w.heap.size ≤ ob
  res : Holds wr ob (entC zeroM) 37
  ent : Holds wr (ob + 1) (entC X) 37
theorem OnW.below {w wr wx : World} {ob : Nat} {X : MEnt} (h : OnW w wr ob X) (hb : Below wr.heap.size wr wx) : OnW w wx ob X :=
  ⟨h.kept.trans (Kept.of_below (fun _ => False) hb) (fun _ f => f.elim), h.new, h.res.of_block (hb.block _ h.res.lt), h.ent.of_block (hb.block _ h.ent.lt)⟩
theorem OnW.fill {w wr : World} {ob : Nat} {X : MEnt} (h : OnW w wr ob X) (k : Txt) (q : Int) (d : Bool) (v : Txt) :
    OnW w ((((wr.setCell ⟨ob + 1, 0, none⟩ (.string ⟨k.toArray⟩)).setCell ⟨ob + 1, 1, none⟩ (.int .i64 q)).setCell ⟨ob + 1, 2, none⟩ (.bool d)).setCell ⟨ob + 1, 3, none⟩ (.string ⟨v.toArray⟩)) ob (k, q, d, v) := by
  have hn : w.heap.size ≤ ob + 1 := Nat.le_succ_of_le h.new
  refine ⟨(((h.kept.setNew (p := ⟨ob + 1, 0, none⟩) hn _).setNew (p := ⟨ob + 1, 1, none⟩) hn _).setNew (p := ⟨ob + 1, 2, none⟩) hn _).setNew (p := ⟨ob + 1, 3, none⟩) hn _, h.new, ?_, ?_⟩
  · exact h.res.of_block ((Below.heap_setCell _ _ _ _ (show ob ≠ ob + 1 by omega)).trans ((Below.heap_setCell _ _ _ _ (show ob ≠ ob + 1 by omega)).trans ((Below.heap_setCell _ _ _ _ (show ob ≠ ob + 1 by omega)).trans (Below.heap_setCell _ _ _ _ (show ob ≠ ob + 1 by omega)))))
  · exact (((h.ent.set 0 (.string ⟨k.toArray⟩)).set 1 (.int .i64 q)).set 2 (.bool d)).set 3 (.string ⟨v.toArray⟩)
theorem OnW.last {w wr : World} {ob : Nat} {k : Txt} {q : Int} {d : Bool} {u : Txt} (h : OnW w wr ob (k, q, d, u)) (v : Txt) : OnW w (wr.setCell ⟨ob + 1, 3, none⟩ (.string ⟨v.toArray⟩)) ob (k, q, d, v) :=
  ⟨h.kept.setNew (p := ⟨ob + 1, 3, none⟩) (Nat.le_succ_of_le h.new) _, h.new, h.res.of_block (Below.heap_setCell _ _ _ _ (show ob ≠ ob + 1 by omega)), h.ent.set 3 (.string ⟨v.toArray⟩)⟩
theorem OnW.stored {w wr : World} {ob : Nat} {X : MEnt} (h : OnW w wr ob X) (v0 v1 v2 v3 : Value) : Kept (fun _ => False) w ((((wr.setCell ⟨ob, 0, none⟩ v0).setCell ⟨ob, 1, none⟩ v1).setCell ⟨ob, 2, none⟩ v2).setCell ⟨ob, 3, none⟩ v3) :=
  (((h.kept.setNew (p := ⟨ob, 0, none⟩) h.new _).setNew (p := ⟨ob, 1, none⟩) h.new _).setNew (p := ⟨ob, 2, none⟩) h.new _).setNew (p := ⟨ob, 3, none⟩) h.new _

set_option maxHeartbeats 4000000 in
theorem rOne (b last : Txt) (w : World) (hb : b.length ≤ maxLen) (hl : last.length ≤ 1073741824) :
    Calls Try.prog 29 #[.string ⟨b.toArray⟩, .string ⟨last.toArray⟩] w (OneP w (rdOne b last)) := by
  obtain ⟨ob, hob⟩ : ∃ ob, ob = w.heap.size := ⟨_, rfl⟩
  have HL := Lib.hid hl
  have HB := Lib.hid hb
  have H1 := Lib.hid (fun W : World => rRead b W hb)
  have l1 := rdNum_len b
  obtain ⟨n, hn⟩ : ∃ n, Hid (n = (rdNum b).1) := ⟨_, rfl⟩
  obtain ⟨b1, hb1⟩ : ∃ b1, Hid (b1 = (rdNum b).2.1) := ⟨_, rfl⟩
  obtain ⟨e1, he1⟩ : ∃ e1, Hid (e1 = (rdNum b).2.2) := ⟨_, rfl⟩
  rw [← hn.out, ← hb1.out, ← he1.out] at H1
  rw [← hb1.out] at l1
  have l1' := Lib.hid l1
  have HW0 : Hid (OnW w ((w.alloc (.cells #[.string ⟨#[]⟩, .int .i64 0, .bool false, .string ⟨#[]⟩] 37)).alloc (.cells #[.string ⟨#[]⟩, .int .i64 0, .bool false, .string ⟨#[]⟩] 37)) ob zeroM) := by
    have h1 := Holds.new w (entC zeroM) 37
    have h2 := Holds.new (w.alloc (.cells (entC zeroM).toArray 37)) (entC zeroM) 37
    rw [World.size_alloc] at h2
    refine ⟨((Kept.refl _ w).alloc _).alloc _, Nat.le_of_eq hob.symm, ?_, ?_⟩
    · rw [hob]; exact h1.alloc _
    · rw [hob]; exact h2
  clear l1 hb hl
  go_enter Try.func29, Try.ntmps29
  go_wp2_with fail
  generalize ((w.alloc (.cells #[.string ⟨#[]⟩, .int .i64 0, .bool false, .string ⟨#[]⟩] 37)).alloc (.cells #[.string ⟨#[]⟩, .int .i64 0, .bool false, .string ⟨#[]⟩] 37)) = w1 at HW0 ⊢
  try rw [World.size_alloc]
  rw [← hob]
  refine (H1.out w1).mono ?_
  clear H1 hob
  rintro e wa ⟨rfl, hba⟩
  have HWa := Lib.hid (HW0.out.below hba)
  clear HW0 hba
  by_cases c1 : e1 = 0
  case neg =>
    have q1 : ((e1 : Int) == 0) = false := by rw [beq_eq_false_iff_ne]; omega
    have HF : Hid ((rdOne b last).2.2 = false) := by
      show _ = _
      unfold rdOne
      rw [if_pos (.inl (by rw [← he1.out]; exact c1))]
    have o0 : wa.cell? ⟨ob, 0, none⟩ = some (.string ⟨#[]⟩) := HWa.out.res.cell 0 _ rfl
    have o1 : wa.cell? ⟨ob, 1, none⟩ = some (.int .i64 0) := HWa.out.res.cell 1 _ rfl
    have o2 : wa.cell? ⟨ob, 2, none⟩ = some (.bool false) := HWa.out.res.cell 2 _ rfl
    have o3 : wa.cell? ⟨ob, 3, none⟩ = some (.string ⟨#[]⟩) := HWa.out.res.cell 3 _ rfl
    have x0 : wa.cell? ⟨ob + 1, 0, none⟩ = some (.string ⟨#[]⟩) := HWa.out.ent.cell 0 _ rfl
    have x1 : wa.cell? ⟨ob + 1, 1, none⟩ = some (.int .i64 0) := HWa.out.ent.cell 1 _ rfl
    have x2 : wa.cell? ⟨ob + 1, 2, none⟩ = some (.bool false) := HWa.out.ent.cell 2 _ rfl
    have x3 : wa.cell? ⟨ob + 1, 3, none⟩ = some (.string ⟨#[]⟩) := HWa.out.ent.cell 3 _ rfl
    have fo := HWa.out.res.free
    have fx := HWa.out.ent.free
    go_wp2
    refine bodyPost_ret (v := .tuple #[.agg (entC zeroM).toArray, .string ⟨#[]⟩, .bool false]) ?_ rfl ?_
    · rw [results_three rfl]
      unfold entC
      try unfold zeroM
      go_simp
    · exact ⟨zeroM, [], by rw [HF.out], fun h => (by rw [HF.out] at h; cases h), HWa.out.stored _ _ _ _⟩
  subst c1
  by_cases c2 : last.length < n
  case pos =>
    have q2 : (last.length : Int) < (n : Int) := by omega
    have HF : Hid ((rdOne b last).2.2 = false) := by
      show _ = _
      unfold rdOne
      rw [if_pos (.inr (by rw [← hn.out]; exact c2))]
    have o0 : wa.cell? ⟨ob, 0, none⟩ = some (.string ⟨#[]⟩) := HWa.out.res.cell 0 _ rfl
    have o1 : wa.cell? ⟨ob, 1, none⟩ = some (.int .i64 0) := HWa.out.res.cell 1 _ rfl
    have o2 : wa.cell? ⟨ob, 2, none⟩ = some (.bool false) := HWa.out.res.cell 2 _ rfl
    have o3 : wa.cell? ⟨ob, 3, none⟩ = some (.string ⟨#[]⟩) := HWa.out.res.cell 3 _ rfl
    have x0 : wa.cell? ⟨ob + 1, 0, none⟩ = some (.string ⟨#[]⟩) := HWa.out.ent.cell 0 _ rfl
    have x1 : wa.cell? ⟨ob + 1, 1, none⟩ = some (.int .i64 0) := HWa.out.ent.cell 1 _ rfl
    have x2 : wa.cell? ⟨ob + 1, 2, none⟩ = some (.bool false) := HWa.out.ent.cell 2 _ rfl
    have x3 : wa.cell? ⟨ob + 1, 3, none⟩ = some (.string ⟨#[]⟩) := HWa.out.ent.cell 3 _ rfl
    have fo := HWa.out.res.free
    have fx := HWa.out.ent.free
    go_wp2
    refine bodyPost_ret (v := .tuple #[.agg (entC zeroM).toArray, .string ⟨#[]⟩, .bool false]) ?_ rfl ?_
    · rw [results_three rfl]
      unfold entC
      try unfold zeroM
      go_simp
    · exact ⟨zeroM, [], by rw [HF.out], fun h => (by rw [HF.out] at h; cases h), HWa.out.stored _ _ _ _⟩
  have q2 : ¬(last.length : Int) < (n : Int) := by omega
  have q0 : ((0 : Int) == 0) = true := rfl
  have n0 : (0 : Int) ≤ (n : Int) := by omega
  have p1 : ¬((rdNum b).2.2 ≠ 0 ∨ last.length < (rdNum b).1) := by rw [← he1.out, ← hn.out]; omega
  have hb1l : b1.length ≤ maxLen := Nat.le_trans l1'.out HB.out
  have H2 := Lib.hid (fun W : World => rReadText b1 W hb1l)
  have l2 := Lib.hid (rdTxt_len b1)
  obtain ⟨s1, hs1⟩ : ∃ s1, Hid (s1 = (rdTxt b1).1) := ⟨_, rfl⟩
  obtain ⟨b2, hb2⟩ : ∃ b2, Hid (b2 = (rdTxt b1).2.1) := ⟨_, rfl⟩
  obtain ⟨e2, he2⟩ : ∃ e2, Hid (e2 = (rdTxt b1).2.2) := ⟨_, rfl⟩
  have hs1l := Lib.hid (rdTxt_fst b1)
  rw [← hs1.out, ← hb2.out, ← he2.out] at H2
  rw [← hb2.out] at l2
  rw [← hs1.out] at hs1l
  have P1 := Lib.hid p1
  clear p1
  go_wp2_with fail
  refine (H2.out wa).mono ?_
  clear H2
  rintro e wb ⟨rfl, hba⟩
  have HWb := Lib.hid (HWa.out.below hba)
  clear HWa hba
  by_cases c3 : e2 = 0
  case neg =>
    have q3 : ((e2 : Int) == 0) = false := by rw [beq_eq_false_iff_ne]; omega
    have HF : Hid ((rdOne b last).2.2 = false) := by
      show _ = _
      unfold rdOne
      rw [if_neg P1.out, if_pos (by rw [← hb1.out, ← he2.out]; exact c3)]
    have o0 : wb.cell? ⟨ob, 0, none⟩ = some (.string ⟨#[]⟩) := HWb.out.res.cell 0 _ rfl
    have o1 : wb.cell? ⟨ob, 1, none⟩ = some (.int .i64 0) := HWb.out.res.cell 1 _ rfl
    have o2 : wb.cell? ⟨ob, 2, none⟩ = some (.bool false) := HWb.out.res.cell 2 _ rfl
    have o3 : wb.cell? ⟨ob, 3, none⟩ = some (.string ⟨#[]⟩) := HWb.out.res.cell 3 _ rfl
    have x0 : wb.cell? ⟨ob + 1, 0, none⟩ = some (.string ⟨#[]⟩) := HWb.out.ent.cell 0 _ rfl
    have x1 : wb.cell? ⟨ob + 1, 1, none⟩ = some (.int .i64 0) := HWb.out.ent.cell 1 _ rfl
    have x2 : wb.cell? ⟨ob + 1, 2, none⟩ = some (.bool false) := HWb.out.ent.cell 2 _ rfl
    have x3 : wb.cell? ⟨ob + 1, 3, none⟩ = some (.string ⟨#[]⟩) := HWb.out.ent.cell 3 _ rfl
    have fo := HWb.out.res.free
    have fx := HWb.out.ent.free
    go_wp2
    refine bodyPost_ret (v := .tuple #[.agg (entC zeroM).toArray, .string ⟨#[]⟩, .bool false]) ?_ rfl ?_
    · rw [results_three rfl]
      unfold entC
      try unfold zeroM
      go_simp
    · exact ⟨zeroM, [], by rw [HF.out], fun h => (by rw [HF.out] at h; cases h), HWb.out.stored _ _ _ _⟩
  subst c3
  have P2 : Hid (¬(rdTxt (rdNum b).2.1).2.2 ≠ 0) := by show ¬_; rw [← hb1.out, ← he2.out]; simp
  have hb2l : b2.length ≤ maxLen := Nat.le_trans l2.out hb1l
  have H3 := Lib.hid (fun W : World => rRead b2 W hb2l)
  have l3 := Lib.hid (rdNum_len b2)
  obtain ⟨sq, hsq⟩ : ∃ sq, Hid (sq = (rdNum b2).1) := ⟨_, rfl⟩
  obtain ⟨b3, hb3⟩ : ∃ b3, Hid (b3 = (rdNum b2).2.1) := ⟨_, rfl⟩
  obtain ⟨e3, he3⟩ : ∃ e3, Hid (e3 = (rdNum b2).2.2) := ⟨_, rfl⟩
  rw [← hsq.out, ← hb3.out, ← he3.out] at H3
  rw [← hb3.out] at l3
  go_wp2_with fail
  refine (H3.out wb).mono ?_
  clear H3
  rintro e wc ⟨rfl, hba⟩
  have HWc := Lib.hid (HWb.out.below hba)
  clear HWb hba
  by_cases c4 : e3 = 0
  case neg =>
    have q4 : ((e3 : Int) == 0) = false := by rw [beq_eq_false_iff_ne]; omega
    have HF : Hid ((rdOne b last).2.2 = false) := by
      show _ = _
      unfold rdOne
      rw [if_neg P1.out, if_neg P2.out, if_pos (by rw [← hb1.out, ← hb2.out, ← he3.out]; exact c4)]
    have o0 : wc.cell? ⟨ob, 0, none⟩ = some (.string ⟨#[]⟩) := HWc.out.res.cell 0 _ rfl
    have o1 : wc.cell? ⟨ob, 1, none⟩ = some (.int .i64 0) := HWc.out.res.cell 1 _ rfl
    have o2 : wc.cell? ⟨ob, 2, none⟩ = some (.bool false) := HWc.out.res.cell 2 _ rfl
    have o3 : wc.cell? ⟨ob, 3, none⟩ = some (.string ⟨#[]⟩) := HWc.out.res.cell 3 _ rfl
    have x0 : wc.cell? ⟨ob + 1, 0, none⟩ = some (.string ⟨#[]⟩) := HWc.out.ent.cell 0 _ rfl
    have x1 : wc.cell? ⟨ob + 1, 1, none⟩ = some (.int .i64 0) := HWc.out.ent.cell 1 _ rfl
    have x2 : wc.cell? ⟨ob + 1, 2, none⟩ = some (.bool false) := HWc.out.ent.cell 2 _ rfl
    have x3 : wc.cell? ⟨ob + 1, 3, none⟩ = some (.string ⟨#[]⟩) := HWc.out.ent.cell 3 _ rfl
    have fo := HWc.out.res.free
    have fx := HWc.out.ent.free
    go_wp2
    refine bodyPost_ret (v := .tuple #[.agg (entC zeroM).toArray, .string ⟨#[]⟩, .bool false]) ?_ rfl ?_
    · rw [results_three rfl]
      unfold entC
      try unfold zeroM
      go_simp
    · exact ⟨zeroM, [], by rw [HF.out], fun h => (by rw [HF.out] at h; cases h), HWc.out.stored _ _ _ _⟩
  subst c4
  have P3 : Hid (¬(rdNum (rdTxt (rdNum b).2.1).2.1).2.2 ≠ 0) := by show ¬_; rw [← hb1.out, ← hb2.out, ← he3.out]; simp
  have hb3l : b3.length ≤ maxLen := Nat.le_trans l3.out hb2l
  have H4 := Lib.hid (fun W : World => rRead b3 W hb3l)
  have l4 := Lib.hid (rdNum_len b3)
  obtain ⟨dr, hdr⟩ : ∃ dr, Hid (dr = (rdNum b3).1) := ⟨_, rfl⟩
  obtain ⟨b4, hb4⟩ : ∃ b4, Hid (b4 = (rdNum b3).2.1) := ⟨_, rfl⟩
  obtain ⟨e4, he4⟩ : ∃ e4, Hid (e4 = (rdNum b3).2.2) := ⟨_, rfl⟩
  rw [← hdr.out, ← hb4.out, ← he4.out] at H4
  rw [← hb4.out] at l4
  go_wp2_with fail
  refine (H4.out wc).mono ?_
  clear H4
  rintro e wd ⟨rfl, hba⟩
  have HWd := Lib.hid (HWc.out.below hba)
  clear HWc hba
  by_cases c5 : e4 = 0
  case neg =>
    have q5 : ((e4 : Int) == 0) = false := by rw [beq_eq_false_iff_ne]; omega
    have HF : Hid ((rdOne b last).2.2 = false) := by
      show _ = _
      unfold rdOne
      rw [if_neg P1.out, if_neg P2.out, if_neg P3.out, if_pos (.inl (by rw [← hb1.out, ← hb2.out, ← hb3.out, ← he4.out]; exact c5))]
    have o0 : wd.cell? ⟨ob, 0, none⟩ = some (.string ⟨#[]⟩) := HWd.out.res.cell 0 _ rfl
    have o1 : wd.cell? ⟨ob, 1, none⟩ = some (.int .i64 0) := HWd.out.res.cell 1 _ rfl
    have o2 : wd.cell? ⟨ob, 2, none⟩ = some (.bool false) := HWd.out.res.cell 2 _ rfl
    have o3 : wd.cell? ⟨ob, 3, none⟩ = some (.string ⟨#[]⟩) := HWd.out.res.cell 3 _ rfl
    have x0 : wd.cell? ⟨ob + 1, 0, none⟩ = some (.string ⟨#[]⟩) := HWd.out.ent.cell 0 _ rfl
    have x1 : wd.cell? ⟨ob + 1, 1, none⟩ = some (.int .i64 0) := HWd.out.ent.cell 1 _ rfl
    have x2 : wd.cell? ⟨ob + 1, 2, none⟩ = some (.bool false) := HWd.out.ent.cell 2 _ rfl
    have x3 : wd.cell? ⟨ob + 1, 3, none⟩ = some (.string ⟨#[]⟩) := HWd.out.ent.cell 3 _ rfl
    have fo := HWd.out.res.free
    have fx := HWd.out.ent.free
    go_wp2
    refine bodyPost_ret (v := .tuple #[.agg (entC zeroM).toArray, .string ⟨#[]⟩, .bool false]) ?_ rfl ?_
    · rw [results_three rfl]
      unfold entC
      try unfold zeroM
      go_simp
    · exact ⟨zeroM, [], by rw [HF.out], fun h => (by rw [HF.out] at h; cases h), HWd.out.stored _ _ _ _⟩
  subst c5
  by_cases c6 : 1 < dr
  case pos =>
    have q6 : (1 : Int) < (dr : Int) := by omega
    have HF : Hid ((rdOne b last).2.2 = false) := by
      show _ = _
      unfold rdOne
      rw [if_neg P1.out, if_neg P2.out, if_neg P3.out, if_pos (.inr (by rw [← hb1.out, ← hb2.out, ← hb3.out, ← hdr.out]; exact c6))]
    have o0 : wd.cell? ⟨ob, 0, none⟩ = some (.string ⟨#[]⟩) := HWd.out.res.cell 0 _ rfl
    have o1 : wd.cell? ⟨ob, 1, none⟩ = some (.int .i64 0) := HWd.out.res.cell 1 _ rfl
    have o2 : wd.cell? ⟨ob, 2, none⟩ = some (.bool false) := HWd.out.res.cell 2 _ rfl
    have o3 : wd.cell? ⟨ob, 3, none⟩ = some (.string ⟨#[]⟩) := HWd.out.res.cell 3 _ rfl
    have x0 : wd.cell? ⟨ob + 1, 0, none⟩ = some (.string ⟨#[]⟩) := HWd.out.ent.cell 0 _ rfl
    have x1 : wd.cell? ⟨ob + 1, 1, none⟩ = some (.int .i64 0) := HWd.out.ent.cell 1 _ rfl
    have x2 : wd.cell? ⟨ob + 1, 2, none⟩ = some (.bool false) := HWd.out.ent.cell 2 _ rfl
    have x3 : wd.cell? ⟨ob + 1, 3, none⟩ = some (.string ⟨#[]⟩) := HWd.out.ent.cell 3 _ rfl
    have fo := HWd.out.res.free
    have fx := HWd.out.ent.free
    go_wp2
    refine bodyPost_ret (v := .tuple #[.agg (entC zeroM).toArray, .string ⟨#[]⟩, .bool false]) ?_ rfl ?_
    · rw [results_three rfl]
      unfold entC
      try unfold zeroM
      go_simp
    · exact ⟨zeroM, [], by rw [HF.out], fun h => (by rw [HF.out] at h; cases h), HWd.out.stored _ _ _ _⟩
  have q6 : ¬(1 : Int) < (dr : Int) := by omega
  have P4 : Hid (¬((rdNum (rdNum (rdTxt (rdNum b).2.1).2.1).2.1).2.2 ≠ 0 ∨ 1 < (rdNum (rdNum (rdTxt (rdNum b).2.1).2.1).2.1).1)) := by show ¬_; rw [← hb1.out, ← hb2.out, ← hb3.out, ← he4.out, ← hdr.out]; omega
  obtain ⟨key, hkey⟩ : ∃ key, Hid (key = last.take n ++ s1) := ⟨_, rfl⟩
  have hcat : (⟨(last.take n).toArray⟩ : ByteArray) ++ ⟨s1.toArray⟩ = ⟨key.toArray⟩ := by rw [hkey.out]; simp
  have hsum : ¬9223372036854775807 < (n : Int) + (s1.length : Int) := by have := hs1l.out; have := HL.out; omega
  have hmn : min n last.length = n := by omega
  by_cases c7 : dr = 1
  · subst c7
    have HV : Hid (rdOne b last = ((key, (sq : Int), true, []), b4, true)) := by
      show _ = _
      unfold rdOne
      rw [if_neg P1.out, if_neg P2.out, if_neg P3.out, if_neg P4.out, if_pos (by rw [← hb1.out, ← hb2.out, ← hb3.out, ← hdr.out]), ← hb1.out, ← hb2.out, ← hb3.out, ← hb4.out, ← hsq.out, ← hn.out, ← hs1.out, ← hkey.out]

    have o0 : wd.cell? ⟨ob, 0, none⟩ = some (.string ⟨#[]⟩) := HWd.out.res.cell 0 _ rfl
    have o1 : wd.cell? ⟨ob, 1, none⟩ = some (.int .i64 0) := HWd.out.res.cell 1 _ rfl
    have o2 : wd.cell? ⟨ob, 2, none⟩ = some (.bool false) := HWd.out.res.cell 2 _ rfl
    have o3 : wd.cell? ⟨ob, 3, none⟩ = some (.string ⟨#[]⟩) := HWd.out.res.cell 3 _ rfl
    have x0 : wd.cell? ⟨ob + 1, 0, none⟩ = some (.string ⟨#[]⟩) := HWd.out.ent.cell 0 _ rfl
    have x1 : wd.cell? ⟨ob + 1, 1, none⟩ = some (.int .i64 0) := HWd.out.ent.cell 1 _ rfl
    have x2 : wd.cell? ⟨ob + 1, 2, none⟩ = some (.bool false) := HWd.out.ent.cell 2 _ rfl
    have x3 : wd.cell? ⟨ob + 1, 3, none⟩ = some (.string ⟨#[]⟩) := HWd.out.ent.cell 3 _ rfl
    have fo := HWd.out.res.free
    have fx := HWd.out.ent.free
    go_wp2
    refine bodyPost_ret (v := .tuple #[.agg (entC (key, (sq : Int), true, [])).toArray, .string ⟨b4.toArray⟩, .bool true]) ?_ rfl ?_
    · rw [results_three rfl]
      unfold entC
      try unfold zeroM
      go_simp
    · exact ⟨(key, (sq : Int), true, []), b4, by rw [HV.out], fun _ => (by rw [HV.out]; exact ⟨rfl, rfl⟩), (HWd.out.fill key (sq : Int) true []).stored _ _ _ _⟩
  · obtain rfl : dr = 0 := by omega
    have P5 : Hid (¬(rdNum (rdNum (rdTxt (rdNum b).2.1).2.1).2.1).1 = 1) := by show ¬_; rw [← hb1.out, ← hb2.out, ← hb3.out, ← hdr.out]; omega
    have hb4l : b4.length ≤ maxLen := Nat.le_trans l4.out hb3l
    have H5 := Lib.hid (fun W : World => rReadText b4 W hb4l)
    obtain ⟨v, hv⟩ : ∃ v, Hid (v = (rdTxt b4).1) := ⟨_, rfl⟩
    obtain ⟨b5, hb5⟩ : ∃ b5, Hid (b5 = (rdTxt b4).2.1) := ⟨_, rfl⟩
    obtain ⟨e5, he5⟩ : ∃ e5, Hid (e5 = (rdTxt b4).2.2) := ⟨_, rfl⟩
    rw [← hv.out, ← hb5.out, ← he5.out] at H5
    have q7 : ((0 : Int) == 1) = false := rfl
    have HWe := Lib.hid (HWd.out.fill key (sq : Int) false [])

    have o0 : wd.cell? ⟨ob, 0, none⟩ = some (.string ⟨#[]⟩) := HWd.out.res.cell 0 _ rfl
    have o1 : wd.cell? ⟨ob, 1, none⟩ = some (.int .i64 0) := HWd.out.res.cell 1 _ rfl
    have o2 : wd.cell? ⟨ob, 2, none⟩ = some (.bool false) := HWd.out.res.cell 2 _ rfl
    have o3 : wd.cell? ⟨ob, 3, none⟩ = some (.string ⟨#[]⟩) := HWd.out.res.cell 3 _ rfl
    have x0 : wd.cell? ⟨ob + 1, 0, none⟩ = some (.string ⟨#[]⟩) := HWd.out.ent.cell 0 _ rfl
    have x1 : wd.cell? ⟨ob + 1, 1, none⟩ = some (.int .i64 0) := HWd.out.ent.cell 1 _ rfl
    have x2 : wd.cell? ⟨ob + 1, 2, none⟩ = some (.bool false) := HWd.out.ent.cell 2 _ rfl
    have x3 : wd.cell? ⟨ob + 1, 3, none⟩ = some (.string ⟨#[]⟩) := HWd.out.ent.cell 3 _ rfl
    have fo := HWd.out.res.free
    have fx := HWd.out.ent.free
    go_wp2_with fail
    clear o0 o1 o2 o3 x0 x1 x2 x3 fo fx
    refine (H5.out _).mono ?_
    clear H5
    rintro e we ⟨rfl, hba⟩
    have HWf := Lib.hid (HWe.out.below hba)
    clear HWe HWd hba
    by_cases c8 : e5 = 0
    case neg =>
      have q8 : ((e5 : Int) == 0) = false := by rw [beq_eq_false_iff_ne]; omega
      have HF : Hid ((rdOne b last).2.2 = false) := by
        show _ = _
        unfold rdOne
        rw [if_neg P1.out, if_neg P2.out, if_neg P3.out, if_neg P4.out, if_neg P5.out, if_pos (by rw [← hb1.out, ← hb2.out, ← hb3.out, ← hb4.out, ← he5.out]; exact c8)]
      have o0 : we.cell? ⟨ob, 0, none⟩ = some (.string ⟨#[]⟩) := HWf.out.res.cell 0 _ rfl
      have o1 : we.cell? ⟨ob, 1, none⟩ = some (.int .i64 0) := HWf.out.res.cell 1 _ rfl
      have o2 : we.cell? ⟨ob, 2, none⟩ = some (.bool false) := HWf.out.res.cell 2 _ rfl
      have o3 : we.cell? ⟨ob, 3, none⟩ = some (.string ⟨#[]⟩) := HWf.out.res.cell 3 _ rfl
      have x0 : we.cell? ⟨ob + 1, 0, none⟩ = some (.string ⟨key.toArray⟩) := HWf.out.ent.cell 0 _ rfl
      have x1 : we.cell? ⟨ob + 1, 1, none⟩ = some (.int .i64 (sq : Int)) := HWf.out.ent.cell 1 _ rfl
      have x2 : we.cell? ⟨ob + 1, 2, none⟩ = some (.bool false) := HWf.out.ent.cell 2 _ rfl
      have x3 : we.cell? ⟨ob + 1, 3, none⟩ = some (.string ⟨#[]⟩) := HWf.out.ent.cell 3 _ rfl
      have fo := HWf.out.res.free
      have fx := HWf.out.ent.free
      go_wp2
      refine bodyPost_ret (v := .tuple #[.agg (entC (key, (sq : Int), false, [])).toArray, .string ⟨#[]⟩, .bool false]) ?_ rfl ?_
      · rw [results_three rfl]
        unfold entC
        try unfold zeroM
        go_simp
      · exact ⟨(key, (sq : Int), false, []), [], by rw [HF.out], fun h => (by rw [HF.out] at h; cases h), HWf.out.stored _ _ _ _⟩
    subst c8
    have HV : Hid (rdOne b last = ((key, (sq : Int), false, v), b5, true)) := by
      show _ = _
      unfold rdOne
      rw [if_neg P1.out, if_neg P2.out, if_neg P3.out, if_neg P4.out, if_neg P5.out, if_neg (by rw [← hb1.out, ← hb2.out, ← hb3.out, ← hb4.out, ← he5.out]; simp), ← hb1.out, ← hb2.out, ← hb3.out, ← hb4.out, ← hsq.out, ← hn.out, ← hs1.out, ← hkey.out, ← hv.out, ← hb5.out]
    have o0 : we.cell? ⟨ob, 0, none⟩ = some (.string ⟨#[]⟩) := HWf.out.res.cell 0 _ rfl
    have o1 : we.cell? ⟨ob, 1, none⟩ = some (.int .i64 0) := HWf.out.res.cell 1 _ rfl
    have o2 : we.cell? ⟨ob, 2, none⟩ = some (.bool false) := HWf.out.res.cell 2 _ rfl
    have o3 : we.cell? ⟨ob, 3, none⟩ = some (.string ⟨#[]⟩) := HWf.out.res.cell 3 _ rfl
    have x0 : we.cell? ⟨ob + 1, 0, none⟩ = some (.string ⟨key.toArray⟩) := HWf.out.ent.cell 0 _ rfl
    have x1 : we.cell? ⟨ob + 1, 1, none⟩ = some (.int .i64 (sq : Int)) := HWf.out.ent.cell 1 _ rfl
    have x2 : we.cell? ⟨ob + 1, 2, none⟩ = some (.bool false) := HWf.out.ent.cell 2 _ rfl
    have x3 : we.cell? ⟨ob + 1, 3, none⟩ = some (.string ⟨#[]⟩) := HWf.out.ent.cell 3 _ rfl
    have fo := HWf.out.res.free
    have fx := HWf.out.ent.free
    go_wp2
    refine bodyPost_ret (v := .tuple #[.agg (entC (key, (sq : Int), false, v)).toArray, .string ⟨b5.toArray⟩, .bool true]) ?_ rfl ?_
    · rw [results_three rfl]
      unfold entC
      try unfold zeroM
      go_simp
    · exact ⟨(key, (sq : Int), false, v), b5, by rw [HV.out], fun _ => (by rw [HV.out]; exact ⟨rfl, rfl⟩), (HWf.out.last v).stored _ _ _ _⟩

end Go.Proofs.Ytbiifeahdinjjaa
