/- Layer 14's landed program: rightEdit. -/
import Derived.Test.YtjdolimeibpacaaGreatVt14
import Derived.Test.YtjdolimeibpacaaGreatVd14
namespace Go.Proofs.YtjdolimeibpacaaGreat
open Go.RowKit Go.Proofs Go.Proofs.Pk
set_option maxRecDepth 10000

def numsIn (l : List Int) : Bool := l.all fun x => decide (0 ≤ x ∧ x ≤ 9007199254740991)
theorem edOk_parts (e : EdV) : edOk e = (decide (e.1.length ≤ 200) && decide (e.2.1.length ≤ 200) && decide (e.2.2.1.length ≤ 20) && decide (e.2.2.2.1.length ≤ 20) && e.1.all metaOk && numsIn e.2.1 && numsIn e.2.2.1 && numsIn e.2.2.2.1 && decide (0 ≤ e.2.2.2.2 ∧ e.2.2.2.2 ≤ 9007199254740991)) := by
  unfold edOk numsOk numsIn
  generalize decide (e.1.length ≤ 200) = a1
  generalize decide (e.2.1.length ≤ 200) = a2
  generalize decide (e.2.2.1.length ≤ 20) = a3
  generalize decide (e.2.2.2.1.length ≤ 20) = a4
  generalize e.1.all metaOk = a5
  generalize (e.2.1.all fun x => decide (0 ≤ x ∧ x ≤ 9007199254740991)) = a6
  generalize (e.2.2.1.all fun x => decide (0 ≤ x ∧ x ≤ 9007199254740991)) = a7
  generalize (e.2.2.2.1.all fun x => decide (0 ≤ x ∧ x ≤ 9007199254740991)) = a8
  generalize decide (0 ≤ e.2.2.2.2 ∧ e.2.2.2.2 ≤ 9007199254740991) = a9
  cases a1 <;> cases a2 <;> cases a3 <;> cases a4 <;> cases a5 <;> cases a6 <;> cases a7 <;> cases a8 <;> cases a9 <;> rfl

set_option maxHeartbeats 8000000 in
theorem edit14 (bd : Option Addr) (bl bc : Nat) (bd2 : Option Addr) (bl2 bc2 : Nat) (bd3 : Option Addr) (bl3 bc3 : Nat) (bd4 : Option Addr) (bl4 bc4 : Nat) (e : EdV) (w : World) (hA : MetasW w bd bl e.1) (hD : Ints w bd2 bl2 e.2.1) (hI : Ints w bd3 bl3 e.2.2.1) (hJ : Ints w bd4 bl4 e.2.2.2.1)
    (b1 : (bl : Int) ≤ 140737488355328) (b2 : (bl2 : Int) ≤ 140737488355328) (b3 : (bl3 : Int) ≤ 140737488355328) (b4 : (bl4 : Int) ≤ 140737488355328) :
    Calls Tryz.prog 14 #[edC bd bl bc bd2 bl2 bc2 bd3 bl3 bc3 bd4 bl4 bc4 e.2.2.2.2] w fun r w' => r = .returned (.bool (edOk e)) ∧ Kept (fun _ => False) w w' := by
  show Calls Tryz.prog 14 #[.agg #[.slice bd bl bc, .slice bd2 bl2 bc2, .slice bd3 bl3 bc3, .slice bd4 bl4 bc4, .int .i64 e.2.2.2.2]] w _
  rw [edOk_parts, hA.1, hD.1, hI.1, hJ.1]
  obtain ⟨A, D, I, J, s⟩ := e
  simp only at hA hD hI hJ ⊢
  have HA := Lib.hid hA
  have HD := Lib.hid hD
  have HI := Lib.hid hI
  have HJ := Lib.hid hJ
  have hk0 := (Kept.refl (fun _ => False) w).alloc (.cells #[.slice bd bl bc, .slice bd2 bl2 bc2, .slice bd3 bl3 bc3, .slice bd4 bl4 bc4, .int .i64 s] 25)
  have hB0 : Holds (w.alloc (.cells #[.slice bd bl bc, .slice bd2 bl2 bc2, .slice bd3 bl3 bc3, .slice bd4 bl4 bc4, .int .i64 s] 25)) w.heap.size [.slice bd bl bc, .slice bd2 bl2 bc2, .slice bd3 bl3 bc3, .slice bd4 bl4 bc4, .int .i64 s] 25 := Holds.new w _ _
  have HK0 := Lib.hid (And.intro hB0 hk0)
  clear hA hD hI hJ hk0 hB0
  by_cases h1 : bl ≤ 200
  case neg =>
    have n1 : ¬(bl : Int) ≤ 200 := by omega
    have hd : decide (bl ≤ 200) = false := decide_eq_false h1
    go_enter Tryz.func14, Tryz.ntmps14
    go_wp2
    go_ret
    exact ⟨ret_bool (by first | rfl | (rw [hd]; simp)), HK0.out.2⟩
  have n1 : (bl : Int) ≤ 200 := by omega
  by_cases h2 : bl2 ≤ 200
  case neg =>
    have n2 : ¬(bl2 : Int) ≤ 200 := by omega
    have hd : decide (bl2 ≤ 200) = false := decide_eq_false h2
    go_enter Tryz.func14, Tryz.ntmps14
    go_wp2
    go_ret
    exact ⟨ret_bool (by first | rfl | (rw [hd]; simp)), HK0.out.2⟩
  have n2 : (bl2 : Int) ≤ 200 := by omega
  by_cases h3 : bl3 ≤ 20
  case neg =>
    have n3 : ¬(bl3 : Int) ≤ 20 := by omega
    have hd : decide (bl3 ≤ 20) = false := decide_eq_false h3
    go_enter Tryz.func14, Tryz.ntmps14
    go_wp2
    go_ret
    exact ⟨ret_bool (by first | rfl | (rw [hd]; simp)), HK0.out.2⟩
  have n3 : (bl3 : Int) ≤ 20 := by omega
  by_cases h4 : bl4 ≤ 20
  case neg =>
    have n4 : ¬(bl4 : Int) ≤ 20 := by omega
    have hd : decide (bl4 ≤ 20) = false := decide_eq_false h4
    go_enter Tryz.func14, Tryz.ntmps14
    go_wp2
    go_ret
    exact ⟨ret_bool (by first | rfl | (rw [hd]; simp)), HK0.out.2⟩
  have n4 : (bl4 : Int) ≤ 20 := by omega
  rw [decide_eq_true h1, decide_eq_true h2, decide_eq_true h3, decide_eq_true h4]
  simp only [Bool.true_and]
  generalize ht : (decide (0 ≤ s ∧ s ≤ 9007199254740991)) = b9
  have HW : Hid (∀ W, Calls Tryz.prog 43 #[.int .i64 s, .int .i64 0, .int .i64 9007199254740991] W fun e w' => e = .returned (.bool b9) ∧ w' = W) := Lib.hid fun W => by have := within14 s 0 9007199254740991 W; rwa [ht] at this
  have HC1 := Lib.hid (anyBad bd bl bc A _ (metas_kept HA.out HK0.out.2) (by omega))
  generalize A.all metaOk = b5 at HC1 ⊢
  have HC2 : Hid (∀ W, Kept (fun _ => False) w W → Calls Tryz.prog 46 #[.slice bd2 bl2 bc2, .int .i64 0] W fun r w' => r = .returned (.bool (numsIn D)) ∧ Kept (fun _ => False) W w') := Lib.hid fun W hk => numbers14 bd2 bl2 bc2 D 0 W (ints_keptV HD.out hk) (by omega)
  have HC3 : Hid (∀ W, Kept (fun _ => False) w W → Calls Tryz.prog 46 #[.slice bd3 bl3 bc3, .int .i64 0] W fun r w' => r = .returned (.bool (numsIn I)) ∧ Kept (fun _ => False) W w') := Lib.hid fun W hk => numbers14 bd3 bl3 bc3 I 0 W (ints_keptV HI.out hk) (by omega)
  have HC4 : Hid (∀ W, Kept (fun _ => False) w W → Calls Tryz.prog 46 #[.slice bd4 bl4 bc4, .int .i64 0] W fun r w' => r = .returned (.bool (numsIn J)) ∧ Kept (fun _ => False) W w') := Lib.hid fun W hk => numbers14 bd4 bl4 bc4 J 0 W (ints_keptV HJ.out hk) (by omega)
  generalize numsIn D = b6 at HC2 ⊢
  generalize numsIn I = b7 at HC3 ⊢
  generalize numsIn J = b8 at HC4 ⊢
  clear HA HD HI HJ ht
  go_enter Tryz.func14, Tryz.ntmps14
  go_wp2_with fail
  refine HC1.out.mono ?_
  rintro r w1 ⟨rfl, hk⟩
  have HK1 : Hid (Holds w1 w.heap.size [.slice bd bl bc, .slice bd2 bl2 bc2, .slice bd3 bl3 bc3, .slice bd4 bl4 bc4, .int .i64 s] 25 ∧ Kept (fun _ => False) w w1) := Lib.hid ⟨Holds.of_block HK0.out.1 (hk.block _ (Holds.lt HK0.out.1) (fun f => f)), HK0.out.2.trans hk (fun _ f => f.elim)⟩
  clear hk HK0
  have c1 := Holds.cell HK1.out.1 1 _ rfl
  cases b5 with
  | false =>
    go_wp2
    go_ret
    exact ⟨ret_bool (by first | rfl | simp), HK1.out.2⟩
  | true =>
  go_wp2_with fail
  refine (HC2.out _ HK1.out.2).mono ?_
  rintro r w2 ⟨rfl, hk⟩
  clear c1
  have HK2 : Hid (Holds w2 w.heap.size [.slice bd bl bc, .slice bd2 bl2 bc2, .slice bd3 bl3 bc3, .slice bd4 bl4 bc4, .int .i64 s] 25 ∧ Kept (fun _ => False) w w2) := Lib.hid ⟨Holds.of_block HK1.out.1 (hk.block _ (Holds.lt HK1.out.1) (fun f => f)), HK1.out.2.trans hk (fun _ f => f.elim)⟩
  clear hk HK1
  have c2 := Holds.cell HK2.out.1 2 _ rfl
  cases b6 with
  | false =>
    go_wp2
    go_ret
    exact ⟨ret_bool (by first | rfl | simp), HK2.out.2⟩
  | true =>
  go_wp2_with fail
  refine (HC3.out _ HK2.out.2).mono ?_
  rintro r w3 ⟨rfl, hk⟩
  clear c2
  have HK3 : Hid (Holds w3 w.heap.size [.slice bd bl bc, .slice bd2 bl2 bc2, .slice bd3 bl3 bc3, .slice bd4 bl4 bc4, .int .i64 s] 25 ∧ Kept (fun _ => False) w w3) := Lib.hid ⟨Holds.of_block HK2.out.1 (hk.block _ (Holds.lt HK2.out.1) (fun f => f)), HK2.out.2.trans hk (fun _ f => f.elim)⟩
  clear hk HK2
  have c3 := Holds.cell HK3.out.1 3 _ rfl
  cases b7 with
  | false =>
    go_wp2
    go_ret
    exact ⟨ret_bool (by first | rfl | simp), HK3.out.2⟩
  | true =>
  go_wp2_with fail
  refine (HC4.out _ HK3.out.2).mono ?_
  rintro r w4 ⟨rfl, hk⟩
  clear c3
  have HK4 : Hid (Holds w4 w.heap.size [.slice bd bl bc, .slice bd2 bl2 bc2, .slice bd3 bl3 bc3, .slice bd4 bl4 bc4, .int .i64 s] 25 ∧ Kept (fun _ => False) w w4) := Lib.hid ⟨Holds.of_block HK3.out.1 (hk.block _ (Holds.lt HK3.out.1) (fun f => f)), HK3.out.2.trans hk (fun _ f => f.elim)⟩
  clear hk HK3
  have c4 := Holds.cell HK4.out.1 4 _ rfl
  cases b8 with
  | false =>
    go_wp2
    go_ret
    exact ⟨ret_bool (by first | rfl | simp), HK4.out.2⟩
  | true =>
  go_wp2_with fail
  refine (HW.out _).mono ?_
  rintro r w5 ⟨rfl, hw⟩
  rw [hw]
  clear hw
  go_wp2
  go_ret
  exact ⟨ret_bool (by first | rfl | simp), HK4.out.2⟩

end Go.Proofs.YtjdolimeibpacaaGreat
