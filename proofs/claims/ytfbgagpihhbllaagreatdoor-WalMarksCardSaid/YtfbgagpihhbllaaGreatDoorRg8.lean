/- The reference of layer 8: Mark. -/
import Derived.Test.YtfbgagpihhbllaaGreatDoorRf8
import Derived.Test.YtfbgagpihhbllaaGreatDoorTorn8
namespace Go.Proofs.YtfbgagpihhbllaaGreatDoor
open Go.RowKit Go.Proofs Go.Proofs.Pk
set_option maxRecDepth 10000
attribute [local simp] mk_get wrap64_u8 mk_extract ByteArray.mk_append_mk get_1k

set_option maxHeartbeats 1000000 in
theorem r8Mark_bad (i k n : Int) (w : World) (h : ¬MarkI i k n) :
    Calls Tryz.prog 10 #[.int .i64 i, .int .i64 k, .int .i64 n] w fun e w' => e = .returned (.tuple #[.string ⟨#[]⟩, .bool false]) ∧ w' = w := by
  have hb := markI_six h
  clear h
  by_cases k1 : i < 1
  case' neg =>
    by_cases k2 : 9007199254740991 < i
    case' neg =>
      by_cases k3 : k < 0
      case' neg =>
        by_cases k4 : 2147483647 < k
        case' neg =>
          by_cases k5 : n < 0
          case' neg =>
            have k6 : 2147483647 < n := by omega
  all_goals
    clear hb
    go_enter Tryz.func10, Tryz.ntmps10
    go_wp2
    all_goals
      go_ret2
      exact ⟨rfl, rfl⟩

/- MARK GRID -/
section
variable {P : Program} {ops : Array Oper} {Q : Exit → Act → World → Prop} {md : Region.Mode} {S : World → Prop} {z : Nat}
/-- A call or an operation that makes memory may come up. -/
theorem wpAnyU_two {i j : Nat} {oi oj : Oper} {f : Nat} {args : Array Value} {vj : Value} {wj : World} {fuel : Nat} {listed : Array Bool} {a : Act} {w : World} (di dj : Option Tmp) (hi : ops[i]? = some oi) (hj : ops[j]? = some oj) (hdi : oi.dst = di) (hdj : oj.dst = dj)
    (hr : Region.ready md ops listed = [i, j] ∨ Region.ready md ops listed = [j, i]) (hgi : Region.wanted oi (yielded ops a.tmps) = true) (hgj : Region.wanted oj (yielded ops a.tmps) = true) (hri : (execOp a.eval oi).run P w = .ok (.enter f args) w)
    (h : Calls P f args w fun e w' => ∃ v, e = .returned v ∧ (i < z → S w') ∧ wpAnyU P md ops Q S z fuel (listed.setIfInBounds i true) (a.put di v) w')
    (hrj : (execOp a.eval oj).run P w = .ok (.value vj) wj) (h2 : (j < z → S wj) ∧ wpAnyU P md ops Q S z fuel (listed.setIfInBounds j true) (a.put dj vj) wj) : wpAnyU P md ops Q S z (fuel + 1) listed a w := by
  subst hdi hdj
  have hm : ∀ k, k ∈ Region.ready md ops listed → k = i ∨ k = j := fun k hk => by
    rcases hr with h | h <;> rw [h] at hk <;> simp at hk <;> omega
  refine ⟨fun h0 => by rcases hr with h | h <;> rw [h] at h0 <;> simp at h0, ?_⟩
  intro k hk
  rcases hm k hk with rfl | rfl
  · unfold wpOp
    simp only [hi, hgi, if_true, Oper.wp, hri, Oper.upon]
    refine .inl (h.mono ?_)
    rintro e w' ⟨v, rfl, h1, h2⟩
    exact ⟨h1, h2⟩
  · unfold wpOp
    simp only [hj, hgj, if_true, Oper.wp, hrj, Oper.upon]
    exact .inl h2
theorem with_name {fuel : Nat} {listed : Array Bool} {a : Act} {w : World} (h : ∀ T : Nat → Array Bool → Act → World → Prop, T = wpAnyU P md ops Q S z → T fuel listed a w) : wpAnyU P md ops Q S z fuel listed a w := h _ rfl
end
theorem cast4 {T : Nat → Array Bool → Act → World → Prop} {f : Nat} {l l' : Array Bool} {a a' : Act} {W : World} (hl : l' = l) (ha : a' = a) (h : T f l a W) : T f l' a' W := by subst hl ha; exact h
/-- A world in which the zero bytes are made. -/
def Good8 (w : World) (Z : List UInt8) (W : World) (g : Nat) : Prop := Kept (fun _ => False) w W ∧ W.ownsRow 0 5 1 (.slice (some ⟨g, 0, none⟩) 36 36) 36 (Lib.byteCells Z)
theorem Good8.call {w W W1 : World} {Z : List UInt8} {g : Nat} (h : Good8 w Z W g) (hb : Below W.heap.size W W1) : Good8 w Z W1 g := ⟨h.1.trans (Kept.of_below (fun _ => False) hb) (fun _ hf => hf.elim), owns_below h.2 hb⟩
theorem Good8.conv {w W : World} {Z : List UInt8} {g : Nat} (h : Good8 w Z W g) (hl : Z.length = 36) : (convert 60 9 (.slice (some ⟨g, 0, none⟩) 36 36)).run Tryz.prog W = .ok (.string ⟨Z.toArray⟩) W := conv_own8 _ _ _ _ Z 36 hl.symm h.2
theorem Good8.new {w W : World} {Z : List UInt8} {ZC : Array Value} (hz : ZC.toList = Lib.byteCells Z ∧ ZC.size = 36) (h : Kept (fun _ => False) w W) : Good8 w Z (W.alloc (.cells ZC 5)) W.heap.size := by
  refine ⟨h.alloc _, ?_⟩
  have := World.ownsRow_lit (e := 5) (base := 0) (size := 1) W ZC 36 (Nat.zero_le _) (by unfold maxLen; omega) (by rw [hz.2])
  rw [hz.1] at this
  exact this

set_option maxHeartbeats 4000000 in
theorem r8Mark_ok (i k n : Nat) (w : World) (h : MarkOk i k n) :
    Calls Tryz.prog 10 #[.int .i64 (i : Int), .int .i64 (k : Int), .int .i64 (n : Int)] w fun e w' => e = .returned (.tuple #[.string ⟨(markN i k n).toArray⟩, .bool true]) ∧ Kept (fun _ => False) w w' := by
  obtain ⟨a1, a2, a3, a4⟩ := h
  unfold MaxN at a2
  unfold Max31 at a3 a4
  have e1 : decide ((i : Int) < 1) = false := by rw [decide_eq_false_iff_not]; omega
  have e2 : decide (9007199254740991 < (i : Int)) = false := by rw [decide_eq_false_iff_not]; omega
  have e3 : decide ((k : Int) < 0) = false := by rw [decide_eq_false_iff_not]; omega
  have e4 : decide (2147483647 < (k : Int)) = false := by rw [decide_eq_false_iff_not]; omega
  have e5 : decide ((n : Int) < 0) = false := by rw [decide_eq_false_iff_not]; omega
  have e6 : decide (2147483647 < (n : Int)) = false := by rw [decide_eq_false_iff_not]; omega
  clear a1 a2 a3 a4
  have HBA : Hid (∀ W, Calls Tryz.prog 29 #[.int .i64 (i : Int), .int .i64 7] W fun e w' => e = .returned (.string ⟨(big 7 i).toArray⟩) ∧ Below W.heap.size W w') := fun W => pBig i 7 W (by omega) (by omega)
  have HBB : Hid (∀ W, Calls Tryz.prog 29 #[.int .i64 (k : Int), .int .i64 4] W fun e w' => e = .returned (.string ⟨(big 4 k).toArray⟩) ∧ Below W.heap.size W w') := fun W => pBig k 4 W (by omega) (by omega)
  have HBC : Hid (∀ W, Calls Tryz.prog 29 #[.int .i64 (n : Int), .int .i64 4] W fun e w' => e = .returned (.string ⟨(big 4 n).toArray⟩) ∧ Below W.heap.size W w') := fun W => pBig n 4 W (by omega) (by omega)
  obtain ⟨ZC, hZC0⟩ : ∃ ZC, ZC = (List.replicate 36 (Value.int .u8 0)).toArray := ⟨_, rfl⟩
  have HMK : Hid (∀ W, (Instr.makeSlice 60 (.int .i64 36) (.int .i64 36)).run Tryz.prog W = .ok (.slice (some ⟨W.heap.size, 0, none⟩) 36 36) (W.alloc (.cells ZC 5))) := fun W => by rw [hZC0]; exact zero_makeN 36 (by omega) W
  obtain ⟨A, hA⟩ : ∃ A, A = big 7 i := ⟨_, rfl⟩
  obtain ⟨B, hB⟩ : ∃ B, B = big 4 k := ⟨_, rfl⟩
  obtain ⟨C, hC⟩ : ∃ C, C = big 4 n := ⟨_, rfl⟩
  obtain ⟨Z, hZ⟩ : ∃ Z : List UInt8, Z = List.replicate 36 0 := ⟨_, rfl⟩
  have hZl : Z.length = 36 := by rw [hZ]; simp
  have hZC : ZC.toList = Lib.byteCells Z ∧ ZC.size = 36 := by rw [hZC0, hZ]; simp [Lib.byteCells]
  have HS6 : Hid (((((([76, 71] ++ A) ++ B) ++ C) ++ Z) ++ A) ++ B = markN i k n) := by show _ = _; rw [hA, hB, hC, hZ]; simp [markN]
  have hAl : A.length = 7 := by rw [hA, big_length]
  have hBl : B.length = 4 := by rw [hB, big_length]
  have hCl : C.length = 4 := by rw [hC, big_length]
  rw [← hA] at HBA
  rw [← hB] at HBB
  rw [← hC] at HBC
  clear hA hB hC hZ hZC0
  go_enter Tryz.func10, Tryz.ntmps10
  go_upto_region 3 with (fail)
  refine wp_region_until (fun _ => True) 20 (by kernel_rfl) ?_
  have hW0 : Kept (fun _ => False) w w.drew := (Kept.refl _ w).drewN 1
  generalize w.drew = W0 at hW0 ⊢
  refine wpAnyU_take (i := 0) (v := Value.int IntKind.i64 (i : Int)) (some 30) rfl rfl (by kernel_rfl) (by kernel_rfl) (by kernel_rfl) (by kernel_rfl) (fun _ _ _ h => h) trivial (yields_of (by kernel_rfl) (fun w _ => by go_simp)) ?_
  refine wpAnyU_take (i := 3) (v := Value.int IntKind.i64 (k : Int)) (some 33) rfl rfl (by kernel_rfl) (by kernel_rfl) (by kernel_rfl) (by kernel_rfl) (fun _ _ _ h => h) trivial (yields_of (by kernel_rfl) (fun w _ => by go_simp)) ?_
  refine wpAnyU_take (i := 6) (v := Value.int IntKind.i64 (n : Int)) (some 36) rfl rfl (by kernel_rfl) (by kernel_rfl) (by kernel_rfl) (by kernel_rfl) (fun _ _ _ h => h) trivial (yields_of (by kernel_rfl) (fun w _ => by go_simp)) ?_
  refine wpAnyU_take (i := 12) (v := Value.int IntKind.i64 (i : Int)) (some 42) rfl rfl (by kernel_rfl) (by kernel_rfl) (by kernel_rfl) (by kernel_rfl) (fun _ _ _ h => h) trivial (yields_of (by kernel_rfl) (fun w _ => by go_simp)) ?_
  refine wpAnyU_take (i := 15) (v := Value.int IntKind.i64 (k : Int)) (some 45) rfl rfl (by kernel_rfl) (by kernel_rfl) (by kernel_rfl) (by kernel_rfl) (fun _ _ _ h => h) trivial (yields_of (by kernel_rfl) (fun w _ => by go_simp)) ?_
  refine with_name fun T hT => ?_
  have P52 : ∀ (W : World) (g : Nat), Kept (fun _ => False) w W → T 2 #[true, true, true, true, true, true, true, true, true, true, true, true, true, true, true, true, true, true, false, false] ⟨#[Value.int IntKind.i64 (i : Int), Value.int IntKind.i64 (k : Int), Value.int IntKind.i64 (n : Int), undef, undef, undef, Value.string { data := #[] }, Value.bool false, Value.int IntKind.i64 (i : Int), Value.bool false, Value.bool false, Value.int IntKind.i64 (i : Int), Value.bool false, Value.bool false, Value.bool false, Value.int IntKind.i64 (k : Int), Value.bool false, Value.bool false, Value.bool false, Value.int IntKind.i64 (k : Int), Value.bool false, Value.bool false, Value.bool false, Value.int IntKind.i64 (n : Int), Value.bool false, Value.bool false, Value.bool false, Value.int IntKind.i64 (n : Int), Value.bool false, Value.bool false, Value.int IntKind.i64 (i : Int), Value.string { data := (A).toArray }, Value.string { data := ([76, 71] ++ A).toArray }, Value.int IntKind.i64 (k : Int), Value.string { data := (B).toArray }, Value.string { data := (([76, 71] ++ A) ++ B).toArray }, Value.int IntKind.i64 (n : Int), Value.string { data := (C).toArray }, Value.string { data := ((([76, 71] ++ A) ++ B) ++ C).toArray }, Value.slice (some { block := g, off := 0 }) 36 36, Value.string { data := (Z).toArray }, Value.string { data := (((([76, 71] ++ A) ++ B) ++ C) ++ Z).toArray }, Value.int IntKind.i64 (i : Int), Value.string { data := (A).toArray }, Value.string { data := ((((([76, 71] ++ A) ++ B) ++ C) ++ Z) ++ A).toArray }, Value.int IntKind.i64 (k : Int), Value.string { data := (B).toArray }, Value.string { data := (((((([76, 71] ++ A) ++ B) ++ C) ++ Z) ++ A) ++ B).toArray }], []⟩ W := by
    intro W g hW
    rw [hT]
    refine wpAnyU_run (i := 18) (v := Value.string { data := (((((([76, 71] ++ A) ++ B) ++ C) ++ Z) ++ A) ++ B).toArray }) (w' := W) (some 6) rfl rfl (by kernel_rfl) (by kernel_rfl) (by kernel_rfl) (fun _ => trivial) ?_
    refine wpAnyU_run (i := 19) (v := .bool true) (w' := W) (some 7) rfl rfl (by kernel_rfl) (by kernel_rfl) (by kernel_rfl) (fun _ => trivial) ?_
    refine wpAnyU_done (by kernel_rfl) ?_ _
    simp only [put_lit, List.set_cons_succ, List.set_cons_zero]
    clear hT
    have HW := Lib.hid hW
    clear hW
    generalize hS6 : ((((([76, 71] ++ A) ++ B) ++ C) ++ Z) ++ A) ++ B = S6 at HS6 ⊢
    go_wp2
    go_ret2
    exact ⟨by rw [HS6.out]; rfl, HW.out⟩
  have P42 : ∀ (W : World) (g : Nat), Kept (fun _ => False) w W → T 4 #[true, true, true, true, true, true, true, true, true, true, true, true, true, true, true, true, false, false, false, false] ⟨#[Value.int IntKind.i64 (i : Int), Value.int IntKind.i64 (k : Int), Value.int IntKind.i64 (n : Int), undef, undef, undef, Value.string { data := #[] }, Value.bool false, Value.int IntKind.i64 (i : Int), Value.bool false, Value.bool false, Value.int IntKind.i64 (i : Int), Value.bool false, Value.bool false, Value.bool false, Value.int IntKind.i64 (k : Int), Value.bool false, Value.bool false, Value.bool false, Value.int IntKind.i64 (k : Int), Value.bool false, Value.bool false, Value.bool false, Value.int IntKind.i64 (n : Int), Value.bool false, Value.bool false, Value.bool false, Value.int IntKind.i64 (n : Int), Value.bool false, Value.bool false, Value.int IntKind.i64 (i : Int), Value.string { data := (A).toArray }, Value.string { data := ([76, 71] ++ A).toArray }, Value.int IntKind.i64 (k : Int), Value.string { data := (B).toArray }, Value.string { data := (([76, 71] ++ A) ++ B).toArray }, Value.int IntKind.i64 (n : Int), Value.string { data := (C).toArray }, Value.string { data := ((([76, 71] ++ A) ++ B) ++ C).toArray }, Value.slice (some { block := g, off := 0 }) 36 36, Value.string { data := (Z).toArray }, Value.string { data := (((([76, 71] ++ A) ++ B) ++ C) ++ Z).toArray }, Value.int IntKind.i64 (i : Int), Value.string { data := (A).toArray }, Value.string { data := ((((([76, 71] ++ A) ++ B) ++ C) ++ Z) ++ A).toArray }, Value.int IntKind.i64 (k : Int), undef, undef], []⟩ W := by
    intro W g hW
    rw [hT]
    refine wpAnyU_call (i := 16) (f := 29) (args := #[.int .i64 (k : Int), .int .i64 4]) (some 46) rfl rfl (by kernel_rfl) (by kernel_rfl) (by kernel_rfl) ?_
    refine (HBB.out W).mono ?_
    rintro e W1 ⟨rfl, hb⟩
    refine ⟨_, rfl, fun _ => trivial, ?_⟩
    refine wpAnyU_take (i := 17) (v := Value.string { data := (((((([76, 71] ++ A) ++ B) ++ C) ++ Z) ++ A) ++ B).toArray }) (some 47) rfl rfl (by kernel_rfl) (by kernel_rfl) (by kernel_rfl) (by kernel_rfl) (fun _ _ _ h => h) trivial (yields_of (by kernel_rfl) (fun w _ => by go_simp)) ?_
    rw [← hT]
    exact cast4 (by kernel_rfl) (by kernel_rfl) (P52 W1 g (hW.trans (Kept.of_below (fun _ => False) hb) (fun _ hf => hf.elim)))
  have P32 : ∀ (W : World) (g : Nat), Kept (fun _ => False) w W → T 6 #[true, true, true, true, true, true, true, true, true, true, true, true, true, false, false, true, false, false, false, false] ⟨#[Value.int IntKind.i64 (i : Int), Value.int IntKind.i64 (k : Int), Value.int IntKind.i64 (n : Int), undef, undef, undef, Value.string { data := #[] }, Value.bool false, Value.int IntKind.i64 (i : Int), Value.bool false, Value.bool false, Value.int IntKind.i64 (i : Int), Value.bool false, Value.bool false, Value.bool false, Value.int IntKind.i64 (k : Int), Value.bool false, Value.bool false, Value.bool false, Value.int IntKind.i64 (k : Int), Value.bool false, Value.bool false, Value.bool false, Value.int IntKind.i64 (n : Int), Value.bool false, Value.bool false, Value.bool false, Value.int IntKind.i64 (n : Int), Value.bool false, Value.bool false, Value.int IntKind.i64 (i : Int), Value.string { data := (A).toArray }, Value.string { data := ([76, 71] ++ A).toArray }, Value.int IntKind.i64 (k : Int), Value.string { data := (B).toArray }, Value.string { data := (([76, 71] ++ A) ++ B).toArray }, Value.int IntKind.i64 (n : Int), Value.string { data := (C).toArray }, Value.string { data := ((([76, 71] ++ A) ++ B) ++ C).toArray }, Value.slice (some { block := g, off := 0 }) 36 36, Value.string { data := (Z).toArray }, Value.string { data := (((([76, 71] ++ A) ++ B) ++ C) ++ Z).toArray }, Value.int IntKind.i64 (i : Int), undef, undef, Value.int IntKind.i64 (k : Int), undef, undef], []⟩ W := by
    intro W g hW
    rw [hT]
    refine wpAnyU_call (i := 13) (f := 29) (args := #[.int .i64 (i : Int), .int .i64 7]) (some 43) rfl rfl (by kernel_rfl) (by kernel_rfl) (by kernel_rfl) ?_
    refine (HBA.out W).mono ?_
    rintro e W1 ⟨rfl, hb⟩
    refine ⟨_, rfl, fun _ => trivial, ?_⟩
    refine wpAnyU_take (i := 14) (v := Value.string { data := ((((([76, 71] ++ A) ++ B) ++ C) ++ Z) ++ A).toArray }) (some 44) rfl rfl (by kernel_rfl) (by kernel_rfl) (by kernel_rfl) (by kernel_rfl) (fun _ _ _ h => h) trivial (yields_of (by kernel_rfl) (fun w _ => by go_simp)) ?_
    rw [← hT]
    exact cast4 (by kernel_rfl) (by kernel_rfl) (P42 W1 g (hW.trans (Kept.of_below (fun _ => False) hb) (fun _ hf => hf.elim)))
  have P22 : ∀ (W : World) (g : Nat), Kept (fun _ => False) w W → T 9 #[true, true, true, true, true, true, true, false, false, true, true, false, true, false, false, true, false, false, false, false] ⟨#[Value.int IntKind.i64 (i : Int), Value.int IntKind.i64 (k : Int), Value.int IntKind.i64 (n : Int), undef, undef, undef, Value.string { data := #[] }, Value.bool false, Value.int IntKind.i64 (i : Int), Value.bool false, Value.bool false, Value.int IntKind.i64 (i : Int), Value.bool false, Value.bool false, Value.bool false, Value.int IntKind.i64 (k : Int), Value.bool false, Value.bool false, Value.bool false, Value.int IntKind.i64 (k : Int), Value.bool false, Value.bool false, Value.bool false, Value.int IntKind.i64 (n : Int), Value.bool false, Value.bool false, Value.bool false, Value.int IntKind.i64 (n : Int), Value.bool false, Value.bool false, Value.int IntKind.i64 (i : Int), Value.string { data := (A).toArray }, Value.string { data := ([76, 71] ++ A).toArray }, Value.int IntKind.i64 (k : Int), Value.string { data := (B).toArray }, Value.string { data := (([76, 71] ++ A) ++ B).toArray }, Value.int IntKind.i64 (n : Int), undef, undef, Value.slice (some { block := g, off := 0 }) 36 36, Value.string { data := (Z).toArray }, undef, Value.int IntKind.i64 (i : Int), undef, undef, Value.int IntKind.i64 (k : Int), undef, undef], []⟩ W := by
    intro W g hW
    rw [hT]
    refine wpAnyU_call (i := 7) (f := 29) (args := #[.int .i64 (n : Int), .int .i64 4]) (some 37) rfl rfl (by kernel_rfl) (by kernel_rfl) (by kernel_rfl) ?_
    refine (HBC.out W).mono ?_
    rintro e W1 ⟨rfl, hb⟩
    refine ⟨_, rfl, fun _ => trivial, ?_⟩
    refine wpAnyU_take (i := 8) (v := Value.string { data := ((([76, 71] ++ A) ++ B) ++ C).toArray }) (some 38) rfl rfl (by kernel_rfl) (by kernel_rfl) (by kernel_rfl) (by kernel_rfl) (fun _ _ _ h => h) trivial (yields_of (by kernel_rfl) (fun w _ => by go_simp)) ?_
    refine wpAnyU_take (i := 11) (v := Value.string { data := (((([76, 71] ++ A) ++ B) ++ C) ++ Z).toArray }) (some 41) rfl rfl (by kernel_rfl) (by kernel_rfl) (by kernel_rfl) (by kernel_rfl) (fun _ _ _ h => h) trivial (yields_of (by kernel_rfl) (fun w _ => by go_simp)) ?_
    rw [← hT]
    exact cast4 (by kernel_rfl) (by kernel_rfl) (P32 W1 g (hW.trans (Kept.of_below (fun _ => False) hb) (fun _ hf => hf.elim)))
  have P12 : ∀ (W : World) (g : Nat), Kept (fun _ => False) w W → T 11 #[true, true, true, true, false, false, true, false, false, true, true, false, true, false, false, true, false, false, false, false] ⟨#[Value.int IntKind.i64 (i : Int), Value.int IntKind.i64 (k : Int), Value.int IntKind.i64 (n : Int), undef, undef, undef, Value.string { data := #[] }, Value.bool false, Value.int IntKind.i64 (i : Int), Value.bool false, Value.bool false, Value.int IntKind.i64 (i : Int), Value.bool false, Value.bool false, Value.bool false, Value.int IntKind.i64 (k : Int), Value.bool false, Value.bool false, Value.bool false, Value.int IntKind.i64 (k : Int), Value.bool false, Value.bool false, Value.bool false, Value.int IntKind.i64 (n : Int), Value.bool false, Value.bool false, Value.bool false, Value.int IntKind.i64 (n : Int), Value.bool false, Value.bool false, Value.int IntKind.i64 (i : Int), Value.string { data := (A).toArray }, Value.string { data := ([76, 71] ++ A).toArray }, Value.int IntKind.i64 (k : Int), undef, undef, Value.int IntKind.i64 (n : Int), undef, undef, Value.slice (some { block := g, off := 0 }) 36 36, Value.string { data := (Z).toArray }, undef, Value.int IntKind.i64 (i : Int), undef, undef, Value.int IntKind.i64 (k : Int), undef, undef], []⟩ W := by
    intro W g hW
    rw [hT]
    refine wpAnyU_call (i := 4) (f := 29) (args := #[.int .i64 (k : Int), .int .i64 4]) (some 34) rfl rfl (by kernel_rfl) (by kernel_rfl) (by kernel_rfl) ?_
    refine (HBB.out W).mono ?_
    rintro e W1 ⟨rfl, hb⟩
    refine ⟨_, rfl, fun _ => trivial, ?_⟩
    refine wpAnyU_take (i := 5) (v := Value.string { data := (([76, 71] ++ A) ++ B).toArray }) (some 35) rfl rfl (by kernel_rfl) (by kernel_rfl) (by kernel_rfl) (by kernel_rfl) (fun _ _ _ h => h) trivial (yields_of (by kernel_rfl) (fun w _ => by go_simp)) ?_
    rw [← hT]
    exact cast4 (by kernel_rfl) (by kernel_rfl) (P22 W1 g (hW.trans (Kept.of_below (fun _ => False) hb) (fun _ hf => hf.elim)))
  have P02 : ∀ (W : World) (g : Nat), Kept (fun _ => False) w W → T 13 #[true, false, false, true, false, false, true, false, false, true, true, false, true, false, false, true, false, false, false, false] ⟨#[Value.int IntKind.i64 (i : Int), Value.int IntKind.i64 (k : Int), Value.int IntKind.i64 (n : Int), undef, undef, undef, Value.string { data := #[] }, Value.bool false, Value.int IntKind.i64 (i : Int), Value.bool false, Value.bool false, Value.int IntKind.i64 (i : Int), Value.bool false, Value.bool false, Value.bool false, Value.int IntKind.i64 (k : Int), Value.bool false, Value.bool false, Value.bool false, Value.int IntKind.i64 (k : Int), Value.bool false, Value.bool false, Value.bool false, Value.int IntKind.i64 (n : Int), Value.bool false, Value.bool false, Value.bool false, Value.int IntKind.i64 (n : Int), Value.bool false, Value.bool false, Value.int IntKind.i64 (i : Int), undef, undef, Value.int IntKind.i64 (k : Int), undef, undef, Value.int IntKind.i64 (n : Int), undef, undef, Value.slice (some { block := g, off := 0 }) 36 36, Value.string { data := (Z).toArray }, undef, Value.int IntKind.i64 (i : Int), undef, undef, Value.int IntKind.i64 (k : Int), undef, undef], []⟩ W := by
    intro W g hW
    rw [hT]
    refine wpAnyU_call (i := 1) (f := 29) (args := #[.int .i64 (i : Int), .int .i64 7]) (some 31) rfl rfl (by kernel_rfl) (by kernel_rfl) (by kernel_rfl) ?_
    refine (HBA.out W).mono ?_
    rintro e W1 ⟨rfl, hb⟩
    refine ⟨_, rfl, fun _ => trivial, ?_⟩
    refine wpAnyU_take (i := 2) (v := Value.string { data := ([76, 71] ++ A).toArray }) (some 32) rfl rfl (by kernel_rfl) (by kernel_rfl) (by kernel_rfl) (by kernel_rfl) (fun _ _ _ h => h) trivial (yields_of (by kernel_rfl) (fun w _ => by go_simp)) ?_
    rw [← hT]
    exact cast4 (by kernel_rfl) (by kernel_rfl) (P12 W1 g (hW.trans (Kept.of_below (fun _ => False) hb) (fun _ hf => hf.elim)))
  have P51 : ∀ (W : World) (g : Nat), Good8 w Z W g → T 6 #[true, true, true, true, true, true, true, true, true, true, false, false, true, true, false, true, true, false, false, false] ⟨#[Value.int IntKind.i64 (i : Int), Value.int IntKind.i64 (k : Int), Value.int IntKind.i64 (n : Int), undef, undef, undef, Value.string { data := #[] }, Value.bool false, Value.int IntKind.i64 (i : Int), Value.bool false, Value.bool false, Value.int IntKind.i64 (i : Int), Value.bool false, Value.bool false, Value.bool false, Value.int IntKind.i64 (k : Int), Value.bool false, Value.bool false, Value.bool false, Value.int IntKind.i64 (k : Int), Value.bool false, Value.bool false, Value.bool false, Value.int IntKind.i64 (n : Int), Value.bool false, Value.bool false, Value.bool false, Value.int IntKind.i64 (n : Int), Value.bool false, Value.bool false, Value.int IntKind.i64 (i : Int), Value.string { data := (A).toArray }, Value.string { data := ([76, 71] ++ A).toArray }, Value.int IntKind.i64 (k : Int), Value.string { data := (B).toArray }, Value.string { data := (([76, 71] ++ A) ++ B).toArray }, Value.int IntKind.i64 (n : Int), Value.string { data := (C).toArray }, Value.string { data := ((([76, 71] ++ A) ++ B) ++ C).toArray }, Value.slice (some { block := g, off := 0 }) 36 36, undef, undef, Value.int IntKind.i64 (i : Int), Value.string { data := (A).toArray }, undef, Value.int IntKind.i64 (k : Int), Value.string { data := (B).toArray }, undef], []⟩ W := by
    intro W g hW
    rw [hT]
    refine wpAnyU_run (i := 10) (some 40) rfl rfl (by kernel_rfl) (by kernel_rfl) (exec_convert (hW.conv hZl) rfl rfl) (fun _ => trivial) ?_
    refine wpAnyU_take (i := 11) (v := Value.string { data := (((([76, 71] ++ A) ++ B) ++ C) ++ Z).toArray }) (some 41) rfl rfl (by kernel_rfl) (by kernel_rfl) (by kernel_rfl) (by kernel_rfl) (fun _ _ _ h => h) trivial (yields_of (by kernel_rfl) (fun w _ => by go_simp)) ?_
    refine wpAnyU_take (i := 14) (v := Value.string { data := ((((([76, 71] ++ A) ++ B) ++ C) ++ Z) ++ A).toArray }) (some 44) rfl rfl (by kernel_rfl) (by kernel_rfl) (by kernel_rfl) (by kernel_rfl) (fun _ _ _ h => h) trivial (yields_of (by kernel_rfl) (fun w _ => by go_simp)) ?_
    refine wpAnyU_take (i := 17) (v := Value.string { data := (((((([76, 71] ++ A) ++ B) ++ C) ++ Z) ++ A) ++ B).toArray }) (some 47) rfl rfl (by kernel_rfl) (by kernel_rfl) (by kernel_rfl) (by kernel_rfl) (fun _ _ _ h => h) trivial (yields_of (by kernel_rfl) (fun w _ => by go_simp)) ?_
    rw [← hT]
    exact cast4 (by kernel_rfl) (by kernel_rfl) (P52 W g hW.1)
  have P41 : ∀ (W : World) (g : Nat), Good8 w Z W g → T 7 #[true, true, true, true, true, true, true, true, true, true, false, false, true, true, false, true, false, false, false, false] ⟨#[Value.int IntKind.i64 (i : Int), Value.int IntKind.i64 (k : Int), Value.int IntKind.i64 (n : Int), undef, undef, undef, Value.string { data := #[] }, Value.bool false, Value.int IntKind.i64 (i : Int), Value.bool false, Value.bool false, Value.int IntKind.i64 (i : Int), Value.bool false, Value.bool false, Value.bool false, Value.int IntKind.i64 (k : Int), Value.bool false, Value.bool false, Value.bool false, Value.int IntKind.i64 (k : Int), Value.bool false, Value.bool false, Value.bool false, Value.int IntKind.i64 (n : Int), Value.bool false, Value.bool false, Value.bool false, Value.int IntKind.i64 (n : Int), Value.bool false, Value.bool false, Value.int IntKind.i64 (i : Int), Value.string { data := (A).toArray }, Value.string { data := ([76, 71] ++ A).toArray }, Value.int IntKind.i64 (k : Int), Value.string { data := (B).toArray }, Value.string { data := (([76, 71] ++ A) ++ B).toArray }, Value.int IntKind.i64 (n : Int), Value.string { data := (C).toArray }, Value.string { data := ((([76, 71] ++ A) ++ B) ++ C).toArray }, Value.slice (some { block := g, off := 0 }) 36 36, undef, undef, Value.int IntKind.i64 (i : Int), Value.string { data := (A).toArray }, undef, Value.int IntKind.i64 (k : Int), undef, undef], []⟩ W := by
    intro W g hW
    rw [hT]
    refine wpAnyU_two (i := 16) (j := 10) (f := 29) (args := #[.int .i64 (k : Int), .int .i64 4]) (some 46) (some 40) rfl rfl rfl rfl (.inr (by kernel_rfl)) (by kernel_rfl) (by kernel_rfl) (by kernel_rfl) ?_ (exec_convert (hW.conv hZl) rfl rfl) ⟨fun _ => trivial, ?_⟩
    · refine (HBB.out W).mono ?_
      rintro e W1 ⟨rfl, hb⟩
      refine ⟨_, rfl, fun _ => trivial, ?_⟩
      rw [← hT]
      exact cast4 (by kernel_rfl) (by kernel_rfl) (P51 W1 g (hW.call hb))
    · refine wpAnyU_take (i := 11) (v := Value.string { data := (((([76, 71] ++ A) ++ B) ++ C) ++ Z).toArray }) (some 41) rfl rfl (by kernel_rfl) (by kernel_rfl) (by kernel_rfl) (by kernel_rfl) (fun _ _ _ h => h) trivial (yields_of (by kernel_rfl) (fun w _ => by go_simp)) ?_
      refine wpAnyU_take (i := 14) (v := Value.string { data := ((((([76, 71] ++ A) ++ B) ++ C) ++ Z) ++ A).toArray }) (some 44) rfl rfl (by kernel_rfl) (by kernel_rfl) (by kernel_rfl) (by kernel_rfl) (fun _ _ _ h => h) trivial (yields_of (by kernel_rfl) (fun w _ => by go_simp)) ?_
      rw [← hT]
      exact cast4 (by kernel_rfl) (by kernel_rfl) (P42 W g hW.1)
  have P31 : ∀ (W : World) (g : Nat), Good8 w Z W g → T 8 #[true, true, true, true, true, true, true, true, true, true, false, false, true, false, false, true, false, false, false, false] ⟨#[Value.int IntKind.i64 (i : Int), Value.int IntKind.i64 (k : Int), Value.int IntKind.i64 (n : Int), undef, undef, undef, Value.string { data := #[] }, Value.bool false, Value.int IntKind.i64 (i : Int), Value.bool false, Value.bool false, Value.int IntKind.i64 (i : Int), Value.bool false, Value.bool false, Value.bool false, Value.int IntKind.i64 (k : Int), Value.bool false, Value.bool false, Value.bool false, Value.int IntKind.i64 (k : Int), Value.bool false, Value.bool false, Value.bool false, Value.int IntKind.i64 (n : Int), Value.bool false, Value.bool false, Value.bool false, Value.int IntKind.i64 (n : Int), Value.bool false, Value.bool false, Value.int IntKind.i64 (i : Int), Value.string { data := (A).toArray }, Value.string { data := ([76, 71] ++ A).toArray }, Value.int IntKind.i64 (k : Int), Value.string { data := (B).toArray }, Value.string { data := (([76, 71] ++ A) ++ B).toArray }, Value.int IntKind.i64 (n : Int), Value.string { data := (C).toArray }, Value.string { data := ((([76, 71] ++ A) ++ B) ++ C).toArray }, Value.slice (some { block := g, off := 0 }) 36 36, undef, undef, Value.int IntKind.i64 (i : Int), undef, undef, Value.int IntKind.i64 (k : Int), undef, undef], []⟩ W := by
    intro W g hW
    rw [hT]
    refine wpAnyU_two (i := 13) (j := 10) (f := 29) (args := #[.int .i64 (i : Int), .int .i64 7]) (some 43) (some 40) rfl rfl rfl rfl (.inr (by kernel_rfl)) (by kernel_rfl) (by kernel_rfl) (by kernel_rfl) ?_ (exec_convert (hW.conv hZl) rfl rfl) ⟨fun _ => trivial, ?_⟩
    · refine (HBA.out W).mono ?_
      rintro e W1 ⟨rfl, hb⟩
      refine ⟨_, rfl, fun _ => trivial, ?_⟩
      rw [← hT]
      exact cast4 (by kernel_rfl) (by kernel_rfl) (P41 W1 g (hW.call hb))
    · refine wpAnyU_take (i := 11) (v := Value.string { data := (((([76, 71] ++ A) ++ B) ++ C) ++ Z).toArray }) (some 41) rfl rfl (by kernel_rfl) (by kernel_rfl) (by kernel_rfl) (by kernel_rfl) (fun _ _ _ h => h) trivial (yields_of (by kernel_rfl) (fun w _ => by go_simp)) ?_
      rw [← hT]
      exact cast4 (by kernel_rfl) (by kernel_rfl) (P32 W g hW.1)
  have P21 : ∀ (W : World) (g : Nat), Good8 w Z W g → T 10 #[true, true, true, true, true, true, true, false, false, true, false, false, true, false, false, true, false, false, false, false] ⟨#[Value.int IntKind.i64 (i : Int), Value.int IntKind.i64 (k : Int), Value.int IntKind.i64 (n : Int), undef, undef, undef, Value.string { data := #[] }, Value.bool false, Value.int IntKind.i64 (i : Int), Value.bool false, Value.bool false, Value.int IntKind.i64 (i : Int), Value.bool false, Value.bool false, Value.bool false, Value.int IntKind.i64 (k : Int), Value.bool false, Value.bool false, Value.bool false, Value.int IntKind.i64 (k : Int), Value.bool false, Value.bool false, Value.bool false, Value.int IntKind.i64 (n : Int), Value.bool false, Value.bool false, Value.bool false, Value.int IntKind.i64 (n : Int), Value.bool false, Value.bool false, Value.int IntKind.i64 (i : Int), Value.string { data := (A).toArray }, Value.string { data := ([76, 71] ++ A).toArray }, Value.int IntKind.i64 (k : Int), Value.string { data := (B).toArray }, Value.string { data := (([76, 71] ++ A) ++ B).toArray }, Value.int IntKind.i64 (n : Int), undef, undef, Value.slice (some { block := g, off := 0 }) 36 36, undef, undef, Value.int IntKind.i64 (i : Int), undef, undef, Value.int IntKind.i64 (k : Int), undef, undef], []⟩ W := by
    intro W g hW
    rw [hT]
    refine wpAnyU_two (i := 7) (j := 10) (f := 29) (args := #[.int .i64 (n : Int), .int .i64 4]) (some 37) (some 40) rfl rfl rfl rfl (.inl (by kernel_rfl)) (by kernel_rfl) (by kernel_rfl) (by kernel_rfl) ?_ (exec_convert (hW.conv hZl) rfl rfl) ⟨fun _ => trivial, ?_⟩
    · refine (HBC.out W).mono ?_
      rintro e W1 ⟨rfl, hb⟩
      refine ⟨_, rfl, fun _ => trivial, ?_⟩
      refine wpAnyU_take (i := 8) (v := Value.string { data := ((([76, 71] ++ A) ++ B) ++ C).toArray }) (some 38) rfl rfl (by kernel_rfl) (by kernel_rfl) (by kernel_rfl) (by kernel_rfl) (fun _ _ _ h => h) trivial (yields_of (by kernel_rfl) (fun w _ => by go_simp)) ?_
      rw [← hT]
      exact cast4 (by kernel_rfl) (by kernel_rfl) (P31 W1 g (hW.call hb))
    · rw [← hT]
      exact cast4 (by kernel_rfl) (by kernel_rfl) (P22 W g hW.1)
  have P11 : ∀ (W : World) (g : Nat), Good8 w Z W g → T 12 #[true, true, true, true, false, false, true, false, false, true, false, false, true, false, false, true, false, false, false, false] ⟨#[Value.int IntKind.i64 (i : Int), Value.int IntKind.i64 (k : Int), Value.int IntKind.i64 (n : Int), undef, undef, undef, Value.string { data := #[] }, Value.bool false, Value.int IntKind.i64 (i : Int), Value.bool false, Value.bool false, Value.int IntKind.i64 (i : Int), Value.bool false, Value.bool false, Value.bool false, Value.int IntKind.i64 (k : Int), Value.bool false, Value.bool false, Value.bool false, Value.int IntKind.i64 (k : Int), Value.bool false, Value.bool false, Value.bool false, Value.int IntKind.i64 (n : Int), Value.bool false, Value.bool false, Value.bool false, Value.int IntKind.i64 (n : Int), Value.bool false, Value.bool false, Value.int IntKind.i64 (i : Int), Value.string { data := (A).toArray }, Value.string { data := ([76, 71] ++ A).toArray }, Value.int IntKind.i64 (k : Int), undef, undef, Value.int IntKind.i64 (n : Int), undef, undef, Value.slice (some { block := g, off := 0 }) 36 36, undef, undef, Value.int IntKind.i64 (i : Int), undef, undef, Value.int IntKind.i64 (k : Int), undef, undef], []⟩ W := by
    intro W g hW
    rw [hT]
    refine wpAnyU_two (i := 4) (j := 10) (f := 29) (args := #[.int .i64 (k : Int), .int .i64 4]) (some 34) (some 40) rfl rfl rfl rfl (.inl (by kernel_rfl)) (by kernel_rfl) (by kernel_rfl) (by kernel_rfl) ?_ (exec_convert (hW.conv hZl) rfl rfl) ⟨fun _ => trivial, ?_⟩
    · refine (HBB.out W).mono ?_
      rintro e W1 ⟨rfl, hb⟩
      refine ⟨_, rfl, fun _ => trivial, ?_⟩
      refine wpAnyU_take (i := 5) (v := Value.string { data := (([76, 71] ++ A) ++ B).toArray }) (some 35) rfl rfl (by kernel_rfl) (by kernel_rfl) (by kernel_rfl) (by kernel_rfl) (fun _ _ _ h => h) trivial (yields_of (by kernel_rfl) (fun w _ => by go_simp)) ?_
      rw [← hT]
      exact cast4 (by kernel_rfl) (by kernel_rfl) (P21 W1 g (hW.call hb))
    · rw [← hT]
      exact cast4 (by kernel_rfl) (by kernel_rfl) (P12 W g hW.1)
  have P01 : ∀ (W : World) (g : Nat), Good8 w Z W g → T 14 #[true, false, false, true, false, false, true, false, false, true, false, false, true, false, false, true, false, false, false, false] ⟨#[Value.int IntKind.i64 (i : Int), Value.int IntKind.i64 (k : Int), Value.int IntKind.i64 (n : Int), undef, undef, undef, Value.string { data := #[] }, Value.bool false, Value.int IntKind.i64 (i : Int), Value.bool false, Value.bool false, Value.int IntKind.i64 (i : Int), Value.bool false, Value.bool false, Value.bool false, Value.int IntKind.i64 (k : Int), Value.bool false, Value.bool false, Value.bool false, Value.int IntKind.i64 (k : Int), Value.bool false, Value.bool false, Value.bool false, Value.int IntKind.i64 (n : Int), Value.bool false, Value.bool false, Value.bool false, Value.int IntKind.i64 (n : Int), Value.bool false, Value.bool false, Value.int IntKind.i64 (i : Int), undef, undef, Value.int IntKind.i64 (k : Int), undef, undef, Value.int IntKind.i64 (n : Int), undef, undef, Value.slice (some { block := g, off := 0 }) 36 36, undef, undef, Value.int IntKind.i64 (i : Int), undef, undef, Value.int IntKind.i64 (k : Int), undef, undef], []⟩ W := by
    intro W g hW
    rw [hT]
    refine wpAnyU_two (i := 1) (j := 10) (f := 29) (args := #[.int .i64 (i : Int), .int .i64 7]) (some 31) (some 40) rfl rfl rfl rfl (.inl (by kernel_rfl)) (by kernel_rfl) (by kernel_rfl) (by kernel_rfl) ?_ (exec_convert (hW.conv hZl) rfl rfl) ⟨fun _ => trivial, ?_⟩
    · refine (HBA.out W).mono ?_
      rintro e W1 ⟨rfl, hb⟩
      refine ⟨_, rfl, fun _ => trivial, ?_⟩
      refine wpAnyU_take (i := 2) (v := Value.string { data := ([76, 71] ++ A).toArray }) (some 32) rfl rfl (by kernel_rfl) (by kernel_rfl) (by kernel_rfl) (by kernel_rfl) (fun _ _ _ h => h) trivial (yields_of (by kernel_rfl) (fun w _ => by go_simp)) ?_
      rw [← hT]
      exact cast4 (by kernel_rfl) (by kernel_rfl) (P11 W1 g (hW.call hb))
    · rw [← hT]
      exact cast4 (by kernel_rfl) (by kernel_rfl) (P02 W g hW.1)
  have P50 : ∀ (W : World) (g : Nat), Kept (fun _ => False) w W → T 7 #[true, true, true, true, true, true, true, true, true, false, false, false, true, true, false, true, true, false, false, false] ⟨#[Value.int IntKind.i64 (i : Int), Value.int IntKind.i64 (k : Int), Value.int IntKind.i64 (n : Int), undef, undef, undef, Value.string { data := #[] }, Value.bool false, Value.int IntKind.i64 (i : Int), Value.bool false, Value.bool false, Value.int IntKind.i64 (i : Int), Value.bool false, Value.bool false, Value.bool false, Value.int IntKind.i64 (k : Int), Value.bool false, Value.bool false, Value.bool false, Value.int IntKind.i64 (k : Int), Value.bool false, Value.bool false, Value.bool false, Value.int IntKind.i64 (n : Int), Value.bool false, Value.bool false, Value.bool false, Value.int IntKind.i64 (n : Int), Value.bool false, Value.bool false, Value.int IntKind.i64 (i : Int), Value.string { data := (A).toArray }, Value.string { data := ([76, 71] ++ A).toArray }, Value.int IntKind.i64 (k : Int), Value.string { data := (B).toArray }, Value.string { data := (([76, 71] ++ A) ++ B).toArray }, Value.int IntKind.i64 (n : Int), Value.string { data := (C).toArray }, Value.string { data := ((([76, 71] ++ A) ++ B) ++ C).toArray }, undef, undef, undef, Value.int IntKind.i64 (i : Int), Value.string { data := (A).toArray }, undef, Value.int IntKind.i64 (k : Int), Value.string { data := (B).toArray }, undef], []⟩ W := by
    intro W g hW
    rw [hT]
    refine wpAnyU_run (i := 9) (some 39) rfl rfl (by kernel_rfl) (by kernel_rfl) (exec_make (HMK.out W) rfl rfl rfl) (fun _ => trivial) ?_
    rw [← hT]
    exact cast4 (by kernel_rfl) (by kernel_rfl) (P51 (W.alloc (.cells ZC 5)) W.heap.size (Good8.new hZC hW))
  have P40 : ∀ (W : World) (g : Nat), Kept (fun _ => False) w W → T 8 #[true, true, true, true, true, true, true, true, true, false, false, false, true, true, false, true, false, false, false, false] ⟨#[Value.int IntKind.i64 (i : Int), Value.int IntKind.i64 (k : Int), Value.int IntKind.i64 (n : Int), undef, undef, undef, Value.string { data := #[] }, Value.bool false, Value.int IntKind.i64 (i : Int), Value.bool false, Value.bool false, Value.int IntKind.i64 (i : Int), Value.bool false, Value.bool false, Value.bool false, Value.int IntKind.i64 (k : Int), Value.bool false, Value.bool false, Value.bool false, Value.int IntKind.i64 (k : Int), Value.bool false, Value.bool false, Value.bool false, Value.int IntKind.i64 (n : Int), Value.bool false, Value.bool false, Value.bool false, Value.int IntKind.i64 (n : Int), Value.bool false, Value.bool false, Value.int IntKind.i64 (i : Int), Value.string { data := (A).toArray }, Value.string { data := ([76, 71] ++ A).toArray }, Value.int IntKind.i64 (k : Int), Value.string { data := (B).toArray }, Value.string { data := (([76, 71] ++ A) ++ B).toArray }, Value.int IntKind.i64 (n : Int), Value.string { data := (C).toArray }, Value.string { data := ((([76, 71] ++ A) ++ B) ++ C).toArray }, undef, undef, undef, Value.int IntKind.i64 (i : Int), Value.string { data := (A).toArray }, undef, Value.int IntKind.i64 (k : Int), undef, undef], []⟩ W := by
    intro W g hW
    rw [hT]
    refine wpAnyU_two (i := 16) (j := 9) (f := 29) (args := #[.int .i64 (k : Int), .int .i64 4]) (some 46) (some 39) rfl rfl rfl rfl (.inr (by kernel_rfl)) (by kernel_rfl) (by kernel_rfl) (by kernel_rfl) ?_ (exec_make (HMK.out W) rfl rfl rfl) ⟨fun _ => trivial, ?_⟩
    · refine (HBB.out W).mono ?_
      rintro e W1 ⟨rfl, hb⟩
      refine ⟨_, rfl, fun _ => trivial, ?_⟩
      rw [← hT]
      exact cast4 (by kernel_rfl) (by kernel_rfl) (P50 W1 g (hW.trans (Kept.of_below (fun _ => False) hb) (fun _ hf => hf.elim)))
    · rw [← hT]
      exact cast4 (by kernel_rfl) (by kernel_rfl) (P41 (W.alloc (.cells ZC 5)) W.heap.size (Good8.new hZC hW))
  have P30 : ∀ (W : World) (g : Nat), Kept (fun _ => False) w W → T 9 #[true, true, true, true, true, true, true, true, true, false, false, false, true, false, false, true, false, false, false, false] ⟨#[Value.int IntKind.i64 (i : Int), Value.int IntKind.i64 (k : Int), Value.int IntKind.i64 (n : Int), undef, undef, undef, Value.string { data := #[] }, Value.bool false, Value.int IntKind.i64 (i : Int), Value.bool false, Value.bool false, Value.int IntKind.i64 (i : Int), Value.bool false, Value.bool false, Value.bool false, Value.int IntKind.i64 (k : Int), Value.bool false, Value.bool false, Value.bool false, Value.int IntKind.i64 (k : Int), Value.bool false, Value.bool false, Value.bool false, Value.int IntKind.i64 (n : Int), Value.bool false, Value.bool false, Value.bool false, Value.int IntKind.i64 (n : Int), Value.bool false, Value.bool false, Value.int IntKind.i64 (i : Int), Value.string { data := (A).toArray }, Value.string { data := ([76, 71] ++ A).toArray }, Value.int IntKind.i64 (k : Int), Value.string { data := (B).toArray }, Value.string { data := (([76, 71] ++ A) ++ B).toArray }, Value.int IntKind.i64 (n : Int), Value.string { data := (C).toArray }, Value.string { data := ((([76, 71] ++ A) ++ B) ++ C).toArray }, undef, undef, undef, Value.int IntKind.i64 (i : Int), undef, undef, Value.int IntKind.i64 (k : Int), undef, undef], []⟩ W := by
    intro W g hW
    rw [hT]
    refine wpAnyU_two (i := 13) (j := 9) (f := 29) (args := #[.int .i64 (i : Int), .int .i64 7]) (some 43) (some 39) rfl rfl rfl rfl (.inr (by kernel_rfl)) (by kernel_rfl) (by kernel_rfl) (by kernel_rfl) ?_ (exec_make (HMK.out W) rfl rfl rfl) ⟨fun _ => trivial, ?_⟩
    · refine (HBA.out W).mono ?_
      rintro e W1 ⟨rfl, hb⟩
      refine ⟨_, rfl, fun _ => trivial, ?_⟩
      rw [← hT]
      exact cast4 (by kernel_rfl) (by kernel_rfl) (P40 W1 g (hW.trans (Kept.of_below (fun _ => False) hb) (fun _ hf => hf.elim)))
    · rw [← hT]
      exact cast4 (by kernel_rfl) (by kernel_rfl) (P31 (W.alloc (.cells ZC 5)) W.heap.size (Good8.new hZC hW))
  have P20 : ∀ (W : World) (g : Nat), Kept (fun _ => False) w W → T 11 #[true, true, true, true, true, true, true, false, false, false, false, false, true, false, false, true, false, false, false, false] ⟨#[Value.int IntKind.i64 (i : Int), Value.int IntKind.i64 (k : Int), Value.int IntKind.i64 (n : Int), undef, undef, undef, Value.string { data := #[] }, Value.bool false, Value.int IntKind.i64 (i : Int), Value.bool false, Value.bool false, Value.int IntKind.i64 (i : Int), Value.bool false, Value.bool false, Value.bool false, Value.int IntKind.i64 (k : Int), Value.bool false, Value.bool false, Value.bool false, Value.int IntKind.i64 (k : Int), Value.bool false, Value.bool false, Value.bool false, Value.int IntKind.i64 (n : Int), Value.bool false, Value.bool false, Value.bool false, Value.int IntKind.i64 (n : Int), Value.bool false, Value.bool false, Value.int IntKind.i64 (i : Int), Value.string { data := (A).toArray }, Value.string { data := ([76, 71] ++ A).toArray }, Value.int IntKind.i64 (k : Int), Value.string { data := (B).toArray }, Value.string { data := (([76, 71] ++ A) ++ B).toArray }, Value.int IntKind.i64 (n : Int), undef, undef, undef, undef, undef, Value.int IntKind.i64 (i : Int), undef, undef, Value.int IntKind.i64 (k : Int), undef, undef], []⟩ W := by
    intro W g hW
    rw [hT]
    refine wpAnyU_two (i := 7) (j := 9) (f := 29) (args := #[.int .i64 (n : Int), .int .i64 4]) (some 37) (some 39) rfl rfl rfl rfl (.inl (by kernel_rfl)) (by kernel_rfl) (by kernel_rfl) (by kernel_rfl) ?_ (exec_make (HMK.out W) rfl rfl rfl) ⟨fun _ => trivial, ?_⟩
    · refine (HBC.out W).mono ?_
      rintro e W1 ⟨rfl, hb⟩
      refine ⟨_, rfl, fun _ => trivial, ?_⟩
      refine wpAnyU_take (i := 8) (v := Value.string { data := ((([76, 71] ++ A) ++ B) ++ C).toArray }) (some 38) rfl rfl (by kernel_rfl) (by kernel_rfl) (by kernel_rfl) (by kernel_rfl) (fun _ _ _ h => h) trivial (yields_of (by kernel_rfl) (fun w _ => by go_simp)) ?_
      rw [← hT]
      exact cast4 (by kernel_rfl) (by kernel_rfl) (P30 W1 g (hW.trans (Kept.of_below (fun _ => False) hb) (fun _ hf => hf.elim)))
    · rw [← hT]
      exact cast4 (by kernel_rfl) (by kernel_rfl) (P21 (W.alloc (.cells ZC 5)) W.heap.size (Good8.new hZC hW))
  have P10 : ∀ (W : World) (g : Nat), Kept (fun _ => False) w W → T 13 #[true, true, true, true, false, false, true, false, false, false, false, false, true, false, false, true, false, false, false, false] ⟨#[Value.int IntKind.i64 (i : Int), Value.int IntKind.i64 (k : Int), Value.int IntKind.i64 (n : Int), undef, undef, undef, Value.string { data := #[] }, Value.bool false, Value.int IntKind.i64 (i : Int), Value.bool false, Value.bool false, Value.int IntKind.i64 (i : Int), Value.bool false, Value.bool false, Value.bool false, Value.int IntKind.i64 (k : Int), Value.bool false, Value.bool false, Value.bool false, Value.int IntKind.i64 (k : Int), Value.bool false, Value.bool false, Value.bool false, Value.int IntKind.i64 (n : Int), Value.bool false, Value.bool false, Value.bool false, Value.int IntKind.i64 (n : Int), Value.bool false, Value.bool false, Value.int IntKind.i64 (i : Int), Value.string { data := (A).toArray }, Value.string { data := ([76, 71] ++ A).toArray }, Value.int IntKind.i64 (k : Int), undef, undef, Value.int IntKind.i64 (n : Int), undef, undef, undef, undef, undef, Value.int IntKind.i64 (i : Int), undef, undef, Value.int IntKind.i64 (k : Int), undef, undef], []⟩ W := by
    intro W g hW
    rw [hT]
    refine wpAnyU_two (i := 4) (j := 9) (f := 29) (args := #[.int .i64 (k : Int), .int .i64 4]) (some 34) (some 39) rfl rfl rfl rfl (.inl (by kernel_rfl)) (by kernel_rfl) (by kernel_rfl) (by kernel_rfl) ?_ (exec_make (HMK.out W) rfl rfl rfl) ⟨fun _ => trivial, ?_⟩
    · refine (HBB.out W).mono ?_
      rintro e W1 ⟨rfl, hb⟩
      refine ⟨_, rfl, fun _ => trivial, ?_⟩
      refine wpAnyU_take (i := 5) (v := Value.string { data := (([76, 71] ++ A) ++ B).toArray }) (some 35) rfl rfl (by kernel_rfl) (by kernel_rfl) (by kernel_rfl) (by kernel_rfl) (fun _ _ _ h => h) trivial (yields_of (by kernel_rfl) (fun w _ => by go_simp)) ?_
      rw [← hT]
      exact cast4 (by kernel_rfl) (by kernel_rfl) (P20 W1 g (hW.trans (Kept.of_below (fun _ => False) hb) (fun _ hf => hf.elim)))
    · rw [← hT]
      exact cast4 (by kernel_rfl) (by kernel_rfl) (P11 (W.alloc (.cells ZC 5)) W.heap.size (Good8.new hZC hW))
  have P00 : ∀ (W : World) (g : Nat), Kept (fun _ => False) w W → T 15 #[true, false, false, true, false, false, true, false, false, false, false, false, true, false, false, true, false, false, false, false] ⟨#[Value.int IntKind.i64 (i : Int), Value.int IntKind.i64 (k : Int), Value.int IntKind.i64 (n : Int), undef, undef, undef, Value.string { data := #[] }, Value.bool false, Value.int IntKind.i64 (i : Int), Value.bool false, Value.bool false, Value.int IntKind.i64 (i : Int), Value.bool false, Value.bool false, Value.bool false, Value.int IntKind.i64 (k : Int), Value.bool false, Value.bool false, Value.bool false, Value.int IntKind.i64 (k : Int), Value.bool false, Value.bool false, Value.bool false, Value.int IntKind.i64 (n : Int), Value.bool false, Value.bool false, Value.bool false, Value.int IntKind.i64 (n : Int), Value.bool false, Value.bool false, Value.int IntKind.i64 (i : Int), undef, undef, Value.int IntKind.i64 (k : Int), undef, undef, Value.int IntKind.i64 (n : Int), undef, undef, undef, undef, undef, Value.int IntKind.i64 (i : Int), undef, undef, Value.int IntKind.i64 (k : Int), undef, undef], []⟩ W := by
    intro W g hW
    rw [hT]
    refine wpAnyU_two (i := 1) (j := 9) (f := 29) (args := #[.int .i64 (i : Int), .int .i64 7]) (some 31) (some 39) rfl rfl rfl rfl (.inl (by kernel_rfl)) (by kernel_rfl) (by kernel_rfl) (by kernel_rfl) ?_ (exec_make (HMK.out W) rfl rfl rfl) ⟨fun _ => trivial, ?_⟩
    · refine (HBA.out W).mono ?_
      rintro e W1 ⟨rfl, hb⟩
      refine ⟨_, rfl, fun _ => trivial, ?_⟩
      refine wpAnyU_take (i := 2) (v := Value.string { data := ([76, 71] ++ A).toArray }) (some 32) rfl rfl (by kernel_rfl) (by kernel_rfl) (by kernel_rfl) (by kernel_rfl) (fun _ _ _ h => h) trivial (yields_of (by kernel_rfl) (fun w _ => by go_simp)) ?_
      rw [← hT]
      exact cast4 (by kernel_rfl) (by kernel_rfl) (P10 W1 g (hW.trans (Kept.of_below (fun _ => False) hb) (fun _ hf => hf.elim)))
    · rw [← hT]
      exact cast4 (by kernel_rfl) (by kernel_rfl) (P01 (W.alloc (.cells ZC 5)) W.heap.size (Good8.new hZC hW))
  exact cast4 (by kernel_rfl) (by kernel_rfl) (P00 W0 0 hW0)

end Go.Proofs.YtfbgagpihhbllaaGreatDoor
