/- The law BlockParts (layer 12), walked over the contract of the program's blocks (printed by genpa12.py). -/
import Derived.Test.YtbiifeahdinjjaaEx12
import Derived.Test.YtbiifeahdinjjaaOpenA
namespace Go.Proofs.Ytbiifeahdinjjaa
open Go.RowKit Go.Proofs Go.Proofs.Pk
set_option maxRecDepth 10000
attribute [local simp] mk_get wrap64_u8 mk_extract ByteArray.mk_append_mk get_1k

/-- A call that tells a bool and keeps all, from w on. -/
def Tells (w : World) (f : Nat) (v : Value) (b : Bool) : Prop := ∀ W, Kept (fun _ => False) w W → Calls Try.prog f #[v] W fun e w' => e = .returned (.bool b) ∧ Kept (fun _ => False) W w'
/-- What the law's number stands for. -/
def AtP (at0 : Int) (p : Nat) : Prop := (at0 < 0 ∧ IntKind.i64.wrap (at0 + 1) = at0 + 1 ∧ IntKind.i64.wrap (-(at0 + 1)) = (p : Int)) ∨ (at0 = (p : Int) ∧ ¬(p : Int) < 0)
theorem at_p {at0 : Int} (hf : -9223372036854775808 ≤ at0 ∧ at0 ≤ 9223372036854775807) : ∃ p : Nat, AtP at0 p := by
  by_cases h : at0 < 0
  · refine ⟨(-(at0 + 1)).toNat, .inl ⟨h, IntWalk.i64_in _ (by omega), ?_⟩⟩
    rw [IntWalk.i64_in _ (by omega)]; omega
  · exact ⟨at0.toNat, .inr ⟨by omega, by omega⟩⟩

set_option maxHeartbeats 2000000 in
theorem parts_none (at0 : Int) (p : Nat) (w : World) (hp : AtP at0 p) (HE : Hid (Calls Try.prog 9 #[] w fun e w' => e = .returned (.bool true) ∧ Kept (fun _ => False) w w'))
    (H1 : Hid (Tells w 16 (.slice none 0 0) true)) :
    Calls Try.prog 7 #[.slice none 0 0, .int .i64 at0] w fun e w' => e = .returned (.bool true) ∧ Kept (fun _ => False) w w' := by
  have q2 : (p : Int).tmod 1 = 0 := by rw [Int.tmod_eq_emod_of_nonneg (by omega)]; omega
  have H2 := H1
  have H3 := H1
  rcases hp with ⟨p1, p2, p3⟩ | ⟨rfl, p1⟩
  all_goals
    go_enter Try.func7, Try.ntmps7
    go_wp2_with fail
    refine HE.out.mono ?_
    clear HE
    rintro e w1 ⟨rfl, hk1⟩
    have HK1 := Lib.hid hk1
    clear hk1
    go_wp2_with fail
    refine (H1.out _ HK1.out).mono ?_
    clear H1
    rintro e w2 ⟨rfl, hk2⟩
    have HK2 := Lib.hid (HK1.out.trans hk2 (fun _ h => h.elim))
    clear hk2 HK1
    go_wp2_with fail
    refine (H2.out _ HK2.out).mono ?_
    clear H2
    rintro e w3 ⟨rfl, hk3⟩
    have HK3 := Lib.hid (HK2.out.trans hk3 (fun _ h => h.elim))
    clear hk3 HK2
    go_wp2_with fail
    refine (H3.out _ HK3.out).mono ?_
    clear H3
    rintro e w4 ⟨rfl, hk4⟩
    have HK4 := Lib.hid (HK3.out.trans hk4 (fun _ h => h.elim))
    clear hk4 HK3
    go_wp2
    go_ret
    exact ⟨rfl, HK4.out⟩

set_option maxHeartbeats 2000000 in
theorem parts_A1 (b off len cap m p : Nat) (at0 : Int) (w : World) (hp : AtP at0 p) (q1 : IntKind.i64.wrap ((len : Int) + 1) = (len : Int) + 1) (q2 : (p : Int).tmod ((len : Int) + 1) = (m : Int)) (q3 : ¬(len : Int) + 1 = 0) (k1 : (m : Int) ≤ (len : Int)) (k2 : (m : Int) ≤ (cap : Int)) (k3 : (0 : Int) ≤ (m : Int)) (k4 : (len : Int) ≤ (cap : Int))
    (HE : Hid (Calls Try.prog 9 #[] w fun e w' => e = .returned (.bool true) ∧ Kept (fun _ => False) w w'))
    (hcm : ¬cap = m) (H1 : Hid (Tells w 16 (.slice (some ⟨b, off, none⟩) m cap) false)) (H2 : Hid (Tells w 16 (.slice (some ⟨b, off + m * 4, none⟩) (len - m) (cap - m)) true)) (H3 : Hid (Tells w 16 (.slice (some ⟨b, off, none⟩) len cap) false)) :
    Calls Try.prog 7 #[.slice (some ⟨b, off, none⟩) len cap, .int .i64 at0] w fun e w' => e = .returned (.bool true) ∧ Kept (fun _ => False) w w' := by
  rcases hp with ⟨p1, p2, p3⟩ | ⟨rfl, p1⟩
  all_goals
    go_enter Try.func7, Try.ntmps7
    go_wp2_with fail
    refine HE.out.mono ?_
    clear HE
    rintro e w1 ⟨rfl, hk1⟩
    have HK1 := Lib.hid hk1
    clear hk1
    go_wp2_with fail
    refine (H1.out _ HK1.out).mono ?_
    clear H1
    rintro e w2 ⟨rfl, hk2⟩
    have HK2 := Lib.hid (HK1.out.trans hk2 (fun _ h => h.elim))
    clear hk2 HK1
    go_wp2_with fail
    refine (H2.out _ HK2.out).mono ?_
    clear H2
    rintro e w3 ⟨rfl, hk3⟩
    have HK3 := Lib.hid (HK2.out.trans hk3 (fun _ h => h.elim))
    clear hk3 HK2
    go_wp2_with fail
    refine (H3.out _ HK3.out).mono ?_
    clear H3
    rintro e w4 ⟨rfl, hk4⟩
    have HK4 := Lib.hid (HK3.out.trans hk4 (fun _ h => h.elim))
    clear hk4 HK3
    go_wp2
    go_ret
    exact ⟨rfl, HK4.out⟩

set_option maxHeartbeats 2000000 in
theorem parts_A2 (b off len cap m p : Nat) (at0 : Int) (w : World) (hp : AtP at0 p) (q1 : IntKind.i64.wrap ((len : Int) + 1) = (len : Int) + 1) (q2 : (p : Int).tmod ((len : Int) + 1) = (m : Int)) (q3 : ¬(len : Int) + 1 = 0) (k1 : (m : Int) ≤ (len : Int)) (k2 : (m : Int) ≤ (cap : Int)) (k3 : (0 : Int) ≤ (m : Int)) (k4 : (len : Int) ≤ (cap : Int))
    (HE : Hid (Calls Try.prog 9 #[] w fun e w' => e = .returned (.bool true) ∧ Kept (fun _ => False) w w'))
    (hcm : ¬cap = m) (H1 : Hid (Tells w 16 (.slice (some ⟨b, off, none⟩) m cap) false)) (H2 : Hid (Tells w 16 (.slice (some ⟨b, off + m * 4, none⟩) (len - m) (cap - m)) false)) (H3 : Hid (Tells w 16 (.slice (some ⟨b, off, none⟩) len cap) false)) :
    Calls Try.prog 7 #[.slice (some ⟨b, off, none⟩) len cap, .int .i64 at0] w fun e w' => e = .returned (.bool true) ∧ Kept (fun _ => False) w w' := by
  rcases hp with ⟨p1, p2, p3⟩ | ⟨rfl, p1⟩
  all_goals
    go_enter Try.func7, Try.ntmps7
    go_wp2_with fail
    refine HE.out.mono ?_
    clear HE
    rintro e w1 ⟨rfl, hk1⟩
    have HK1 := Lib.hid hk1
    clear hk1
    go_wp2_with fail
    refine (H1.out _ HK1.out).mono ?_
    clear H1
    rintro e w2 ⟨rfl, hk2⟩
    have HK2 := Lib.hid (HK1.out.trans hk2 (fun _ h => h.elim))
    clear hk2 HK1
    go_wp2_with fail
    refine (H2.out _ HK2.out).mono ?_
    clear H2
    rintro e w3 ⟨rfl, hk3⟩
    have HK3 := Lib.hid (HK2.out.trans hk3 (fun _ h => h.elim))
    clear hk3 HK2
    go_wp2_with fail
    refine (H3.out _ HK3.out).mono ?_
    clear H3
    rintro e w4 ⟨rfl, hk4⟩
    have HK4 := Lib.hid (HK3.out.trans hk4 (fun _ h => h.elim))
    clear hk4 HK3
    go_wp2
    go_ret
    exact ⟨rfl, HK4.out⟩

set_option maxHeartbeats 2000000 in
theorem parts_B (b off len cap m p : Nat) (at0 : Int) (w : World) (hp : AtP at0 p) (q1 : IntKind.i64.wrap ((len : Int) + 1) = (len : Int) + 1) (q2 : (p : Int).tmod ((len : Int) + 1) = (m : Int)) (q3 : ¬(len : Int) + 1 = 0) (k1 : (m : Int) ≤ (len : Int)) (k2 : (m : Int) ≤ (cap : Int)) (k3 : (0 : Int) ≤ (m : Int)) (k4 : (len : Int) ≤ (cap : Int))
    (HE : Hid (Calls Try.prog 9 #[] w fun e w' => e = .returned (.bool true) ∧ Kept (fun _ => False) w w'))
    (hcm : ¬cap = m) (H1 : Hid (Tells w 16 (.slice (some ⟨b, off, none⟩) m cap) true)) (H2 : Hid (Tells w 16 (.slice (some ⟨b, off + m * 4, none⟩) (len - m) (cap - m)) false)) (H3 : Hid (Tells w 16 (.slice (some ⟨b, off, none⟩) len cap) false)) :
    Calls Try.prog 7 #[.slice (some ⟨b, off, none⟩) len cap, .int .i64 at0] w fun e w' => e = .returned (.bool true) ∧ Kept (fun _ => False) w w' := by
  rcases hp with ⟨p1, p2, p3⟩ | ⟨rfl, p1⟩
  all_goals
    go_enter Try.func7, Try.ntmps7
    go_wp2_with fail
    refine HE.out.mono ?_
    clear HE
    rintro e w1 ⟨rfl, hk1⟩
    have HK1 := Lib.hid hk1
    clear hk1
    go_wp2_with fail
    refine (H1.out _ HK1.out).mono ?_
    clear H1
    rintro e w2 ⟨rfl, hk2⟩
    have HK2 := Lib.hid (HK1.out.trans hk2 (fun _ h => h.elim))
    clear hk2 HK1
    go_wp2_with fail
    refine (H2.out _ HK2.out).mono ?_
    clear H2
    rintro e w3 ⟨rfl, hk3⟩
    have HK3 := Lib.hid (HK2.out.trans hk3 (fun _ h => h.elim))
    clear hk3 HK2
    go_wp2_with fail
    refine (H3.out _ HK3.out).mono ?_
    clear H3
    rintro e w4 ⟨rfl, hk4⟩
    have HK4 := Lib.hid (HK3.out.trans hk4 (fun _ h => h.elim))
    clear hk4 HK3
    go_wp2
    go_ret
    exact ⟨rfl, HK4.out⟩

set_option maxHeartbeats 2000000 in
theorem parts_C (b off len cap p : Nat) (at0 : Int) (w : World) (hp : AtP at0 p) (q1 : IntKind.i64.wrap ((len : Int) + 1) = (len : Int) + 1) (q2 : (p : Int).tmod ((len : Int) + 1) = 0) (q3 : ¬(len : Int) + 1 = 0) (k4 : (len : Int) ≤ (cap : Int)) (k0 : (0 : Int) ≤ (len : Int)) (k5 : (0 : Int) ≤ (cap : Int)) (hcm : ¬cap = 0)
    (HE : Hid (Calls Try.prog 9 #[] w fun e w' => e = .returned (.bool true) ∧ Kept (fun _ => False) w w'))
    (H1 : Hid (Tells w 16 (.slice (some ⟨b, off, none⟩) 0 cap) true)) (H2 : Hid (Tells w 16 (.slice (some ⟨b, off, none⟩) len cap) true)) (H3 : Hid (Tells w 16 (.slice (some ⟨b, off, none⟩) len cap) true)) :
    Calls Try.prog 7 #[.slice (some ⟨b, off, none⟩) len cap, .int .i64 at0] w fun e w' => e = .returned (.bool true) ∧ Kept (fun _ => False) w w' := by
  rcases hp with ⟨p1, p2, p3⟩ | ⟨rfl, p1⟩
  all_goals
    go_enter Try.func7, Try.ntmps7
    go_wp2_with fail
    refine HE.out.mono ?_
    clear HE
    rintro e w1 ⟨rfl, hk1⟩
    have HK1 := Lib.hid hk1
    clear hk1
    go_wp2_with fail
    refine (H1.out _ HK1.out).mono ?_
    clear H1
    rintro e w2 ⟨rfl, hk2⟩
    have HK2 := Lib.hid (HK1.out.trans hk2 (fun _ h => h.elim))
    clear hk2 HK1
    go_wp2_with fail
    refine (H2.out _ HK2.out).mono ?_
    clear H2
    rintro e w3 ⟨rfl, hk3⟩
    have HK3 := Lib.hid (HK2.out.trans hk3 (fun _ h => h.elim))
    clear hk3 HK2
    go_wp2_with fail
    refine (H3.out _ HK3.out).mono ?_
    clear H3
    rintro e w4 ⟨rfl, hk4⟩
    have HK4 := Lib.hid (HK3.out.trans hk4 (fun _ h => h.elim))
    clear hk4 HK3
    go_wp2
    go_ret
    exact ⟨rfl, HK4.out⟩

set_option maxHeartbeats 2000000 in
theorem parts_D (b off len cap p : Nat) (at0 : Int) (w : World) (hp : AtP at0 p) (q1 : IntKind.i64.wrap ((len : Int) + 1) = (len : Int) + 1) (q2 : (p : Int).tmod ((len : Int) + 1) = (len : Int)) (q3 : ¬(len : Int) + 1 = 0) (k4 : (len : Int) ≤ (cap : Int)) (k0 : (0 : Int) ≤ (len : Int)) (hcm : ¬cap = len) (g1 : ((len : Int) == 0) = false)
    (HE : Hid (Calls Try.prog 9 #[] w fun e w' => e = .returned (.bool true) ∧ Kept (fun _ => False) w w'))
    (H1 : Hid (Tells w 16 (.slice (some ⟨b, off, none⟩) len cap) true)) (H2 : Hid (Tells w 16 (.slice (some ⟨b, off + len * 4, none⟩) 0 (cap - len)) true)) (H3 : Hid (Tells w 16 (.slice (some ⟨b, off, none⟩) len cap) true)) :
    Calls Try.prog 7 #[.slice (some ⟨b, off, none⟩) len cap, .int .i64 at0] w fun e w' => e = .returned (.bool true) ∧ Kept (fun _ => False) w w' := by
  rcases hp with ⟨p1, p2, p3⟩ | ⟨rfl, p1⟩
  all_goals
    go_enter Try.func7, Try.ntmps7
    go_wp2_with fail
    refine HE.out.mono ?_
    clear HE
    rintro e w1 ⟨rfl, hk1⟩
    have HK1 := Lib.hid hk1
    clear hk1
    go_wp2_with fail
    refine (H1.out _ HK1.out).mono ?_
    clear H1
    rintro e w2 ⟨rfl, hk2⟩
    have HK2 := Lib.hid (HK1.out.trans hk2 (fun _ h => h.elim))
    clear hk2 HK1
    go_wp2_with fail
    refine (H2.out _ HK2.out).mono ?_
    clear H2
    rintro e w3 ⟨rfl, hk3⟩
    have HK3 := Lib.hid (HK2.out.trans hk3 (fun _ h => h.elim))
    clear hk3 HK2
    go_wp2_with fail
    refine (H3.out _ HK3.out).mono ?_
    clear H3
    rintro e w4 ⟨rfl, hk4⟩
    have HK4 := Lib.hid (HK3.out.trans hk4 (fun _ h => h.elim))
    clear hk4 HK3
    go_wp2
    go_ret
    exact ⟨rfl, HK4.out⟩

set_option maxHeartbeats 2000000 in
theorem parts_F1 (b off len p : Nat) (at0 : Int) (w : World) (hp : AtP at0 p) (q1 : IntKind.i64.wrap ((len : Int) + 1) = (len : Int) + 1) (q2 : (p : Int).tmod ((len : Int) + 1) = (len : Int)) (q3 : ¬(len : Int) + 1 = 0) (k0 : (0 : Int) ≤ (len : Int)) (g1 : ((len : Int) == 0) = false)
    (HE : Hid (Calls Try.prog 9 #[] w fun e w' => e = .returned (.bool true) ∧ Kept (fun _ => False) w w'))
    (H1 : Hid (Tells w 16 (.slice (some ⟨b, off, none⟩) len len) true)) (H2 : Hid (Tells w 16 (.slice (some ⟨b, off, none⟩) 0 0) true)) (H3 : Hid (Tells w 16 (.slice (some ⟨b, off, none⟩) len len) true)) :
    Calls Try.prog 7 #[.slice (some ⟨b, off, none⟩) len len, .int .i64 at0] w fun e w' => e = .returned (.bool true) ∧ Kept (fun _ => False) w w' := by
  rcases hp with ⟨p1, p2, p3⟩ | ⟨rfl, p1⟩
  all_goals
    go_enter Try.func7, Try.ntmps7
    go_wp2_with fail
    refine HE.out.mono ?_
    clear HE
    rintro e w1 ⟨rfl, hk1⟩
    have HK1 := Lib.hid hk1
    clear hk1
    go_wp2_with fail
    refine (H1.out _ HK1.out).mono ?_
    clear H1
    rintro e w2 ⟨rfl, hk2⟩
    have HK2 := Lib.hid (HK1.out.trans hk2 (fun _ h => h.elim))
    clear hk2 HK1
    go_wp2_with fail
    refine (H2.out _ HK2.out).mono ?_
    clear H2
    rintro e w3 ⟨rfl, hk3⟩
    have HK3 := Lib.hid (HK2.out.trans hk3 (fun _ h => h.elim))
    clear hk3 HK2
    go_wp2_with fail
    refine (H3.out _ HK3.out).mono ?_
    clear H3
    rintro e w4 ⟨rfl, hk4⟩
    have HK4 := Lib.hid (HK3.out.trans hk4 (fun _ h => h.elim))
    clear hk4 HK3
    go_wp2
    go_ret
    exact ⟨rfl, HK4.out⟩

set_option maxHeartbeats 2000000 in
theorem parts_F2 (b off len p : Nat) (at0 : Int) (w : World) (hp : AtP at0 p) (q1 : IntKind.i64.wrap ((len : Int) + 1) = (len : Int) + 1) (q2 : (p : Int).tmod ((len : Int) + 1) = (len : Int)) (q3 : ¬(len : Int) + 1 = 0) (k0 : (0 : Int) ≤ (len : Int)) (g1 : ((len : Int) == 0) = false)
    (HE : Hid (Calls Try.prog 9 #[] w fun e w' => e = .returned (.bool true) ∧ Kept (fun _ => False) w w'))
    (H1 : Hid (Tells w 16 (.slice (some ⟨b, off, none⟩) len len) false)) (H2 : Hid (Tells w 16 (.slice (some ⟨b, off, none⟩) 0 0) true)) (H3 : Hid (Tells w 16 (.slice (some ⟨b, off, none⟩) len len) false)) :
    Calls Try.prog 7 #[.slice (some ⟨b, off, none⟩) len len, .int .i64 at0] w fun e w' => e = .returned (.bool true) ∧ Kept (fun _ => False) w w' := by
  rcases hp with ⟨p1, p2, p3⟩ | ⟨rfl, p1⟩
  all_goals
    go_enter Try.func7, Try.ntmps7
    go_wp2_with fail
    refine HE.out.mono ?_
    clear HE
    rintro e w1 ⟨rfl, hk1⟩
    have HK1 := Lib.hid hk1
    clear hk1
    go_wp2_with fail
    refine (H1.out _ HK1.out).mono ?_
    clear H1
    rintro e w2 ⟨rfl, hk2⟩
    have HK2 := Lib.hid (HK1.out.trans hk2 (fun _ h => h.elim))
    clear hk2 HK1
    go_wp2_with fail
    refine (H2.out _ HK2.out).mono ?_
    clear H2
    rintro e w3 ⟨rfl, hk3⟩
    have HK3 := Lib.hid (HK2.out.trans hk3 (fun _ h => h.elim))
    clear hk3 HK2
    go_wp2_with fail
    refine (H3.out _ HK3.out).mono ?_
    clear H3
    rintro e w4 ⟨rfl, hk4⟩
    have HK4 := Lib.hid (HK3.out.trans hk4 (fun _ h => h.elim))
    clear hk4 HK3
    go_wp2
    go_ret
    exact ⟨rfl, HK4.out⟩

set_option maxHeartbeats 2000000 in
theorem parts_G (b off p : Nat) (at0 : Int) (w : World) (hp : AtP at0 p)
    (HE : Hid (Calls Try.prog 9 #[] w fun e w' => e = .returned (.bool true) ∧ Kept (fun _ => False) w w'))
    (H1 : Hid (Tells w 16 (.slice (some ⟨b, off, none⟩) 0 0) true)) :
    Calls Try.prog 7 #[.slice (some ⟨b, off, none⟩) 0 0, .int .i64 at0] w fun e w' => e = .returned (.bool true) ∧ Kept (fun _ => False) w w' := by
  have q2 : (p : Int).tmod 1 = 0 := by rw [Int.tmod_eq_emod_of_nonneg (by omega)]; omega
  have H2 := H1
  have H3 := H1
  rcases hp with ⟨p1, p2, p3⟩ | ⟨rfl, p1⟩
  all_goals
    go_enter Try.func7, Try.ntmps7
    go_wp2_with fail
    refine HE.out.mono ?_
    clear HE
    rintro e w1 ⟨rfl, hk1⟩
    have HK1 := Lib.hid hk1
    clear hk1
    go_wp2_with fail
    refine (H1.out _ HK1.out).mono ?_
    clear H1
    rintro e w2 ⟨rfl, hk2⟩
    have HK2 := Lib.hid (HK1.out.trans hk2 (fun _ h => h.elim))
    clear hk2 HK1
    go_wp2_with fail
    refine (H2.out _ HK2.out).mono ?_
    clear H2
    rintro e w3 ⟨rfl, hk3⟩
    have HK3 := Lib.hid (HK2.out.trans hk3 (fun _ h => h.elim))
    clear hk3 HK2
    go_wp2_with fail
    refine (H3.out _ HK3.out).mono ?_
    clear H3
    rintro e w4 ⟨rfl, hk4⟩
    have HK4 := Lib.hid (HK3.out.trans hk4 (fun _ h => h.elim))
    clear hk4 HK3
    go_wp2
    go_ret
    exact ⟨rfl, HK4.out⟩

set_option maxHeartbeats 4000000 in
theorem parts_E1 (k : Txt) (s ss : Int) (d dd : Bool) (v vv : Txt) (hless : Op.bytesLess k k = false)
    (b off len cap m p : Nat) (at0 : Int) (w : World) (hp : AtP at0 p) (q1 : IntKind.i64.wrap ((len : Int) + 1) = (len : Int) + 1) (q2 : (p : Int).tmod ((len : Int) + 1) = (m : Int)) (q3 : ¬(len : Int) + 1 = 0) (k1 : (m : Int) ≤ (len : Int)) (k2 : (m : Int) ≤ (cap : Int)) (k3 : (0 : Int) ≤ (m : Int)) (k4 : (len : Int) ≤ (cap : Int))
    (HE : Hid (Calls Try.prog 9 #[] w fun e w' => e = .returned (.bool true) ∧ Kept (fun _ => False) w w')) (i : Nat) (x1 : IntKind.i64.wrap ((m : Int) - 1) = (i : Int)) (x2 : (0 : Int) ≤ (i : Int)) (x3 : (i : Int) < (len : Int)) (x4 : (m : Int) < (len : Int)) (hcm : ¬cap = m) (g1 : ((m : Int) == 0) = false) (g2 : ((m : Int) == (len : Int)) = false) (bl : b < w.heap.size)
    (HA : Hid (EntAt w b (off + i * 4) (k, s, d, v))) (HM : Hid (EntAt w b (off + m * 4) (k, ss, dd, vv)))
    (H1 : Hid (Tells w 16 (.slice (some ⟨b, off, none⟩) m cap) true)) (H2 : Hid (Tells w 16 (.slice (some ⟨b, off + m * 4, none⟩) (len - m) (cap - m)) true)) (H3 : Hid (Tells w 16 (.slice (some ⟨b, off, none⟩) len cap) (decide (ss < s)))) :
    Calls Try.prog 7 #[.slice (some ⟨b, off, none⟩) len cap, .int .i64 at0] w fun e w' => e = .returned (.bool true) ∧ Kept (fun _ => False) w w' := by
  have cells : ∀ (o : Nat) (u : MEnt) (W : World), EntAt w b o u → Kept (fun _ => False) w W → W.cell? ⟨b, o, none⟩ = some (.string ⟨u.1.toArray⟩) ∧ W.cell? ⟨b, o + 1, none⟩ = some (.int .i64 u.2.1) ∧ W.cell? ⟨b, o + 2, none⟩ = some (.bool u.2.2.1) ∧ W.cell? ⟨b, o + 3, none⟩ = some (.string ⟨u.2.2.2.toArray⟩) := fun o u W h hk =>
    ⟨(hk.cell (p := ⟨b, o + 0, none⟩) bl (fun h => h)).trans (h.row 0 _ rfl), (hk.cell (p := ⟨b, o + 1, none⟩) bl (fun h => h)).trans (h.row 1 _ rfl), (hk.cell (p := ⟨b, o + 2, none⟩) bl (fun h => h)).trans (h.row 2 _ rfl), (hk.cell (p := ⟨b, o + 3, none⟩) bl (fun h => h)).trans (h.row 3 _ rfl)⟩
  have HC := Lib.hid cells
  clear cells
  rcases hp with ⟨p1, p2, p3⟩ | ⟨rfl, p1⟩
  all_goals
    go_enter Try.func7, Try.ntmps7
    go_wp2_with fail
    refine HE.out.mono ?_
    clear HE
    rintro e w1 ⟨rfl, hk1⟩
    have HK1 := Lib.hid hk1
    clear hk1
    go_wp2_with fail
    refine (H1.out _ HK1.out).mono ?_
    clear H1
    rintro e w2 ⟨rfl, hk2⟩
    have HK2 := Lib.hid (HK1.out.trans hk2 (fun _ h => h.elim))
    clear hk2 HK1
    go_wp2_with fail
    refine (H2.out _ HK2.out).mono ?_
    clear H2
    rintro e w3 ⟨rfl, hk3⟩
    have HK3 := Lib.hid (HK2.out.trans hk3 (fun _ h => h.elim))
    clear hk3 HK2
    go_wp2_with fail
    refine (H3.out _ HK3.out).mono ?_
    clear H3
    rintro e w4 ⟨rfl, hk4⟩
    have HK4 := Lib.hid (HK3.out.trans hk4 (fun _ h => h.elim))
    clear hk4 HK3
    obtain ⟨c0, c1, c2, c3⟩ := HC.out _ _ w4 HA.out HK4.out
    obtain ⟨d0, d1, d2, d3⟩ := HC.out _ _ (w4.alloc (.cells (entC (k, s, d, v)).toArray 37)) HM.out (HK4.out.alloc _)
    simp only [entC] at c0 c1 c2 c3 d0 d1 d2 d3
    have HKE := Lib.hid (((HK4.out.alloc (.cells (entC (k, s, d, v)).toArray 37)).alloc (.cells (entC (k, ss, dd, vv)).toArray 37)))
    simp only [entC] at HKE
    clear HK4 HC
    go_wp2
    all_goals
      go_ret
      refine ⟨?_, HKE.out⟩
      simp_all

set_option maxHeartbeats 4000000 in
theorem parts_E2 (k kk : Txt) (s ss : Int) (d dd : Bool) (v vv : Txt) (hkk : (k == kk) = false)
    (b off len cap m p : Nat) (at0 : Int) (w : World) (hp : AtP at0 p) (q1 : IntKind.i64.wrap ((len : Int) + 1) = (len : Int) + 1) (q2 : (p : Int).tmod ((len : Int) + 1) = (m : Int)) (q3 : ¬(len : Int) + 1 = 0) (k1 : (m : Int) ≤ (len : Int)) (k2 : (m : Int) ≤ (cap : Int)) (k3 : (0 : Int) ≤ (m : Int)) (k4 : (len : Int) ≤ (cap : Int))
    (HE : Hid (Calls Try.prog 9 #[] w fun e w' => e = .returned (.bool true) ∧ Kept (fun _ => False) w w')) (i : Nat) (x1 : IntKind.i64.wrap ((m : Int) - 1) = (i : Int)) (x2 : (0 : Int) ≤ (i : Int)) (x3 : (i : Int) < (len : Int)) (x4 : (m : Int) < (len : Int)) (hcm : ¬cap = m) (g1 : ((m : Int) == 0) = false) (g2 : ((m : Int) == (len : Int)) = false) (bl : b < w.heap.size)
    (HA : Hid (EntAt w b (off + i * 4) (k, s, d, v))) (HM : Hid (EntAt w b (off + m * 4) (kk, ss, dd, vv)))
    (H1 : Hid (Tells w 16 (.slice (some ⟨b, off, none⟩) m cap) true)) (H2 : Hid (Tells w 16 (.slice (some ⟨b, off + m * 4, none⟩) (len - m) (cap - m)) true)) (H3 : Hid (Tells w 16 (.slice (some ⟨b, off, none⟩) len cap) (Op.bytesLess k kk))) :
    Calls Try.prog 7 #[.slice (some ⟨b, off, none⟩) len cap, .int .i64 at0] w fun e w' => e = .returned (.bool true) ∧ Kept (fun _ => False) w w' := by
  have cells : ∀ (o : Nat) (u : MEnt) (W : World), EntAt w b o u → Kept (fun _ => False) w W → W.cell? ⟨b, o, none⟩ = some (.string ⟨u.1.toArray⟩) ∧ W.cell? ⟨b, o + 1, none⟩ = some (.int .i64 u.2.1) ∧ W.cell? ⟨b, o + 2, none⟩ = some (.bool u.2.2.1) ∧ W.cell? ⟨b, o + 3, none⟩ = some (.string ⟨u.2.2.2.toArray⟩) := fun o u W h hk =>
    ⟨(hk.cell (p := ⟨b, o + 0, none⟩) bl (fun h => h)).trans (h.row 0 _ rfl), (hk.cell (p := ⟨b, o + 1, none⟩) bl (fun h => h)).trans (h.row 1 _ rfl), (hk.cell (p := ⟨b, o + 2, none⟩) bl (fun h => h)).trans (h.row 2 _ rfl), (hk.cell (p := ⟨b, o + 3, none⟩) bl (fun h => h)).trans (h.row 3 _ rfl)⟩
  have HC := Lib.hid cells
  clear cells
  rcases hp with ⟨p1, p2, p3⟩ | ⟨rfl, p1⟩
  all_goals
    go_enter Try.func7, Try.ntmps7
    go_wp2_with fail
    refine HE.out.mono ?_
    clear HE
    rintro e w1 ⟨rfl, hk1⟩
    have HK1 := Lib.hid hk1
    clear hk1
    go_wp2_with fail
    refine (H1.out _ HK1.out).mono ?_
    clear H1
    rintro e w2 ⟨rfl, hk2⟩
    have HK2 := Lib.hid (HK1.out.trans hk2 (fun _ h => h.elim))
    clear hk2 HK1
    go_wp2_with fail
    refine (H2.out _ HK2.out).mono ?_
    clear H2
    rintro e w3 ⟨rfl, hk3⟩
    have HK3 := Lib.hid (HK2.out.trans hk3 (fun _ h => h.elim))
    clear hk3 HK2
    go_wp2_with fail
    refine (H3.out _ HK3.out).mono ?_
    clear H3
    rintro e w4 ⟨rfl, hk4⟩
    have HK4 := Lib.hid (HK3.out.trans hk4 (fun _ h => h.elim))
    clear hk4 HK3
    obtain ⟨c0, c1, c2, c3⟩ := HC.out _ _ w4 HA.out HK4.out
    obtain ⟨d0, d1, d2, d3⟩ := HC.out _ _ (w4.alloc (.cells (entC (k, s, d, v)).toArray 37)) HM.out (HK4.out.alloc _)
    simp only [entC] at c0 c1 c2 c3 d0 d1 d2 d3
    have HKE := Lib.hid (((HK4.out.alloc (.cells (entC (k, s, d, v)).toArray 37)).alloc (.cells (entC (kk, ss, dd, vv)).toArray 37)))
    simp only [entC] at HKE
    clear HK4 HC
    go_wp2
    all_goals
      go_ret
      refine ⟨?_, HKE.out⟩
      simp_all

theorem parts12 (K : BkK) (ad : Option Addr) (len cap : Nat) (l : List MEnt) (at0 : Int) (w : World) (h0 : EntsW w ad len l) (hb : FlatE ad ∧ len ≤ cap ∧ (len : Int) * 48 ≤ 140737488351232 ∧ (ad = none → len = 0 ∧ cap = 0)) (hf : -9223372036854775808 ≤ at0 ∧ at0 ≤ 9223372036854775807) :
    Calls Try.prog 7 #[.slice ad len cap, .int .i64 at0] w fun e w' => e = .returned (.bool true) ∧ Kept (fun _ => False) w w' := by
  have HE := Lib.hid (examples12 K w)
  obtain ⟨p, hp⟩ := at_p hf
  have hlen := h0.1
  obtain ⟨m, hm⟩ : ∃ m : Nat, m = p % (len + 1) := ⟨_, rfl⟩
  have hml : m ≤ len := by have := Nat.mod_lt p (show 0 < len + 1 by omega); omega
  obtain ⟨hfl, hc1, hc2, hn⟩ := hb
  have q1 : IntKind.i64.wrap ((len : Int) + 1) = (len : Int) + 1 := IntWalk.i64_in _ (by omega)
  have q2 : (p : Int).tmod ((len : Int) + 1) = (m : Int) := by rw [Int.tmod_eq_emod_of_nonneg (by omega), hm]; rfl
  have q3 : ¬(len : Int) + 1 = 0 := by omega
  have hT : ∀ (ad : Option Addr) (n c : Nat) (l : List MEnt), EntsW w ad n l → n ≤ len → Hid (Tells w 16 (.slice ad n c) (sortB l)) := fun ad n c l h hn W hk => K.sorted W ad n c l (ents_keptK h hk) (by omega)
  clear hm
  rcases hfl with h1 | ⟨b, off, h1⟩
  · obtain ⟨hl0, hc0⟩ := hn h1
    subst h1 hl0 hc0
    have hl0 : l = [] := List.length_eq_zero_iff.1 hlen
    subst hl0
    exact parts_none at0 p w hp HE (hT _ _ _ _ h0 (Nat.le_refl _))
  subst h1
  have H1 := hT _ m cap _ (h0.head m hml) hml
  have H3 := hT _ len cap _ h0 (Nat.le_refl _)
  by_cases hcm : cap = m
  · have hml2 : m = len := by omega
    subst hml2
    have hcm2 : m = cap := hcm.symm
    subst hcm2
    have H2 := hT (some ⟨b, off, none⟩) 0 0 [] EntsW.empty (Nat.zero_le _)
    rw [show sortB [] = true from rfl] at H2
    have e1 : l.take m = l := List.take_of_length_le (by omega)
    rw [e1] at H1
    by_cases hz : m = 0
    · subst hz
      have hl0 : l = [] := List.length_eq_zero_iff.1 hlen
      subst hl0
      exact parts_G b off p at0 w hp HE H2
    · have g1 : ((m : Int) == 0) = false := by rw [beq_eq_false_iff_ne]; omega
      cases hs : sortB l with
      | true => rw [hs] at H1; exact parts_F1 b off m p at0 w hp q1 q2 q3 (by omega) g1 HE H1 H2 H1
      | false => rw [hs] at H1; exact parts_F2 b off m p at0 w hp q1 q2 q3 (by omega) g1 HE H1 H2 H1
  have H2 := hT _ (len - m) (cap - m) _ (h0.tail m hml) (by omega)
  cases h1 : sortB (l.take m) with
  | false =>
    have h3 : sortB l = false := by
      cases h3 : sortB l with
      | false => rfl
      | true => rw [sort_take m h3] at h1; cases h1
    rw [h1] at H1
    rw [h3] at H3
    cases h2 : sortB (l.drop m) with
    | true => rw [h2] at H2; exact parts_A1 b off len cap m p at0 w hp q1 q2 q3 (by omega) (by omega) (by omega) (by omega) HE hcm H1 H2 H3
    | false => rw [h2] at H2; exact parts_A2 b off len cap m p at0 w hp q1 q2 q3 (by omega) (by omega) (by omega) (by omega) HE hcm H1 H2 H3
  | true =>
    rw [h1] at H1
    cases h2 : sortB (l.drop m) with
    | false =>
      have h3 : sortB l = false := by
        cases h3 : sortB l with
        | false => rfl
        | true => rw [sort_drop m h3] at h2; cases h2
      rw [h2] at H2
      rw [h3] at H3
      exact parts_B b off len cap m p at0 w hp q1 q2 q3 (by omega) (by omega) (by omega) (by omega) HE hcm H1 H2 H3
    | true =>
      rw [h2] at H2
      by_cases hz : m = 0
      · subst hz
        rw [List.drop_zero] at h2
        rw [h2] at H3
        exact parts_C b off len cap p at0 w hp q1 q2 q3 (by omega) (by omega) (by omega) hcm HE H1 H3 H3
      have g1 : ((m : Int) == 0) = false := by rw [beq_eq_false_iff_ne]; omega
      by_cases hl : m = len
      · subst hl
        rw [List.take_of_length_le (by omega)] at h1
        rw [h1] at H3
        rw [Nat.sub_self] at H2
        exact parts_D b off m cap p at0 w hp q1 q2 q3 (by omega) (by omega) hcm g1 HE H3 H2 H3
      have g2 : ((m : Int) == (len : Int)) = false := by rw [beq_eq_false_iff_ne]; omega
      obtain ⟨i, hi⟩ : ∃ i : Nat, m = i + 1 := ⟨m - 1, by omega⟩
      subst hi
      have hj := sort_join (l := l) (n := i + 1) (by omega) (by omega) h1 h2
      rw [hj] at H3
      rcases h0.2 with e0 | ⟨b', off', e1, e2, e3⟩
      · rw [e0] at hlen; simp at hlen; omega
      injection e1 with e1
      injection e1 with f1 f2
      subst f1; subst f2
      have HA := e3 i (by omega)
      have HM := e3 (i + 1) (by omega)
      simp only [Nat.add_sub_cancel] at H3
      clear hj
      revert HA HM H3
      generalize l[i]'(by omega) = x
      generalize l[i + 1]'(by omega) = y
      intro HA HM H3
      obtain ⟨k, s, d, v⟩ := x
      obtain ⟨kk, ss, dd, vv⟩ := y
      have x1 : IntKind.i64.wrap (((i + 1 : Nat) : Int) - 1) = (i : Int) := by rw [IntWalk.i64_in _ (by omega)]; omega
      unfold befM at H3
      by_cases hkk : k = kk
      · subst hkk
        rw [if_pos rfl] at H3
        exact parts_E1 k s ss d dd v vv (by rw [bytesLess_eq]; simp) b off len cap (i + 1) p at0 w hp q1 q2 q3 (by omega) (by omega) (by omega) (by omega) HE i x1 (by omega) (by omega) (by omega) hcm g1 g2 e2 (Lib.hid HA) (Lib.hid HM) H1 H2 H3
      · rw [if_neg hkk, ← bytesLess_eq] at H3
        exact parts_E2 k kk s ss d dd v vv (by simpa using hkk) b off len cap (i + 1) p at0 w hp q1 q2 q3 (by omega) (by omega) (by omega) (by omega) HE i x1 (by omega) (by omega) (by omega) hcm g1 g2 e2 (Lib.hid HA) (Lib.hid HM) H1 H2 H3

end Go.Proofs.Ytbiifeahdinjjaa
