/- The law PackBack of layer 1 (pack), walked: what is written is read as it was, whatever stands behind; what is read is written as it stood. -/
import Derived.Test.YtcjdbflhahpcoaaLaws
namespace Go.Proofs.Ytcjdbflhahpcoaa
open Go.RowKit Go.Proofs Go.Proofs.Pk
attribute [local simp] mk_get wrap64_u8 mk_extract ByteArray.mk_append_mk

theorem belowT {w w1 w2 : World} (b1 : Below w.heap.size w w1) (b2 : Below w1.heap.size w1 w2) : Below w.heap.size w w2 := b1.trans (b2.mono b1.size)

set_option maxHeartbeats 1000000 in
theorem back_111 (s v : List UInt8) (w : World) (hv : (v.length : Int) ≤ 140737488351232) (n : Nat) (A : List UInt8) (hA : (A.length : Int) ≤ 8) (hN : ∀ w, Calls Try.prog 11 #[.int .i64 n] w (R2 w (.string ⟨A.toArray⟩) .nilIface)) (hM : ∀ w, Calls Try.prog 13 #[.string ⟨(A ++ v).toArray⟩] w (R3 w (.int .i64 n) (.string ⟨v.toArray⟩) .nilIface)) (B : List UInt8) (hB : (B.length : Int) ≤ 1048584) (hT : ∀ w, Calls Try.prog 16 #[.string ⟨s.toArray⟩] w (R2 w (.string ⟨B.toArray⟩) .nilIface)) (hU : ∀ w, Calls Try.prog 18 #[.string ⟨(B ++ v).toArray⟩] w (R3 w (.string ⟨s.toArray⟩) (.string ⟨v.toArray⟩) .nilIface)) (k : Nat) (K l : List UInt8) (hK : (K.length : Int) ≤ 8) (hl : (l.length : Int) ≤ 140737488351232) (hR : ∀ w, Calls Try.prog 13 #[.string ⟨(K ++ l).toArray⟩] w (R3 w (.int .i64 k) (.string ⟨l.toArray⟩) .nilIface)) (hQ : ∀ w, Calls Try.prog 11 #[.int .i64 k] w (R2 w (.string ⟨K.toArray⟩) .nilIface)) :
    Calls Try.prog 6 #[.int .i64 n, .string ⟨s.toArray⟩, .string ⟨v.toArray⟩, .string ⟨(K ++ l).toArray⟩] w fun e w' => e = .returned (.bool true) ∧ Below w.heap.size w w' := by
  have HN := Lib.hid hN; clear hN
  have HM := Lib.hid hM; clear hM
  have HT := Lib.hid hT; clear hT
  have HU := Lib.hid hU; clear hU
  have HR := Lib.hid hR; clear hR
  have HQ := Lib.hid hQ; clear hQ
  go_enter Try.func6, Try.ntmps6
  go_wp2_with fail
  refine (examples_any _).mono ?_
  rintro e w1 ⟨rfl, b1⟩
  go_wp2_with fail
  refine (HN.out _).mono ?_
  rintro e w2 ⟨rfl, c2⟩
  have b2 := belowT b1 c2
  clear b1 c2
  go_wp2_with fail
  refine (HM.out _).mono ?_
  rintro e w3 ⟨rfl, c3⟩
  have b3 := belowT b2 c3
  clear b2 c3
  go_wp2_with fail
  refine (HT.out _).mono ?_
  rintro e w4 ⟨rfl, c4⟩
  have b4 := belowT b3 c4
  clear b3 c4
  go_wp2_with fail
  refine (HU.out _).mono ?_
  rintro e w5 ⟨rfl, c5⟩
  have b5 := belowT b4 c5
  clear b4 c5
  go_wp2_with fail
  refine (HR.out _).mono ?_
  rintro e w6 ⟨rfl, c6⟩
  have b6 := belowT b5 c6
  clear b5 c6
  go_wp2_with fail
  refine (HQ.out _).mono ?_
  rintro e w7 ⟨rfl, c7⟩
  have b7 := belowT b6 c7
  clear b6 c7
  go_wp2
  go_ret
  exact ⟨rfl, b7⟩

set_option maxHeartbeats 1000000 in
theorem back_110 (s v : List UInt8) (w : World) (hv : (v.length : Int) ≤ 140737488351232) (n : Nat) (A : List UInt8) (hA : (A.length : Int) ≤ 8) (hN : ∀ w, Calls Try.prog 11 #[.int .i64 n] w (R2 w (.string ⟨A.toArray⟩) .nilIface)) (hM : ∀ w, Calls Try.prog 13 #[.string ⟨(A ++ v).toArray⟩] w (R3 w (.int .i64 n) (.string ⟨v.toArray⟩) .nilIface)) (B : List UInt8) (hB : (B.length : Int) ≤ 1048584) (hT : ∀ w, Calls Try.prog 16 #[.string ⟨s.toArray⟩] w (R2 w (.string ⟨B.toArray⟩) .nilIface)) (hU : ∀ w, Calls Try.prog 18 #[.string ⟨(B ++ v).toArray⟩] w (R3 w (.string ⟨s.toArray⟩) (.string ⟨v.toArray⟩) .nilIface)) (b : List UInt8) (c : Int) (hR : ∀ w, Calls Try.prog 13 #[.string ⟨b.toArray⟩] w (R3 w (.int .i64 0) (.string ⟨#[]⟩) (.iface 54 (.int .i64 c)))) :
    Calls Try.prog 6 #[.int .i64 n, .string ⟨s.toArray⟩, .string ⟨v.toArray⟩, .string ⟨b.toArray⟩] w fun e w' => e = .returned (.bool true) ∧ Below w.heap.size w w' := by
  have HN := Lib.hid hN; clear hN
  have HM := Lib.hid hM; clear hM
  have HT := Lib.hid hT; clear hT
  have HU := Lib.hid hU; clear hU
  have HR := Lib.hid hR; clear hR
  go_enter Try.func6, Try.ntmps6
  go_wp2_with fail
  refine (examples_any _).mono ?_
  rintro e w1 ⟨rfl, b1⟩
  go_wp2_with fail
  refine (HN.out _).mono ?_
  rintro e w2 ⟨rfl, c2⟩
  have b2 := belowT b1 c2
  clear b1 c2
  go_wp2_with fail
  refine (HM.out _).mono ?_
  rintro e w3 ⟨rfl, c3⟩
  have b3 := belowT b2 c3
  clear b2 c3
  go_wp2_with fail
  refine (HT.out _).mono ?_
  rintro e w4 ⟨rfl, c4⟩
  have b4 := belowT b3 c4
  clear b3 c4
  go_wp2_with fail
  refine (HU.out _).mono ?_
  rintro e w5 ⟨rfl, c5⟩
  have b5 := belowT b4 c5
  clear b4 c5
  go_wp2_with fail
  refine (HR.out _).mono ?_
  rintro e w6 ⟨rfl, c6⟩
  have b6 := belowT b5 c6
  clear b5 c6
  go_wp2
  go_ret
  exact ⟨rfl, b6⟩

set_option maxHeartbeats 1000000 in
theorem back_101 (s v : List UInt8) (w : World) (hv : (v.length : Int) ≤ 140737488351232) (n : Nat) (A : List UInt8) (hA : (A.length : Int) ≤ 8) (hN : ∀ w, Calls Try.prog 11 #[.int .i64 n] w (R2 w (.string ⟨A.toArray⟩) .nilIface)) (hM : ∀ w, Calls Try.prog 13 #[.string ⟨(A ++ v).toArray⟩] w (R3 w (.int .i64 n) (.string ⟨v.toArray⟩) .nilIface)) (hT : ∀ w, Calls Try.prog 16 #[.string ⟨s.toArray⟩] w (R2 w (.string ⟨#[]⟩) (.iface 54 (.int .i64 5)))) (k : Nat) (K l : List UInt8) (hK : (K.length : Int) ≤ 8) (hl : (l.length : Int) ≤ 140737488351232) (hR : ∀ w, Calls Try.prog 13 #[.string ⟨(K ++ l).toArray⟩] w (R3 w (.int .i64 k) (.string ⟨l.toArray⟩) .nilIface)) (hQ : ∀ w, Calls Try.prog 11 #[.int .i64 k] w (R2 w (.string ⟨K.toArray⟩) .nilIface)) :
    Calls Try.prog 6 #[.int .i64 n, .string ⟨s.toArray⟩, .string ⟨v.toArray⟩, .string ⟨(K ++ l).toArray⟩] w fun e w' => e = .returned (.bool true) ∧ Below w.heap.size w w' := by
  have HN := Lib.hid hN; clear hN
  have HM := Lib.hid hM; clear hM
  have HT := Lib.hid hT; clear hT
  have HR := Lib.hid hR; clear hR
  have HQ := Lib.hid hQ; clear hQ
  go_enter Try.func6, Try.ntmps6
  go_wp2_with fail
  refine (examples_any _).mono ?_
  rintro e w1 ⟨rfl, b1⟩
  go_wp2_with fail
  refine (HN.out _).mono ?_
  rintro e w2 ⟨rfl, c2⟩
  have b2 := belowT b1 c2
  clear b1 c2
  go_wp2_with fail
  refine (HM.out _).mono ?_
  rintro e w3 ⟨rfl, c3⟩
  have b3 := belowT b2 c3
  clear b2 c3
  go_wp2_with fail
  refine (HT.out _).mono ?_
  rintro e w4 ⟨rfl, c4⟩
  have b4 := belowT b3 c4
  clear b3 c4
  go_wp2_with fail
  refine (HR.out _).mono ?_
  rintro e w5 ⟨rfl, c5⟩
  have b5 := belowT b4 c5
  clear b4 c5
  go_wp2_with fail
  refine (HQ.out _).mono ?_
  rintro e w6 ⟨rfl, c6⟩
  have b6 := belowT b5 c6
  clear b5 c6
  go_wp2
  go_ret
  exact ⟨rfl, b6⟩

set_option maxHeartbeats 1000000 in
theorem back_100 (s v : List UInt8) (w : World) (hv : (v.length : Int) ≤ 140737488351232) (n : Nat) (A : List UInt8) (hA : (A.length : Int) ≤ 8) (hN : ∀ w, Calls Try.prog 11 #[.int .i64 n] w (R2 w (.string ⟨A.toArray⟩) .nilIface)) (hM : ∀ w, Calls Try.prog 13 #[.string ⟨(A ++ v).toArray⟩] w (R3 w (.int .i64 n) (.string ⟨v.toArray⟩) .nilIface)) (hT : ∀ w, Calls Try.prog 16 #[.string ⟨s.toArray⟩] w (R2 w (.string ⟨#[]⟩) (.iface 54 (.int .i64 5)))) (b : List UInt8) (c : Int) (hR : ∀ w, Calls Try.prog 13 #[.string ⟨b.toArray⟩] w (R3 w (.int .i64 0) (.string ⟨#[]⟩) (.iface 54 (.int .i64 c)))) :
    Calls Try.prog 6 #[.int .i64 n, .string ⟨s.toArray⟩, .string ⟨v.toArray⟩, .string ⟨b.toArray⟩] w fun e w' => e = .returned (.bool true) ∧ Below w.heap.size w w' := by
  have HN := Lib.hid hN; clear hN
  have HM := Lib.hid hM; clear hM
  have HT := Lib.hid hT; clear hT
  have HR := Lib.hid hR; clear hR
  go_enter Try.func6, Try.ntmps6
  go_wp2_with fail
  refine (examples_any _).mono ?_
  rintro e w1 ⟨rfl, b1⟩
  go_wp2_with fail
  refine (HN.out _).mono ?_
  rintro e w2 ⟨rfl, c2⟩
  have b2 := belowT b1 c2
  clear b1 c2
  go_wp2_with fail
  refine (HM.out _).mono ?_
  rintro e w3 ⟨rfl, c3⟩
  have b3 := belowT b2 c3
  clear b2 c3
  go_wp2_with fail
  refine (HT.out _).mono ?_
  rintro e w4 ⟨rfl, c4⟩
  have b4 := belowT b3 c4
  clear b3 c4
  go_wp2_with fail
  refine (HR.out _).mono ?_
  rintro e w5 ⟨rfl, c5⟩
  have b5 := belowT b4 c5
  clear b4 c5
  go_wp2
  go_ret
  exact ⟨rfl, b5⟩

set_option maxHeartbeats 1000000 in
theorem back_011 (s v : List UInt8) (w : World) (hv : (v.length : Int) ≤ 140737488351232) (n : Int) (hN : ∀ w, Calls Try.prog 11 #[.int .i64 n] w (R2 w (.string ⟨#[]⟩) (.iface 54 (.int .i64 1)))) (B : List UInt8) (hB : (B.length : Int) ≤ 1048584) (hT : ∀ w, Calls Try.prog 16 #[.string ⟨s.toArray⟩] w (R2 w (.string ⟨B.toArray⟩) .nilIface)) (hU : ∀ w, Calls Try.prog 18 #[.string ⟨(B ++ v).toArray⟩] w (R3 w (.string ⟨s.toArray⟩) (.string ⟨v.toArray⟩) .nilIface)) (k : Nat) (K l : List UInt8) (hK : (K.length : Int) ≤ 8) (hl : (l.length : Int) ≤ 140737488351232) (hR : ∀ w, Calls Try.prog 13 #[.string ⟨(K ++ l).toArray⟩] w (R3 w (.int .i64 k) (.string ⟨l.toArray⟩) .nilIface)) (hQ : ∀ w, Calls Try.prog 11 #[.int .i64 k] w (R2 w (.string ⟨K.toArray⟩) .nilIface)) :
    Calls Try.prog 6 #[.int .i64 n, .string ⟨s.toArray⟩, .string ⟨v.toArray⟩, .string ⟨(K ++ l).toArray⟩] w fun e w' => e = .returned (.bool true) ∧ Below w.heap.size w w' := by
  have HN := Lib.hid hN; clear hN
  have HT := Lib.hid hT; clear hT
  have HU := Lib.hid hU; clear hU
  have HR := Lib.hid hR; clear hR
  have HQ := Lib.hid hQ; clear hQ
  go_enter Try.func6, Try.ntmps6
  go_wp2_with fail
  refine (examples_any _).mono ?_
  rintro e w1 ⟨rfl, b1⟩
  go_wp2_with fail
  refine (HN.out _).mono ?_
  rintro e w2 ⟨rfl, c2⟩
  have b2 := belowT b1 c2
  clear b1 c2
  go_wp2_with fail
  refine (HT.out _).mono ?_
  rintro e w3 ⟨rfl, c3⟩
  have b3 := belowT b2 c3
  clear b2 c3
  go_wp2_with fail
  refine (HU.out _).mono ?_
  rintro e w4 ⟨rfl, c4⟩
  have b4 := belowT b3 c4
  clear b3 c4
  go_wp2_with fail
  refine (HR.out _).mono ?_
  rintro e w5 ⟨rfl, c5⟩
  have b5 := belowT b4 c5
  clear b4 c5
  go_wp2_with fail
  refine (HQ.out _).mono ?_
  rintro e w6 ⟨rfl, c6⟩
  have b6 := belowT b5 c6
  clear b5 c6
  go_wp2
  go_ret
  exact ⟨rfl, b6⟩

set_option maxHeartbeats 1000000 in
theorem back_010 (s v : List UInt8) (w : World) (hv : (v.length : Int) ≤ 140737488351232) (n : Int) (hN : ∀ w, Calls Try.prog 11 #[.int .i64 n] w (R2 w (.string ⟨#[]⟩) (.iface 54 (.int .i64 1)))) (B : List UInt8) (hB : (B.length : Int) ≤ 1048584) (hT : ∀ w, Calls Try.prog 16 #[.string ⟨s.toArray⟩] w (R2 w (.string ⟨B.toArray⟩) .nilIface)) (hU : ∀ w, Calls Try.prog 18 #[.string ⟨(B ++ v).toArray⟩] w (R3 w (.string ⟨s.toArray⟩) (.string ⟨v.toArray⟩) .nilIface)) (b : List UInt8) (c : Int) (hR : ∀ w, Calls Try.prog 13 #[.string ⟨b.toArray⟩] w (R3 w (.int .i64 0) (.string ⟨#[]⟩) (.iface 54 (.int .i64 c)))) :
    Calls Try.prog 6 #[.int .i64 n, .string ⟨s.toArray⟩, .string ⟨v.toArray⟩, .string ⟨b.toArray⟩] w fun e w' => e = .returned (.bool true) ∧ Below w.heap.size w w' := by
  have HN := Lib.hid hN; clear hN
  have HT := Lib.hid hT; clear hT
  have HU := Lib.hid hU; clear hU
  have HR := Lib.hid hR; clear hR
  go_enter Try.func6, Try.ntmps6
  go_wp2_with fail
  refine (examples_any _).mono ?_
  rintro e w1 ⟨rfl, b1⟩
  go_wp2_with fail
  refine (HN.out _).mono ?_
  rintro e w2 ⟨rfl, c2⟩
  have b2 := belowT b1 c2
  clear b1 c2
  go_wp2_with fail
  refine (HT.out _).mono ?_
  rintro e w3 ⟨rfl, c3⟩
  have b3 := belowT b2 c3
  clear b2 c3
  go_wp2_with fail
  refine (HU.out _).mono ?_
  rintro e w4 ⟨rfl, c4⟩
  have b4 := belowT b3 c4
  clear b3 c4
  go_wp2_with fail
  refine (HR.out _).mono ?_
  rintro e w5 ⟨rfl, c5⟩
  have b5 := belowT b4 c5
  clear b4 c5
  go_wp2
  go_ret
  exact ⟨rfl, b5⟩

set_option maxHeartbeats 1000000 in
theorem back_001 (s v : List UInt8) (w : World) (_hv : (v.length : Int) ≤ 140737488351232) (n : Int) (hN : ∀ w, Calls Try.prog 11 #[.int .i64 n] w (R2 w (.string ⟨#[]⟩) (.iface 54 (.int .i64 1)))) (hT : ∀ w, Calls Try.prog 16 #[.string ⟨s.toArray⟩] w (R2 w (.string ⟨#[]⟩) (.iface 54 (.int .i64 5)))) (k : Nat) (K l : List UInt8) (hK : (K.length : Int) ≤ 8) (hl : (l.length : Int) ≤ 140737488351232) (hR : ∀ w, Calls Try.prog 13 #[.string ⟨(K ++ l).toArray⟩] w (R3 w (.int .i64 k) (.string ⟨l.toArray⟩) .nilIface)) (hQ : ∀ w, Calls Try.prog 11 #[.int .i64 k] w (R2 w (.string ⟨K.toArray⟩) .nilIface)) :
    Calls Try.prog 6 #[.int .i64 n, .string ⟨s.toArray⟩, .string ⟨v.toArray⟩, .string ⟨(K ++ l).toArray⟩] w fun e w' => e = .returned (.bool true) ∧ Below w.heap.size w w' := by
  have HN := Lib.hid hN; clear hN
  have HT := Lib.hid hT; clear hT
  have HR := Lib.hid hR; clear hR
  have HQ := Lib.hid hQ; clear hQ
  go_enter Try.func6, Try.ntmps6
  go_wp2_with fail
  refine (examples_any _).mono ?_
  rintro e w1 ⟨rfl, b1⟩
  go_wp2_with fail
  refine (HN.out _).mono ?_
  rintro e w2 ⟨rfl, c2⟩
  have b2 := belowT b1 c2
  clear b1 c2
  go_wp2_with fail
  refine (HT.out _).mono ?_
  rintro e w3 ⟨rfl, c3⟩
  have b3 := belowT b2 c3
  clear b2 c3
  go_wp2_with fail
  refine (HR.out _).mono ?_
  rintro e w4 ⟨rfl, c4⟩
  have b4 := belowT b3 c4
  clear b3 c4
  go_wp2_with fail
  refine (HQ.out _).mono ?_
  rintro e w5 ⟨rfl, c5⟩
  have b5 := belowT b4 c5
  clear b4 c5
  go_wp2
  go_ret
  exact ⟨rfl, b5⟩

set_option maxHeartbeats 1000000 in
theorem back_000 (s v : List UInt8) (w : World) (_hv : (v.length : Int) ≤ 140737488351232) (n : Int) (hN : ∀ w, Calls Try.prog 11 #[.int .i64 n] w (R2 w (.string ⟨#[]⟩) (.iface 54 (.int .i64 1)))) (hT : ∀ w, Calls Try.prog 16 #[.string ⟨s.toArray⟩] w (R2 w (.string ⟨#[]⟩) (.iface 54 (.int .i64 5)))) (b : List UInt8) (c : Int) (hR : ∀ w, Calls Try.prog 13 #[.string ⟨b.toArray⟩] w (R3 w (.int .i64 0) (.string ⟨#[]⟩) (.iface 54 (.int .i64 c)))) :
    Calls Try.prog 6 #[.int .i64 n, .string ⟨s.toArray⟩, .string ⟨v.toArray⟩, .string ⟨b.toArray⟩] w fun e w' => e = .returned (.bool true) ∧ Below w.heap.size w w' := by
  have HN := Lib.hid hN; clear hN
  have HT := Lib.hid hT; clear hT
  have HR := Lib.hid hR; clear hR
  go_enter Try.func6, Try.ntmps6
  go_wp2_with fail
  refine (examples_any _).mono ?_
  rintro e w1 ⟨rfl, b1⟩
  go_wp2_with fail
  refine (HN.out _).mono ?_
  rintro e w2 ⟨rfl, c2⟩
  have b2 := belowT b1 c2
  clear b1 c2
  go_wp2_with fail
  refine (HT.out _).mono ?_
  rintro e w3 ⟨rfl, c3⟩
  have b3 := belowT b2 c3
  clear b2 c3
  go_wp2_with fail
  refine (HR.out _).mono ?_
  rintro e w4 ⟨rfl, c4⟩
  have b4 := belowT b3 c4
  clear b3 c4
  go_wp2
  go_ret
  exact ⟨rfl, b4⟩

/-- PackBack returns true. -/
theorem back_walk (n : Int) (s v b : List UInt8) (w : World) (_hn : -9223372036854775808 ≤ n ∧ n ≤ 9223372036854775807) (_hs : (s.length : Int) ≤ 140737488351232) (hv : (v.length : Int) ≤ 140737488351232) (hb : (b.length : Int) ≤ 140737488351232) :
    Calls Try.prog 6 #[.int .i64 n, .string ⟨s.toArray⟩, .string ⟨v.toArray⟩, .string ⟨b.toArray⟩] w fun e w' => e = .returned (.bool true) ∧ Below w.heap.size w w' := by
  have hm : maxLen = 9223372036854775807 := rfl
  -- the bytes that are read
  have hR : (∃ (k : Nat) (K l : List UInt8), b = K ++ l ∧ K.length ≤ 8 ∧ (∀ w, Calls Try.prog 13 #[.string ⟨(K ++ l).toArray⟩] w (R3 w (.int .i64 k) (.string ⟨l.toArray⟩) .nilIface)) ∧ (∀ w, Calls Try.prog 11 #[.int .i64 k] w (R2 w (.string ⟨K.toArray⟩) .nilIface))) ∨
      ∃ c : Nat, ∀ w, Calls Try.prog 13 #[.string ⟨b.toArray⟩] w (R3 w (.int .i64 0) (.string ⟨#[]⟩) (.iface 54 (.int .i64 c))) := by
    by_cases hc : (rdNum b).2.2 = 0
    · refine .inl ⟨(rdNum b).1, numL (rdNum b).1, (rdNum b).2.1, (rdNum_back b hc).symm, numL_len_le _, fun w => ?_, fun w => pNum_ok _ w (rdNum_le b)⟩
      rw [rdNum_back b hc]
      have := pRead b w (by omega)
      rw [hc] at this
      exact this
    · refine .inr ⟨(rdNum b).2.2, fun w => ?_⟩
      have := pRead b w (by omega)
      rw [(rdNum_err b hc).1, (rdNum_err b hc).2, errV, if_neg hc] at this
      exact this
  -- the text
  have hT : (∃ B : List UInt8, B.length ≤ 1048584 ∧ (∀ w, Calls Try.prog 16 #[.string ⟨s.toArray⟩] w (R2 w (.string ⟨B.toArray⟩) .nilIface)) ∧ (∀ w, Calls Try.prog 18 #[.string ⟨(B ++ v).toArray⟩] w (R3 w (.string ⟨s.toArray⟩) (.string ⟨v.toArray⟩) .nilIface))) ∨
      ∀ w, Calls Try.prog 16 #[.string ⟨s.toArray⟩] w (R2 w (.string ⟨#[]⟩) (.iface 54 (.int .i64 5))) := by
    by_cases hl : s.length ≤ MaxT
    · have hB : (txtL s).length ≤ 1048584 := by rw [txtL_length]; have := nb_le s.length; unfold MaxT at hl; omega
      refine .inl ⟨txtL s, hB, fun w => pText_ok s w (by unfold MaxT at hl; omega), fun w => ?_⟩
      have := pReadText (txtL s ++ v) w (by rw [List.length_append]; omega)
      rw [rdTxt_txtL s v hl] at this
      exact this
    · exact .inr fun w => pText_long s w (by unfold MaxT at hl; omega)
  -- the number
  by_cases h0 : 0 ≤ n ∧ n ≤ 9007199254740991
  · obtain ⟨m, rfl⟩ := Int.eq_ofNat_of_zero_le h0.1
    have hmM : m ≤ MaxN := by unfold MaxN; omega
    have hN := fun w => pNum_ok m w hmM
    have hM : ∀ w, Calls Try.prog 13 #[.string ⟨(numL m ++ v).toArray⟩] w (R3 w (.int .i64 m) (.string ⟨v.toArray⟩) .nilIface) := fun w => by
      have := pRead (numL m ++ v) w (by rw [List.length_append]; have := numL_len_le m; omega)
      rw [rdNum_numL m hmM] at this
      exact this
    have hA : ((numL m).length : Int) ≤ 8 := by have := numL_len_le m; omega
    rcases hT with ⟨B, hB, hT, hU⟩ | hT <;> rcases hR with ⟨k, K, l, rfl, hK, hR, hQ⟩ | ⟨c, hR⟩
    · exact back_111 s v w hv m _ hA hN hM B (by omega) hT hU k K l (by omega) (by rw [List.length_append] at hb; omega) hR hQ
    · exact back_110 s v w hv m _ hA hN hM B (by omega) hT hU b c hR
    · exact back_101 s v w hv m _ hA hN hM hT k K l (by omega) (by rw [List.length_append] at hb; omega) hR hQ
    · exact back_100 s v w hv m _ hA hN hM hT b c hR
  · have hN : ∀ w, Calls Try.prog 11 #[.int .i64 n] w (R2 w (.string ⟨#[]⟩) (.iface 54 (.int .i64 1))) := fun w => by
      by_cases h1 : n < 0
      · exact pNum_neg n w h1
      · exact pNum_big n w (by omega)
    rcases hT with ⟨B, hB, hT, hU⟩ | hT <;> rcases hR with ⟨k, K, l, rfl, hK, hR, hQ⟩ | ⟨c, hR⟩
    · exact back_011 s v w hv n hN B (by omega) hT hU k K l (by omega) (by rw [List.length_append] at hb; omega) hR hQ
    · exact back_010 s v w hv n hN B (by omega) hT hU b c hR
    · exact back_001 s v w hv n hN hT k K l (by omega) (by rw [List.length_append] at hb; omega) hR hQ
    · exact back_000 s v w hv n hN hT b c hR
end Go.Proofs.Ytcjdbflhahpcoaa
