/- The law PackNumbers of layer 1 (pack), walked: any number is written, and any bytes are read as one, as the reference has it. -/
import Derived.Test.YtcjdbflhahpcoaaLaws
import Derived.Test.YtcjdbflhahpcoaaRefN
namespace Go.Proofs.Ytcjdbflhahpcoaa
open Go.RowKit Go.Proofs Go.Proofs.Pk
attribute [local simp] mk_get wrap64_u8 mk_extract ByteArray.mk_append_mk

theorem below5 {w w1 w2 w3 w4 w5 : World} (b1 : Below w.heap.size w w1) (b2 : Below w1.heap.size w1 w2) (b3 : Below w2.heap.size w2 w3) (b4 : Below w3.heap.size w3 w4) (b5 : Below w4.heap.size w4 w5) : Below w.heap.size w w5 :=
  (below4 b1 b2 b3 b4).trans (b5.mono (below4 b1 b2 b3 b4).size)
theorem ex7 (w : World) : Calls Try.prog 15 #[.iface 54 (.int .i64 1), .int .i64 1] w fun e w' => e = .returned (.bool true) ∧ w = w' := is_any 1 1 w

set_option maxHeartbeats 1000000 in
theorem numbers_yes (n : Int) (A b l : List UInt8) (x : Int) (c : Int) (V : Value) (w : World) (h1 : ∀ w, Calls Try.prog 11 #[.int .i64 n] w (R2 w (.string ⟨A.toArray⟩) .nilIface)) (h2 : ∀ w, Calls Try.prog 12 #[.int .i64 n] w (R2 w (.string ⟨A.toArray⟩) (.bool true)))
    (h3 : ∀ w, Calls Try.prog 13 #[.string ⟨b.toArray⟩] w (R3 w (.int .i64 x) (.string ⟨l.toArray⟩) V)) (h4 : ∀ w, Calls Try.prog 14 #[.string ⟨b.toArray⟩] w (R3 w (.int .i64 x) (.string ⟨l.toArray⟩) (.int .i64 c)))
    (h5 : ∀ w, Calls Try.prog 15 #[V, .int .i64 c] w fun e w' => e = .returned (.bool true) ∧ w = w') :
    Calls Try.prog 3 #[.int .i64 n, .string ⟨b.toArray⟩] w fun e w' => e = .returned (.bool true) ∧ Below w.heap.size w w' := by
  have H1 := Lib.hid h1; clear h1
  have H2 := Lib.hid h2; clear h2
  have H3 := Lib.hid h3; clear h3
  have H4 := Lib.hid h4; clear h4
  have H5 := Lib.hid h5; clear h5
  go_enter Try.func3, Try.ntmps3
  go_wp2_with fail
  refine (examples_any _).mono ?_
  rintro e w1 ⟨rfl, b1⟩
  go_wp2_with fail
  refine (H1.out _).mono ?_
  rintro e w2 ⟨rfl, b2⟩
  go_wp2_with fail
  refine (H2.out _).mono ?_
  rintro e w3 ⟨rfl, b3⟩
  go_wp2_with fail
  refine (H3.out _).mono ?_
  rintro e w4 ⟨rfl, b4⟩
  go_wp2_with fail
  refine (H4.out _).mono ?_
  rintro e w5 ⟨rfl, b5⟩
  go_wp2_with (go_at_call 15; refine (H5.out _).mono ?_; rintro e w' ⟨rfl, rfl⟩)
  go_ret
  exact ⟨rfl, below5 b1 b2 b3 b4 b5⟩

set_option maxHeartbeats 1000000 in
theorem numbers_no (n : Int) (b l : List UInt8) (x : Int) (c : Int) (V : Value) (w : World) (h1 : ∀ w, Calls Try.prog 11 #[.int .i64 n] w (R2 w (.string ⟨#[]⟩) (.iface 54 (.int .i64 1)))) (h2 : ∀ w, Calls Try.prog 12 #[.int .i64 n] w (R2 w (.string ⟨#[]⟩) (.bool false)))
    (h3 : ∀ w, Calls Try.prog 13 #[.string ⟨b.toArray⟩] w (R3 w (.int .i64 x) (.string ⟨l.toArray⟩) V)) (h4 : ∀ w, Calls Try.prog 14 #[.string ⟨b.toArray⟩] w (R3 w (.int .i64 x) (.string ⟨l.toArray⟩) (.int .i64 c)))
    (h5 : ∀ w, Calls Try.prog 15 #[V, .int .i64 c] w fun e w' => e = .returned (.bool true) ∧ w = w') :
    Calls Try.prog 3 #[.int .i64 n, .string ⟨b.toArray⟩] w fun e w' => e = .returned (.bool true) ∧ Below w.heap.size w w' := by
  have H1 := Lib.hid h1; clear h1
  have H2 := Lib.hid h2; clear h2
  have H3 := Lib.hid h3; clear h3
  have H4 := Lib.hid h4; clear h4
  have H5 := Lib.hid h5; clear h5
  go_enter Try.func3, Try.ntmps3
  go_wp2_with fail
  refine (examples_any _).mono ?_
  rintro e w1 ⟨rfl, b1⟩
  go_wp2_with fail
  refine (H1.out _).mono ?_
  rintro e w2 ⟨rfl, b2⟩
  go_wp2_with fail
  refine (H2.out _).mono ?_
  rintro e w3 ⟨rfl, b3⟩
  go_wp2_with fail
  refine (H3.out _).mono ?_
  rintro e w4 ⟨rfl, b4⟩
  go_wp2_with fail
  refine (H4.out _).mono ?_
  rintro e w5 ⟨rfl, b5⟩
  go_wp2_with fail
  refine (ex7 _).mono ?_
  rintro e w' ⟨rfl, rfl⟩
  go_wp2_with fail
  refine (H5.out _).mono ?_
  rintro e w' ⟨rfl, rfl⟩
  go_wp2
  go_ret
  exact ⟨rfl, below5 b1 b2 b3 b4 b5⟩

/-- PackNumbers returns true. -/
theorem numbers_walk (n : Int) (b : List UInt8) (w : World) (_hn : -9223372036854775808 ≤ n ∧ n ≤ 9223372036854775807) (hb : (b.length : Int) ≤ 140737488351232) :
    Calls Try.prog 3 #[.int .i64 n, .string ⟨b.toArray⟩] w fun e w' => e = .returned (.bool true) ∧ Below w.heap.size w w' := by
  have hm : maxLen = 9223372036854775807 := rfl
  have h5 : ∀ w, Calls Try.prog 15 #[errV 54 (rdNum b).2.2, .int .i64 (rdNum b).2.2] w fun e w' => e = .returned (.bool true) ∧ w = w' := fun w => by
    have := is_any (rdNum b).2.2 (rdNum b).2.2 w
    rw [beq_self_eq_true] at this
    exact this
  by_cases h0 : 0 ≤ n ∧ n ≤ 9007199254740991
  · obtain ⟨m, rfl⟩ := Int.eq_ofNat_of_zero_le h0.1
    have hmM : m ≤ MaxN := by unfold MaxN; omega
    exact numbers_yes m _ b _ _ _ _ w (fun w => pNum_ok m w hmM) (fun w => rNum_ok m w hmM) (fun w => pRead b w (by omega)) (fun w => rRead b w (by omega)) h5
  · have hN : ∀ w, Calls Try.prog 11 #[.int .i64 n] w (R2 w (.string ⟨#[]⟩) (.iface 54 (.int .i64 1))) := fun w => by
      by_cases h1 : n < 0
      · exact pNum_neg n w h1
      · exact pNum_big n w (by omega)
    have hM : ∀ w, Calls Try.prog 12 #[.int .i64 n] w (R2 w (.string ⟨#[]⟩) (.bool false)) := fun w => by
      by_cases h1 : n < 0
      · exact rNum_neg n w h1
      · exact rNum_big n w (by omega)
    exact numbers_no n b _ _ _ _ w hN hM (fun w => pRead b w (by omega)) (fun w => rRead b w (by omega)) h5
end Go.Proofs.Ytcjdbflhahpcoaa
