/- The law PackCuts of layer 1 (pack), walked: no beginning of a written number or text is one; both are told to be too short. -/
import Derived.Test.YtcjdbflhahpcoaaLaws
namespace Go.Proofs.Ytcjdbflhahpcoaa
open Go.RowKit Go.Proofs Go.Proofs.Pk
attribute [local simp] mk_get wrap64_u8 mk_extract ByteArray.mk_append_mk

theorem below3 {w w1 w2 w3 : World} (b1 : Below w.heap.size w w1) (b2 : Below w1.heap.size w1 w2) (b3 : Below w2.heap.size w2 w3) : Below w.heap.size w w3 :=
  b1.trans ((b2.mono b1.size).trans (b3.mono (by have := b1.size; have := b2.size; omega)))

theorem ex6 (w : World) : Calls Try.prog 15 #[.iface 54 (.int .i64 2), .int .i64 2] w fun e w' => e = .returned (.bool true) ∧ w = w' := is_any 2 2 w

set_option maxHeartbeats 1000000 in
theorem cuts_neg (n : Int) (s : List UInt8) (k : Int) (w : World) (t : List UInt8) (g : Nat) (ht : ∀ w, Calls Try.prog 16 #[.string ⟨s.toArray⟩] w (R2 w (.string ⟨t.toArray⟩) (errV 54 g))) (hn : n < 0) (_hs : (s.length : Int) ≤ 140737488351232) :
    Calls Try.prog 7 #[.int .i64 n, .string ⟨s.toArray⟩, .int .i64 k] w fun e w' => e = .returned (.bool true) ∧ Below w.heap.size w w' := by
  have HX := Lib.hid (fun w => pNum_neg n w hn)
  have HT := Lib.hid ht; clear ht
  rcases g with _ | g
  all_goals
    rw [show errV 54 1 = .iface 54 (.int .i64 1) from rfl] at HX
    simp only [errV_zero, errV_succ] at HT
    go_enter Try.func7, Try.ntmps7
    go_wp2_with fail
    refine (examples_any _).mono ?_
    rintro e w1 ⟨rfl, b1⟩
    go_wp2_with fail
    refine (HX.out _).mono ?_
    rintro e w2 ⟨rfl, b2⟩
    go_wp2_with fail
    refine (HT.out _).mono ?_
    rintro e w3 ⟨rfl, b3⟩
    go_wp2
    go_ret
    exact ⟨rfl, below3 b1 b2 b3⟩

set_option maxHeartbeats 1000000 in
theorem cuts_big (n : Int) (s : List UInt8) (k : Int) (w : World) (t : List UInt8) (g : Nat) (ht : ∀ w, Calls Try.prog 16 #[.string ⟨s.toArray⟩] w (R2 w (.string ⟨t.toArray⟩) (errV 54 g))) (hn : 9007199254740991 < n) (_hs : (s.length : Int) ≤ 140737488351232) :
    Calls Try.prog 7 #[.int .i64 n, .string ⟨s.toArray⟩, .int .i64 k] w fun e w' => e = .returned (.bool true) ∧ Below w.heap.size w w' := by
  have HX := Lib.hid (fun w => pNum_big n w hn)
  have HT := Lib.hid ht; clear ht
  rcases g with _ | g
  all_goals
    rw [show errV 54 1 = .iface 54 (.int .i64 1) from rfl] at HX
    simp only [errV_zero, errV_succ] at HT
    go_enter Try.func7, Try.ntmps7
    go_wp2_with fail
    refine (examples_any _).mono ?_
    rintro e w1 ⟨rfl, b1⟩
    go_wp2_with fail
    refine (HX.out _).mono ?_
    rintro e w2 ⟨rfl, b2⟩
    go_wp2_with fail
    refine (HT.out _).mono ?_
    rintro e w3 ⟨rfl, b3⟩
    go_wp2
    go_ret
    exact ⟨rfl, below3 b1 b2 b3⟩

set_option maxHeartbeats 1000000 in
theorem cuts_long (n : Nat) (s : List UInt8) (k : Int) (w : World) (hn : n ≤ MaxN) (hl : 1048576 < (s.length : Int)) (_hs : (s.length : Int) ≤ 140737488351232) :
    Calls Try.prog 7 #[.int .i64 n, .string ⟨s.toArray⟩, .int .i64 k] w fun e w' => e = .returned (.bool true) ∧ Below w.heap.size w w' := by
  have HX := Lib.hid (fun w => pNum_ok n w hn)
  have HT := Lib.hid (fun w => pText_long s w hl)
  have hb : (n : Int) ≤ 9007199254740991 := by unfold MaxN at hn; omega
  simp only [errV_zero] at HX
  rw [show errV 54 5 = .iface 54 (.int .i64 5) from rfl] at HT
  clear hn
  go_enter Try.func7, Try.ntmps7
  go_wp2_with fail
  refine (examples_any _).mono ?_
  rintro e w1 ⟨rfl, b1⟩
  go_wp2_with fail
  refine (HX.out _).mono ?_
  rintro e w2 ⟨rfl, b2⟩
  go_wp2_with fail
  refine (HT.out _).mono ?_
  rintro e w3 ⟨rfl, b3⟩
  go_wp2
  go_ret
  exact ⟨rfl, below3 b1 b2 b3⟩

set_option maxHeartbeats 1000000 in
theorem cuts_yes (n : Nat) (s : List UInt8) (c : Nat) (w : World) (hn : n ≤ MaxN) (hs : s.length ≤ MaxT) (hc : (c : Int) ≤ 9223372036854775807) :
    Calls Try.prog 7 #[.int .i64 n, .string ⟨s.toArray⟩, .int .i64 c] w fun e w' => e = .returned (.bool true) ∧ Below w.heap.size w w' := by
  have HX := Lib.hid (fun w => pNum_ok n w hn)
  have HT := Lib.hid (fun w => pText_ok s w (by unfold MaxT at hs; omega))
  simp only [errV_zero] at HX HT
  have l1 : 0 < (numL n).length := by rw [numL_length]; omega
  have l2 : 0 < (txtL s).length := by rw [txtL_length]; omega
  have u1 := numL_len_le n
  have u2 : (txtL s).length ≤ 1048584 := by rw [txtL_length]; have := nb_le s.length; unfold MaxT at hs; omega
  have c1 : (rdNum ((numL n).take (c % (numL n).length))).2.2 = 2 := rdNum_cut n _ hn (Nat.mod_lt _ l1)
  have c2 : (rdTxt ((txtL s).take (c % (txtL s).length))).2.2 = 2 := rdTxt_cut s _ hs (Nat.mod_lt _ l2)
  have HG := Lib.hid (fun w => pRead ((numL n).take (c % (numL n).length)) w (by rw [List.length_take]; unfold maxLen; omega))
  have HH := Lib.hid (fun w => pReadText ((txtL s).take (c % (txtL s).length)) w (by rw [List.length_take]; unfold maxLen; omega))
  rw [c1] at HG
  rw [c2] at HH
  clear c1 c2
  generalize (rdNum ((numL n).take (c % (numL n).length))).1 = x1 at HG
  generalize (rdNum ((numL n).take (c % (numL n).length))).2.1 = x2 at HG
  generalize (rdTxt ((txtL s).take (c % (txtL s).length))).1 = y1 at HH
  generalize (rdTxt ((txtL s).take (c % (txtL s).length))).2.1 = y2 at HH
  generalize numL n = A at *
  generalize txtL s = T at *
  have hA : A.isEmpty = false := by cases A with
    | nil => simp at l1
    | cons => rfl
  have hT : T.isEmpty = false := by cases T with
    | nil => simp at l2
    | cons => rfl
  clear hn hs
  have m1 : (c : Int) % A.length ≤ A.length := Int.le_of_lt (Int.emod_lt_of_pos _ (by omega))
  have m2 : (c : Int) % T.length ≤ T.length := Int.le_of_lt (Int.emod_lt_of_pos _ (by omega))
  have m3 : 0 ≤ (c : Int) % A.length := Int.emod_nonneg _ (by omega)
  have m4 : 0 ≤ (c : Int) % T.length := Int.emod_nonneg _ (by omega)
  go_enter Try.func7, Try.ntmps7
  go_wp2_with fail
  refine (examples_any _).mono ?_
  rintro e w1 ⟨rfl, b1⟩
  go_wp2_with fail
  refine (HX.out _).mono ?_
  rintro e w2 ⟨rfl, b2⟩
  go_wp2_with fail
  refine (HT.out _).mono ?_
  rintro e w3 ⟨rfl, b3⟩
  have B := Lib.hid (below3 b1 b2 b3)
  clear b1 b2 b3
  go_wp2_with fail
  refine (HG.out _).mono ?_
  rintro e w4 ⟨rfl, b4⟩
  rw [show errV 54 2 = .iface 54 (.int .i64 2) from rfl]
  go_wp2_with fail
  refine (HH.out _).mono ?_
  rintro e w5 ⟨rfl, b5⟩
  rw [show errV 54 2 = .iface 54 (.int .i64 2) from rfl]
  go_wp2_with (go_at_call 15; refine (ex6 _).mono ?_; rintro e w' ⟨rfl, rfl⟩)
  go_ret
  exact ⟨rfl, below3 B.out b4 b5⟩
set_option maxHeartbeats 1000000 in
theorem cuts_yesn (n : Nat) (s : List UInt8) (c : Nat) (w : World) (hn : n ≤ MaxN) (hs : s.length ≤ MaxT) (hc : (c : Int) ≤ 9223372036854775807) :
    Calls Try.prog 7 #[.int .i64 n, .string ⟨s.toArray⟩, .int .i64 (-(c : Int) - 1)] w fun e w' => e = .returned (.bool true) ∧ Below w.heap.size w w' := by
  have HX := Lib.hid (fun w => pNum_ok n w hn)
  have HT := Lib.hid (fun w => pText_ok s w (by unfold MaxT at hs; omega))
  simp only [errV_zero] at HX HT
  have l1 : 0 < (numL n).length := by rw [numL_length]; omega
  have l2 : 0 < (txtL s).length := by rw [txtL_length]; omega
  have u1 := numL_len_le n
  have u2 : (txtL s).length ≤ 1048584 := by rw [txtL_length]; have := nb_le s.length; unfold MaxT at hs; omega
  have c1 : (rdNum ((numL n).take (c % (numL n).length))).2.2 = 2 := rdNum_cut n _ hn (Nat.mod_lt _ l1)
  have c2 : (rdTxt ((txtL s).take (c % (txtL s).length))).2.2 = 2 := rdTxt_cut s _ hs (Nat.mod_lt _ l2)
  have HG := Lib.hid (fun w => pRead ((numL n).take (c % (numL n).length)) w (by rw [List.length_take]; unfold maxLen; omega))
  have HH := Lib.hid (fun w => pReadText ((txtL s).take (c % (txtL s).length)) w (by rw [List.length_take]; unfold maxLen; omega))
  rw [c1] at HG
  rw [c2] at HH
  clear c1 c2
  generalize (rdNum ((numL n).take (c % (numL n).length))).1 = x1 at HG
  generalize (rdNum ((numL n).take (c % (numL n).length))).2.1 = x2 at HG
  generalize (rdTxt ((txtL s).take (c % (txtL s).length))).1 = y1 at HH
  generalize (rdTxt ((txtL s).take (c % (txtL s).length))).2.1 = y2 at HH
  generalize numL n = A at *
  generalize txtL s = T at *
  have hA : A.isEmpty = false := by cases A with
    | nil => simp at l1
    | cons => rfl
  have hT : T.isEmpty = false := by cases T with
    | nil => simp at l2
    | cons => rfl
  clear hn hs
  have m1 : (c : Int) % A.length ≤ A.length := Int.le_of_lt (Int.emod_lt_of_pos _ (by omega))
  have m2 : (c : Int) % T.length ≤ T.length := Int.le_of_lt (Int.emod_lt_of_pos _ (by omega))
  have m3 : 0 ≤ (c : Int) % A.length := Int.emod_nonneg _ (by omega)
  have m4 : 0 ≤ (c : Int) % T.length := Int.emod_nonneg _ (by omega)
  go_enter Try.func7, Try.ntmps7
  go_wp2_with fail
  refine (examples_any _).mono ?_
  rintro e w1 ⟨rfl, b1⟩
  go_wp2_with fail
  refine (HX.out _).mono ?_
  rintro e w2 ⟨rfl, b2⟩
  go_wp2_with fail
  refine (HT.out _).mono ?_
  rintro e w3 ⟨rfl, b3⟩
  have B := Lib.hid (below3 b1 b2 b3)
  clear b1 b2 b3
  go_wp2_with fail
  refine (HG.out _).mono ?_
  rintro e w4 ⟨rfl, b4⟩
  rw [show errV 54 2 = .iface 54 (.int .i64 2) from rfl]
  go_wp2_with fail
  refine (HH.out _).mono ?_
  rintro e w5 ⟨rfl, b5⟩
  rw [show errV 54 2 = .iface 54 (.int .i64 2) from rfl]
  go_wp2_with (go_at_call 15; refine (ex6 _).mono ?_; rintro e w' ⟨rfl, rfl⟩)
  go_ret
  exact ⟨rfl, below3 B.out b4 b5⟩

/-- PackCuts returns true. -/
theorem cuts_walk (n : Int) (s : List UInt8) (k : Int) (w : World) (_hn : -9223372036854775808 ≤ n ∧ n ≤ 9223372036854775807) (hs : (s.length : Int) ≤ 140737488351232) (hk : -9223372036854775808 ≤ k ∧ k ≤ 9223372036854775807) :
    Calls Try.prog 7 #[.int .i64 n, .string ⟨s.toArray⟩, .int .i64 k] w fun e w' => e = .returned (.bool true) ∧ Below w.heap.size w w' := by
  by_cases h0 : n < 0
  · exact cuts_neg n s k w _ _ (pText s) h0 hs
  by_cases h1 : 9007199254740991 < n
  · exact cuts_big n s k w _ _ (pText s) h1 hs
  obtain ⟨m, rfl⟩ := Int.eq_ofNat_of_zero_le (show 0 ≤ n by omega)
  have hm : m ≤ MaxN := by unfold MaxN; omega
  by_cases h2 : 1048576 < (s.length : Int)
  · exact cuts_long m s k w hm h2 hs
  have hT : s.length ≤ MaxT := by unfold MaxT; omega
  by_cases h3 : 0 ≤ k
  · obtain ⟨c, rfl⟩ := Int.eq_ofNat_of_zero_le h3
    exact cuts_yes m s c w hm hT (by omega)
  · obtain ⟨c, hc⟩ := Int.eq_ofNat_of_zero_le (show 0 ≤ -k - 1 by omega)
    obtain rfl : k = -(c : Int) - 1 := by omega
    exact cuts_yesn m s c w hm hT (by omega)
end Go.Proofs.Ytcjdbflhahpcoaa
