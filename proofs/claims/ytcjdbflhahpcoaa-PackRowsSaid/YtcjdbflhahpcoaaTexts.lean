/- The law PackTexts of layer 1 (pack), walked; ahead of it the reference's Text and ReadText. -/
import Derived.Test.YtcjdbflhahpcoaaNumbers
namespace Go.Proofs.Ytcjdbflhahpcoaa
open Go.RowKit Go.Proofs Go.Proofs.Pk
attribute [local simp] mk_get wrap64_u8 mk_extract ByteArray.mk_append_mk

set_option maxHeartbeats 400000 in
theorem rText_long (s : List UInt8) (w : World) (hs : 1048576 < (s.length : Int)) :
    Calls Try.prog 17 #[.string ⟨s.toArray⟩] w (R2 w (.string ⟨#[]⟩) (.bool false)) := by
  go_enter Try.func17, Try.ntmps17
  go_wp2
  go_ret2
  exact R2.mk rfl rfl (Below.refl _ _)

set_option maxHeartbeats 400000 in
theorem rText_ok (s : List UInt8) (w : World) (hs : (s.length : Int) ≤ 1048576) :
    Calls Try.prog 17 #[.string ⟨s.toArray⟩] w (R2 w (.string ⟨(txtL s).toArray⟩) (.bool true)) := by
  have HN := Lib.hid (fun w => rNum_ok s.length w (by unfold MaxN; omega))
  have hl := numL_len_le s.length
  have HT : Hid (txtL s = numL s.length ++ s) := rfl
  generalize numL s.length = A at *
  go_enter Try.func17, Try.ntmps17
  go_wp2_with fail
  refine (HN.out _).mono ?_
  rintro e w1 ⟨rfl, b1⟩
  go_wp2
  go_ret2
  exact R2.mk (by rw [HT.out]; rfl) rfl b1

set_option maxHeartbeats 400000 in
theorem rReadText_no (b : List UInt8) (w : World) (hb : b.length ≤ maxLen) (c : Nat) (hc : (rdNum b).2.2 = c + 1) :
    Calls Try.prog 19 #[.string ⟨b.toArray⟩] w (R3 w (.string ⟨#[]⟩) (.string ⟨#[]⟩) (.int .i64 ((c : Int) + 1))) := by
  have hR := rRead b w hb
  rw [hc] at hR
  generalize (rdNum b).1 = n at *
  generalize (rdNum b).2.1 = r at *
  clear hc
  rw [show (((c + 1 : Nat) : Int)) = (c : Int) + 1 from by omega] at hR
  have HR := Lib.hid hR
  clear hR
  have hne : (((c : Int) + 1) != 0) = true := by rw [bne_iff_ne]; omega
  go_enter Try.func19, Try.ntmps19
  go_wp2_with fail
  refine HR.out.mono ?_
  rintro e w1 ⟨rfl, b1⟩
  go_wp2
  go_ret3
  exact R3.mk rfl rfl rfl b1

set_option maxHeartbeats 400000 in
theorem rReadText_long (b : List UInt8) (w : World) (hb : b.length ≤ maxLen) (hc : (rdNum b).2.2 = 0) (h1 : 1048576 < ((rdNum b).1 : Int)) :
    Calls Try.prog 19 #[.string ⟨b.toArray⟩] w (R3 w (.string ⟨#[]⟩) (.string ⟨#[]⟩) (.int .i64 5)) := by
  have hR := rRead b w hb
  rw [hc] at hR
  generalize (rdNum b).1 = n at *
  generalize (rdNum b).2.1 = r at *
  clear hc
  have HR := Lib.hid hR
  clear hR
  go_enter Try.func19, Try.ntmps19
  go_wp2_with fail
  refine HR.out.mono ?_
  rintro e w1 ⟨rfl, b1⟩
  go_wp2
  go_ret3
  exact R3.mk rfl rfl rfl b1

set_option maxHeartbeats 400000 in
theorem rReadText_short (b : List UInt8) (w : World) (hb : b.length ≤ maxLen) (hc : (rdNum b).2.2 = 0) (h1 : ((rdNum b).1 : Int) ≤ 1048576) (h2 : ((rdNum b).2.1.length : Int) < (rdNum b).1) :
    Calls Try.prog 19 #[.string ⟨b.toArray⟩] w (R3 w (.string ⟨#[]⟩) (.string ⟨#[]⟩) (.int .i64 2)) := by
  have hR := rRead b w hb
  rw [hc] at hR
  generalize (rdNum b).1 = n at *
  generalize (rdNum b).2.1 = r at *
  clear hc
  have HR := Lib.hid hR
  clear hR
  go_enter Try.func19, Try.ntmps19
  go_wp2_with fail
  refine HR.out.mono ?_
  rintro e w1 ⟨rfl, b1⟩
  go_wp2
  go_ret3
  exact R3.mk rfl rfl rfl b1

set_option maxHeartbeats 400000 in
theorem rReadText_ok (b : List UInt8) (w : World) (hb : b.length ≤ maxLen) (hc : (rdNum b).2.2 = 0) (h1 : ((rdNum b).1 : Int) ≤ 1048576) (h2 : ((rdNum b).1 : Int) ≤ (rdNum b).2.1.length) :
    Calls Try.prog 19 #[.string ⟨b.toArray⟩] w (R3 w (.string ⟨((rdNum b).2.1.take (rdNum b).1).toArray⟩) (.string ⟨((rdNum b).2.1.drop (rdNum b).1).toArray⟩) (.int .i64 0)) := by
  have hR := rRead b w hb
  rw [hc] at hR
  generalize (rdNum b).1 = n at *
  generalize (rdNum b).2.1 = r at *
  clear hc
  have HR := Lib.hid hR
  clear hR
  go_enter Try.func19, Try.ntmps19
  go_wp2_with fail
  refine HR.out.mono ?_
  rintro e w1 ⟨rfl, b1⟩
  go_wp2
  go_quiet (fail)
  go_wp2
  go_ret3
  exact R3.mk rfl (str_drop0 r n) rfl (below_drewN b1 _)

/-- The reference reads a text as the chapter says. -/
theorem rReadText (b : List UInt8) (w : World) (hb : b.length ≤ maxLen) :
    Calls Try.prog 19 #[.string ⟨b.toArray⟩] w (R3 w (.string ⟨(rdTxt b).1.toArray⟩) (.string ⟨(rdTxt b).2.1.toArray⟩) (.int .i64 (rdTxt b).2.2)) := by
  unfold rdTxt
  by_cases hc : (rdNum b).2.2 = 0
  · rw [if_neg (by omega)]
    by_cases h1 : MaxT < (rdNum b).1
    · rw [if_pos h1]; exact rReadText_long b w hb hc (by unfold MaxT at h1; omega)
    · rw [if_neg h1]
      by_cases h2 : (rdNum b).2.1.length < (rdNum b).1
      · rw [if_pos h2]; exact rReadText_short b w hb hc (by unfold MaxT at h1; omega) (by omega)
      · rw [if_neg h2]; exact rReadText_ok b w hb hc (by unfold MaxT at h1; omega) (by omega)
  · rw [if_pos hc]
    obtain ⟨c, hc'⟩ : ∃ c, (rdNum b).2.2 = c + 1 := ⟨_, (Nat.succ_pred_eq_of_ne_zero hc).symm⟩
    rw [hc']
    exact rReadText_no b w hb c hc'

theorem ex8 (w : World) : Calls Try.prog 15 #[.iface 54 (.int .i64 5), .int .i64 5] w fun e w' => e = .returned (.bool true) ∧ w = w' := is_any 5 5 w

set_option maxHeartbeats 1000000 in
theorem texts_yes (s A b x l : List UInt8) (c : Int) (V : Value) (w : World) (h1 : ∀ w, Calls Try.prog 16 #[.string ⟨s.toArray⟩] w (R2 w (.string ⟨A.toArray⟩) .nilIface)) (h2 : ∀ w, Calls Try.prog 17 #[.string ⟨s.toArray⟩] w (R2 w (.string ⟨A.toArray⟩) (.bool true)))
    (h3 : ∀ w, Calls Try.prog 18 #[.string ⟨b.toArray⟩] w (R3 w (.string ⟨x.toArray⟩) (.string ⟨l.toArray⟩) V)) (h4 : ∀ w, Calls Try.prog 19 #[.string ⟨b.toArray⟩] w (R3 w (.string ⟨x.toArray⟩) (.string ⟨l.toArray⟩) (.int .i64 c)))
    (h5 : ∀ w, Calls Try.prog 15 #[V, .int .i64 c] w fun e w' => e = .returned (.bool true) ∧ w = w') :
    Calls Try.prog 4 #[.string ⟨s.toArray⟩, .string ⟨b.toArray⟩] w fun e w' => e = .returned (.bool true) ∧ Below w.heap.size w w' := by
  have H1 := Lib.hid h1; clear h1
  have H2 := Lib.hid h2; clear h2
  have H3 := Lib.hid h3; clear h3
  have H4 := Lib.hid h4; clear h4
  have H5 := Lib.hid h5; clear h5
  go_enter Try.func4, Try.ntmps4
  go_wp2_with fail
  refine (examples_any _).mono ?_
  rintro e w1 ⟨rfl, b1⟩
  go_wp2_with fail
  refine (H1.out _).mono ?_
  rintro e w2 ⟨rfl, b2⟩
  go_wp2_with fail
  refine (H2.out _).mono ?_
  rintro e w3 ⟨rfl, b3⟩
  go_wp2_with fail
  refine (H3.out _).mono ?_
  rintro e w4 ⟨rfl, b4⟩
  go_wp2_with fail
  refine (H4.out _).mono ?_
  rintro e w5 ⟨rfl, b5⟩
  go_wp2_with (go_at_call 15; refine (H5.out _).mono ?_; rintro e w' ⟨rfl, rfl⟩)
  go_ret
  exact ⟨rfl, below5 b1 b2 b3 b4 b5⟩

set_option maxHeartbeats 1000000 in
theorem texts_no (s b x l : List UInt8) (c : Int) (V : Value) (w : World) (h1 : ∀ w, Calls Try.prog 16 #[.string ⟨s.toArray⟩] w (R2 w (.string ⟨#[]⟩) (.iface 54 (.int .i64 5)))) (h2 : ∀ w, Calls Try.prog 17 #[.string ⟨s.toArray⟩] w (R2 w (.string ⟨#[]⟩) (.bool false)))
    (h3 : ∀ w, Calls Try.prog 18 #[.string ⟨b.toArray⟩] w (R3 w (.string ⟨x.toArray⟩) (.string ⟨l.toArray⟩) V)) (h4 : ∀ w, Calls Try.prog 19 #[.string ⟨b.toArray⟩] w (R3 w (.string ⟨x.toArray⟩) (.string ⟨l.toArray⟩) (.int .i64 c)))
    (h5 : ∀ w, Calls Try.prog 15 #[V, .int .i64 c] w fun e w' => e = .returned (.bool true) ∧ w = w') :
    Calls Try.prog 4 #[.string ⟨s.toArray⟩, .string ⟨b.toArray⟩] w fun e w' => e = .returned (.bool true) ∧ Below w.heap.size w w' := by
  have H1 := Lib.hid h1; clear h1
  have H2 := Lib.hid h2; clear h2
  have H3 := Lib.hid h3; clear h3
  have H4 := Lib.hid h4; clear h4
  have H5 := Lib.hid h5; clear h5
  go_enter Try.func4, Try.ntmps4
  go_wp2_with fail
  refine (examples_any _).mono ?_
  rintro e w1 ⟨rfl, b1⟩
  go_wp2_with fail
  refine (H1.out _).mono ?_
  rintro e w2 ⟨rfl, b2⟩
  go_wp2_with fail
  refine (H2.out _).mono ?_
  rintro e w3 ⟨rfl, b3⟩
  go_wp2_with fail
  refine (H3.out _).mono ?_
  rintro e w4 ⟨rfl, b4⟩
  go_wp2_with fail
  refine (H4.out _).mono ?_
  rintro e w5 ⟨rfl, b5⟩
  go_wp2_with fail
  refine (ex8 _).mono ?_
  rintro e w' ⟨rfl, rfl⟩
  go_wp2_with fail
  refine (H5.out _).mono ?_
  rintro e w' ⟨rfl, rfl⟩
  go_wp2
  go_ret
  exact ⟨rfl, below5 b1 b2 b3 b4 b5⟩

/-- PackTexts returns true. -/
theorem texts_walk (s b : List UInt8) (w : World) (_hs : (s.length : Int) ≤ 140737488351232) (hb : (b.length : Int) ≤ 140737488351232) :
    Calls Try.prog 4 #[.string ⟨s.toArray⟩, .string ⟨b.toArray⟩] w fun e w' => e = .returned (.bool true) ∧ Below w.heap.size w w' := by
  have hm : maxLen = 9223372036854775807 := rfl
  have h5 : ∀ w, Calls Try.prog 15 #[errV 54 (rdTxt b).2.2, .int .i64 (rdTxt b).2.2] w fun e w' => e = .returned (.bool true) ∧ w = w' := fun w => by
    have := is_any (rdTxt b).2.2 (rdTxt b).2.2 w
    rw [beq_self_eq_true] at this
    exact this
  by_cases h0 : (s.length : Int) ≤ 1048576
  · exact texts_yes s _ b _ _ _ _ w (fun w => pText_ok s w h0) (fun w => rText_ok s w h0) (fun w => pReadText b w (by omega)) (fun w => rReadText b w (by omega)) h5
  · exact texts_no s b _ _ _ _ w (fun w => pText_long s w (by omega)) (fun w => rText_long s w (by omega)) (fun w => pReadText b w (by omega)) (fun w => rReadText b w (by omega)) h5
end Go.Proofs.Ytcjdbflhahpcoaa
