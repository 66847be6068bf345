/- frame.Put, Take: what they return. -/
import Derived.Test.YtaiklhcgimpajaaSumP
import Derived.Test.YtaiklhcgimpajaaFour
import Derived.Test.YtaiklhcgimpajaaFrm
import Derived.Test.YtaiklhcgimpajaaRR
import Derived.Test.YtaiklhcgimpajaaPackT
namespace Go.Proofs.Ytaiklhcgimpajaa
open Go.RowKit Go.Proofs Go.Proofs.Pk
set_option maxRecDepth 10000
attribute [local simp] mk_get wrap64_u8 mk_extract ByteArray.mk_append_mk get_1k

set_option maxHeartbeats 400000 in
theorem pFour (v : Nat) (w : World) (hv : (v : Int) < 4294967296) :
    Calls Try.prog 20 #[.int .u32 v] w fun e w' => e = .returned (.string ⟨(big 4 v).toArray⟩) ∧ Below w.heap.size w w' := by
  have HC := conv_four w v hv
  go_enter Try.func20, Try.ntmps20
  go_wp2
  go_ret
  exact ⟨rfl, (Below.refl _ _).alloc (Nat.le_refl _) _⟩

set_option maxHeartbeats 400000 in
theorem pPut_long (s : List UInt8) (w : World) (hs : 1048576 < (s.length : Int)) :
    Calls Try.prog 10 #[.string ⟨s.toArray⟩] w (R2 w (.string ⟨#[]⟩) (.iface 49 (.int .i64 5))) := by
  have HT : Hid (∀ w, Calls Try.prog 19 #[.string ⟨s.toArray⟩] w (R2 w (.string ⟨#[]⟩) (.iface 49 (.int .i64 5)))) := fun w => pText_long s w hs
  go_enter Try.func10, Try.ntmps10
  go_wp2_with fail
  refine (HT.out _).mono ?_
  rintro e w1 ⟨rfl, b1⟩
  go_wp2
  go_ret2
  exact R2.mk rfl rfl b1

set_option maxHeartbeats 400000 in
theorem pPut_ok (s : List UInt8) (w : World) (hs : (s.length : Int) ≤ 1048576) :
    Calls Try.prog 10 #[.string ⟨s.toArray⟩] w (R2 w (.string ⟨(frmL s).toArray⟩) .nilIface) := by
  have HT : Hid (∀ w, Calls Try.prog 19 #[.string ⟨s.toArray⟩] w (R2 w (.string ⟨(txtL s).toArray⟩) .nilIface)) := fun w => pText_ok s w hs
  have HS := Lib.hid (fun w => pSum s w (by omega))
  have HF := Lib.hid (fun w => pFour (crcSum s) w (by have := crcSum_lt s; omega))
  have HL : Hid ((txtL s).length ≤ 1048584) := by show (txtL s).length ≤ 1048584; have := txtL_le s; omega
  have HE : Hid (frmL s = txtL s ++ big 4 (crcSum s)) := rfl
  have HB : Hid ((big 4 (crcSum s)).length = 4) := by show (big 4 (crcSum s)).length = 4; rw [big_length]
  generalize txtL s = T at *
  generalize big 4 (crcSum s) = F at *
  generalize crcSum s = c at *
  go_enter Try.func10, Try.ntmps10
  go_wp2_with fail
  refine (HT.out _).mono ?_
  rintro e w1 ⟨rfl, b1⟩
  go_wp2_with fail
  refine (HS.out _).mono ?_
  rintro e w2 ⟨rfl, c2⟩
  have b2 := belowT b1 c2
  clear c2
  go_wp2_with fail
  refine (HF.out _).mono ?_
  rintro e w3 ⟨rfl, b3⟩
  have hl := HL.out
  have hb := HB.out
  go_wp2
  go_ret2
  exact R2.mk (by rw [HE.out]; rfl) rfl (belowT b2 b3)

set_option maxHeartbeats 400000 in
theorem pTakeAt_no (g : Nat) (b : List UInt8) (w : World) (hb : b.length ≤ maxLen) (c : Nat) (hc : (rdTxt b).2.2 = c + 1) :
    Calls Try.prog 25 #[.pointer (some ⟨g, 0, none⟩), .string ⟨b.toArray⟩] w (R3 w (.string ⟨#[]⟩) (.string ⟨#[]⟩) (.iface 49 (.int .i64 ((c : Int) + 1)))) := by
  have hR := fun w => pReadText b w hb
  rw [hc, errV_succ] at hR
  generalize (rdTxt b).1 = n at *
  generalize (rdTxt b).2.1 = r at *
  clear hc
  have HR := Lib.hid hR
  clear hR
  go_enter Try.func25, Try.ntmps25
  go_wp2_with fail
  refine (HR.out _).mono ?_
  rintro e w1 ⟨rfl, b1⟩
  go_wp2
  go_ret3
  exact R3.mk rfl rfl rfl b1

set_option maxHeartbeats 400000 in
theorem pTakeAt_short (g : Nat) (b : List UInt8) (w : World) (hb : b.length ≤ maxLen) (hc : (rdTxt b).2.2 = 0) (h2 : ((rdTxt b).2.1.length : Int) < 4) :
    Calls Try.prog 25 #[.pointer (some ⟨g, 0, none⟩), .string ⟨b.toArray⟩] w (R3 w (.string ⟨#[]⟩) (.string ⟨#[]⟩) (.iface 49 (.int .i64 2))) := by
  have hR := fun w => pReadText b w hb
  rw [hc, errV_zero] at hR
  generalize (rdTxt b).1 = n at *
  generalize (rdTxt b).2.1 = r at *
  clear hc
  have HR := Lib.hid hR
  clear hR
  go_enter Try.func25, Try.ntmps25
  go_wp2_with fail
  refine (HR.out _).mono ?_
  rintro e w1 ⟨rfl, b1⟩
  go_wp2
  go_ret3
  exact R3.mk rfl rfl rfl b1

set_option maxHeartbeats 400000 in
theorem pTakeAt_long (g : Nat) (b : List UInt8) (w : World) (hb : b.length ≤ maxLen) (hc : (rdTxt b).2.2 = 0) (h2 : 4 ≤ ((rdTxt b).2.1.length : Int)) (hT : TabAt w g) :
    Calls Try.prog 25 #[.pointer (some ⟨g, 0, none⟩), .string ⟨b.toArray⟩] w (R3 w (.string ⟨(rdFrm b).1.toArray⟩) (.string ⟨(rdFrm b).2.1.toArray⟩) (errV 49 (rdFrm b).2.2)) := by
  have hR := fun w => pReadText b w hb
  have HE : Hid (rdFrm b = if (rdTxt b).2.1.take 4 ≠ big 4 (crcSum (rdTxt b).1) then ([], [], 4) else ((rdTxt b).1, (rdTxt b).2.1.drop 4, 0)) := by
    show rdFrm b = _
    unfold rdFrm
    rw [if_neg (by omega), if_neg (by omega)]
  have hbk := rdTxt_back b hc
  have HT := Lib.hid hT
  clear hT
  have HS := Lib.hid (fun w h => pSumAtB g (rdTxt b).1 w (by have := hbk.2; unfold MaxT at this; omega) h)
  have HF := Lib.hid (fun w => pFour (crcSum (rdTxt b).1) w (by have := crcSum_lt (rdTxt b).1; omega))
  clear hbk
  rw [hc, errV_zero] at hR
  generalize rdFrm b = R at *
  generalize (rdTxt b).1 = n at *
  generalize (rdTxt b).2.1 = r at *
  clear hc
  have HR := Lib.hid hR
  clear hR
  generalize big 4 (crcSum n) = F at *
  generalize crcSum n = c at *
  by_cases hne : r.take 4 = F
  · have hbe : (r.take 4 == F) = true := by simpa using hne
    have hE := HE.out
    rw [if_neg (by simpa using hne)] at hE
    subst hE
    clear HE hne
    rw [errV_zero]
    go_enter Try.func25, Try.ntmps25
    go_wp2_with fail
    refine (HR.out _).mono ?_
    rintro e w1 ⟨rfl, B⟩
    have HA : Hid (TabAt w1 g) := HT.out.below B
    go_wp2_with fail
    go_region_with (first | (go_at_call 24; refine (HS.out _ ?_).mono ?_; exact HA.out; rintro e wn ⟨rfl, cn⟩; have B : Below w.heap.size w wn := (by first | exact belowT B cn | exact belowD B cn); clear cn) | (go_at_call 20; refine (HF.out _).mono ?_; rintro e wn ⟨rfl, cn⟩; have B : Below w.heap.size w wn := (by first | exact belowT B cn | exact belowD B cn); clear cn))
    all_goals
      go_wp2
      go_quiet (fail)
      go_wp2
      go_ret3
      exact R3.mk rfl (str_drop0 r 4) rfl (B.trans ⟨rfl, rfl, rfl, Nat.le_refl _, fun _ _ => rfl⟩)
  · have hbe : (r.take 4 == F) = false := by simpa using hne
    have hE := HE.out
    rw [if_pos (by simpa using hne)] at hE
    subst hE
    clear HE hne
    show Calls Try.prog 25 #[.pointer (some ⟨g, 0, none⟩), .string ⟨b.toArray⟩] w (R3 w (.string ⟨#[]⟩) (.string ⟨#[]⟩) (.iface 49 (.int .i64 4)))
    go_enter Try.func25, Try.ntmps25
    go_wp2_with fail
    refine (HR.out _).mono ?_
    rintro e w1 ⟨rfl, B⟩
    have HA : Hid (TabAt w1 g) := HT.out.below B
    go_wp2_with fail
    go_region_with (first | (go_at_call 24; refine (HS.out _ ?_).mono ?_; exact HA.out; rintro e wn ⟨rfl, cn⟩; have B : Below w.heap.size w wn := (by first | exact belowT B cn | exact belowD B cn); clear cn) | (go_at_call 20; refine (HF.out _).mono ?_; rintro e wn ⟨rfl, cn⟩; have B : Below w.heap.size w wn := (by first | exact belowT B cn | exact belowD B cn); clear cn))
    all_goals
      go_wp2
      go_ret3
      exact R3.mk rfl rfl rfl B

/-- The program takes a frame, by a table that is there, as the chapter says. -/
theorem pTakeAt (g : Nat) (b : List UInt8) (w : World) (hb : b.length ≤ maxLen) (hT : TabAt w g) :
    Calls Try.prog 25 #[.pointer (some ⟨g, 0, none⟩), .string ⟨b.toArray⟩] w (R3 w (.string ⟨(rdFrm b).1.toArray⟩) (.string ⟨(rdFrm b).2.1.toArray⟩) (errV 49 (rdFrm b).2.2)) := by
  by_cases hc : (rdTxt b).2.2 = 0
  · by_cases h2 : (rdTxt b).2.1.length < 4
    · unfold rdFrm
      rw [if_neg (by omega), if_pos h2]
      exact pTakeAt_short g b w hb hc (by omega)
    · exact pTakeAt_long g b w hb hc (by omega) hT
  · unfold rdFrm
    rw [if_pos hc]
    obtain ⟨c, hc'⟩ : ∃ c, (rdTxt b).2.2 = c + 1 := ⟨_, (Nat.succ_pred_eq_of_ne_zero hc).symm⟩
    rw [hc', errV_succ]
    exact pTakeAt_no g b w hb c hc'

set_option maxHeartbeats 400000 in
/-- The program takes a frame as the chapter says. -/
theorem pTake (b : List UInt8) (w : World) (hb : b.length ≤ maxLen) :
    Calls Try.prog 15 #[.string ⟨b.toArray⟩] w (R3 w (.string ⟨(rdFrm b).1.toArray⟩) (.string ⟨(rdFrm b).2.1.toArray⟩) (errV 49 (rdFrm b).2.2)) := by
  have HT := Lib.hid (fun w => pTable w)
  have HS := Lib.hid (fun g w h => pTakeAt g b w hb h)
  generalize (rdFrm b).1 = s at *
  generalize (rdFrm b).2.1 = r at *
  generalize errV 49 (rdFrm b).2.2 = v at *
  go_enter Try.func15, Try.ntmps15
  go_wp2_with fail
  refine (HT.out _).mono ?_
  rintro e w1 ⟨g, hg, rfl, ht, b1⟩
  have HA := Lib.hid ht
  clear ht hg
  go_wp2_with fail
  refine (HS.out g _ ?_).mono ?_
  · exact HA.out
  rintro e w2 ⟨rfl, b2⟩
  go_wp2
  go_ret3
  exact R3.mk rfl rfl rfl (belowT b1 b2)

end Go.Proofs.Ytaiklhcgimpajaa
