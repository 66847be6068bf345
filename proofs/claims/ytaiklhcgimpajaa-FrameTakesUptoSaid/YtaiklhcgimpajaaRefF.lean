/- The reference's Put and Take of layer 3: what they return. -/
import Derived.Test.YtaiklhcgimpajaaFour
import Derived.Test.YtaiklhcgimpajaaRefT
import Derived.Test.YtaiklhcgimpajaaFrm
import Derived.Deep.RegionWith
namespace Go.Proofs.Ytaiklhcgimpajaa
open Go.RowKit Go.Proofs Go.Proofs.Pk
set_option maxRecDepth 10000
attribute [local simp] mk_get wrap64_u8 mk_extract ByteArray.mk_append_mk get_1k

set_option maxHeartbeats 400000 in
theorem rPut_long (s : List UInt8) (w : World) (hs : 1048576 < (s.length : Int)) :
    Calls Try.prog 11 #[.string ⟨s.toArray⟩] w (R2 w (.string ⟨#[]⟩) (.bool false)) := by
  go_enter Try.func11, Try.ntmps11
  go_wp2_with fail
  refine (rText_long s _ hs).mono ?_
  rintro e w1 ⟨rfl, b1⟩
  go_wp2
  go_ret2
  exact R2.mk rfl rfl b1

set_option maxHeartbeats 400000 in
theorem rPut_ok (s : List UInt8) (w : World) (hs : (s.length : Int) ≤ 1048576) :
    Calls Try.prog 11 #[.string ⟨s.toArray⟩] w (R2 w (.string ⟨(frmL s).toArray⟩) (.bool true)) := by
  have HT := Lib.hid (fun w => rText_ok s w hs)
  have HS := Lib.hid (fun w => rSum s w (by omega))
  have HF := Lib.hid (fun w => rFour (crcSum s) w (by have := crcSum_lt s; omega))
  have HL : Hid ((txtL s).length ≤ 1048584) := by show (txtL s).length ≤ 1048584; have := txtL_le s; omega
  have HE : Hid (frmL s = txtL s ++ big 4 (crcSum s)) := rfl
  have HB : Hid ((big 4 (crcSum s)).length = 4) := by show (big 4 (crcSum s)).length = 4; rw [big_length]
  generalize txtL s = T at *
  generalize big 4 (crcSum s) = F at *
  generalize crcSum s = c at *
  go_enter Try.func11, Try.ntmps11
  go_wp2_with fail
  refine (HT.out _).mono ?_
  rintro e w1 ⟨rfl, b1⟩
  go_wp2_with fail
  refine (HS.out _).mono ?_
  rintro e w2 ⟨rfl, rfl⟩
  go_wp2_with fail
  refine (HF.out _).mono ?_
  rintro e w3 ⟨rfl, b3⟩
  have hl := HL.out
  have hb := HB.out
  go_wp2
  go_ret2
  exact R2.mk (by rw [HE.out]; rfl) rfl (belowT b1 b3)

/-- The reference frames a text as the chapter says. -/
theorem rPut (s : List UInt8) (w : World) : Calls Try.prog 11 #[.string ⟨s.toArray⟩] w (R2 w (.string ⟨(encF s).1.toArray⟩) (.bool (decide (s.length ≤ MaxT)))) := by
  unfold encF
  by_cases h : s.length ≤ MaxT
  · rw [if_pos h, decide_eq_true h]; exact rPut_ok s w (by unfold MaxT at h; omega)
  · rw [if_neg h, decide_eq_false h]; exact rPut_long s w (by unfold MaxT at h; omega)

set_option maxHeartbeats 400000 in
theorem rTake_no (b : List UInt8) (w : World) (hb : b.length ≤ maxLen) (c : Nat) (hc : (rdTxt b).2.2 = c + 1) :
    Calls Try.prog 16 #[.string ⟨b.toArray⟩] w (R3 w (.string ⟨#[]⟩) (.string ⟨#[]⟩) (.int .i64 ((c : Int) + 1))) := by
  have hR := fun w => rReadText b w hb
  rw [hc] at hR
  generalize (rdTxt b).1 = n at *
  generalize (rdTxt b).2.1 = r at *
  clear hc
  rw [show (((c + 1 : Nat) : Int)) = (c : Int) + 1 from by omega] at hR
  have HR := Lib.hid hR
  clear hR
  have hne : (((c : Int) + 1) != 0) = true := by rw [bne_iff_ne]; omega
  go_enter Try.func16, Try.ntmps16
  go_wp2_with fail
  refine (HR.out _).mono ?_
  rintro e w1 ⟨rfl, b1⟩
  go_wp2
  go_ret3
  exact R3.mk rfl rfl rfl b1

set_option maxHeartbeats 400000 in
theorem rTake_short (b : List UInt8) (w : World) (hb : b.length ≤ maxLen) (hc : (rdTxt b).2.2 = 0) (h2 : ((rdTxt b).2.1.length : Int) < 4) :
    Calls Try.prog 16 #[.string ⟨b.toArray⟩] w (R3 w (.string ⟨#[]⟩) (.string ⟨#[]⟩) (.int .i64 2)) := by
  have hR := fun w => rReadText b w hb
  rw [hc] at hR
  generalize (rdTxt b).1 = n at *
  generalize (rdTxt b).2.1 = r at *
  clear hc
  have HR := Lib.hid hR
  clear hR
  go_enter Try.func16, Try.ntmps16
  go_wp2_with fail
  refine (HR.out _).mono ?_
  rintro e w1 ⟨rfl, b1⟩
  go_wp2
  go_ret3
  exact R3.mk rfl rfl rfl b1

set_option maxHeartbeats 400000 in
theorem rTake_long (b : List UInt8) (w : World) (hb : b.length ≤ maxLen) (hc : (rdTxt b).2.2 = 0) (h2 : 4 ≤ ((rdTxt b).2.1.length : Int)) :
    Calls Try.prog 16 #[.string ⟨b.toArray⟩] w (R3 w (.string ⟨(rdFrm b).1.toArray⟩) (.string ⟨(rdFrm b).2.1.toArray⟩) (.int .i64 (rdFrm b).2.2)) := by
  have hR := fun w => rReadText b w hb
  have HE : Hid (rdFrm b = if (rdTxt b).2.1.take 4 ≠ big 4 (crcSum (rdTxt b).1) then ([], [], 4) else ((rdTxt b).1, (rdTxt b).2.1.drop 4, 0)) := by
    show rdFrm b = _
    unfold rdFrm
    rw [if_neg (by omega), if_neg (by omega)]
  have hbk := rdTxt_back b hc
  have HS := Lib.hid (fun w => rSum (rdTxt b).1 w (by have := hbk.2; unfold MaxT at this; omega))
  have HF := Lib.hid (fun w => rFour (crcSum (rdTxt b).1) w (by have := crcSum_lt (rdTxt b).1; omega))
  clear hbk
  rw [hc] at hR
  generalize rdFrm b = R at *
  generalize (rdTxt b).1 = n at *
  generalize (rdTxt b).2.1 = r at *
  clear hc
  have HR := Lib.hid hR
  clear hR
  generalize big 4 (crcSum n) = F at *
  generalize crcSum n = c at *
  have HQ : Hid (decide (r.take 4 = F) = (r.take 4 == F)) := by
    show decide (r.take 4 = F) = (r.take 4 == F)
    rw [Bool.eq_iff_iff]; simp
  by_cases hne : r.take 4 = F
  · have hbe : (r.take 4 == F) = true := by simpa using hne
    have hE := HE.out
    rw [if_neg (by simpa using hne)] at hE
    subst hE
    clear HE hne
    go_enter Try.func16, Try.ntmps16
    go_wp2_with fail
    refine (HR.out _).mono ?_
    rintro e w1 ⟨rfl, b1⟩
    go_wp2_with fail
    go_region_with (first | (go_at_call 13; refine (HS.out _).mono ?_; rintro e w2 ⟨rfl, rfl⟩) | (go_at_call 22; refine (HF.out _).mono ?_; rintro e w3 ⟨rfl, b3⟩))
    all_goals
      go_wp2
      go_quiet (fail)
      go_wp2
      go_ret3
      exact R3.mk rfl (str_drop0 r 4) rfl (belowN (b1.trans ((belowN (Below.refl _ _) 1).trans (b3.mono b1.size))) _)
  · have hbe : (r.take 4 == F) = false := by simpa using hne
    have hE := HE.out
    rw [if_pos (by simpa using hne)] at hE
    subst hE
    clear HE hne
    go_enter Try.func16, Try.ntmps16
    go_wp2_with fail
    refine (HR.out _).mono ?_
    rintro e w1 ⟨rfl, b1⟩
    go_wp2_with fail
    go_region_with (first | (go_at_call 13; refine (HS.out _).mono ?_; rintro e w2 ⟨rfl, rfl⟩) | (go_at_call 22; refine (HF.out _).mono ?_; rintro e w3 ⟨rfl, b3⟩))
    all_goals
      go_wp2
      go_ret3
      exact R3.mk rfl rfl rfl (b1.trans ((belowN (Below.refl _ _) 1).trans (b3.mono b1.size)))

/-- The reference takes a frame as the chapter says. -/
theorem rTake (b : List UInt8) (w : World) (hb : b.length ≤ maxLen) :
    Calls Try.prog 16 #[.string ⟨b.toArray⟩] w (R3 w (.string ⟨(rdFrm b).1.toArray⟩) (.string ⟨(rdFrm b).2.1.toArray⟩) (.int .i64 (rdFrm b).2.2)) := by
  by_cases hc : (rdTxt b).2.2 = 0
  · by_cases h2 : (rdTxt b).2.1.length < 4
    · unfold rdFrm
      rw [if_neg (by omega), if_pos h2]
      exact rTake_short b w hb hc (by omega)
    · exact rTake_long b w hb hc (by omega)
  · unfold rdFrm
    rw [if_pos hc]
    obtain ⟨c, hc'⟩ : ∃ c, (rdTxt b).2.2 = c + 1 := ⟨_, (Nat.succ_pred_eq_of_ne_zero hc).symm⟩
    rw [hc']
    exact rTake_no b w hb c hc'

end Go.Proofs.Ytaiklhcgimpajaa
