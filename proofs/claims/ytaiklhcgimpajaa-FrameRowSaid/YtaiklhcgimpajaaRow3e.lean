/- The law FrameRow, walked where the list is empty. -/
import Derived.Test.YtaiklhcgimpajaaEx3
import Derived.Deep.QuietTactic
import Derived.BigQuiet
namespace Go.Proofs.Ytaiklhcgimpajaa
open Go.RowKit Go.Proofs Go.Proofs.Pk
set_option maxRecDepth 10000
attribute [local simp] mk_get wrap64_u8 mk_extract ByteArray.mk_append_mk get_1k

set_option maxRecDepth 10000 in
set_option maxHeartbeats 4000000 in
theorem row_empty (ad : Option Addr) (cap : Nat) (last : List UInt8) (cut : Int) (w : World) (hll : (last.length : Int) ≤ 140737488351232) (hcut : -9223372036854775808 ≤ cut ∧ cut ≤ 9223372036854775807) :
    Calls Try.prog 7 #[.slice ad 0 cap, .string ⟨last.toArray⟩, .int .i64 cut] w fun e w' => e = .returned (.bool true) ∧ Below w.heap.size w w' := by
  go_enter Try.func7, Try.ntmps7
  go_wp2_with fail
  refine (examples_any _).mono ?_
  rintro e w1 ⟨rfl, b1⟩
  go_wp2_with fail
  have HA : Hid (∀ w, Calls Try.prog 18 #[.string ⟨#[]⟩] w (RR3 w [] (.int .i64 0) .nilIface)) := fun w => fAll_is [] [] [] 0 0 rdEvery_nil (by simp) rfl w
  have HB1 := Lib.hid b1
  clear b1
  rw [show (min (0 : Int) 20).toNat = 0 from rfl]
  refine wp_loop_rounds 1 ?_
  rw [rounds_succ]
  go_wp2_with fail
  refine (HA.out _).mono ?_
  intro e w3 h3
  obtain ⟨ae, cape, rfl, hs3, c3⟩ := h3.strs
  have HB3 : Hid (Below w.heap.size w w3) := belowT HB1.out c3
  clear h3 c3 hs3 HB1
  go_wp2_with fail
  refine wp_loop_rounds 1 ?_
  rw [rounds_succ]
  by_cases hlast : last.length ≤ MaxT
  · have hP := fPut_ok last hlast
    have hF5 : 5 ≤ ((frmL last).length : Int) := by have := frmL_pos last; omega
    have hFm : ((frmL last).length : Int) ≤ 1048588 := by have := frmL_le last; unfold MaxT at hlast; omega
    have hCut : ∀ q : Nat, 0 < q → q < (frmL last).length → ∀ w, Calls Try.prog 18 #[.string ⟨((frmL last).take q).toArray⟩] w (RR3 w [] (.int .i64 0) (.iface 49 (.int .i64 2))) := by
      intro q h0 hq w
      have := fAll_is _ _ _ _ 0 (rdEvery_cut last q hlast h0 hq) (by rw [List.length_take]; omega) (by simp) w
      exact this
    generalize frmL last = F at hP hF5 hFm hCut
    have HP := Lib.hid hP
    have HC := Lib.hid hCut
    clear hP hCut hlast
    have hF0 : ((F.length : Int) == 0) = false := by rw [beq_eq_false_iff_ne]; omega
    have hm0 : (0 : Int) < F.length := by omega
    obtain ⟨P, hP, hPl⟩ : ∃ P : Nat, (P : Int) = (if cut < 0 then -(cut + 1).tmod F.length else cut % F.length) ∧ (P : Int) < F.length := by
      by_cases hneg : cut < 0
      · have e : -(cut + 1).tmod F.length = (-(cut + 1)) % F.length := by
          rw [← Int.neg_tmod, Int.tmod_eq_emod_of_nonneg (by omega)]
        have h0 := Int.emod_nonneg (-(cut + 1)) (show (F.length : Int) ≠ 0 by omega)
        have h1 := Int.emod_lt_of_pos (-(cut + 1)) hm0
        exact ⟨((-(cut + 1)) % F.length).toNat, by rw [if_pos hneg, e]; omega, by omega⟩
      · have h0 := Int.emod_nonneg cut (show (F.length : Int) ≠ 0 by omega)
        have h1 := Int.emod_lt_of_pos cut hm0
        exact ⟨(cut % F.length).toNat, by rw [if_neg hneg]; omega, by omega⟩
    by_cases hneg : cut < 0
    all_goals
      first | rw [if_pos hneg] at hP | rw [if_neg hneg] at hP
      have hP' := hP.symm
      clear hP
      by_cases hfull : (P : Int) + 1 = F.length
      · go_wp2_with fail
        refine (HP.out _).mono ?_
        rintro e w5 ⟨rfl, c5⟩
        have HB5 : Hid (Below w.heap.size w w5) := belowT HB3.out c5
        clear c5
        go_wp2
        go_ret
        exact ⟨rfl, HB5.out⟩
      · obtain ⟨q, hq⟩ : ∃ q : Nat, 1 + (P : Int) = q := ⟨1 + P, by omega⟩
        have hq1 : 0 < (q : Int) := by omega
        have hqF : (q : Int) < F.length := by omega
        have HCq := Lib.hid (HC.out q (by omega) (by omega))
        have hqne : ((q : Int) == F.length) = false := by rw [beq_eq_false_iff_ne]; omega
        
        clear hfull hPl
        go_wp2_with fail
        refine (HP.out _).mono ?_
        rintro e w5 ⟨rfl, c5⟩
        have HB5 : Hid (Below w.heap.size w w5) := belowT HB3.out c5
        clear c5
        go_wp2_with fail
        refine (HCq.out _).mono ?_
        intro e w6 h6
        obtain ⟨af, capf, rfl, hs6, c6⟩ := h6.strs
        
        have HB6 : Hid (Below w.heap.size w w6) := belowT HB5.out c6
        clear h6 c6 hs6
        go_wp2_with fail
        refine (is22 _).mono ?_
        rintro e w7 ⟨rfl, rfl⟩
        go_wp2
        go_ret
        exact ⟨rfl, HB6.out⟩
  · have HP := Lib.hid (fPut_no last hlast)
    have hbig : 1048576 < (last.length : Int) := by unfold MaxT at hlast; omega
    clear hlast
    go_wp2_with fail
    refine (HP.out _).mono ?_
    rintro e w5 ⟨rfl, c5⟩
    have HB5 : Hid (Below w.heap.size w w5) := belowT HB3.out c5
    clear c5
    go_wp2
    go_ret
    exact ⟨rfl, HB5.out⟩

end Go.Proofs.Ytaiklhcgimpajaa
