/- The law FrameBits, walked. -/
import Derived.Test.YtaiklhcgimpajaaEx3
import Derived.Test.YtaiklhcgimpajaaBytes
import Derived.StillTailTactics
namespace Go.Proofs.Ytaiklhcgimpajaa
open Go.RowKit Go.Proofs Go.Proofs.Pk
set_option maxRecDepth 10000
attribute [local simp] mk_get wrap64_u8 mk_extract ByteArray.mk_append_mk get_1k

set_option maxHeartbeats 1000000 in
theorem bits_size (s : List UInt8) (at_ turn : Int) (w : World) (h : (s.length : Int) < 1 ∨ 2000 < (s.length : Int)) :
    Calls Try.prog 6 #[.string ⟨s.toArray⟩, .int .i64 at_, .int .i64 turn] w fun e w' => e = .returned (.bool true) ∧ Below w.heap.size w w' := by
  rcases h with h | h
  · have h1 : decide ((s.length : Int) < 1) = true := by simpa using h
    go_enter Try.func6, Try.ntmps6
    go_wp2_with fail
    refine (examples_any _).mono ?_
    rintro e w1 ⟨rfl, b1⟩
    go_wp2
    go_ret
    exact ⟨rfl, b1⟩
  · have h1 : decide ((s.length : Int) < 1) = false := by rw [decide_eq_false_iff_not]; omega
    go_enter Try.func6, Try.ntmps6
    go_wp2_with fail
    refine (examples_any _).mono ?_
    rintro e w1 ⟨rfl, b1⟩
    go_wp2
    go_ret
    exact ⟨rfl, b1⟩

set_option maxRecDepth 10000 in
set_option maxHeartbeats 4000000 in
theorem bits_main (s : List UInt8) (at_ turn : Int) (w : World) (h1 : 1 ≤ (s.length : Int)) (h2 : (s.length : Int) ≤ 2000) (ha : -9223372036854775808 ≤ at_ ∧ at_ ≤ 9223372036854775807)
    (F H C : List UInt8) (hF : F = H ++ s ++ C) (hH : (H.length : Int) ≤ 8) (hC : C.length = 4) (hFl : (F.length : Int) = H.length + s.length + 4)
    (hP : ∀ w, Calls Try.prog 10 #[.string ⟨s.toArray⟩] w (R2 w (.string ⟨F.toArray⟩) .nilIface))
    (hT : ∀ P t j, Flips s t P j → 0 < j → j ≤ 32 → ∀ w, Calls Try.prog 15 #[.string ⟨(H ++ t ++ C).toArray⟩] w (R3 w (.string ⟨#[]⟩) (.string ⟨#[]⟩) (.iface 49 (.int .i64 4)))) :
    Calls Try.prog 6 #[.string ⟨s.toArray⟩, .int .i64 at_, .int .i64 turn] w fun e w' => e = .returned (.bool true) ∧ Below w.heap.size w w' := by
  have HP := Lib.hid hP; clear hP
  have HT := Lib.hid hT; clear hT
  have HF := Lib.hid hF; clear hF
  have HC := Lib.hid hC; clear hC
  have hFb : (F.length : Int) ≤ 2012 := by omega
  have hFa : (s.length : Int) + 4 ≤ F.length := by omega
  have HL := Lib.hid hFl
  clear hFl
  go_enter Try.func6, Try.ntmps6
  go_wp2_with fail
  refine (examples_any _).mono ?_
  rintro e w1 ⟨rfl, b1⟩
  go_wp2_with fail
  refine (HP.out _).mono ?_
  rintro e w2 ⟨rfl, c2⟩
  have b2 := belowT b1 c2
  clear b1 c2
  obtain ⟨wB, g, cap, hconv, hrow, hg, hbel⟩ := bytes_new w2 F
  have HB := Lib.hid (belowT b2 hbel)
  have HG : Hid (w.heap.size ≤ g) := by show w.heap.size ≤ g; have := b2.size; omega
  have HBits : ∀ P, Hid (BitsAt s H C P g wB 0) := fun P => BitsAt.start (HF.out ▸ hrow)
  clear b2 hrow hbel hg
  have hm0 : (0 : Int) < 8 * s.length := by omega
  obtain ⟨P, hP, hPl⟩ : ∃ P : Nat, (P : Int) = (if at_ < 0 then -(at_ + 1).tmod (8 * s.length) else at_ % (8 * s.length)) ∧ (P : Int) < 8 * s.length := by
    by_cases hneg : at_ < 0
    · have e : -(at_ + 1).tmod (8 * s.length) = (-(at_ + 1)) % (8 * s.length) := by
        rw [← Int.neg_tmod, Int.tmod_eq_emod_of_nonneg (by omega)]
      have h0 := Int.emod_nonneg (-(at_ + 1)) (show (8 * (s.length : Int)) ≠ 0 by omega)
      have h1 := Int.emod_lt_of_pos (-(at_ + 1)) hm0
      exact ⟨((-(at_ + 1)) % (8 * s.length)).toNat, by rw [if_pos hneg, e]; omega, by omega⟩
    · have h0 := Int.emod_nonneg at_ (show (8 * (s.length : Int)) ≠ 0 by omega)
      have h1 := Int.emod_lt_of_pos at_ hm0
      exact ⟨(at_ % (8 * s.length)).toNat, by rw [if_neg hneg]; omega, by omega⟩
  have hfrom : (F.length : Int) - 4 - s.length = (H.length : Int) := by have := HL.out; omega
  have HFr := Lib.hid hfrom
  have HPl := Lib.hid hPl
  have HFb := Lib.hid hFb
  clear hfrom hPl hm0
  obtain ⟨Q, hQ⟩ : ∃ Q, Q = H.length := ⟨_, rfl⟩
  rw [← hQ] at HFr hH HL
  have HQ := Lib.hid hQ
  clear hQ
  by_cases hneg : at_ < 0
  all_goals
    first | rw [if_pos hneg] at hP | rw [if_neg hneg] at hP
    have HP2 := Lib.hid hP
    clear hP
    go_wp2_with fail
    rw [← HP2.out, HFr.out]
    have HB2 := HB.out
    have HBt := HBits P
    clear hconv hneg HBits HB ha HP2 HFr HP
    obtain ⟨wA, hwA⟩ : ∃ wA, wA = wB := ⟨_, rfl⟩
    subst hwA
    go_loopw [12] (fun i wr => ∃ j : Nat, j ≤ 32 ∧ i = .int .i64 j ∧ (P : Int) + j ≤ 8 * s.length ∧ Hid (BitsAt s H C P g wr j) ∧ Hid (Below w.heap.size w wr))
      (fun i _ => 32 - (intOf i).toNat)
    case atStart => exact ⟨0, by omega, rfl, by have := HPl.out; omega, HBt, HB2⟩
    case round =>
      obtain ⟨j, hj, rfl, hjl, hbt, hbl⟩ := hrel
      by_cases h32 : (j : Int) < 32
      · by_cases hjp : (P : Int) + j < 8 * s.length
        · obtain ⟨m, hm⟩ : ∃ m : Nat, m = P + j := ⟨_, rfl⟩
          have hmI : (P : Int) + j = m := by omega
          obtain ⟨D, hD⟩ : ∃ D : Nat, D = m / 8 := ⟨_, rfl⟩
          obtain ⟨R, hR⟩ : ∃ R : Nat, R = m % 8 := ⟨_, rfl⟩
          obtain ⟨K, hK⟩ : ∃ K : Nat, K = Q + D := ⟨_, rfl⟩
          have hDs : D < s.length := by omega
          have hR8 : R < 8 := by omega
          obtain ⟨c, hcell, hfroz, hlt, hturn⟩ := hbt.out.turn (by rw [← hm, ← hD]; exact hDs)
          rw [← hm, ← hD, ← HQ.out, ← hK] at hcell hfroz hturn
          rw [← hR] at hturn
          obtain ⟨d, hd, hxor⟩ := xor_u8 c R hR8
          have hnext : Hid (BitsAt s H C P g (wr.setCell ⟨g, K, none⟩ (.int .u8 d.toNat)).drew (j + 1)) := hturn d hd
          have hbel2 : Hid (Below w.heap.size w (wr.setCell ⟨g, K, none⟩ (.int .u8 d.toNat)).drew) := (hbl.out.setCell (p := ⟨g, K, none⟩) HG.out _).drew
          have HX := Lib.hid hxor
          have hd1 : ((m : Int)).tdiv 8 = (D : Int) := by rw [Int.tdiv_eq_ediv_of_nonneg (by omega)]; omega
          have hd2 : (m : Int) / 8 = (D : Int) := by omega
          have hr1 : ((m : Int)).tmod 8 = (R : Int) := by rw [Int.tmod_eq_emod_of_nonneg (by omega)]; omega
          have hr2 : (m : Int) % 8 = (R : Int) := by omega
          have hk2 : (Q : Int) + D = K := by omega
          have hkw : IntKind.i64.wrap (K : Int) = K := IntWalk.i64_in _ (by have := HL.out; omega)
          have hDw : IntKind.i64.wrap (D : Int) = D := IntWalk.i64_in _ (by have := HL.out; omega)
          have hk0 : (0 : Int) ≤ K := by omega
          have hkl : (K : Int) < F.length := by have := HL.out; omega
          have hkn : ((K : Int)).toNat = K := by omega
          have hrn : ((R : Int)).toNat = R := by omega
          have HD := Lib.hid hDs
          have HH := Lib.hid hH
          have HR8 := Lib.hid hR8
          clear hDs hR hD hm hK hH hR8 hturn hjl hd hxor
          by_cases hj0 : j = 0
          · have hj0' : ((j : Int) == 0) = true := by rw [beq_iff_eq]; omega
            clear hj0
            go_wp2_with fail
            go_still_tail 17, (by kernel_rfl)
            change wpList _ _ _ _ _ wr.drew
            go_wp2
            go_roundw
            case rel => exact ⟨j + 1, by omega, by go_num, by omega, by rw [HX.out]; exact hnext, by rw [HX.out]; exact hbel2⟩
            case measure => simp [intOf]; omega
          · have hj0' : ((j : Int) == 0) = false := by rw [beq_eq_false_iff_ne]; omega
            have hsk : Hid (BitsAt s H C P g wr (j + 1)) := hbt.out.skip (by omega)
            clear hj0
            by_cases hbit : ((turn / 2 ^ j).tmod 2 != 0) = true
            · go_wp2_with fail
              go_still_tail 17, (by kernel_rfl)
              change wpList _ _ _ _ _ wr.drew
              go_wp2
              go_roundw
              case rel => exact ⟨j + 1, by omega, by go_num, by omega, by rw [HX.out]; exact hnext, by rw [HX.out]; exact hbel2⟩
              case measure => simp [intOf]; omega
            · have hbit' : ((turn / 2 ^ j).tmod 2 != 0) = false := by simpa using hbit
              clear hbit
              go_wp2
              go_roundw
              case rel => exact ⟨j + 1, by omega, by go_num, by omega, hsk, hbl⟩
              case measure => simp [intOf]; omega
        · obtain ⟨t, hf, hr⟩ := hbt.out
          have hTk := HT.out P t j hf (by have := HPl.out; omega) hj
          have hlen : F.length = (H ++ t ++ C).length := by have := hf.size; rw [HF.out]; simp; omega
          have hconv := hr.back (cap := cap) F.length hlen
          generalize H ++ t ++ C = T at hTk hconv
          have HTk := Lib.hid hTk
          clear hTk hf hr hlen hbt
          go_wp2_with fail
          refine (HTk.out _).mono ?_
          rintro e w3 ⟨rfl, c3⟩
          go_wp2_with fail
          refine (is44 _).mono ?_
          rintro e w4 ⟨rfl, rfl⟩
          go_wp2
          go_ret
          exact ⟨rfl, belowT hbl.out c3⟩
      · obtain ⟨t, hf, hr⟩ := hbt.out
        have hTk := HT.out P t j hf (by have := HPl.out; omega) hj
        have hlen : F.length = (H ++ t ++ C).length := by have := hf.size; rw [HF.out]; simp; omega
        have hconv := hr.back (cap := cap) F.length hlen
        generalize H ++ t ++ C = T at hTk hconv
        have HTk := Lib.hid hTk
        clear hTk hf hr hlen hbt
        go_wp2_with fail
        refine (HTk.out _).mono ?_
        rintro e w3 ⟨rfl, c3⟩
        go_wp2_with fail
        refine (is44 _).mono ?_
        rintro e w4 ⟨rfl, rfl⟩
        go_wp2
        go_ret
        exact ⟨rfl, belowT hbl.out c3⟩

theorem bits (s : List UInt8) (at_ turn : Int) (w : World) (_hs : (s.length : Int) ≤ 140737488351232) (ha : -9223372036854775808 ≤ at_ ∧ at_ ≤ 9223372036854775807) (_ht : -9223372036854775808 ≤ turn ∧ turn ≤ 9223372036854775807) :
    Calls Try.prog 6 #[.string ⟨s.toArray⟩, .int .i64 at_, .int .i64 turn] w fun e w' => e = .returned (.bool true) ∧ Below w.heap.size w w' := by
  by_cases h1 : (s.length : Int) < 1
  · exact bits_size s at_ turn w (.inl h1)
  by_cases h2 : 2000 < (s.length : Int)
  · exact bits_size s at_ turn w (.inr h2)
  have hM : s.length ≤ MaxT := by unfold MaxT; omega
  have hP := fun w => fPut s w
  unfold encF at hP
  rw [if_pos hM] at hP
  have hH := numL_len_le s.length
  have hC := big_length 4 (crcSum s)
  refine bits_main s at_ turn w (by omega) (by omega) ha (frmL s) (numL s.length) (big 4 (crcSum s)) (by rw [frmL, txtL]) (by omega) hC ?_ hP ?_
  · rw [frmL, txtL, List.length_append, List.length_append, hC]; omega
  · intro P t j hf h0 hj w
    have e : numL s.length ++ t ++ big 4 (crcSum s) = txtL t ++ big 4 (crcSum s) := by rw [txtL, hf.size]
    have h4 := rdFrm_turned s t (by rw [← hf.size]; exact hM) (hf.sums h0 hj)
    have h5 := rdFrm_err (txtL t ++ big 4 (crcSum s)) (by omega)
    have := fTake (txtL t ++ big 4 (crcSum s)) w (by rw [List.length_append, txtL, List.length_append, hC, ← hf.size]; unfold maxLen; omega)
    rw [h4, h5.1, h5.2] at this
    rw [e]
    exact this

end Go.Proofs.Ytaiklhcgimpajaa
