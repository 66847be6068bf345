/- The law FrameRow, walked. -/
import Derived.Test.YtaiklhcgimpajaaRow3e
import Derived.Deep.QuietTactic
import Derived.BigQuiet
namespace Go.Proofs.Ytaiklhcgimpajaa
open Go.RowKit Go.Proofs Go.Proofs.Pk
set_option maxRecDepth 10000
attribute [local simp] mk_get wrap64_u8 mk_extract ByteArray.mk_append_mk get_1k

theorem Strs.take {w : World} {ad : Option Addr} {len : Nat} {l : List (List UInt8)} (h : Strs w ad len l) (n : Nat) (hn : n ≤ len) : Strs w ad n (l.take n) := by
  refine ⟨by rw [List.length_take, h.1]; omega, ?_⟩
  rcases h.2 with h0 | ⟨b, off, h1, h2, h3⟩
  · exact .inl (by rw [h0]; simp)
  · exact .inr ⟨b, off, h1, h2, fun i hi => by
      rw [List.length_take] at hi
      rw [h3 i (by omega)]; simp⟩

set_option maxRecDepth 10000 in
set_option maxHeartbeats 4000000 in
theorem row_some (bk off len cap n : Nat) (L : List (List UInt8)) (last : List UInt8) (cut : Int) (w : World) (hlc : len ≤ cap) (hlen : (len : Int) ≤ 140737488351232) (hn : (n : Int) = min (len : Int) 20)
    (hst : Strs w (some ⟨bk, off, none⟩) n L) (hll : (last.length : Int) ≤ 140737488351232) (hcut : -9223372036854775808 ≤ cut ∧ cut ≤ 9223372036854775807) (hbk : bk < w.heap.size) :
    Calls Try.prog 7 #[.slice (some ⟨bk, off, none⟩) len cap, .string ⟨last.toArray⟩, .int .i64 cut] w fun e w' => e = .returned (.bool true) ∧ Below w.heap.size w w' := by
  have HS := Lib.hid hst
  have HN := Lib.hid hn
  have HNC : (n : Int) ≤ cap := by omega
  have hn20 : (n : Int) ≤ 20 := by omega
  clear hst hn
  go_enter Try.func7, Try.ntmps7
  go_wp2_with fail
  refine (examples_any _).mono ?_
  rintro e w1 ⟨rfl, b1⟩
  go_wp2_with fail
  have hmin : (min (len : Int) 20).toNat = n := by have := HN.out; omega
  rw [hmin]
  clear hmin
  have hL : L.length = n := HS.out.1
  have HL := Lib.hid hL
  have HB1 := Lib.hid b1
  clear hL b1
  obtain ⟨wA, hwA⟩ : ∃ wA, wA = w1 := ⟨_, rfl⟩
  subst hwA
  go_loopw [8, 9] (fun b i wr => ∃ (k : Nat) (B : List UInt8), k ≤ n ∧ i = .int .i64 k ∧ b = .string ⟨B.toArray⟩ ∧ Hid (Framed L k B) ∧ Hid (Below w.heap.size w wr))
    (fun _ i _ => n - (intOf i).toNat)
  case atStart => exact ⟨0, [], Nat.zero_le _, rfl, rfl, Framed.start L, HB1⟩
  case round =>
    obtain ⟨k, B, hk, rfl, rfl, hf, hbl⟩ := hrel
    by_cases hlt : k < n
    · have hkl : k < L.length := by have := HL.out; omega
      have hlt' : (k : Int) < n := by omega
      rcases (HS.out.below hbl.out).2 with hbad | ⟨b', off', hv, hb', hc⟩
      · exfalso; rw [hbad] at hkl; simp at hkl
      obtain ⟨rfl, rfl⟩ : b' = bk ∧ off' = off := by
        have := Option.some.inj hv
        injection this with h1 h2 _
        exact ⟨h1.symm, h2.symm⟩
      have c1 := hc k hkl
      have hBl : (B.length : Int) ≤ 20971760 := by have := hf.out.2.2; omega
      by_cases hs : L[k].length ≤ MaxT
      · have hP := fPut_ok L[k] hs
        have HF := Lib.hid (hf.out.step hkl hs)
        have hFl : ((frmL L[k]).length : Int) ≤ 1048588 := by have := frmL_le L[k]; unfold MaxT at hs; omega
        generalize hF : frmL L[k] = F at hP HF hFl
        generalize hx : L[k] = x at hP c1
        have HP := Lib.hid hP
        clear hP hc hf hs hx hF hkl
        go_wp2_with fail
        refine (HP.out _).mono ?_
        rintro e w2 ⟨rfl, c2⟩
        have HB2 : Hid (Below w.heap.size w w2) := belowT hbl.out c2
        clear c2 c1
        go_wp2
        go_roundw
        case rel => exact ⟨k + 1, B ++ F, by omega, by go_num, rfl, HF, HB2⟩
        case measure => simp [intOf]; omega
      · have hP := fPut_no L[k] hs
        have hbig : 1048576 < (L[k].length : Int) := by unfold MaxT at hs; omega
        generalize hx : L[k] = x at hP c1 hbig
        have HP := Lib.hid hP
        clear hP hc hf hs hx hkl
        go_wp2_with fail
        refine (HP.out _).mono ?_
        rintro e w2 ⟨rfl, c2⟩
        have HB2 : Hid (Below w.heap.size w w2) := belowT hbl.out c2
        have c3 := (c2.cell (p := ⟨b', off' + k, none⟩) hb').trans c1
        clear c2 c1
        go_wp2
        go_ret
        exact ⟨rfl, HB2.out⟩
    · obtain rfl : k = n := by omega
      have hBl : (B.length : Int) ≤ 20971760 := by have := hf.out.2.2; omega
      have hAll := fAll_is B L [] 0 B.length (by have := hf.out.all (Nat.le_of_eq HL.out) []; simpa [rdEvery_nil] using this) (by omega) (by simp)
      have hAll2 : ∀ w, Calls Try.prog 18 #[.string ⟨B.toArray⟩] w (RR3 w L (.int .i64 B.length) .nilIface) := hAll
      have HA := Lib.hid hAll2
      clear hAll hAll2
      go_wp2_with fail
      refine (HA.out _).mono ?_
      intro e w3 h3
      obtain ⟨ae, cape, rfl, hs3, c3⟩ := h3.strs
      rw [HL.out] at hs3 ⊢
      have S3 := Lib.hid hs3
      have HB3 : Hid (Below w.heap.size w w3) := belowT hbl.out c3
      clear h3 c3 hs3 hbl
      go_wp2_with fail
      go_loopw [15] (fun i wr => ∃ j : Nat, j ≤ k ∧ i = .int .i64 j ∧ Hid (Below w3.heap.size w3 wr)) (fun i _ => k - (intOf i).toNat)
      case atStart => exact ⟨0, Nat.zero_le _, rfl, Below.refl _ _⟩
      case round =>
        obtain ⟨j, hj, rfl, hb4⟩ := hrel
        have HB4 : Hid (Below w.heap.size w wr) := belowT HB3.out hb4.out
        by_cases hlt2 : j < k
        · have hjl : j < L.length := by have := HL.out; omega
          have hlt2' : (j : Int) < k := by omega
          rcases (HS.out.below HB4.out).2 with hbad | ⟨b', off', hv, hb', hc⟩
          · exfalso; rw [hbad] at hjl; simp at hjl
          obtain ⟨rfl, rfl⟩ : b' = bk ∧ off' = off := by
            have := Option.some.inj hv
            injection this with h1 h2 _
            exact ⟨h1.symm, h2.symm⟩
          rcases (S3.out.below hb4.out).2 with hbad | ⟨b2, off2, hv2, hb2, hc2⟩
          · exfalso; rw [hbad] at hjl; simp at hjl
          subst hv2
          have c1 := hc j hjl
          have c2 := hc2 j hjl
          generalize hx : L[j] = x at c1 c2
          clear hc hc2 hx hjl hf
          go_wp2_with fail
          go_quiet (fail)
          go_wp2
          go_roundw
          case rel => exact ⟨j + 1, by omega, by go_num, belowN hb4.out _⟩
          case measure => simp [intOf]; omega
        · obtain rfl : j = k := by omega
          clear hlt2
          by_cases hlast : last.length ≤ MaxT
          · have hP := fPut_ok last hlast
            have hF5 : 5 ≤ ((frmL last).length : Int) := by have := frmL_pos last; omega
            have hFm : ((frmL last).length : Int) ≤ 1048588 := by have := frmL_le last; unfold MaxT at hlast; omega
            have hCut : ∀ q : Nat, 0 < q → q < (frmL last).length → ∀ w, Calls Try.prog 18 #[.string ⟨(B ++ (frmL last).take q).toArray⟩] w (RR3 w L (.int .i64 B.length) (.iface 49 (.int .i64 2))) := by
              intro q h0 hq w
              have e1 := hf.out.all (Nat.le_of_eq HL.out) ((frmL last).take q)
              rw [rdEvery_cut last q hlast h0 hq] at e1
              have := fAll_is _ _ _ _ B.length e1 (by rw [List.length_append, List.length_take]; omega) (by rw [List.length_append]) w
              rw [List.append_nil] at this
              exact this
            generalize frmL last = F at hP hF5 hFm hCut
            have HP := Lib.hid hP
            have HC := Lib.hid hCut
            clear hP hCut hlast hf
            have hF0 : ((F.length : Int) == 0) = false := by rw [beq_eq_false_iff_ne]; omega
            have hm0 : (0 : Int) < F.length := by omega
            obtain ⟨P, hP, hPl⟩ : ∃ P : Nat, (P : Int) = (if cut < 0 then -(cut + 1).tmod F.length else cut % F.length) ∧ (P : Int) < F.length := by
              by_cases hneg : cut < 0
              · have e : -(cut + 1).tmod F.length = (-(cut + 1)) % F.length := by
                  rw [← Int.neg_tmod, Int.tmod_eq_emod_of_nonneg (by omega)]
                have h0 := Int.emod_nonneg (-(cut + 1)) (show (F.length : Int) ≠ 0 by omega)
                have h1 := Int.emod_lt_of_pos (-(cut + 1)) hm0
                exact ⟨((-(cut + 1)) % F.length).toNat, by rw [if_pos hneg, e]; omega, by omega⟩
              · have h0 := Int.emod_nonneg cut (show (F.length : Int) ≠ 0 by omega)
                have h1 := Int.emod_lt_of_pos cut hm0
                exact ⟨(cut % F.length).toNat, by rw [if_neg hneg]; omega, by omega⟩
            by_cases hneg : cut < 0
            all_goals
              first | rw [if_pos hneg] at hP | rw [if_neg hneg] at hP
              have hP' := hP.symm
              clear hP
              by_cases hfull : (P : Int) + 1 = F.length
              · go_wp2_with fail
                refine (HP.out _).mono ?_
                rintro e w5 ⟨rfl, c5⟩
                have HB5 : Hid (Below w.heap.size w w5) := belowT HB4.out c5
                clear c5
                go_wp2
                go_ret
                exact ⟨rfl, HB5.out⟩
              · obtain ⟨q, hq⟩ : ∃ q : Nat, 1 + (P : Int) = q := ⟨1 + P, by omega⟩
                have hq1 : 0 < (q : Int) := by omega
                have hqF : (q : Int) < F.length := by omega
                have HCq := Lib.hid (HC.out q (by omega) (by omega))
                have hqne : ((q : Int) == F.length) = false := by rw [beq_eq_false_iff_ne]; omega
                have hs1 : ¬9223372036854775807 < B.length + (F.take q).length := by rw [List.length_take]; omega
                clear hfull hPl
                go_wp2_with fail
                refine (HP.out _).mono ?_
                rintro e w5 ⟨rfl, c5⟩
                have HB5 : Hid (Below w.heap.size w w5) := belowT HB4.out c5
                clear c5
                go_wp2_with fail
                refine (HCq.out _).mono ?_
                intro e w6 h6
                obtain ⟨af, capf, rfl, hs6, c6⟩ := h6.strs
                rw [HL.out]
                have HB6 : Hid (Below w.heap.size w w6) := belowT HB5.out c6
                clear h6 c6 hs6
                go_wp2_with fail
                refine (is22 _).mono ?_
                rintro e w7 ⟨rfl, rfl⟩
                go_wp2
                go_ret
                exact ⟨rfl, HB6.out⟩
          · have HP := Lib.hid (fPut_no last hlast)
            have hbig : 1048576 < (last.length : Int) := by unfold MaxT at hlast; omega
            clear hlast
            go_wp2_with fail
            refine (HP.out _).mono ?_
            rintro e w5 ⟨rfl, c5⟩
            have HB5 : Hid (Below w.heap.size w w5) := belowT HB4.out c5
            clear c5
            go_wp2
            go_ret
            exact ⟨rfl, HB5.out⟩

theorem rowW (ad : Option Addr) (len cap : Nat) (L : List (List UInt8)) (last : List UInt8) (cut : Int) (w : World) (hst : Strs w ad len L)
    (hb : (len : Int) ≤ 140737488351232 ∧ (∀ s ∈ L, s.length ≤ 140737488351232) ∧ len ≤ cap) (hll : (last.length : Int) ≤ 140737488351232) (hcut : -9223372036854775808 ≤ cut ∧ cut ≤ 9223372036854775807) :
    Calls Try.prog 7 #[.slice ad len cap, .string ⟨last.toArray⟩, .int .i64 cut] w fun e w' => e = .returned (.bool true) ∧ Below w.heap.size w w' := by
  rcases hst.2 with h0 | ⟨b, off, rfl, hlt, hc⟩
  · have : len = 0 := by rw [← hst.1, h0]; rfl
    subst this
    exact row_empty ad cap last cut w hll hcut
  · exact row_some b off len cap (min len 20) (L.take (min len 20)) last cut w hb.2.2 hb.1 (by omega) (Strs.take hst _ (by omega)) hll hcut hlt

end Go.Proofs.Ytaiklhcgimpajaa
