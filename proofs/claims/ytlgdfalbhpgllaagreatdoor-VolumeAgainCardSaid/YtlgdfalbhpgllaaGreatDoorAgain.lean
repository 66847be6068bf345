/- The law VolumeAgain, walked to its end. -/
import Derived.Test.YtlgdfalbhpgllaaGreatDoorLaw7
namespace Go.Proofs.YtlgdfalbhpgllaaGreatDoor
open Go.RowKit Go.Proofs Go.Proofs.Pk
set_option maxRecDepth 10000
attribute [local simp] mk_get wrap64_u8 mk_extract ByteArray.mk_append_mk get_1k

set_option maxHeartbeats 4000000 in
theorem againW (ad : Option Addr) (len cap : Nat) (l : List DeedW) (w : World) (hg : ErrTy w) (h : DeedsW w ad len l) :
    Calls Tryz.prog 5 #[.slice ad len cap] w fun e w' => e = .returned (.bool true) ∧ Below w.heap.size w w' := by
  have HD := Lib.hid h
  have HE := Lib.hid (examplesP w hg)
  have HG := Lib.hid hg
  clear h hg
  go_enter Tryz.func5, Tryz.ntmps5
  go_wp2_with fail
  refine HE.out.mono ?_
  clear HE
  rintro e w1 ⟨rfl, hb1⟩
  have hE1 := HG.out.kept (Kept.of_below (fun _ => False) hb1) (fun hf => hf)
  have hN := pNw_ok 60 (by omega) (by omega) w1
  rw [show ((60 : Nat) : Int) = 60 from rfl] at hN
  have HN := Lib.hid hN
  have H1 := Lib.hid (And.intro hb1 hE1)
  clear hN hb1 hE1
  go_wp2_with fail
  refine HN.out.mono ?_
  clear HN
  rintro e w2 ⟨pd, Xd, rfl, hd2, hb2⟩
  have HF := Lib.hid (format_on w1 w2 pd 60 Xd hd2 hb2 H1.out.2 (by omega) (by omega))
  clear hd2 hb2
  go_wp2_with fail
  refine HF.out.mono ?_
  clear HF
  rintro e w3 ⟨p, vF3, X3, rfl, hOn3, -, -⟩
  obtain ⟨hn0, hc0⟩ := format_bound (N := 60) (by omega)
  have HI : Hid (∃ V R vF X, On w1 w3 p pd V vF X ∧ Live V 60 R ∧ V.D.n ≤ 22 + 20 * 0 ∧ V.D.C.length ≤ 20 + 20 * 0) := ⟨_, _, vF3, X3, hOn3, Live.first (by omega) (by omega), by omega, by omega⟩
  clear hOn3 hn0 hc0
  go_wp2
  go_loopw [8, 9, 10, 11] (fun i _ _ _ wr => ∃ j : Nat, j ≤ len ∧ j ≤ 40 ∧ i = .int .i64 (j : Int) ∧ Hid (∃ V R vF X, On w1 wr p pd V vF X ∧ Live V 60 R ∧ V.D.n ≤ 22 + 20 * j ∧ V.D.C.length ≤ 20 + 20 * j)) (fun i _ _ _ _ => 40 - (intOf i).toNat)
  case atStart => exact ⟨0, Nat.zero_le _, by omega, rfl, HI⟩
  case round =>
    obtain ⟨j, hj, hj40, rfl, hI⟩ := hrel
    by_cases hlt : (j : Int) < (len : Int) ∧ (j : Int) < 40
    · obtain ⟨hlt1, hlt2⟩ := hlt
      have hjl : j < len := by omega
      have hj39 : j < 40 := by omega
      obtain ⟨V, R, vF, X, hOn, hL, hn, hc⟩ := hI.out
      obtain ⟨b, off, u, rfl, hu, d0, d1, d2, d3, d4, fk, fa, fb, fl⟩ := deedsW_cells HD.out (H1.out.1.trans (hOn.below.mono H1.out.1.size)) j hjl
      have hj0 : (0 : Int) ≤ (j : Int) := by omega
      have hwj : IntKind.i64.wrap ((j : Int) + 1) = (j : Int) + 1 := IntWalk.i64_in _ (by omega)
      have HA := Lib.hid (act_all (volK pd) hOn.at (hL.small (by omega) (by omega)) hOn.err hOn.lt u fk fa fb fl)
      have hdc : Hid ((dcW u).toArray = #[.int .i64 u.kind, .int .i64 u.a, .int .i64 u.b, .string ⟨u.s.toArray⟩, .slice u.kad u.klen u.kcap]) := rfl
      rw [hdc.out] at HA
      have hgo := act_goes hL.alive u
      have hL2 := hL.of_goes hgo
      obtain ⟨hb2c, hb2n, _⟩ := act_bound V (by have := hOn.vol.few.1; exact this) u
      obtain ⟨V', hV'⟩ : ∃ V', V' = actV V u := ⟨_, rfl⟩
      rw [← hV'] at HA hL2 hb2c hb2n
      have HOn := Lib.hid hOn
      clear hgo hOn hI hV' hu fk fa fb fl
      go_wp2_with fail
      clear d0 d1 d2 d3 d4
      refine HA.out.mono ?_
      clear HA
      rintro e w4 ⟨⟨v, rfl⟩, hleft⟩
      obtain ⟨vF4, X4, hOn4, -, -, -⟩ := HOn.out.left hleft
      obtain ⟨Xd4, hA4, hX4⟩ := hOn4.vol
      have hO := openP w4 w1.heap.size pd V'.D Xd4 hA4.dsk hA4.ok hL2.alive.off hA4.room hOn4.below.size
      have hop := open_safe hL2.alive.safe hL2.alive.off
      have HO := Lib.hid hO
      have HOn4 := Lib.hid hOn4
      clear hO hA4 hX4 hleft hOn4 HOn
      go_wp2_with fail
      refine HO.out.mono ?_
      clear HO
      rintro e w5 ⟨hk5, hcase⟩
      rcases hcase with ⟨R', q, vFq, Xq, hR', rfl, hvq, -, -, -⟩ | ⟨hnone, _⟩
      rotate_left
      · rw [hop] at hnone; cases hnone
      rw [hop] at hR'
      obtain rfl := Option.some.inj hR'
      have hOn5 := HOn4.out.still hk5
      have HR1 := Lib.hid (rootP w5 w1.heap.size p pd V' vF4 X4 hOn5.vol)
      have H5 := Lib.hid (And.intro hOn5 hvq)
      clear hk5 hOn5 hvq hR' hop HOn4
      go_wp2_with fail
      refine HR1.out.mono ?_
      clear HR1
      rintro e w6 ⟨hk6, vR1, rfl, ho6⟩
      have HR2 := Lib.hid (rootP w6 w1.heap.size q pd _ vFq Xq (H5.out.2.still hk6))
      have H6 := Lib.hid (And.intro ho6 hk6)
      clear ho6 hk6
      go_wp2_with fail
      refine HR2.out.mono ?_
      clear HR2
      rintro e w7 ⟨hk7, vR2, rfl, ho7⟩
      have hfit := fun f hf => (H5.out.1.vol.few.2.2.2.2 f hf).1
      obtain ⟨a1, c1, rfl, hF1⟩ := own_files H6.out.1 rfl hfit
      obtain ⟨a2, c2, rfl, hF2⟩ := own_files ho7 rfl hfit
      have hF1' := own_files (owns_of_block H6.out.1 fun g hgb => hk7.block g (H6.out.1.lt g hgb).2 (fun hf => hf)) rfl hfit
      obtain ⟨a1', c1', he1, hF1''⟩ := hF1'
      injection he1 with e1 e2 e3
      subst e1 e3
      have hfew := H5.out.1.vol.few.1
      have HSm := Lib.hid (same_true V'.R.1 V'.R.2.1 V'.R.2.2.1 a1 a2 V'.R.2.2.2.length c1 c2 _ w7 hF1'' hF2 (by omega))
      have HOn7 := Lib.hid ((H5.out.1.still H6.out.2).still hk7)
      clear hF1 hF2 hF1'' e2 ho7 hk7 hfit hfew
      go_wp2_with fail
      refine HSm.out.mono ?_
      clear HSm
      rintro e w8 ⟨rfl, hb8⟩
      have hOn8 := HOn7.out.still (Kept.of_below (fun _ => False) hb8)
      have HI8 : Hid (∃ V R vF X, On w1 w8 p pd V vF X ∧ Live V 60 R ∧ V.D.n ≤ 22 + 20 * (j + 1) ∧ V.D.C.length ≤ 20 + 20 * (j + 1)) := ⟨V', _, vF4, X4, hOn8, hL2, by omega, by omega⟩
      clear hOn8 hb8 hL2 hL
      go_wp2
      go_roundw
      case rel => exact ⟨j + 1, by omega, by omega, by first | rfl | go_num, HI8⟩
      case measure => simp [intOf]; omega
    · obtain ⟨V, R, vF, X, hOn, _⟩ := hI.out
      have HB : Hid (Below w.heap.size w wr) := H1.out.1.trans (hOn.below.mono H1.out.1.size)
      clear hI hOn
      by_cases h1 : (j : Int) < (len : Int)
      · have h2 : decide ((j : Int) < 40) = false := by rw [decide_eq_false_iff_not]; omega
        go_wp2
        go_ret
        exact ⟨rfl, HB.out⟩
      · go_wp2
        go_ret
        exact ⟨rfl, HB.out⟩

end Go.Proofs.YtlgdfalbhpgllaaGreatDoor
