/- The reference of layer 16: Pick. -/
import Derived.Test.YtgcepbpdicadnaaJ23
import Derived.Test.YtgcepbpdicadnaaJ24
import Derived.Laws.AppendOwnNone
import Derived.BigQuiet
import Derived.Deep.CutRange
namespace Go.Proofs.Ytgcepbpdicadnaa
open Go.RowKit Go.Proofs Go.Proofs.Pk
set_option maxRecDepth 10000
attribute [local simp] mk_get wrap64_u8 mk_extract ByteArray.mk_append_mk get_1k

theorem level_lenS {v : VerV} (h : rightV v = true) (n : Int) : (levelV v n).length ≤ 200 := by
  have h1 := (right_ofV h).1.1
  have h2 : (levelV v n).length ≤ v.1.length := List.length_filter_le _ _
  omega

theorem metas_take1 {w : World} {ad : Option Addr} {n : Nat} {l : List MetaV} (h : MetasW w ad n l) (hn : 0 < n) : MetasW w ad 1 (l.take 1) := by
  have hl := h.1
  have h1 : (l.take 1).length = 1 := by rw [List.length_take]; omega
  rcases h.2 with h0 | ⟨b, off, e1, e2, e3⟩
  · rw [h0] at hl; simp at hl; omega
  · refine ⟨h1, .inr ⟨b, off, e1, e2, fun i hi => ?_⟩⟩
    rw [List.getElem_take]
    exact e3 i (by omega)

set_option maxHeartbeats 16000000 in
theorem rPick16 (w : World) (ad : Option Addr) (len cap : Nat) (ad2 : Option Addr) (len2 cap2 : Nat) (v : VerV) (h0 : VerW w ad len cap ad2 len2 cap2 v) :
    Calls Try.prog 10 #[verC ad len cap ad2 len2 cap2 v.2.2] w (RjE w (pickM v)) := by
  have hlen := h0.1.1
  have HB := Lib.hid (PB.new h0)
  have H0 := Lib.hid h0
  obtain ⟨Z, hZ⟩ : ∃ Z, Hid (Z = pickM v) := ⟨_, rfl⟩
  rw [← hZ.out]
  obtain ⟨s, hs⟩ : ∃ s, s = v.2.2 := ⟨_, rfl⟩
  have HS := Lib.hid hs
  clear h0
  unfold verC
  rw [← hs] at HB ⊢
  clear hs
  go_enter Try.func10, Try.ntmps10
  go_upto_region 1 with fail
  change Code.wp _ _ _ _ ((w.alloc (.cells #[.slice ad len cap, .slice ad2 len2 cap2, .int .i64 s] 25)).alloc (.cells #[.int .i64 0, .slice none 0 0, .slice none 0 0, .bool false] 28))
  obtain ⟨g, hg⟩ : ∃ g, g = w.heap.size := ⟨_, rfl⟩
  obtain ⟨r, hr⟩ : ∃ r, r = w.heap.size + 1 := ⟨_, rfl⟩
  rw [← hr, ← hg] at HB
  generalize (w.alloc (.cells #[.slice ad len cap, .slice ad2 len2 cap2, .int .i64 s] 25)).alloc (.cells #[.int .i64 0, .slice none 0 0, .slice none 0 0, .bool false] 28) = wa at HB ⊢
  rw [← hr, ← hg]
  have hgr : g < r := by omega
  clear hr hg
  obtain ⟨d0, d1, d2⟩ := HB.out.vb.cells
  have HR := Lib.hid (rRight16 wa ad len cap ad2 len2 cap2 v HB.out.vb.ver)
  unfold verC at HR
  rw [← HS.out] at d2 HR
  obtain ⟨rv, hrv⟩ : ∃ rv, Hid (rv = rightV v) := ⟨_, rfl⟩
  rw [← hrv.out] at HR
  go_wp2_with fail
  refine HR.out.mono ?_
  rintro e w1 ⟨rfl, hk⟩
  have HB1 := Lib.hid (HB.out.quiet hk)
  clear hk HR HB d0 d1 d2
  cases rv with
  | false =>
    obtain rfl : Z = none := by rw [hZ.out]; exact pick_wrong hrv.out.symm
    have r0 := Holds.cell HB1.out.res 0 _ rfl
    have r1 := Holds.cell HB1.out.res 1 _ rfl
    have r2 := Holds.cell HB1.out.res 2 _ rfl
    have r3 := Holds.cell HB1.out.res 3 _ rfl
    have q0 := Holds.free HB1.out.res 0
    have q1 := Holds.free HB1.out.res 1
    have q2 := Holds.free HB1.out.res 2
    have q3 := Holds.free HB1.out.res 3
    go_wp2
    exact rj_none rfl HB1.out rfl rfl
  | true =>
  have HRt : Hid (rightV v = true) := hrv.out.symm
  clear hrv
  have hl2 : len ≤ 200 := by have := (right_ofV HRt.out).1.1; omega
  obtain ⟨d0, d1, d2⟩ := HB1.out.vb.cells
  have HL := Lib.hid (rLevel16N w1 ad len cap ad2 len2 cap2 v 0 HB1.out.vb.ver (by omega))
  unfold verC at HL
  rw [← HS.out] at d2 HL
  go_wp2_with fail
  refine HL.out.mono ?_
  rintro e w2 ⟨ia, il, ic, rfl, hm, hic, hfl, hno, _, hk⟩
  have HB2 := Lib.hid (HB1.out.quiet hk)
  clear hk HL HB1 d0 d1 d2
  have hil := hm.1
  have hil2 := level_lenS HRt.out 0
  have HC0 : Hid (ChoseP v 1 (if 3 ≤ (levelV v 0).length then 0 else -1) (levelV v 0)) := chose_start v
  rw [hil] at HC0 hil2
  have HIn : Hid (PB w w2 g r ad len cap ad2 len2 cap2 v ∧ (MetasW w2 ia il (levelV v 0) ∧ il ≤ ic ∧ FlatV ia)) := ⟨HB2.out, hm, hic, hfl⟩
  generalize levelV v 0 = M0 at HC0 HIn hil
  clear HB2 hm hic hfl hno
  go_upto_if 29 with fail
  go_cut [5] from 20 (fun x wx => ∃ lv : Int, -1 ≤ lv ∧ lv ≤ 2 ∧ x = .int .i64 lv ∧ wx = w2 ∧ Hid (ChoseP v 1 lv M0))
  case first =>
    by_cases h3 : 3 ≤ il
    · rw [if_pos h3] at HC0
      have c3 : decide ((3 : Int) ≤ (il : Int)) = true := decide_eq_true (by omega)
      go_wp2
      go_meet
      case rel => exact ⟨0, by omega, by omega, rfl, rfl, HC0⟩
    · rw [if_neg h3] at HC0
      have c3 : decide ((3 : Int) ≤ (il : Int)) = false := decide_eq_false (by omega)
      go_wp2
      go_meet
      case rel => exact ⟨-1, by omega, by omega, rfl, rfl, HC0⟩
  case rest =>
  obtain ⟨lv, hlv1, hlv2, rfl, hwx, HC1⟩ := hcut
  rw [hwx]
  clear hwx HC0 wc
  have HI1 : Hid (PB w w2 g r ad len cap ad2 len2 cap2 v ∧ (MetasW w2 ia il M0 ∧ il ≤ ic ∧ FlatV ia)) := HIn
  clear HIn
  go_wp2
  go_loopw [5, 6, 7] (fun x5 x6 x7 wr => ∃ (k : Nat) (lv : Int) (ia : Option Addr) (il ic : Nat) (M : List MetaV), (1 ≤ k ∧ k ≤ 3) ∧ (-1 ≤ lv ∧ lv ≤ 2) ∧ il ≤ 200 ∧ x5 = .int .i64 lv ∧ x6 = .slice ia il ic ∧ x7 = .int .i64 (k : Int) ∧ Hid (PB w wr g r ad len cap ad2 len2 cap2 v ∧ (MetasW wr ia il M ∧ il ≤ ic ∧ FlatV ia)) ∧ Hid (ChoseP v k lv M)) (fun _ _ n _ => 3 - (intOf n).toNat)
  case atStart => exact ⟨1, lv, ia, il, ic, M0, ⟨Nat.le_refl _, by omega⟩, ⟨hlv1, hlv2⟩, hil2, rfl, rfl, rfl, HI1, HC1⟩
  case round =>
    clear HI1 HC1 hil2 hlv1 hlv2 hil
    rename World => w3
    obtain ⟨k, l, ja, jl, jc, M, ⟨hk1, hk3⟩, ⟨hl1, hl2⟩, hjl2, rfl, rfl, rfl, HI, HC⟩ := hrel
    have k0 : (0 : Int) ≤ (k : Int) := by omega
    obtain ⟨lt, hltb⟩ : ∃ lt : Bool, (lt = true ↔ (k < 3 ∧ l < 0)) := by
      by_cases h : k < 3 ∧ l < 0
      · exact ⟨true, fun _ => h, fun _ => rfl⟩
      · exact ⟨false, fun h' => (by cases h'), fun h' => absurd h' h⟩
    have HLT := Lib.hid hltb
    clear hltb
    go_upto_region 9 with fail
    go_cut [35] from 30 to 60 (fun x35 wx => x35 = .bool lt ∧ wx = w3)
    case first =>
      clear HI HC
      by_cases h1 : k < 3
      · have c1 : (k : Int) < 3 := by omega
        by_cases h2 : l < 0
        · obtain rfl : lt = true := HLT.out.2 ⟨h1, h2⟩
          go_wp2
          go_meet
          case rel => exact ⟨rfl, rfl⟩
        · obtain rfl : lt = false := by rw [Bool.eq_false_iff]; intro h; exact h2 (HLT.out.1 h).2
          go_wp2
          go_meet
          case rel => exact ⟨rfl, rfl⟩
      · have c1 : ¬(k : Int) < 3 := by omega
        obtain rfl : lt = false := by rw [Bool.eq_false_iff]; intro h; exact h1 (HLT.out.1 h).1
        go_wp2
        go_meet
        case rel => exact ⟨rfl, rfl⟩
    case rest =>
    obtain ⟨rfl, hwx⟩ := hcut
    rw [hwx]
    clear hwx wc
    cases lt with
    | true =>
      obtain ⟨h3, h4⟩ := HLT.out.1 rfl
      obtain rfl : l = -1 := by omega
      clear HLT
      have hwk : IntKind.i64.wrap ((k : Int) + 1) = (k : Int) + 1 := IntWalk.i64_in _ (by omega)
      obtain ⟨d0, d1, d2⟩ := HI.out.1.vb.cells
      have HL := Lib.hid (rLevel16N w3 ad len cap ad2 len2 cap2 v (k : Int) HI.out.1.vb.ver (by omega))
      unfold verC at HL
      rw [← HS.out] at d2 HL
      go_wp2_with fail
      refine HL.out.mono ?_
      rintro e w4 ⟨na, nl, nc, rfl, hm, hnc, hfl, -, -, hk⟩
      have HB4 := Lib.hid (HI.out.1.quiet hk)
      clear hk HL d0 d1 d2 HI
      have hnl := hm.1
      have hnl2 := level_lenS HRt.out (k : Int)
      have hmo : ∀ m ∈ levelV v (k : Int), metaOk m = true := level_meta HRt.out
      rw [hnl] at hnl2
      obtain ⟨N, hN⟩ : ∃ N, Hid (N = levelV v (k : Int)) := ⟨_, rfl⟩
      rw [← hN.out] at hm hmo hnl
      have HM := Lib.hid (And.intro hm (And.intro hnc hfl))
      have HMo := Lib.hid hmo
      have HW4 : Hid (Kept (fun _ => False) w4 w4 ∧ (0 : Int) = sizeT (N.take 0)) := ⟨Kept.refl _ _, rfl⟩
      clear hm hnc hfl hmo
      go_wp2
      go_loopw [8, 9] (fun b i wr => ∃ (x : Nat) (y : Int), x ≤ nl ∧ b = .int .i64 y ∧ i = .int .i64 (x : Int) ∧ Hid (Kept (fun _ => False) w4 wr ∧ y = sizeT (N.take x))) (fun _ i _ => nl - (intOf i).toNat)
      case atStart => exact ⟨0, 0, Nat.zero_le _, rfl, rfl, HW4⟩
      case round =>
        obtain ⟨x, y, hx, rfl, rfl, hY⟩ := hrel
        clear HW4
        have x0 : (0 : Int) ≤ (x : Int) := by omega
        by_cases hlx : x < nl
        case neg =>
          obtain rfl : x = nl := by omega
          have xn : ¬(x : Int) < (x : Int) := by omega
          have HLm := Lib.hid (rLim16 (k : Int) wr)
          have hyl : Hid (y = sizeT N) := by
            show y = sizeT N
            have h1 := hY.out.2
            rwa [List.take_of_length_le (by omega)] at h1
          have HBr := Lib.hid (HB4.out.quiet hY.out.1)
          have HMr := Lib.hid (And.intro (metas_kept HM.out.1 hY.out.1) HM.out.2)
          obtain ⟨lm, hlm⟩ : ∃ lm, lm = limM (k : Int) := ⟨_, rfl⟩
          rw [← hlm] at HLm
          clear hY HB4 HM
          go_wp2_with fail
          refine HLm.out.mono ?_
          rintro e w5 ⟨rfl, hk⟩
          have HB5 := Lib.hid (HBr.out.quiet hk)
          have HM5 := Lib.hid (And.intro (metas_kept HMr.out.1 hk) HMr.out.2)
          clear hk HLm HBr HMr
          by_cases hbig : lm < y
          · have HC2 : Hid (ChoseP v (k + 1) (k : Int) (N.take 1)) := by
              show ChoseP v (k + 1) (k : Int) (N.take 1)
              rw [hN.out]; exact chose_yes HC.out (by omega) (by rw [← hN.out, ← hlm, ← hyl.out]; exact hbig)
            have hpos : 0 < x := by
              have := size_ne (l := N) (x := lm) (by rw [hlm]; rcases (show k = 1 ∨ k = 2 by omega) with rfl | rfl <;> decide) (by rw [← hyl.out]; exact hbig)
              omega
            have HI2 : Hid (PB w w5 g r ad len cap ad2 len2 cap2 v ∧ (MetasW w5 na 1 (N.take 1) ∧ 1 ≤ nc ∧ FlatV na)) :=
              ⟨HB5.out, metas_take1 HM5.out.1 hpos, by have := HM5.out.2.1; omega, HM5.out.2.2⟩
            clear HB5 HM5 hlm hyl
            have c1 : (1 : Int) ≤ (nc : Int) := by have := HI2.out.2.2.1; omega
            go_wp2
            go_roundw
            case rel => exact ⟨k + 1, (k : Int), na, 1, nc, N.take 1, ⟨by omega, h3⟩, ⟨by omega, by omega⟩, by omega, rfl, rfl, by first | rfl | go_num, HI2, HC2⟩
            case measure => simp [intOf]; omega
          · have HC2 : Hid (ChoseP v (k + 1) (-1) N) := chose_no HC.out (by omega) (by rw [← hN.out, ← hlm, ← hyl.out]; exact hbig)
            have HI2 : Hid (PB w w5 g r ad len cap ad2 len2 cap2 v ∧ (MetasW w5 na x N ∧ x ≤ nc ∧ FlatV na)) := ⟨HB5.out, HM5.out⟩
            clear HB5 HM5 hlm hyl
            go_wp2
            go_roundw
            case rel => exact ⟨k + 1, -1, na, x, nc, N, ⟨by omega, h3⟩, ⟨by omega, by omega⟩, hnl2, rfl, rfl, by first | rfl | go_num, HI2, HC2⟩
            case measure => simp [intOf]; omega
        have xn : (x : Int) < (nl : Int) := by omega
        have hwx : IntKind.i64.wrap ((x : Int) + 1) = (x : Int) + 1 := IntWalk.i64_in _ (by omega)
        have hxM : x < N.length := by omega
        obtain ⟨b, off, rfl, _, y0, y1, y2, y3, y4, _⟩ := (metas_kept HM.out.1 hY.out.1).at x hxM
        have hst := sizeT_take hxM
        have hbd := sizeT_le HMo.out x
        have hmx := meta_of (HMo.out _ (List.getElem_mem hxM))
        obtain ⟨z, hz⟩ : ∃ z, z = N[x].2.2.2.2 := ⟨_, rfl⟩
        rw [← hz] at y4 hst hmx
        rw [← hY.out.2] at hst hbd
        have hwy : IntKind.i64.wrap (y + z) = y + z := IntWalk.i64_in _ (by omega)
        have HN : Hid (Kept (fun _ => False) w4 wr ∧ y + z = sizeT (N.take (x + 1))) := ⟨hY.out.1, hst.symm⟩
        clear hst hbd hmx hz hY y0 y1 y2 y3
        go_wp2
        go_roundw
        case rel => exact ⟨x + 1, y + z, hlx, rfl, by first | rfl | go_num, HN⟩
        case measure => simp [intOf]; omega
    | false =>
      have HNO : Hid (¬(k < 3 ∧ l < 0)) := fun h => by have := HLT.out.2 h; cases this
      clear HLT
      by_cases hl : l < 0
      · obtain rfl : l = -1 := by omega
        obtain rfl : k = 3 := by have := HNO.out; omega
        obtain rfl : Z = none := by rw [hZ.out]; exact pick_no (chose_none HC.out)
        have r0 := Holds.cell HI.out.1.res 0 _ rfl
        have r1 := Holds.cell HI.out.1.res 1 _ rfl
        have r2 := Holds.cell HI.out.1.res 2 _ rfl
        have r3 := Holds.cell HI.out.1.res 3 _ rfl
        have q0 := Holds.free HI.out.1.res 0
        have q1 := Holds.free HI.out.1.res 1
        have q2 := Holds.free HI.out.1.res 2
        have q3 := Holds.free HI.out.1.res 3
        clear HNO
        go_wp2
        exact rj_none rfl HI.out.1 rfl rfl
      have hch := chose_some HC.out (by omega)
      have HZ : Hid (Z = some (jobM v l M)) := by show Z = _; rw [hZ.out]; exact pick_some HRt.out hch.1
      have hl3 := hch.2
      have hMne := (choose_of hch.1).2.1
      clear hZ HC HNO hch
      have hjl := HI.out.2.1.1
      obtain ⟨q, hq⟩ : ∃ q, Hid (q = w3.heap.size) := ⟨_, rfl⟩
      have hHq := Holds.new w3 [.int .i64 0, .slice none 0 0, .slice none 0 0, .bool false] 28
      have hkq := (Kept.refl (fun _ => False) w3).alloc (.cells #[.int .i64 0, .slice none 0 0, .slice none 0 0, .bool false] 28)
      change Holds (w3.alloc (.cells #[.int .i64 0, .slice none 0 0, .slice none 0 0, .bool false] 28)) w3.heap.size [.int .i64 0, .slice none 0 0, .slice none 0 0, .bool false] 28 at hHq
      go_upto_region 23 with fail
      rw [← hq.out] at hHq ⊢
      clear hHq hkq
      have HPn := Lib.hid (PQ.new w3 l)
      have hkq := (Kept.refl (fun _ => False) w3).alloc (.cells #[.int .i64 l, .slice none 0 0, .slice none 0 0, .bool true] 28)
      have HJa : Hid (MetasW (w3.alloc (.cells #[.int .i64 l, .slice none 0 0, .slice none 0 0, .bool true] 28)) ja jl M ∧ ∀ b off sp, ja = some ⟨b, off, sp⟩ → b < q) := by
        refine ⟨metas_kept HI.out.2.1 hkq, fun b off sp hb => ?_⟩
        rcases HI.out.2.1.2 with h | ⟨b', off', h1, h2, _⟩
        · exact absurd h hMne
        · rw [h1] at hb; cases hb; rw [hq.out]; exact h2
      have HJq0 : Hid (∀ b off sp, ja = some ⟨b, off, sp⟩ → b < q) := HJa.out.2
      have hgq : g < q ∧ r < q := ⟨by have := HI.out.1.vb.box.lt; have := hq.out; omega, by have := HI.out.1.res.lt; have := hq.out; omega⟩
      have hwq : w.heap.size ≤ q := by have := HI.out.1.far; omega
      have HPB := Lib.hid (HI.out.1.quiet hkq)
      rw [← hq.out] at HPn
      have HJc : Hid (jl ≤ jc ∧ FlatV ja) := HI.out.2.2
      clear HI hkq hq
      generalize w3.alloc (.cells #[.int .i64 l, .slice none 0 0, .slice none 0 0, .bool true] 28) = wq at HPn HJa HPB ⊢
      have HP0 : Hid ((PB w wq g r ad len cap ad2 len2 cap2 v ∧ PQ wq q l none 0 0 none 0 0 true none 0 0 ((M.take 0).map (·.1)) [] (M.take 0)) ∧ Kept (fun z => q ≤ z) wq wq) := ⟨⟨HPB.out, HPn.out⟩, Kept.refl _ _⟩
      clear HPn HPB
      go_wp2
      go_loopw [11, 12] (fun x11 x12 wr => ∃ (j : Nat) (ea : Option Addr) (ec : Nat) (aa : Option Addr) (ac : Nat), j ≤ jl ∧ x11 = .slice aa j ac ∧ x12 = .int .i64 (j : Int) ∧ Hid ((PB w wr g r ad len cap ad2 len2 cap2 v ∧ PQ wr q l ea j ec none 0 0 true aa j ac ((M.take j).map (·.1)) [] (M.take j)) ∧ Kept (fun z => q ≤ z) wq wr)) (fun _ i _ => jl - (intOf i).toNat)
      case atStart => exact ⟨0, none, 0, none, 0, Nat.zero_le _, rfl, rfl, HP0⟩
      case round =>
        clear HP0
        rename World => w4
        obtain ⟨j, ea, ec, aa, ac, hj, rfl, rfl, HP⟩ := hrel
        have j0 : (0 : Int) ≤ (j : Int) := by omega
        by_cases hlj : j < jl
        case neg =>
          obtain rfl : j = jl := by omega
          have xN : ¬(j : Int) < (j : Int) := by omega
          have hP0 := HP.out
          rw [List.take_of_length_le (by omega)] at hP0
          have HJw := Lib.hid (metas_keptR HJa.out.1 hP0.2 (fun b off sp hb hz => by have := HJa.out.2 b off sp hb; omega))
          have HPw := Lib.hid hP0.1
          clear HP hP0 HJa
          have hjl2' : M.length ≤ 200 := by omega
          have hwl : IntKind.i64.wrap (l + 1) = l + 1 := IntWalk.i64_in _ (by omega)
          have hwl2 : IntKind.i64.wrap (l + 2) = l + 2 := IntWalk.i64_in _ (by omega)
          obtain ⟨d0, d1, d2⟩ := HPw.out.1.vb.cells
          have HL := Lib.hid (rLevel16N w4 ad len cap ad2 len2 cap2 v (l + 1) HPw.out.1.vb.ver (by omega))
          unfold verC at HL
          rw [← HS.out] at d2 HL
          go_wp2_with fail
          refine HL.out.mono ?_
          rintro e w5 ⟨na, nl, nc, rfl, hm, -, -, -, hno, hk⟩
          have hnl := hm.1
          have hnl2 := level_lenS HRt.out (l + 1)
          have HU : Hid (underM v l M = (levelV v (l + 1)).filter fun m => meetsM m M) := rfl
          rw [hnl] at hnl2
          obtain ⟨N, hN⟩ : ∃ N, N = levelV v (l + 1) := ⟨_, rfl⟩
          rw [← hN] at hm hnl HU
          have hP5 := HPw.out.2.quiet hk
          have HP0 : Hid ((PB w w5 g r ad len cap ad2 len2 cap2 v ∧ PQ w5 q l ea j ec none 0 0 true aa j ac (M.map (·.1)) (((N.take 0).filter fun m => meetsM m M).map (·.1)) (M ++ ((N.take 0).filter fun m => meetsM m M))) ∧ (MetasW w5 ja j M ∧ MetasW w5 na nl N) ∧ ∀ b off sp, na = some ⟨b, off, sp⟩ → b ≠ q ∧ ¬(Value.slice none 0 0).ownBlock = some b ∧ ¬(Value.slice aa j ac).ownBlock = some b) := by
            refine ⟨⟨HPw.out.1.quiet hk, by simpa using hP5⟩, ⟨metas_kept HJw.out hk, hm⟩, fun b off sp hb => ?_⟩
            have h1 := hno b off sp hb
            refine ⟨fun e => by have := HPw.out.2.box.lt; omega, fun e => (by cases e), fun e => ?_⟩
            have := (HPw.out.2.ownA.lt b e).2; omega
          have HJq : Hid (∀ b off sp, ja = some ⟨b, off, sp⟩ → b < q) := HJq0.out
          clear hm hno hk hP5 HL HPw HJw d0 d1 d2 hN
          go_wp2
          go_loopw [11, 14] (fun x11 x14 wr => ∃ (i : Nat) (eu : Option Addr) (ku cu : Nat) (aa : Option Addr) (al ac : Nat), i ≤ nl ∧ ku ≤ i ∧ al ≤ j + i ∧ x11 = .slice aa al ac ∧ x14 = .int .i64 (i : Int) ∧ Hid ((PB w wr g r ad len cap ad2 len2 cap2 v ∧ PQ wr q l ea j ec eu ku cu true aa al ac (M.map (·.1)) (((N.take i).filter fun m => meetsM m M).map (·.1)) (M ++ ((N.take i).filter fun m => meetsM m M))) ∧ (MetasW wr ja j M ∧ MetasW wr na nl N) ∧ ∀ b off sp, na = some ⟨b, off, sp⟩ → b ≠ q ∧ ¬(Value.slice eu ku cu).ownBlock = some b ∧ ¬(Value.slice aa al ac).ownBlock = some b)) (fun _ i _ => nl - (intOf i).toNat)
          case atStart => exact ⟨0, none, 0, 0, aa, j, ac, Nat.zero_le _, Nat.le_refl _, Nat.le_refl _, rfl, rfl, HP0⟩
          case round =>
            clear HP0
            rename World => w6
            obtain ⟨i, eu, ku, cu, ta, tl, tc, hi, hku, hal, rfl, rfl, HP⟩ := hrel
            have i0 : (0 : Int) ≤ (i : Int) := by omega
            by_cases hli : i < nl
            case neg =>
              obtain rfl : i = nl := by omega
              have iN : ¬(i : Int) < (i : Int) := by omega
              have hP0 := HP.out.1
              rw [List.take_of_length_le (by omega), ← HU.out] at hP0
              obtain ⟨hPB0, hPQ0⟩ := hP0
              obtain ⟨A, hA⟩ : ∃ A, A = M ++ underM v l M := ⟨_, rfl⟩
              rw [← hA] at hPQ0
              have HAo : Hid (∀ b off sp, ta = some ⟨b, off, sp⟩ → b ≠ q) := fun b off sp hb => by
                subst hb
                have := (hPQ0.ownA.lt b rfl).1; omega
              have hMA : MetasW w6 ta tl A := by
                obtain ⟨a', c', he, h1, -⟩ := owns_metas hPQ0.ownA hPQ0.lenA hPQ0.fit
                cases he; exact h1
              have HP1 : Hid (((PB w w6 g r ad len cap ad2 len2 cap2 v ∧ PQ w6 q l ea j ec eu ku cu true ta tl tc (M.map (·.1)) ((underM v l M).map (·.1)) A) ∧ MetasW w6 ta tl A) ∧ true = !overB v l A (l + 2)) := ⟨⟨⟨hPB0, hPQ0⟩, hMA⟩, by rw [over_first]; rfl⟩
              have HAe : Hid (A = M ++ underM v l M) := hA
              have htl : tl ≤ 1000 := by omega
              have hl02 : 0 ≤ l ∧ l ≤ 2 := by omega
              clear HP hPB0 hPQ0 hMA hA HU
              go_wp2
              go_loopw [16] (fun x16 wr => ∃ (nn : Int) (b : Bool), (l + 2 ≤ nn ∧ nn ≤ 4) ∧ x16 = .int .i64 nn ∧ Hid (((PB w wr g r ad len cap ad2 len2 cap2 v ∧ PQ wr q l ea j ec eu ku cu b ta tl tc (M.map (·.1)) ((underM v l M).map (·.1)) A) ∧ MetasW wr ta tl A) ∧ b = !overB v l A nn)) (fun n _ => (4 - intOf n).toNat)
              case atStart => exact ⟨l + 2, true, ⟨by omega, by omega⟩, rfl, HP1⟩
              case round =>
                clear HP1
                rename World => w7
                obtain ⟨nn, b, ⟨hn2, hn4⟩, rfl, HP⟩ := hrel
                by_cases hlt : nn < 4
                case neg =>
                  obtain rfl : nn = 4 := by omega
                  have r0 := Holds.cell HP.out.1.1.1.res 0 _ rfl
                  have r1 := Holds.cell HP.out.1.1.1.res 1 _ rfl
                  have r2 := Holds.cell HP.out.1.1.1.res 2 _ rfl
                  have r3 := Holds.cell HP.out.1.1.1.res 3 _ rfl
                  have f0 := Holds.free HP.out.1.1.1.res 0
                  have f1 := Holds.free HP.out.1.1.1.res 1
                  have f2 := Holds.free HP.out.1.1.1.res 2
                  have f3 := Holds.free HP.out.1.1.1.res 3
                  have c0 := Holds.cell HP.out.1.1.2.box 0 _ rfl
                  have c1 := Holds.cell HP.out.1.1.2.box 1 _ rfl
                  have c2 := Holds.cell HP.out.1.1.2.box 2 _ rfl
                  have c3 := Holds.cell HP.out.1.1.2.box 3 _ rfl
                  have HEnd : Hid (RjR w w7 r q l ea j ec eu ku cu b (M.map (·.1)) ((underM v l M).map (·.1))) := by
                    obtain ⟨a1, p1, h1, h2, -⟩ := owns_ints HP.out.1.1.2.ownI HP.out.1.1.2.lenI
                    cases h1
                    obtain ⟨a3, p3, h3, h4, -⟩ := owns_ints HP.out.1.1.2.ownU HP.out.1.1.2.lenU
                    cases h3
                    exact ⟨HP.out.1.1.1.vb.kept, HP.out.1.1.1.res, HP.out.1.1.1.far, h2, h4, fun b off hb => by subst hb; exact (HP.out.1.1.2.ownI.lt b rfl).1, fun b off hb => by subst hb; exact (HP.out.1.1.2.ownU.lt b rfl).1, hgq.2⟩
                  have HZ2 : Hid (Z = some (l, M.map (·.1), (underM v l M).map (·.1), b)) := by
                    show Z = _
                    rw [HZ.out, HP.out.2, HAe.out, over_all HRt.out]
                    rfl
                  clear HP HZ
                  go_wp2
                  exact HEnd.out.done HZ2.out rfl rfl
                have hwn : IntKind.i64.wrap (nn + 1) = nn + 1 := IntWalk.i64_in _ (by omega)
                obtain ⟨d0, d1, d2⟩ := HP.out.1.1.1.vb.cells
                have HL := Lib.hid (rLevel16N w7 ad len cap ad2 len2 cap2 v nn HP.out.1.1.1.vb.ver (by omega))
                unfold verC at HL
                rw [← HS.out] at d2 HL
                go_wp2_with fail
                refine HL.out.mono ?_
                rintro e w8 ⟨la, ll, lc, rfl, hm, -, -, -, hno, hk⟩
                have hll := hm.1
                obtain ⟨L, hL⟩ : ∃ L, Hid (L = levelV v nn) := ⟨_, rfl⟩
                rw [← hL.out] at hm hll
                have hll2 := level_lenS HRt.out nn
                rw [← hL.out, hll] at hll2
                have HOff : Hid (∀ b off sp, la = some ⟨b, off, sp⟩ → b ≠ q) := fun b off sp hb e => by have := hno b off sp hb; have := HP.out.1.1.2.box.lt; omega
                have HP1 : Hid (((PB w w8 g r ad len cap ad2 len2 cap2 v ∧ PQ w8 q l ea j ec eu ku cu b ta tl tc (M.map (·.1)) ((underM v l M).map (·.1)) A) ∧ (MetasW w8 ta tl A ∧ MetasW w8 la ll L)) ∧ b = !(overB v l A nn || (L.take 0).any fun m => meetsM m A)) :=
                  ⟨⟨⟨HP.out.1.1.1.quiet hk, HP.out.1.1.2.quiet hk⟩, metas_kept HP.out.1.2 hk, hm⟩, by rw [HP.out.2]; simp⟩
                clear hm hno hk HL HP d0 d1 d2
                go_wp2
                go_loopw [18] (fun x18 wr => ∃ (i : Nat) (b : Bool), i ≤ ll ∧ x18 = .int .i64 (i : Int) ∧ Hid (((PB w wr g r ad len cap ad2 len2 cap2 v ∧ PQ wr q l ea j ec eu ku cu b ta tl tc (M.map (·.1)) ((underM v l M).map (·.1)) A) ∧ (MetasW wr ta tl A ∧ MetasW wr la ll L)) ∧ b = !(overB v l A nn || (L.take i).any fun m => meetsM m A))) (fun i _ => ll - (intOf i).toNat)
                case atStart => exact ⟨0, b, Nat.zero_le _, rfl, HP1⟩
                case round =>
                  clear HP1
                  rename World => w9
                  obtain ⟨y, b2, hy, rfl, HP⟩ := hrel
                  have y0 : (0 : Int) ≤ (y : Int) := by omega
                  by_cases hly : y < ll
                  case neg =>
                    obtain rfl : y = ll := by omega
                    have yN : ¬(y : Int) < (y : Int) := by omega
                    have HN : Hid (((PB w w9 g r ad len cap ad2 len2 cap2 v ∧ PQ w9 q l ea j ec eu ku cu b2 ta tl tc (M.map (·.1)) ((underM v l M).map (·.1)) A) ∧ MetasW w9 ta tl A) ∧ b2 = !overB v l A (nn + 1)) := by
                      refine ⟨⟨HP.out.1.1, HP.out.1.2.1⟩, ?_⟩
                      rw [over_next v l A nn hn2, ← hL.out]
                      have h1 := HP.out.2
                      rwa [List.take_of_length_le (by omega)] at h1
                    clear HP
                    go_wp2
                    go_roundw
                    case rel => exact ⟨nn + 1, b2, ⟨by omega, by omega⟩, by first | rfl | go_num, HN⟩
                    case measure => simp [intOf]; omega
                  have yN : (y : Int) < (ll : Int) := by omega
                  have hwy : IntKind.i64.wrap ((y : Int) + 1) = (y : Int) + 1 := IntWalk.i64_in _ (by omega)
                  have hyL : y < L.length := by omega
                  obtain ⟨bb, off, rfl, hb, e0, e1, e2, e3, e4, hft⟩ := HP.out.1.2.2.at y hyL
                  obtain ⟨m, hm⟩ : ∃ m, Hid (m = L[y]) := ⟨L[y], rfl⟩
                  rw [← hm.out] at e0 e1 e2 e3 e4
                  have HR := Lib.hid (rMeets16 w9 m ta tl tc A HP.out.1.2.1 htl)
                  unfold metaV at HR
                  obtain ⟨mb, hmb⟩ : ∃ mb, Hid (mb = meetsM m A) := ⟨_, rfl⟩
                  rw [← hmb.out] at HR
                  have HT : Hid ((L.take (y + 1)).any (fun m => meetsM m A) = ((L.take y).any (fun m => meetsM m A) || mb)) := by show _ = _; rw [hmb.out, hm.out]; exact any_take _ hyL
                  clear hft hm hyL hmb
                  go_wp2_with fail
                  refine HR.out.mono ?_
                  rintro e w10 ⟨rfl, hk⟩
                  have hB := HP.out.1.1.1.quiet hk
                  have hQ := HP.out.1.1.2.quiet hk
                  have HN : Hid (((PB w (w10.setCell ⟨q, 3, none⟩ (.bool (b2 && !mb))) g r ad len cap ad2 len2 cap2 v ∧ PQ (w10.setCell ⟨q, 3, none⟩ (.bool (b2 && !mb))) q l ea j ec eu ku cu (b2 && !mb) ta tl tc (M.map (·.1)) ((underM v l M).map (·.1)) A) ∧ (MetasW (w10.setCell ⟨q, 3, none⟩ (.bool (b2 && !mb))) ta tl A ∧ MetasW (w10.setCell ⟨q, 3, none⟩ (.bool (b2 && !mb))) (some ⟨bb, off, none⟩) ll L)) ∧ (b2 && !mb) = !(overB v l A nn || (L.take (y + 1)).any fun m => meetsM m A)) := by
                    obtain ⟨h1, h2⟩ := hQ.setB (b2 && !mb)
                    refine ⟨⟨⟨PB.keptX H0.out hB h2 (by omega) (by omega) (fun z hz => by omega), h1⟩, metas_keptR (metas_kept HP.out.1.2.1 hk) h2 HAo.out, metas_keptR (metas_kept HP.out.1.2.2 hk) h2 HOff.out⟩, ?_⟩
                    rw [HT.out, HP.out.2]
                    cases overB v l A nn <;> cases (L.take y).any (fun m => meetsM m A) <;> cases mb <;> rfl
                  have c3 := Holds.cell hQ.box 3 _ rfl
                  have f3 := Holds.free hQ.box 3
                  clear hB hQ hk HR HP HT e0 e1 e2 e3 e4 hb
                  cases b2
                  case' true => cases mb
                  all_goals
                    go_wp2
                    go_roundw
                    case rel => exact ⟨y + 1, _, hly, by first | rfl | go_num, HN⟩
                    case measure => simp [intOf]; omega
            have iN : (i : Int) < (nl : Int) := by omega
            have hwi : IntKind.i64.wrap ((i : Int) + 1) = (i : Int) + 1 := IntWalk.i64_in _ (by omega)
            have hiN : i < N.length := by omega
            obtain ⟨b, off, rfl, hb, e0, e1, e2, e3, e4, hft⟩ := HP.out.2.1.2.at i hiN
            obtain ⟨m, hm⟩ : ∃ m, Hid (m = N[i]) := ⟨N[i], rfl⟩
            have HT : Hid ((N.take (i + 1)).filter (fun m => meetsM m M) = if meetsM m M = true then (N.take i).filter (fun m => meetsM m M) ++ [m] else (N.take i).filter fun m => meetsM m M) := by show _ = _; rw [hm.out]; exact filter_take _ hiN
            have HFt : Hid (FitMV m) := by rw [hm.out]; exact hft
            rw [← hm.out] at e0 e1 e2 e3 e4
            have HR := Lib.hid (rMeets16 w6 m ja j jc M HP.out.2.1.1 (by omega))
            unfold metaV at HR
            obtain ⟨mb, hmb⟩ : ∃ mb, mb = meetsM m M := ⟨_, rfl⟩
            rw [← hmb] at HR HT
            have HE : Hid (∀ W, Kept (fun _ => False) w6 W → W.cell? ⟨b, off + i * 5, none⟩ = some (.int .i64 m.1) ∧ W.cell? ⟨b, off + i * 5 + 1, none⟩ = some (.int .i64 m.2.1) ∧ W.cell? ⟨b, off + i * 5 + 2, none⟩ = some (.string ⟨m.2.2.1.toArray⟩) ∧ W.cell? ⟨b, off + i * 5 + 3, none⟩ = some (.string ⟨m.2.2.2.1.toArray⟩) ∧ W.cell? ⟨b, off + i * 5 + 4, none⟩ = some (.int .i64 m.2.2.2.2)) := fun W hk =>
              ⟨(hk.cell (p := ⟨b, off + i * 5, none⟩) hb (fun f => f)).trans e0, (hk.cell (p := ⟨b, off + i * 5 + 1, none⟩) hb (fun f => f)).trans e1, (hk.cell (p := ⟨b, off + i * 5 + 2, none⟩) hb (fun f => f)).trans e2, (hk.cell (p := ⟨b, off + i * 5 + 3, none⟩) hb (fun f => f)).trans e3, (hk.cell (p := ⟨b, off + i * 5 + 4, none⟩) hb (fun f => f)).trans e4⟩
            clear hft hm hiN hmb
            go_wp2_with fail
            refine HR.out.mono ?_
            rintro e w7 ⟨rfl, hk⟩
            have HB7 := Lib.hid (HP.out.1.1.quiet hk)
            have HQ7 := Lib.hid (HP.out.1.2.quiet hk)
            have HM7 := Lib.hid (And.intro (metas_kept HP.out.2.1.1 hk) (metas_kept HP.out.2.1.2 hk))
            have HO7 := Lib.hid (HP.out.2.2)
            have HE7 := Lib.hid (HE.out w7 hk)
            have hb7 : b < w7.heap.size := Nat.lt_of_lt_of_le hb hk.size
            clear hk HR HP HE e0 e1 e2 e3 e4 hb
            cases mb with
            | false =>
              have HN : Hid ((PB w w7 g r ad len cap ad2 len2 cap2 v ∧ PQ w7 q l ea j ec eu ku cu true ta tl tc (M.map (·.1)) (((N.take (i + 1)).filter fun m => meetsM m M).map (·.1)) (M ++ ((N.take (i + 1)).filter fun m => meetsM m M))) ∧ (MetasW w7 ja j M ∧ MetasW w7 (some ⟨b, off, none⟩) nl N) ∧ ∀ b' off' sp, some (⟨b, off, none⟩ : Addr) = some ⟨b', off', sp⟩ → b' ≠ q ∧ ¬(Value.slice eu ku cu).ownBlock = some b' ∧ ¬(Value.slice ta tl tc).ownBlock = some b') := by
                have h1 := HT.out
                rw [if_neg (by simp)] at h1
                exact ⟨⟨HB7.out, by rw [h1]; exact HQ7.out⟩, HM7.out, HO7.out⟩
              clear HB7 HQ7 HM7 HO7 HE7 HT
              go_wp2
              go_roundw
              case rel => exact ⟨i + 1, eu, ku, cu, ta, tl, tc, hli, by omega, by omega, rfl, by first | rfl | go_num, HN⟩
              case measure => simp [intOf]; omega
            | true =>
              have HT2 : Hid ((N.take (i + 1)).filter (fun m => meetsM m M) = (N.take i).filter (fun m => meetsM m M) ++ [m]) := by have h1 := HT.out; rwa [if_pos rfl] at h1
              clear HT
              obtain ⟨hbq, hbu, hba⟩ := HO7.out b off none rfl
              have hPd := HQ7.out.quiet (W' := w7.drew) ((Kept.refl _ w7).drewN 1)
              have hBd := HB7.out.quiet (W' := w7.drew) ((Kept.refl _ w7).drewN 1)
              have hMd : MetasW w7.drew ja j M ∧ MetasW w7.drew (some ⟨b, off, none⟩) nl N := ⟨metas_kept HM7.out.1 ((Kept.refl _ w7).drewN 1), metas_kept HM7.out.2 ((Kept.refl _ w7).drewN 1)⟩
              obtain ⟨e0', e1', e2', e3', e4'⟩ := HE7.out
              change w7.drew.cell? _ = _ at e0' e1' e2' e3' e4'
              have hbd : b < w7.drew.heap.size := hb7
              go_upto_region 35 with (fail)
              refine wp_region_until (fun W : World => W.cell? ⟨q, 2, none⟩ = some (.slice eu ku cu) ∧ W.cell? ⟨b, off + i * 5, none⟩ = some (.int .i64 m.1)) 10 (by kernel_rfl) ?_
              have hS : (fun W : World => W.cell? ⟨q, 2, none⟩ = some (.slice eu ku cu) ∧ W.cell? ⟨b, off + i * 5, none⟩ = some (.int .i64 m.1)) w7.drew := ⟨Holds.cell hPd.box 2 _ rfl, e0'⟩
              generalize w7.drew = w8 at hPd hBd hMd hS e0' e1' e2' e3' e4' hbd ⊢
              obtain ⟨a2, c2, W2, x1, x2, x3, x4, x5, x6⟩ := PQ.addU hPd m.1 (by omega)
              have hc2 : W2.cell? ⟨b, off + i * 5, none⟩ = some (.int .i64 m.1) := (cell_blk (x5 b hbd hbu).1).trans e0'
              refine wpAnyU_take (i := 0) (v := (.pointer (some ⟨q, 2, none⟩))) (some 106) rfl rfl (by kernel_rfl) (by kernel_rfl) (by kernel_rfl) (by kernel_rfl) (fun _ _ _ h => h) hS (yields_of (by kernel_rfl) (fun w hw => by go_simp)) ?_
              refine wpAnyU_take (i := 1) (v := (.slice eu ku cu)) (some 107) rfl rfl (by kernel_rfl) (by kernel_rfl) (by kernel_rfl) (by kernel_rfl) (fun _ _ _ h => h) hS (yields_of (by kernel_rfl) (fun w hw => by obtain ⟨h0, h1⟩ := hw; go_simp)) ?_
              refine wpAnyU_take (i := 2) (v := (.slice (some ⟨b, off, none⟩) nl nc)) (some 108) rfl rfl (by kernel_rfl) (by kernel_rfl) (by kernel_rfl) (by kernel_rfl) (fun _ _ _ h => h) hS (yields_of (by kernel_rfl) (fun w hw => by go_simp)) ?_
              refine wpAnyU_take (i := 3) (v := (.int .i64 (i : Int))) (some 109) rfl rfl (by kernel_rfl) (by kernel_rfl) (by kernel_rfl) (by kernel_rfl) (fun _ _ _ h => h) hS (yields_of (by kernel_rfl) (fun w hw => by go_simp)) ?_
              refine wpAnyU_take (i := 4) (v := (.pointer (some ⟨b, off + i * 5, none⟩))) (some 110) rfl rfl (by kernel_rfl) (by kernel_rfl) (by kernel_rfl) (by kernel_rfl) (fun _ _ _ h => h) hS (yields_of (by kernel_rfl) (fun w hw => by go_simp)) ?_
              refine wpAnyU_take (i := 5) (v := (.pointer (some ⟨b, off + i * 5, none⟩))) (some 111) rfl rfl (by kernel_rfl) (by kernel_rfl) (by kernel_rfl) (by kernel_rfl) (fun _ _ _ h => h) hS (yields_of (by kernel_rfl) (fun w hw => by go_simp)) ?_
              refine wpAnyU_take (i := 6) (v := (.int .i64 m.1)) (some 112) rfl rfl (by kernel_rfl) (by kernel_rfl) (by kernel_rfl) (by kernel_rfl) (fun _ _ _ h => h) hS (yields_of (by kernel_rfl) (fun w hw => by obtain ⟨h0, h1⟩ := hw; go_simp)) ?_
              refine wpAnyU_run (i := 7) (v := .slice (some ⟨w8.heap.size, 0, none⟩) 1 1) (w' := w8.alloc (.cells #[.int .i64 m.1] 3)) (some 113) rfl rfl (by kernel_rfl) (by kernel_rfl) (by kernel_rfl) (fun _ => ⟨Holds.cell (hPd.box.alloc _) 2 _ rfl, ((Kept.refl (fun _ => False) w8).alloc (.cells #[.int .i64 m.1] 3)).cell (p := ⟨b, off + i * 5, none⟩) hbd (fun f => f) |>.trans e0'⟩) ?_
              refine wpAnyU_run (i := 8) (v := .slice a2 (ku + 1) c2) (w' := W2) (some 114) rfl rfl (by kernel_rfl) (by kernel_rfl) (exec_append (s := .tmp 107) (x := .tmp 113) x1 (by rfl) (by rfl) (by kernel_rfl) (by kernel_rfl)) (fun _ => ⟨Holds.cell x2 2 _ rfl, hc2⟩) ?_
              refine wpAnyU_take (i := 9) (v := (.pointer (some ⟨q, 2, none⟩))) (some 115) rfl rfl (by kernel_rfl) (by kernel_rfl) (by kernel_rfl) (by kernel_rfl) (fun _ _ _ h => h) (show W2.cell? ⟨q, 2, none⟩ = some (.slice eu ku cu) ∧ W2.cell? ⟨b, off + i * 5, none⟩ = some (.int .i64 m.1) from ⟨Holds.cell x2 2 _ rfl, hc2⟩) (yields_of (by kernel_rfl) (fun w hw => by go_simp)) ?_
              have q1 := Holds.cell x2 2 _ rfl
              have f1 := Holds.free x2 2
              refine wpAnyU_skip (i := 10) (w' := W2.setCell ⟨q, 2, none⟩ (.slice a2 (ku + 1) c2)) none rfl rfl (by kernel_rfl) (by kernel_rfl) (by simp only [put_lit, List.set_cons_succ, List.set_cons_zero]; go_simp) (fun h => absurd h (by decide)) ?_
              refine wpAnyU_done (by kernel_rfl) ?_ _
              simp only [put_none, put_lit, List.set_cons_succ, List.set_cons_zero]
              have hbn := (x5 b hbd hbu).2 hbq
              have e0 := (cell_blk (o := off + i * 5) hbn).trans e0'
              have e1 := (cell_blk (o := off + i * 5 + 1) hbn).trans e1'
              have e2 := (cell_blk (o := off + i * 5 + 2) hbn).trans e2'
              have e3 := (cell_blk (o := off + i * 5 + 3) hbn).trans e3'
              have e4 := (cell_blk (o := off + i * 5 + 4) hbn).trans e4'
              have hsz8 : w8.heap.size ≤ (W2.setCell ⟨q, 2, none⟩ (.slice a2 (ku + 1) c2)).heap.size := x4.size
              have hB9 := PB.keptX H0.out hBd x4 (by omega) (by omega) (fun z hz => by omega)
              have hM9 := metas_keptR hMd.1 x4 (fun b off sp hb hz => by have := HJq.out b off sp hb; omega)
              have hb9 : ∀ z, (Value.slice a2 (ku + 1) c2).ownBlock = some z → z ≠ b := fun z hz e => by
                rcases x6 z hz with h | h
                · exact hbu (e ▸ h)
                · omega
              have hN9 := metas_blk hMd.2 hbd x4.size hbn
              generalize W2.setCell ⟨q, 2, none⟩ (.slice a2 (ku + 1) c2) = w9 at x3 x4 hbn e0 e1 e2 e3 e4 hB9 hM9 hN9 hsz8 ⊢
              obtain ⟨a3, c3, w10, y1, y2, y3, y4, y5⟩ := PQ.addA x3 m HFt.out (by omega)
              have hN : (PB w w10 g r ad len cap ad2 len2 cap2 v ∧ PQ w10 q l ea j ec a2 (ku + 1) c2 true a3 (tl + 1) c3 (M.map (·.1)) (((N.take (i + 1)).filter fun m => meetsM m M).map (·.1)) (M ++ ((N.take (i + 1)).filter fun m => meetsM m M))) ∧ (MetasW w10 ja j M ∧ MetasW w10 (some ⟨b, off, none⟩) nl N) ∧ ∀ b' off' sp, some (⟨b, off, none⟩ : Addr) = some ⟨b', off', sp⟩ → b' ≠ q ∧ ¬(Value.slice a2 (ku + 1) c2).ownBlock = some b' ∧ ¬(Value.slice a3 (tl + 1) c3).ownBlock = some b' := by
                refine ⟨⟨PB.keptX H0.out hB9 y3 (by omega) (by omega) (fun z hz => by omega), ?_⟩, ⟨metas_keptR hM9 y3 (fun b off sp hb hz => by have := HJq.out b off sp hb; omega), metas_blk hN9 (by omega) y3.size (y4 b (by omega) hba)⟩, fun b' off' sp hb' => ?_⟩
                · rw [HT2.out, List.map_append, ← List.append_assoc]; exact y2
                · cases hb'
                  refine ⟨hbq, fun e => hb9 b e rfl, fun e => ?_⟩
                  rcases y5 b e with h | h
                  · exact hba h
                  · omega
              have HN := Lib.hid hN
              have HY := Lib.hid y1
              clear hN y1 y2 y3 y4 y5 x1 x2 x3 x4 x5 x6 hbq hbu hba hc2 q1 f1 hbn e0' e1' e2' e3' e4' hB9 hM9 hN9 hBd hMd hPd hS hbd hb7 hb9 HB7 HQ7 HM7 HO7 HE7 HT2 HFt hsz8
              go_wp2_with (at_builtin; refine wpList_of_run rfl (some 122) rfl (exec_append (s := .tmp 116) (x := .tmp 121) HY.out (by rfl) (by rfl) (by rfl) (by rfl)) ?_)
              go_wp2
              go_roundw
              case rel => exact ⟨i + 1, a2, ku + 1, c2, a3, tl + 1, c3, hli, by omega, by omega, by first | rfl | go_num, by first | rfl | go_num, HN⟩
              case measure => simp [intOf]; omega
        have jN : (j : Int) < (jl : Int) := by omega
        have hwj : IntKind.i64.wrap ((j : Int) + 1) = (j : Int) + 1 := IntWalk.i64_in _ (by omega)
        have hjM : j < M.length := by omega
        obtain ⟨b, off, rfl, hb, e0, e1, e2, e3, e4, hft⟩ := (metas_keptR HJa.out.1 HP.out.2 (fun b off sp hb hz => by have := HJa.out.2 b off sp hb; omega)).at j hjM
        have hbq : b < q := HJa.out.2 b off none rfl
        obtain ⟨m, hm⟩ : ∃ m, Hid (m = M[j]) := ⟨M[j], rfl⟩
        have HT : Hid (M.take (j + 1) = M.take j ++ [m]) := by show _ = _; rw [hm.out]; exact List.take_succ_eq_append_getElem hjM
        have HFt : Hid (FitMV m) := by rw [hm.out]; exact hft
        rw [← hm.out] at e0 e1 e2 e3 e4
        clear hft hm hjM
        have hPd := HP.out.1.2.quiet (W' := w4.drew) ((Kept.refl _ w4).drewN 1)
        have hBd := HP.out.1.1.quiet (W' := w4.drew) ((Kept.refl _ w4).drewN 1)
        have hKd : Kept (fun z => q ≤ z) wq w4.drew := HP.out.2.drewN 1
        go_upto_region 27 with (fail)
        refine wp_region_until (fun W : World => W.cell? ⟨q, 1, none⟩ = some (.slice ea j ec) ∧ W.cell? ⟨b, off + j * 5, none⟩ = some (.int .i64 m.1)) 10 (by kernel_rfl) ?_
        have hS : (fun W : World => W.cell? ⟨q, 1, none⟩ = some (.slice ea j ec) ∧ W.cell? ⟨b, off + j * 5, none⟩ = some (.int .i64 m.1)) w4.drew := ⟨Holds.cell hPd.box 1 _ rfl, e0⟩
        have e0' : w4.drew.cell? ⟨b, off + j * 5, none⟩ = some (.int .i64 m.1) := e0
        have e1' : w4.drew.cell? ⟨b, off + j * 5 + 1, none⟩ = some (.int .i64 m.2.1) := e1
        have e2' : w4.drew.cell? ⟨b, off + j * 5 + 2, none⟩ = some (.string ⟨m.2.2.1.toArray⟩) := e2
        have e3' : w4.drew.cell? ⟨b, off + j * 5 + 3, none⟩ = some (.string ⟨m.2.2.2.1.toArray⟩) := e3
        have e4' : w4.drew.cell? ⟨b, off + j * 5 + 4, none⟩ = some (.int .i64 m.2.2.2.2) := e4
        clear e0 e1 e2 e3 e4
        have hbd : b < w4.drew.heap.size := hb
        generalize w4.drew = w5 at hPd hBd hKd hS e0' e1' e2' e3' e4' hbd ⊢
        obtain ⟨a2, c2, W2, x1, x2, x3, x4, x5⟩ := PQ.addI hPd m.1 (by omega)
        have hbo : ¬(Value.slice ea j ec).ownBlock = some b := fun e => by have := (hPd.ownI.lt b e).1; omega
        have hc2 : W2.cell? ⟨b, off + j * 5, none⟩ = some (.int .i64 m.1) := (cell_blk (x5 b hbd hbo).1).trans e0'
        refine wpAnyU_take (i := 0) (v := (.pointer (some ⟨q, 1, none⟩))) (some 72) rfl rfl (by kernel_rfl) (by kernel_rfl) (by kernel_rfl) (by kernel_rfl) (fun _ _ _ h => h) hS (yields_of (by kernel_rfl) (fun w hw => by go_simp)) ?_
        refine wpAnyU_take (i := 1) (v := (.slice ea j ec)) (some 73) rfl rfl (by kernel_rfl) (by kernel_rfl) (by kernel_rfl) (by kernel_rfl) (fun _ _ _ h => h) hS (yields_of (by kernel_rfl) (fun w hw => by obtain ⟨h0, h1⟩ := hw; go_simp)) ?_
        refine wpAnyU_take (i := 2) (v := (.slice (some ⟨b, off, none⟩) jl jc)) (some 74) rfl rfl (by kernel_rfl) (by kernel_rfl) (by kernel_rfl) (by kernel_rfl) (fun _ _ _ h => h) hS (yields_of (by kernel_rfl) (fun w hw => by go_simp)) ?_
        refine wpAnyU_take (i := 3) (v := (.int .i64 (j : Int))) (some 75) rfl rfl (by kernel_rfl) (by kernel_rfl) (by kernel_rfl) (by kernel_rfl) (fun _ _ _ h => h) hS (yields_of (by kernel_rfl) (fun w hw => by go_simp)) ?_
        refine wpAnyU_take (i := 4) (v := (.pointer (some ⟨b, off + j * 5, none⟩))) (some 76) rfl rfl (by kernel_rfl) (by kernel_rfl) (by kernel_rfl) (by kernel_rfl) (fun _ _ _ h => h) hS (yields_of (by kernel_rfl) (fun w hw => by go_simp)) ?_
        refine wpAnyU_take (i := 5) (v := (.pointer (some ⟨b, off + j * 5, none⟩))) (some 77) rfl rfl (by kernel_rfl) (by kernel_rfl) (by kernel_rfl) (by kernel_rfl) (fun _ _ _ h => h) hS (yields_of (by kernel_rfl) (fun w hw => by go_simp)) ?_
        refine wpAnyU_take (i := 6) (v := (.int .i64 m.1)) (some 78) rfl rfl (by kernel_rfl) (by kernel_rfl) (by kernel_rfl) (by kernel_rfl) (fun _ _ _ h => h) hS (yields_of (by kernel_rfl) (fun w hw => by obtain ⟨h0, h1⟩ := hw; go_simp)) ?_
        refine wpAnyU_run (i := 7) (v := .slice (some ⟨w5.heap.size, 0, none⟩) 1 1) (w' := w5.alloc (.cells #[.int .i64 m.1] 3)) (some 79) rfl rfl (by kernel_rfl) (by kernel_rfl) (by kernel_rfl) (fun _ => ⟨Holds.cell (hPd.box.alloc _) 1 _ rfl, ((Kept.refl (fun _ => False) w5).alloc (.cells #[.int .i64 m.1] 3)).cell (p := ⟨b, off + j * 5, none⟩) hbd (fun f => f) |>.trans e0'⟩) ?_
        refine wpAnyU_run (i := 8) (v := .slice a2 (j + 1) c2) (w' := W2) (some 80) rfl rfl (by kernel_rfl) (by kernel_rfl) (exec_append (s := .tmp 73) (x := .tmp 79) x1 (by rfl) (by rfl) (by kernel_rfl) (by kernel_rfl)) (fun _ => ⟨Holds.cell x2 1 _ rfl, hc2⟩) ?_
        refine wpAnyU_take (i := 9) (v := (.pointer (some ⟨q, 1, none⟩))) (some 81) rfl rfl (by kernel_rfl) (by kernel_rfl) (by kernel_rfl) (by kernel_rfl) (fun _ _ _ h => h) (show W2.cell? ⟨q, 1, none⟩ = some (.slice ea j ec) ∧ W2.cell? ⟨b, off + j * 5, none⟩ = some (.int .i64 m.1) from ⟨Holds.cell x2 1 _ rfl, hc2⟩) (yields_of (by kernel_rfl) (fun w hw => by go_simp)) ?_
        have q1 := Holds.cell x2 1 _ rfl
        have f1 := Holds.free x2 1
        refine wpAnyU_skip (i := 10) (w' := W2.setCell ⟨q, 1, none⟩ (.slice a2 (j + 1) c2)) none rfl rfl (by kernel_rfl) (by kernel_rfl) (by simp only [put_lit, List.set_cons_succ, List.set_cons_zero]; go_simp) (fun h => absurd h (by decide)) ?_
        refine wpAnyU_done (by kernel_rfl) ?_ _
        simp only [put_none, put_lit, List.set_cons_succ, List.set_cons_zero]
        have hbn := (x5 b hbd hbo).2 (by omega)
        have e0 := (cell_blk (o := off + j * 5) hbn).trans e0'
        have e1 := (cell_blk (o := off + j * 5 + 1) hbn).trans e1'
        have e2 := (cell_blk (o := off + j * 5 + 2) hbn).trans e2'
        have e3 := (cell_blk (o := off + j * 5 + 3) hbn).trans e3'
        have e4 := (cell_blk (o := off + j * 5 + 4) hbn).trans e4'
        have hB6 := PB.keptX H0.out hBd x4 (by omega) (by omega) (fun z hz => by omega)
        have hK6 := hKd.trans x4 (fun z hz => .inl hz)
        generalize W2.setCell ⟨q, 1, none⟩ (.slice a2 (j + 1) c2) = w6 at x3 x4 hbn e0 e1 e2 e3 e4 hB6 hK6 ⊢
        obtain ⟨a3, c3, w7, y1, y2, y3, y4, y5⟩ := PQ.addA x3 m HFt.out (by omega)
        have hN : (PB w w7 g r ad len cap ad2 len2 cap2 v ∧ PQ w7 q l a2 (j + 1) c2 none 0 0 true a3 (j + 1) c3 ((M.take (j + 1)).map (·.1)) [] (M.take (j + 1))) ∧ Kept (fun z => q ≤ z) wq w7 := by
          refine ⟨⟨PB.keptX H0.out hB6 y3 (by omega) (by omega) (fun z hz => by omega), ?_⟩, hK6.trans y3 (fun z hz => .inl hz)⟩
          rw [HT.out, List.map_append]; exact y2
        have HN := Lib.hid hN
        have HY := Lib.hid y1
        clear hN y1 y2 y3 y4 y5 x1 x2 x3 x4 x5 hbo hc2 q1 f1 hbn e0' e1' e2' e3' e4' hB6 hK6 hBd hKd hPd hS hbd hb HP HT HFt
        go_wp2_with (at_builtin; refine wpList_of_run rfl (some 88) rfl (exec_append (s := .tmp 82) (x := .tmp 87) HY.out (by rfl) (by rfl) (by rfl) (by rfl)) ?_)
        go_wp2
        go_roundw
        case rel => exact ⟨j + 1, a2, c2, a3, c3, hlj, by first | rfl | go_num, by first | rfl | go_num, HN⟩
        case measure => simp [intOf]; omega

end Go.Proofs.Ytgcepbpdicadnaa
