/- Pr16, FinR16. -/
import Derived.Test.YtgcepbpdicadnaaEx16
import Derived.Test.YtgcepbpdicadnaaJ15
import Derived.Deep.CutRange
import Derived.Test.YtgcepbpdicadnaaJ13

/- The law PickRest (layer 16), walked over the contracts of the program's choice and versions. -/
namespace Go.Proofs.Ytgcepbpdicadnaa
open Go.RowKit Go.Proofs Go.Proofs.Pk
set_option maxRecDepth 10000
attribute [local simp] mk_get wrap64_u8 mk_extract ByteArray.mk_append_mk get_1k

theorem level_lenR {v : VerV} (h : rightV v = true) (n : Int) : (levelV v n).length ≤ 200 := by
  have h1 := (right_ofV h).1.1
  have h2 : (levelV v n).length ≤ v.1.length := List.length_filter_le _ _
  omega

set_option maxHeartbeats 16000000 in
theorem rest16 (K : PkK) (J : VnJ) (ad : Option Addr) (len cap : Nat) (ad2 : Option Addr) (len2 cap2 : Nat) (v : VerV) (w : World) (h0 : VerW w ad len cap ad2 len2 cap2 v) :
    Calls Try.prog 6 #[verC ad len cap ad2 len2 cap2 v.2.2] w fun e w' => e = .returned (.bool true) ∧ Kept (fun _ => False) w w' := by
  have HB := Lib.hid (VBox.new (Kept.refl _ w) h0)
  obtain ⟨s, hs⟩ : ∃ s, s = v.2.2 := ⟨_, rfl⟩
  obtain ⟨rv, hrv⟩ : ∃ rv, Hid (rv = rightV v) := ⟨_, rfl⟩
  have HS := Lib.hid hs
  clear h0
  unfold verC
  rw [← hs] at HB ⊢
  clear hs
  go_enter Try.func6, Try.ntmps6
  go_upto_region 1 with fail
  obtain ⟨g, hg⟩ : ∃ g, g = w.heap.size := ⟨_, rfl⟩
  rw [← hg] at HB ⊢
  generalize w.alloc (.cells #[.slice ad len cap, .slice ad2 len2 cap2, .int .i64 s] 25) = wa at HB ⊢
  clear hg
  have HX := Lib.hid (examples16 K wa)
  go_wp2_with fail
  refine HX.out.mono ?_
  rintro e w1 ⟨rfl, hk⟩
  have HB1 := Lib.hid (HB.out.quiet hk)
  clear hk HX HB
  obtain ⟨d0, d1, d2⟩ := HB1.out.cells
  have HR := Lib.hid (K.pick w1 ad len cap ad2 len2 cap2 v HB1.out.ver)
  unfold verC at HR
  rw [← HS.out] at d2 HR
  go_wp2_with fail
  refine HR.out.mono ?_
  rintro e w2 ⟨ia, il, ic, ua, ul, uc, rfl, _, _, _, _, hk⟩
  have HB2 := Lib.hid (HB1.out.quiet hk)
  clear hk HR HB1 d0 d1 d2
  obtain ⟨jn, hjn⟩ : ∃ jn, jn = ((pickM v).getD zeroJ).1 := ⟨_, rfl⟩
  obtain ⟨jb, hjb⟩ : ∃ jb, jb = ((pickM v).getD zeroJ).2.2.2 := ⟨_, rfl⟩
  obtain ⟨ok, hok⟩ : ∃ ok, Hid (ok = (pickM v).isSome) := ⟨_, rfl⟩
  rw [← hjn, ← hjb, ← hok.out]
  unfold jobC
  clear hjn hjb
  go_upto_region 3 with fail
  change Code.wp _ _ _ _ (w2.alloc (.cells #[.int .i64 jn, .slice ia il ic, .slice ua ul uc, .bool jb] 28))
  have HB3 := Lib.hid (HB2.out.quiet ((Kept.refl _ w2).alloc (.cells #[.int .i64 jn, .slice ia il ic, .slice ua ul uc, .bool jb] 28)))
  generalize w2.alloc (.cells #[.int .i64 jn, .slice ia il ic, .slice ua ul uc, .bool jb] 28) = w3 at HB3 ⊢
  clear HB2
  obtain ⟨d0, d1, d2⟩ := HB3.out.cells
  have HR := Lib.hid (J.right w3 ad len cap ad2 len2 cap2 v HB3.out.ver)
  unfold verC at HR
  rw [← HS.out] at d2 HR
  rw [← hrv.out] at HR
  cases ok with
  | true =>
    obtain rfl : rv = true := by
      have h1 := hok.out
      obtain ⟨j, hj⟩ := Option.isSome_iff_exists.1 h1.symm
      rw [hrv.out]; exact pick_right hj
    go_wp2_with fail
    refine HR.out.mono ?_
    rintro e w4 ⟨rfl, hk⟩
    have HB4 := Lib.hid (HB3.out.quiet hk)
    clear hk HR HB3
    go_wp2
    go_ret
    exact ⟨rfl, HB4.out.kept⟩
  | false =>
    go_wp2_with fail
    refine HR.out.mono ?_
    rintro e w4 ⟨rfl, hk⟩
    have HB4 := Lib.hid (HB3.out.quiet hk)
    clear hk HR HB3 d0 d1 d2
    cases rv with
    | false =>
      go_wp2
      go_ret
      exact ⟨rfl, HB4.out.kept⟩
    | true =>
      have hpn : pickM v = none := by
        have h1 := hok.out
        cases h : pickM v with
        | none => rfl
        | some j => rw [h] at h1; cases h1
      have HP := Lib.hid (pick_none hpn hrv.out.symm)
      have HRt : Hid (rightV v = true) := hrv.out.symm
      clear hpn hok hrv
      have HL0 : Hid (VBox w w4 g ad len cap ad2 len2 cap2 v) := HB4.out
      clear HB4
      go_wp2
      go_loopw [6] (fun n wr => ∃ k : Nat, (1 ≤ k ∧ k ≤ 3) ∧ n = .int .i64 (k : Int) ∧ Hid (VBox w wr g ad len cap ad2 len2 cap2 v)) (fun n _ => 3 - (intOf n).toNat)
      case atStart => exact ⟨1, ⟨Nat.le_refl _, by omega⟩, rfl, HL0⟩
      case round =>
        rename World => w5
        obtain ⟨k, ⟨hk1, hk3⟩, rfl, hV⟩ := hrel
        clear HL0
        have k0 : (0 : Int) ≤ (k : Int) := by omega
        obtain ⟨d0, d1, d2⟩ := hV.out.cells
        rw [← HS.out] at d2
        by_cases hlt : k < 3
        case neg =>
          obtain rfl : k = 3 := by omega
          have HL := Lib.hid (J.level w5 ad len cap ad2 len2 cap2 v 0 hV.out.ver (by unfold FitV; omega))
          unfold verC at HL
          rw [← HS.out] at HL
          go_wp2_with fail
          refine HL.out.mono ?_
          rintro e w6 ⟨al, ll, cl, rfl, hm, hk⟩
          have h3 := HP.out.1
          have hl := hm.1
          have hl3 : (ll : Int) < 3 := by omega
          have HV6 := Lib.hid (hV.out.quiet hk)
          clear hk hm HL d0 d1 d2 hV h3 hl
          go_wp2
          go_ret
          exact ⟨rfl, HV6.out.kept⟩
        have kn : (k : Int) < 3 := by omega
        have hwk : IntKind.i64.wrap ((k : Int) + 1) = (k : Int) + 1 := IntWalk.i64_in _ (by omega)
        have HL := Lib.hid (J.level w5 ad len cap ad2 len2 cap2 v (k : Int) hV.out.ver (by unfold FitV; omega))
        unfold verC at HL
        rw [← HS.out] at HL
        go_wp2_with fail
        refine HL.out.mono ?_
        rintro e w6 ⟨al, ll, cl, rfl, hm, hk⟩
        have HV6 := Lib.hid (hV.out.quiet hk)
        have hl := hm.1
        have hl200 := level_lenR HRt.out (k : Int)
        have hmo : ∀ m ∈ levelV v (k : Int), metaOk m = true := level_meta HRt.out
        have hsz : sizeT (levelV v (k : Int)) ≤ limM (k : Int) := by
          have h := HP.out
          rcases (show k = 1 ∨ k = 2 by omega) with rfl | rfl
          · exact h.2.1
          · exact h.2.2
        obtain ⟨M, hM⟩ : ∃ M, M = levelV v (k : Int) := ⟨_, rfl⟩
        rw [← hM] at hm hl hl200 hmo hsz
        have HM := Lib.hid hm
        have HMo := Lib.hid hmo
        have HSz := Lib.hid hsz
        have HW6 : Hid (Kept (fun _ => False) w6 w6 ∧ (0 : Int) = sizeT (M.take 0)) := ⟨Kept.refl _ _, rfl⟩
        clear hk hm hmo hsz hM HL d0 d1 d2 hV
        go_wp2
        go_loopw [8, 9] (fun b i wr => ∃ (x : Nat) (y : Int), x ≤ ll ∧ b = .int .i64 y ∧ i = .int .i64 (x : Int) ∧ Hid (Kept (fun _ => False) w6 wr ∧ y = sizeT (M.take x))) (fun _ i _ => ll - (intOf i).toNat)
        case atStart => exact ⟨0, 0, Nat.zero_le _, rfl, rfl, HW6⟩
        case round =>
          obtain ⟨x, y, hx, rfl, rfl, hY⟩ := hrel
          clear HW6
          have x0 : (0 : Int) ≤ (x : Int) := by omega
          by_cases hlx : x < ll
          case neg =>
            obtain rfl : x = ll := by omega
            have xn : ¬(x : Int) < (x : Int) := by omega
            have HLm := Lib.hid (K.limit (k : Int) wr (by unfold FitV; omega))
            have hyl : y ≤ limM (k : Int) := by
              have h1 := hY.out.2
              rw [List.take_of_length_le (by omega)] at h1
              rw [h1]; exact HSz.out
            obtain ⟨lm, hlm⟩ : ∃ lm, lm = limM (k : Int) := ⟨_, rfl⟩
            rw [← hlm] at HLm hyl
            have hyn : ¬lm < y := by omega
            have HVr := Lib.hid (HV6.out.quiet hY.out.1)
            clear hY hlm hyl
            go_wp2_with fail
            refine HLm.out.mono ?_
            rintro e w7 ⟨rfl, hk⟩
            have HV7 := Lib.hid (HVr.out.quiet hk)
            clear hk HVr HLm
            go_wp2
            go_roundw
            case rel => exact ⟨k + 1, ⟨by omega, hlt⟩, by first | rfl | go_num, HV7.out⟩
            case measure => simp [intOf]; omega
          have xn : (x : Int) < (ll : Int) := by omega
          have hwx : IntKind.i64.wrap ((x : Int) + 1) = (x : Int) + 1 := IntWalk.i64_in _ (by omega)
          have hxM : x < M.length := by omega
          obtain ⟨b, off, rfl, _, y0, y1, y2, y3, y4, _⟩ := (metas_kept HM.out hY.out.1).at x hxM
          have hst := sizeT_take hxM
          have hbd := sizeT_le HMo.out x
          have hmx := meta_of (HMo.out _ (List.getElem_mem hxM))
          obtain ⟨z, hz⟩ : ∃ z, z = M[x].2.2.2.2 := ⟨_, rfl⟩
          rw [← hz] at y4 hst hmx
          rw [← hY.out.2] at hst hbd
          have hwy : IntKind.i64.wrap (y + z) = y + z := IntWalk.i64_in _ (by omega)
          have HN : Hid (Kept (fun _ => False) w6 wr ∧ y + z = sizeT (M.take (x + 1))) := ⟨hY.out.1, hst.symm⟩
          clear hst hbd hmx hz hY y0 y1 y2 y3
          go_wp2
          go_roundw
          case rel => exact ⟨x + 1, y + z, hlx, rfl, by first | rfl | go_num, HN⟩
          case measure => simp [intOf]; omega

end Go.Proofs.Ytgcepbpdicadnaa

/- The law PickRest, in the row's form. -/
namespace Go.Proofs.Ytgcepbpdicadnaa
open Go.RowKit Go.Proofs Go.Proofs.Pk

theorem restF (K : PkK) (J : VnJ) (ad : Option Addr) (len cap : Nat) (ad2 : Option Addr) (len2 cap2 : Nat) (v : VerV) (w : World) (h0 : VerW w ad len cap ad2 len2 cap2 v) :
    Calls Try.prog 6 #[verC ad len cap ad2 len2 cap2 v.2.2] w fun e w' => e = .returned (.bool true) ∧ Below w.heap.size w w' :=
  (rest16 K J ad len cap ad2 len2 cap2 v w h0).mono fun _ _ h => below_of16 h

end Go.Proofs.Ytgcepbpdicadnaa
