/- The law MemOrder, walked over the contract of the program's table (printed by genow10.py). -/
import Derived.Test.YtlmlldcpllagbaaOw10
import Derived.Test.YtlmlldcpllagbaaEs10
import Derived.Test.YtlmlldcpllagbaaOrd2
namespace Go.Proofs.Ytlmlldcpllagbaa
open Go.RowKit Go.Proofs Go.Proofs.Pk
set_option maxRecDepth 10000
attribute [local simp] mk_get wrap64_u8 mk_extract ByteArray.mk_append_mk get_1k

set_option maxHeartbeats 8000000 in
theorem order10 {At : MmOf} (K : MmK At) (ad : Option Addr) (len cap : Nat) (l : List MEnt) (ad1 : Option Addr) (len1 cap1 : Nat) (hs1 : List Int) (ad2 : Option Addr) (len2 cap2 : Nat) (hs2 : List Int) (w : World) (h0 : EntsW w ad len l)
    (i1 : Ints w ad1 len1 hs1) (f1 : Fit64 hs1) (l1 : len1 ≤ cap1) (b1 : (len1 : Int) * 8 ≤ 140737488351232) (z1 : ad1 = none → len1 = 0 ∧ cap1 = 0)
    (i2 : Ints w ad2 len2 hs2) (f2 : Fit64 hs2) (l2 : len2 ≤ cap2) (b2 : (len2 : Int) * 8 ≤ 140737488351232) (z2 : ad2 = none → len2 = 0 ∧ cap2 = 0) :
    Calls Try.prog 5 #[.slice ad len cap, .slice ad1 len1 cap1, .slice ad2 len2 cap2] w fun e w' => e = .returned (.bool true) ∧ Below w.heap.size w w' := by
  have HE := Lib.hid (examples10 K w)
  have HA := Lib.hid h0
  have HN1 := Lib.hid (fun (W : World) (hb : Below w.heap.size w W) => Mt.new K hb i1 f1 l1 b1 z1)
  have HI2 := Lib.hid (And.intro i2 (And.intro f2 (And.intro l2 (And.intro b2 z2))))
  clear h0 i1 f1 l1 b1 z1 i2 f2 l2 b2 z2
  go_enter Try.func5, Try.ntmps5
  go_wp2_with fail
  refine HE.out.mono ?_
  clear HE
  rintro e w1 ⟨rfl, hb1⟩
  have HB1 := Lib.hid hb1
  have HN := Lib.hid (HN1.out w1 hb1)
  clear hb1 HN1
  go_wp2_with fail
  refine HN.out.mono ?_
  clear HN
  rintro e w2 ⟨ta, Xa, rfl, ha, hka, -⟩
  have hb2 : Below w.heap.size w w2 := HB1.out.trans (hka.below HB1.out.size (fun _ f => f.elim))
  have hints : Ints w2 ad2 len2 hs2 := ⟨HI2.out.1.1, HI2.out.1.2.elim .inl fun ⟨b, off, g1, g2, g3⟩ => .inr ⟨b, off, g1, Nat.lt_of_lt_of_le g2 hb2.size, fun i hi => (hb2.cell (p := ⟨b, off + i, none⟩) g2).trans (g3 i hi)⟩⟩
  have HN := Lib.hid (K.new w2 w1.heap.size ad2 len2 cap2 hs2 ha.below.size hints HI2.out.2.1 HI2.out.2.2.1 HI2.out.2.2.2.1 HI2.out.2.2.2.2)
  have H2 := Lib.hid ha
  clear ha hka hb2 hints HI2
  go_wp2_with fail
  refine HN.out.mono ?_
  clear HN
  rintro e w3 ⟨tb, Xb, rfl, hb, hxb, hkb⟩
  have ha3 := H2.out.still K hkb
  have HAB := Lib.hid (And.intro ha3 (And.intro (Mt.mk (At := At) hb ha3.below) (fun k (hx : Xa k) (hy : Xb k) => by have := (K.lt H2.out.sk k hx).2; have := hxb k hy; omega : ∀ k, Xa k → ¬Xb k)))
  have HRt := Lib.hid (right10 w3 ad len cap l 60 (by omega) (fun i hi => by
    obtain ⟨b, off, e1, e2, e3, e4, e5⟩ := entsW_S HA.out i hi
    exact ⟨b, off, e1, l[i], e4, fun w' hk => e5 w' (HB1.out.trans ((ha3.below.trans (hk.below ha3.below.size (fun _ f => f.elim))).mono HB1.out.size))⟩))
  clear hb hxb hkb ha3 H2
  go_wp2_with fail
  refine HRt.out.mono ?_
  clear HRt
  rintro e w4 ⟨v0, rfl, ⟨L, hL, hL60, hLr⟩, hk4⟩
  obtain ⟨ad0, cap0, rfl⟩ := owns_slice hL
  have HOw : Hid (∃ Ta Xa, Ow At w1 w4 ta tb (.slice ad0 L.length cap0) L Ta [] Xa Xb ∧ Ta.length ≤ 0) := by
    refine ⟨[], Xa, ⟨HAB.out.1.still K hk4, HAB.out.2.1.still K hk4, owns_base hL HAB.out.1.below.size, fun k hb hx => ?_, fun k hb hx => ?_, HAB.out.2.2⟩, Nat.le_refl _⟩
    · have h1 := (hL.lt k hb).1
      have h2 := (K.lt HAB.out.1.sk k hx).2
      omega
    · have h1 := (hL.lt k hb).1
      have h2 := (K.lt HAB.out.2.1.sk k hx).2
      omega
  have HLr := Lib.hid hLr
  obtain ⟨N, hN⟩ : ∃ N, Hid (N = L.length) := ⟨_, rfl⟩
  have hN60 : N ≤ 60 := by rw [hN.out]; exact hL60
  rw [← hN.out] at HOw ⊢
  clear hL hLr hk4 HAB hL60
  go_wp2
  go_loopw [10] (fun i wr => ∃ j : Nat, j ≤ N ∧ i = .int .i64 (j : Int) ∧ Hid (∃ Ta Xa, Ow At w1 wr ta tb (.slice ad0 N cap0) L Ta [] Xa Xb ∧ Ta.length ≤ j)) (fun i _ => N - (intOf i).toNat)
  case atStart => exact ⟨0, Nat.zero_le _, rfl, HOw⟩
  case round =>
    obtain ⟨j, hj, rfl, hI⟩ := hrel
    clear HOw
    obtain ⟨Ta, Xa, hOw, hTl⟩ := hI.out
    have j0 : (0 : Int) ≤ (j : Int) := by omega
    have hwj : IntKind.i64.wrap ((j : Int) + 1) = (j : Int) + 1 := IntWalk.i64_in _ (by omega)
    by_cases hlt : j < N
    · have hjL : j < L.length := by rw [← hN.out]; exact hlt
      obtain ⟨g, cap', hv, hg, c5, c0, c1, c2, c3⟩ := owns_S hOw.row j hjL
      have hfx := right_fit (HLr.out L[j] (List.getElem_mem hjL))
      obtain ⟨x, hx⟩ : ∃ x, x = L[j] := ⟨_, rfl⟩
      rw [← hx] at c0 c1 c2 c3 hfx
      obtain rfl : ad0 = some ⟨g, 0, none⟩ := by injection hv
      have k1 : (j : Int) < (N : Int) := by omega
      have hPt := Lib.hid (hOw.putA K (by omega) x hfx)
      have HTl := Lib.hid hTl
      clear hI hOw hTl c5 hg hx hjL hv
      go_wp2_with fail
      refine hPt.out.mono ?_
      clear hPt
      rintro e w5 ⟨rfl, X5, h5⟩
      have HI2 : Hid (∃ Ta Xa, Ow At w1 w5 ta tb (.slice (some ⟨g, 0, none⟩) N cap0) L Ta [] Xa Xb ∧ Ta.length ≤ j + 1) := ⟨_, X5, h5, put_len_le Ta x HTl.out⟩
      clear h5 c0 c1 c2 c3
      go_wp2
      go_roundw
      case rel => exact ⟨j + 1, by omega, by first | rfl | go_num, HI2⟩
      case measure => simp [intOf]; omega
    · have k1 : ¬(j : Int) < (N : Int) := by omega
      have HAl := Lib.hid (K.all hOw.a.sk (by omega))
      have HOw := Lib.hid hOw
      have HTl : Hid (Ta.length ≤ 60) := by show _ ≤ _; omega
      clear hI hOw hTl hwj j0
      go_wp2_with fail
      refine HAl.out.mono ?_
      clear HAl
      rintro e w5 ⟨v, rfl, hv5, hk5⟩
      have hO5 := (HOw.out.still K hk5).rowOf K hv5 HOw.out
      obtain ⟨adV, capV, rfl⟩ := owns_slice hv5
      have hokT := K.ok hO5.a.sk
      obtain ⟨M, hM⟩ : ∃ M, Hid (M = Ta.length) := ⟨_, rfl⟩
      have hM60 : M ≤ 60 := by rw [hM.out]; exact HTl.out
      have HO5 : Hid (∃ Tb Xb, Ow At w1 w5 ta tb (.slice adV Ta.length capV) Ta Ta Tb Xa Xb ∧ Tb = Ta.drop M) := ⟨[], Xb, hO5, by rw [hM.out, List.drop_length]⟩
      have HOk := Lib.hid hokT
      rw [← hM.out] at HO5 ⊢
      have hwM : IntKind.i64.wrap ((M : Int) - 1) = (M : Int) - 1 := IntWalk.i64_in _ (by omega)
      clear hO5 hv5 hk5 HOw hokT k1 hlt hj
      go_wp2
      go_loopw [12] (fun i wr => ∃ (j : Nat) (z : Int), j ≤ M ∧ z = (j : Int) - 1 ∧ i = .int .i64 z ∧ Hid (∃ Tb Xb, Ow At w1 wr ta tb (.slice adV M capV) Ta Ta Tb Xa Xb ∧ Tb = Ta.drop j)) (fun i _ => (intOf i + 1).toNat)
      case atStart => exact ⟨M, (M : Int) - 1, Nat.le_refl _, rfl, rfl, HO5⟩
      case round =>
        obtain ⟨j, z, hj, hz, rfl, hI⟩ := hrel
        clear HO5 hwM
        obtain ⟨Tb, Xb, hOw, hTb⟩ := hI.out
        cases j with
        | succ m =>
          obtain rfl : z = (m : Int) := by omega
          clear hz
          have hmT : m < Ta.length := by rw [← hM.out]; omega
          obtain ⟨g, cap', hv, hg, c5, c0, c1, c2, c3⟩ := owns_S hOw.row m hmT
          have hfx := right_fit (HOk.out.right Ta[m] (List.getElem_mem hmT))
          obtain ⟨hp1, hp2⟩ := put_front HOk.out hmT
          obtain ⟨x, hx⟩ : ∃ x, x = Ta[m] := ⟨_, rfl⟩
          rw [← hx] at c0 c1 c2 c3 hfx hp1 hp2
          obtain rfl : adV = some ⟨g, 0, none⟩ := by injection hv
          have k1 : (0 : Int) ≤ (m : Int) := by omega
          have k2 : (m : Int) < (M : Int) := by omega
          have hwm : IntKind.i64.wrap ((m : Int) - 1) = (m : Int) - 1 := IntWalk.i64_in _ (by omega)
          have hPt := hOw.putB K (by rw [hTb, List.length_drop]; have := HTl.out; omega) x hfx
          rw [hTb, hp1, hp2, show errV 55 0 = .nilIface from rfl] at hPt
          have HPt := Lib.hid hPt
          clear hI hOw hTb c5 hg hx hv hPt hp1 hp2 hmT
          go_wp2_with fail
          refine HPt.out.mono ?_
          clear HPt
          rintro e w6 ⟨rfl, X6, h6⟩
          have HI2 : Hid (∃ Tb Xb, Ow At w1 w6 ta tb (.slice (some ⟨g, 0, none⟩) M capV) Ta Ta Tb Xa Xb ∧ Tb = Ta.drop m) := ⟨_, X6, h6, rfl⟩
          clear h6 c0 c1 c2 c3
          go_wp2
          go_roundw
          case rel => exact ⟨m, (m : Int) - 1, by omega, rfl, by first | rfl | go_num, HI2⟩
          case measure => first | (simp [intOf]; done) | (simp [intOf]; omega)
        | zero =>
          obtain rfl : z = -1 := by omega
          clear hz
          rw [List.drop_zero] at hTb
          rw [hTb] at hOw
          clear hTb
          have k1 : ¬(0 : Int) ≤ -1 := by omega
          have HAl := Lib.hid (K.all hOw.b.sk (by have := HTl.out; omega))
          have HOw := Lib.hid hOw
          clear hI hOw
          go_wp2_with fail
          refine HAl.out.mono ?_
          clear HAl
          rintro e w6 ⟨v, rfl, hv6, hk6⟩
          obtain ⟨adU, capU, rfl⟩ := owns_slice hv6
          have hO6 := HOw.out.still K hk6
          have hr1 := hO6.row
          rw [hM.out] at hr1
          have HEs := Lib.hid (entsSame w6 adV adU Ta.length capV capU Ta (owns_rows hr1) (owns_rows hv6) (by have := HTl.out; omega))
          have HO6 := Lib.hid hO6
          rw [← hM.out] at HEs ⊢
          clear hr1 hv6 hk6 hO6 HOw
          go_wp2_with fail
          refine HEs.out.mono ?_
          clear HEs
          rintro e w7 ⟨rfl, hk7⟩
          have HO7 := Lib.hid (HO6.out.still K hk7)
          obtain ⟨wp, hwp⟩ : ∃ wp, wp = w7 := ⟨_, rfl⟩
          rw [← hwp] at HO7 ⊢
          have HK0 : Hid (Kept (fun _ => False) wp wp) := Kept.refl _ _
          clear hwp hk7 HO6
          go_wp2
          go_loopw [14] (fun i wr => ∃ (j m : Nat), j ≤ M ∧ m = j + 1 ∧ i = .int .i64 (m : Int) ∧ Hid (Kept (fun _ => False) wp wr)) (fun i _ => M + 1 - (intOf i).toNat)
          case atStart => exact ⟨0, 1, Nat.zero_le _, rfl, rfl, HK0⟩
          case round =>
            obtain ⟨j, m, hj, hm, rfl, hK⟩ := hrel
            clear HK0
            have j0 : (0 : Int) ≤ (j : Int) := by omega
            have m0 : (0 : Int) ≤ (m : Int) := by omega
            have hwm : IntKind.i64.wrap ((m : Int) + 1) = (m : Int) + 1 := IntWalk.i64_in _ (by omega)
            by_cases hlt : m < M
            · have hmT : m < Ta.length := by rw [← hM.out]; exact hlt
              have hjT : j < Ta.length := by omega
              have hOr := HO7.out.still K hK.out
              obtain ⟨g, cap', hv, hg, sx⟩ := owns_S hOr.row m hmT
              obtain ⟨g', cap'', hv', _, sy⟩ := owns_S hOr.row j hjT
              obtain rfl : adV = some ⟨g, 0, none⟩ := by injection hv
              obtain rfl : g = g' := by injection hv' with h _ _; injection h with h; injection h
              have hbf := HOk.out.bef (show j < m by omega) hmT
              have hfx := right_fit (HOk.out.right Ta[m] (List.getElem_mem hmT))
              have hfy := right_fit (HOk.out.right Ta[j] (List.getElem_mem hjT))
              generalize Ta[m] = x at sx hbf hfx
              generalize Ta[j] = y at sy hbf hfy
              have hfb := bef_anti hbf
              have HSF : Hid (∀ W, Kept (fun _ => False) wr W → SEnt g (j * 4) y W ∧ SEnt g (m * 4) x W) := fun W hk => ⟨sy.kept hk hg, sx.kept hk hg⟩
              have HB1' : Hid (∀ W, Kept (fun _ => False) wr W → Calls Try.prog 14 #[.agg (entC y).toArray, .agg (entC x).toArray] W fun r w' => r = .returned (.bool true) ∧ Kept (fun _ => False) W w') := fun W _ => by
                have := K.before y x W hfy hfx
                rw [hbf] at this; exact this
              have HB2' : Hid (∀ W, Kept (fun _ => False) wr W → Calls Try.prog 14 #[.agg (entC x).toArray, .agg (entC y).toArray] W fun r w' => r = .returned (.bool false) ∧ Kept (fun _ => False) W w') := fun W _ => by
                have := K.before x y W hfx hfy
                rw [hfb] at this; exact this
              have k1 : (m : Int) < (M : Int) := by omega
              have k2 : (j : Int) < (M : Int) := by omega
              have hmj : IntKind.i64.wrap ((m : Int) - 1) = (j : Int) := by rw [IntWalk.i64_in _ (by omega)]; omega
              have HM := Lib.hid hm
              clear hm hv hv' hg sx sy hbf hfb hfx hfy hOr hmT hjT
              go_upto_region 21 with (fail)
              have HKA0 : Hid (Kept (fun _ => False) wr wr.drew) := (Kept.refl _ wr).drewN 1
              have hS := HSF.out _ HKA0.out
              refine wp_region_until (fun W => SEnt g (j * 4) y W ∧ SEnt g (m * 4) x W) 23 (by kernel_rfl) ?_
              refine wpAnyU_take (i := 0) (v := (.slice (some ⟨g, 0, none⟩) M capV)) (some 66) rfl rfl (by kernel_rfl) (by kernel_rfl) (by kernel_rfl) (by kernel_rfl) (fun _ _ _ h => h) hS (yields_of (by kernel_rfl) (fun w ⟨⟨hr, h0, h1, h2, h3⟩, ⟨gr, g0, g1, g2, g3⟩⟩ => by go_simp)) ?_
              refine wpAnyU_take (i := 1) (v := (.int .i64 (m : Int))) (some 67) rfl rfl (by kernel_rfl) (by kernel_rfl) (by kernel_rfl) (by kernel_rfl) (fun _ _ _ h => h) hS (yields_of (by kernel_rfl) (fun w ⟨⟨hr, h0, h1, h2, h3⟩, ⟨gr, g0, g1, g2, g3⟩⟩ => by go_simp)) ?_
              refine wpAnyU_take (i := 2) (v := (.int .i64 (j : Int))) (some 68) rfl rfl (by kernel_rfl) (by kernel_rfl) (by kernel_rfl) (by kernel_rfl) (fun _ _ _ h => h) hS (yields_of (by kernel_rfl) (fun w ⟨⟨hr, h0, h1, h2, h3⟩, ⟨gr, g0, g1, g2, g3⟩⟩ => by go_simp)) ?_
              refine wpAnyU_take (i := 3) (v := (.pointer (some ⟨g, j * 4, none⟩))) (some 69) rfl rfl (by kernel_rfl) (by kernel_rfl) (by kernel_rfl) (by kernel_rfl) (fun _ _ _ h => h) hS (yields_of (by kernel_rfl) (fun w ⟨⟨hr, h0, h1, h2, h3⟩, ⟨gr, g0, g1, g2, g3⟩⟩ => by go_simp)) ?_
              refine wpAnyU_take (i := 4) (v := (.agg (entC y).toArray)) (some 70) rfl rfl (by kernel_rfl) (by kernel_rfl) (by kernel_rfl) (by kernel_rfl) (fun _ _ _ h => h) hS (yieldsIf_load_mid (by kernel_rfl) 34 (.tmp 69) rfl g (j * 4) (by kernel_rfl) (entC y) _ (fun w hw => hw.1.1) Try.underlying34 rfl (by rw [ent_size]; rfl)) ?_
              refine wpAnyU_take (i := 5) (v := (.slice (some ⟨g, 0, none⟩) M capV)) (some 71) rfl rfl (by kernel_rfl) (by kernel_rfl) (by kernel_rfl) (by kernel_rfl) (fun _ _ _ h => h) hS (yields_of (by kernel_rfl) (fun w ⟨⟨hr, h0, h1, h2, h3⟩, ⟨gr, g0, g1, g2, g3⟩⟩ => by go_simp)) ?_
              refine wpAnyU_take (i := 6) (v := (.int .i64 (m : Int))) (some 72) rfl rfl (by kernel_rfl) (by kernel_rfl) (by kernel_rfl) (by kernel_rfl) (fun _ _ _ h => h) hS (yields_of (by kernel_rfl) (fun w ⟨⟨hr, h0, h1, h2, h3⟩, ⟨gr, g0, g1, g2, g3⟩⟩ => by go_simp)) ?_
              refine wpAnyU_take (i := 7) (v := (.pointer (some ⟨g, m * 4, none⟩))) (some 73) rfl rfl (by kernel_rfl) (by kernel_rfl) (by kernel_rfl) (by kernel_rfl) (fun _ _ _ h => h) hS (yields_of (by kernel_rfl) (fun w ⟨⟨hr, h0, h1, h2, h3⟩, ⟨gr, g0, g1, g2, g3⟩⟩ => by go_simp)) ?_
              refine wpAnyU_take (i := 8) (v := (.agg (entC x).toArray)) (some 74) rfl rfl (by kernel_rfl) (by kernel_rfl) (by kernel_rfl) (by kernel_rfl) (fun _ _ _ h => h) hS (yieldsIf_load_mid (by kernel_rfl) 34 (.tmp 73) rfl g (m * 4) (by kernel_rfl) (entC x) _ (fun w hw => hw.2.1) Try.underlying34 rfl (by rw [ent_size]; rfl)) ?_
              refine wpAnyU_call (i := 9) (f := 14) (args := #[(.agg (entC y).toArray), (.agg (entC x).toArray)]) (some 75) rfl rfl (by kernel_rfl) (by kernel_rfl) (by kernel_rfl) ?_
              refine (HB1'.out _ HKA0.out).mono ?_
              rintro e wq0 ⟨rfl, hq0⟩
              have HKA1 := Lib.hid (HKA0.out.trans hq0 (fun _ hf => hf.elim))
              clear hq0 hS
              have hS := HSF.out _ HKA1.out
              refine ⟨_, rfl, fun _ => hS, ?_⟩
              refine wpAnyU_take (i := 10) (v := (.bool false)) (some 76) rfl rfl (by kernel_rfl) (by kernel_rfl) (by kernel_rfl) (by kernel_rfl) (fun _ _ _ h => h) hS (yields_of (by kernel_rfl) (fun w ⟨⟨hr, h0, h1, h2, h3⟩, ⟨gr, g0, g1, g2, g3⟩⟩ => by go_simp)) ?_
              refine wpAnyU_take (i := 11) (v := (.bool false)) (some 77) rfl rfl (by kernel_rfl) (by kernel_rfl) (by kernel_rfl) (by kernel_rfl) (fun _ _ _ h => h) hS (yields_of (by kernel_rfl) (fun w ⟨⟨hr, h0, h1, h2, h3⟩, ⟨gr, g0, g1, g2, g3⟩⟩ => by go_simp)) ?_
              refine wpAnyU_take (i := 12) (v := (.slice (some ⟨g, 0, none⟩) M capV)) (some 78) rfl rfl (by kernel_rfl) (by kernel_rfl) (by kernel_rfl) (by kernel_rfl) (fun _ _ _ h => h) hS (yields_of (by kernel_rfl) (fun w ⟨⟨hr, h0, h1, h2, h3⟩, ⟨gr, g0, g1, g2, g3⟩⟩ => by go_simp)) ?_
              refine wpAnyU_take (i := 13) (v := (.int .i64 (m : Int))) (some 79) rfl rfl (by kernel_rfl) (by kernel_rfl) (by kernel_rfl) (by kernel_rfl) (fun _ _ _ h => h) hS (yields_of (by kernel_rfl) (fun w ⟨⟨hr, h0, h1, h2, h3⟩, ⟨gr, g0, g1, g2, g3⟩⟩ => by go_simp)) ?_
              refine wpAnyU_take (i := 14) (v := (.pointer (some ⟨g, m * 4, none⟩))) (some 80) rfl rfl (by kernel_rfl) (by kernel_rfl) (by kernel_rfl) (by kernel_rfl) (fun _ _ _ h => h) hS (yields_of (by kernel_rfl) (fun w ⟨⟨hr, h0, h1, h2, h3⟩, ⟨gr, g0, g1, g2, g3⟩⟩ => by go_simp)) ?_
              refine wpAnyU_take (i := 15) (v := (.agg (entC x).toArray)) (some 81) rfl rfl (by kernel_rfl) (by kernel_rfl) (by kernel_rfl) (by kernel_rfl) (fun _ _ _ h => h) hS (yieldsIf_load_mid (by kernel_rfl) 34 (.tmp 80) rfl g (m * 4) (by kernel_rfl) (entC x) _ (fun w hw => hw.2.1) Try.underlying34 rfl (by rw [ent_size]; rfl)) ?_
              refine wpAnyU_take (i := 16) (v := (.slice (some ⟨g, 0, none⟩) M capV)) (some 82) rfl rfl (by kernel_rfl) (by kernel_rfl) (by kernel_rfl) (by kernel_rfl) (fun _ _ _ h => h) hS (yields_of (by kernel_rfl) (fun w ⟨⟨hr, h0, h1, h2, h3⟩, ⟨gr, g0, g1, g2, g3⟩⟩ => by go_simp)) ?_
              refine wpAnyU_take (i := 17) (v := (.int .i64 (m : Int))) (some 83) rfl rfl (by kernel_rfl) (by kernel_rfl) (by kernel_rfl) (by kernel_rfl) (fun _ _ _ h => h) hS (yields_of (by kernel_rfl) (fun w ⟨⟨hr, h0, h1, h2, h3⟩, ⟨gr, g0, g1, g2, g3⟩⟩ => by go_simp)) ?_
              refine wpAnyU_take (i := 18) (v := (.int .i64 (j : Int))) (some 84) rfl rfl (by kernel_rfl) (by kernel_rfl) (by kernel_rfl) (by kernel_rfl) (fun _ _ _ h => h) hS (yields_of (by kernel_rfl) (fun w ⟨⟨hr, h0, h1, h2, h3⟩, ⟨gr, g0, g1, g2, g3⟩⟩ => by go_simp)) ?_
              refine wpAnyU_take (i := 19) (v := (.pointer (some ⟨g, j * 4, none⟩))) (some 85) rfl rfl (by kernel_rfl) (by kernel_rfl) (by kernel_rfl) (by kernel_rfl) (fun _ _ _ h => h) hS (yields_of (by kernel_rfl) (fun w ⟨⟨hr, h0, h1, h2, h3⟩, ⟨gr, g0, g1, g2, g3⟩⟩ => by go_simp)) ?_
              refine wpAnyU_take (i := 20) (v := (.agg (entC y).toArray)) (some 86) rfl rfl (by kernel_rfl) (by kernel_rfl) (by kernel_rfl) (by kernel_rfl) (fun _ _ _ h => h) hS (yieldsIf_load_mid (by kernel_rfl) 34 (.tmp 85) rfl g (j * 4) (by kernel_rfl) (entC y) _ (fun w hw => hw.1.1) Try.underlying34 rfl (by rw [ent_size]; rfl)) ?_
              refine wpAnyU_call (i := 21) (f := 14) (args := #[(.agg (entC x).toArray), (.agg (entC y).toArray)]) (some 87) rfl rfl (by kernel_rfl) (by kernel_rfl) (by kernel_rfl) ?_
              refine (HB2'.out _ HKA1.out).mono ?_
              rintro e wq1 ⟨rfl, hq1⟩
              have HKA2 := Lib.hid (HKA1.out.trans hq1 (fun _ hf => hf.elim))
              clear hq1 hS
              have hS := HSF.out _ HKA2.out
              refine ⟨_, rfl, fun _ => hS, ?_⟩
              refine wpAnyU_take (i := 22) (v := (.bool false)) (some 88) rfl rfl (by kernel_rfl) (by kernel_rfl) (by kernel_rfl) (by kernel_rfl) (fun _ _ _ h => h) hS (yields_of (by kernel_rfl) (fun w ⟨⟨hr, h0, h1, h2, h3⟩, ⟨gr, g0, g1, g2, g3⟩⟩ => by go_simp)) ?_
              refine wpAnyU_done (by kernel_rfl) ?_ _
              simp only [put_lit, List.set_cons_succ, List.set_cons_zero]
              clear hS
              have HK2 : Hid (Kept (fun _ => False) wp wq1) := hK.out.trans HKA2.out (fun _ hf => hf.elim)
              go_wp2
              go_roundw
              case rel => exact ⟨j + 1, m + 1, by have := HM.out; omega, by have := HM.out; omega, by first | rfl | go_num, HK2⟩
              case measure => simp [intOf]; omega
            · have k1 : ¬(m : Int) < (M : Int) := by omega
              clear hm
              have hOr := HO7.out.still K hK.out
              have HS1 := Lib.hid (K.size hOr.a.sk (by have := HTl.out; omega))
              have HOr := Lib.hid hOr
              clear hOr
              go_wp2_with fail
              refine HS1.out.mono ?_
              clear HS1
              rintro e w8 ⟨rfl, hk8⟩
              have hO8 := HOr.out.still K hk8
              have HS2 := Lib.hid (K.size hO8.b.sk (by have := HTl.out; omega))
              have HO8 := Lib.hid hO8
              clear hO8 hk8
              go_wp2_with fail
              refine HS2.out.mono ?_
              clear HS2
              rintro e w9 ⟨rfl, hk9⟩
              have HF := Lib.hid (HB1.out.trans ((HO8.out.still K hk9).a.below.mono HB1.out.size))
              clear hk9
              go_wp2
              go_ret
              exact ⟨rfl, HF.out⟩

end Go.Proofs.Ytlmlldcpllagbaa
