/- RootBytes walked: any root is right, and written, and any bytes are read as one, as the chapter says. -/
import Derived.Test.YtbfdhonmmoikdaaEx6
import Derived.Test.YtbfdhonmmoikdaaSame
import Derived.Test.YtbfdhonmmoikdaaRtB
import Derived.Test.YtbfdhonmmoikdaaOpenF
import Derived.Test.YtbfdhonmmoikdaaOrd
import Derived.BigQuiet
namespace Go.Proofs.Ytbfdhonmmoikdaa
open Go.RowKit Go.Proofs Go.Proofs.Pk
set_option maxRecDepth 10000
attribute [local simp] mk_get wrap64_u8 mk_extract ByteArray.mk_append_mk get_1k

theorem dec_none {T : Int} {b : List UInt8} (h : (decV T b).2 ≠ 0) : (decV T b).1 = rootZ := by
  have hd : ∀ x, decV T b = x → x.2 ≠ 0 → x.1 = rootZ := by
    intro x hx h0
    unfold decV at hx
    split at hx
    · subst hx; rfl
    · simp only at hx
      repeat' split at hx
      all_goals
        subst hx
        first | rfl | exact absurd rfl h0
  exact hd _ rfl h
theorem dec_fit {T : Int} {b : List UInt8} : (decV T b).1.2.2.2.length ≤ 24 ∧ ∀ f ∈ (decV T b).1.2.2.2, FitF (fileI f) := by
  by_cases h : (decV T b).2 = 0
  · obtain ⟨h1, _⟩ := dec_back h
    obtain ⟨_, _, _, h4, h5⟩ := right_small h1
    exact ⟨h4, fun f hf => by
      have := h5 f hf
      exact ⟨fit_nat this.1, fit_nat (by unfold MaxN; omega), fit_nat (by unfold MaxN; omega)⟩⟩
  · rw [dec_none h]; exact ⟨by simp [rootZ], fun f hf => by simp [rootZ] at hf⟩

set_option maxHeartbeats 2000000 in
theorem sBytes (T seq next cur : Int) (ad : Option Addr) (len cap : Nat) (l : List FileV) (b : List UInt8) (W : World) (ht : -9223372036854775808 ≤ T ∧ T ≤ 9223372036854775807) (hF : Files W ad len l)
    (hb : Fit seq ∧ Fit next ∧ Fit cur ∧ Flat ad ∧ len ≤ cap ∧ (ad = none → cap = 0) ∧ (len : Int) * 24 ≤ 140737488351232) (hbl : (b.length : Int) ≤ 140737488351232) :
    Calls Try.prog 3 #[.int .i64 T, .agg #[.int .i64 seq, .int .i64 next, .int .i64 cur, .slice ad len cap], .string ⟨b.toArray⟩] W fun e w' => e = .returned (.bool true) ∧ Below W.heap.size W w' := by
  have HX := Holds.new W [.int .i64 seq, .int .i64 next, .int .i64 cur, .slice ad len cap] 24
  have HB0 := Lib.hid ((Below.refl W.heap.size W).alloc (Nat.le_refl _) (.cells #[.int .i64 seq, .int .i64 next, .int .i64 cur, .slice ad len cap] 24))
  change Holds (W.alloc (.cells #[.int .i64 seq, .int .i64 next, .int .i64 cur, .slice ad len cap] 24)) _ _ _ at HX
  have HF0 := Lib.hid (hF.below HB0.out)
  have HEx := Lib.hid examples_any
  have HRP := Lib.hid (fun (w : World) (h : Files w ad len l) => pRightR T seq next cur ad len cap l w ht h)
  have HRR := Lib.hid (fun (w : World) (h : Files w ad len l) => r6Right T seq next cur ad len cap l w ht h)
  have hEE : ∃ (A : List UInt8) (E : Nat) (ok : Bool), (ok = true ∧ E = 0 ∨ ok = false ∧ E = 1) ∧
      Hid (∀ (w : World), Files w ad len l → Calls Try.prog 10 #[.int .i64 T, .agg #[.int .i64 seq, .int .i64 next, .int .i64 cur, .slice ad len cap]] w fun e w' => e = .returned (.tuple #[.string ⟨A.toArray⟩, errV 54 E]) ∧ Below w.heap.size w w') ∧
      Hid (∀ (w : World), Files w ad len l → Calls Try.prog 11 #[.int .i64 T, .agg #[.int .i64 seq, .int .i64 next, .int .i64 cur, .slice ad len cap]] w fun e w' => e = .returned (.tuple #[.string ⟨A.toArray⟩, .bool ok]) ∧ Below w.heap.size w w') := by
    cases hr : rightV T seq next cur l with
    | true =>
      obtain ⟨s, n, c, fs, rfl, rfl, rfl, rfl, q1, q2, q3, q4, q5⟩ := right_nat hr
      exact ⟨rootB s n c fs, 0, true, .inl ⟨rfl, rfl⟩, fun w h => pEncode_ok T s n c fs ad len cap w ht h hr, fun w h => (r6Encode T s n c ad len cap _ w ht h).2 s n c fs hr rfl rfl rfl rfl q1 q2 q3 q4 q5⟩
    | false => exact ⟨[], 1, false, .inr ⟨rfl, rfl⟩, fun w h => pEncode_no T seq next cur ad len cap l w ht h hr, fun w h => (r6Encode T seq next cur ad len cap l w ht h).1 hr⟩
  obtain ⟨A, E, ok, hEo, HEP, HER⟩ := hEE
  generalize rightV T seq next cur l = rv at HRP HRR
  have HDP := Lib.hid (fun (w : World) => pDecode T b w ht hbl)
  have HDR := Lib.hid (fun (w : World) => r6Decode T b w ht hbl)
  have hfit := dec_fit (T := T) (b := b)
  obtain ⟨⟨⟨s, n, c, fs⟩, z⟩, hd⟩ : ∃ x, decV T b = x := ⟨_, rfl⟩
  rw [hd] at HDP HDR hfit
  obtain ⟨hm24, hff⟩ := hfit
  simp only at hm24 hff
  obtain ⟨m, hm⟩ : ∃ m, Hid (m = fs.length) := ⟨_, rfl⟩
  rw [← hm.out] at hm24
  have HFF := Lib.hid hff
  have HDP2 : Hid (∀ w : World, Calls Try.prog 13 #[.int .i64 T, .string ⟨b.toArray⟩] w fun e w' => Below w.heap.size w w' ∧ ∃ v, e = .returned (.tuple #[.agg #[.int .i64 (s : Int), .int .i64 (n : Int), .int .i64 (c : Int), v], errV 54 z]) ∧ w'.ownsRow w.heap.size 39 3 v m (cellsF fs)) := fun w => by
    rw [hm.out]; exact HDP.out w
  have HDR2 : Hid (∀ w : World, Calls Try.prog 12 #[.int .i64 T, .string ⟨b.toArray⟩] w fun e w' => Below w.heap.size w w' ∧ ∃ v, e = .returned (.tuple #[.agg #[.int .i64 (s : Int), .int .i64 (n : Int), .int .i64 (c : Int), v], .int .i64 (z : Int)]) ∧ w'.ownsRow w.heap.size 39 3 v m (cellsF fs)) := fun w => by
    rw [hm.out]; exact HDR.out w
  have hEo2 := Lib.hid hEo
  clear hd hff HDP HDR hF hb ht hbl hEo
  go_enter Try.func3, Try.ntmps3
  go_wp2_with fail
  obtain ⟨q, hq⟩ : ∃ q, Hid (q = W.heap.size) := ⟨_, rfl⟩
  rw [← hq.out] at HX ⊢
  generalize W.alloc (.cells #[.int .i64 seq, .int .i64 next, .int .i64 cur, .slice ad len cap] 24) = w1 at HX HB0 HF0 ⊢
  have HXh := Lib.hid HX
  clear HX
  refine (HEx.out w1).mono ?_
  rintro e w2 ⟨rfl, hb⟩
  have HB2 := Lib.hid (HB0.out.trans (hb.mono HB0.out.size))
  have HF2 := Lib.hid (HF0.out.below hb)
  have HX2 := Lib.hid (HXh.out.of_block (hb.block q HXh.out.lt))
  clear hb HB0 HF0 HXh HEx
  have x0 := HX2.out.cell 0 _ rfl
  have x1 := HX2.out.cell 1 _ rfl
  have x2 := HX2.out.cell 2 _ rfl
  have x3 := HX2.out.cell 3 _ rfl
  go_wp2_with fail
  refine (HEP.out w2 HF2.out).mono ?_
  rintro e w3 ⟨rfl, hb⟩
  have HB3 := Lib.hid (HB2.out.trans (hb.mono HB2.out.size))
  have HF3 := Lib.hid (HF2.out.below hb)
  have HX3 := Lib.hid (HX2.out.of_block (hb.block q HX2.out.lt))
  clear hb HB2 HF2 HX2 x0 x1 x2 x3 HEP
  have x0 := HX3.out.cell 0 _ rfl
  have x1 := HX3.out.cell 1 _ rfl
  have x2 := HX3.out.cell 2 _ rfl
  have x3 := HX3.out.cell 3 _ rfl
  go_wp2_with fail
  refine (HER.out w3 HF3.out).mono ?_
  rintro e w4 ⟨rfl, hb⟩
  have HB4 := Lib.hid (HB3.out.trans (hb.mono HB3.out.size))
  have HF4 := Lib.hid (HF3.out.below hb)
  have HX4 := Lib.hid (HX3.out.of_block (hb.block q HX3.out.lt))
  clear hb HB3 HF3 HX3 x0 x1 x2 x3 HER
  go_wp2_with fail
  refine (HDR2.out w4).mono ?_
  rintro e w5 ⟨hb, v, rfl, hv⟩
  obtain ⟨a', k', rfl, hfv⟩ := own_files hv hm.out.symm HFF.out
  have HB5 := Lib.hid (HB4.out.trans (hb.mono HB4.out.size))
  have HF5 := Lib.hid (HF4.out.below hb)
  have HX5 := Lib.hid (HX4.out.of_block (hb.block q HX4.out.lt))
  clear hb HB4 HF4 HX4 hv HDR2
  go_upto_region 5 with (fail)
  have hb5 := (Below.refl w5.heap.size w5).alloc (Nat.le_refl _) (.cells #[.int .i64 (s : Int), .int .i64 (n : Int), .int .i64 (c : Int), .slice a' m k'] 24)
  have HY := Holds.new w5 [.int .i64 (s : Int), .int .i64 (n : Int), .int .i64 (c : Int), .slice a' m k'] 24
  change Holds (w5.alloc (.cells #[.int .i64 (s : Int), .int .i64 (n : Int), .int .i64 (c : Int), .slice a' m k'] 24)) _ _ _ at HY
  generalize w5.alloc (.cells #[.int .i64 (s : Int), .int .i64 (n : Int), .int .i64 (c : Int), .slice a' m k'] 24) = w6 at hb5 HY ⊢
  have HB6 := Lib.hid (HB5.out.trans (hb5.mono HB5.out.size))
  have HF6 := Lib.hid (HF5.out.below hb5)
  have HG6 := Lib.hid (hfv.below hb5)
  have HX6 := Lib.hid (HX5.out.of_block (hb5.block q HX5.out.lt))
  have HP6 := Lib.hid HY
  clear hb5 HB5 HF5 HX5 hfv HY
  generalize w5.heap.size = p at HP6 ⊢
  go_wp2
  obtain ⟨wq, hwq⟩ : ∃ wq, wq = w6 := ⟨_, rfl⟩
  have HS : Hid (Below w6.heap.size w6 wq) := by rw [hwq]; exact Below.refl _ _
  rw [← hwq]
  clear hwq
  go_loopw [14] (fun i wr => ∃ t : Nat, t ≤ 2 ∧ i = .int .i64 t ∧ Hid (Below w6.heap.size w6 wr)) (fun i _ => 2 - (intOf i).toNat)
  case atStart => exact ⟨0, by omega, rfl, HS⟩
  case round =>
    obtain ⟨t, ht, rfl, hbw⟩ := hrel
    by_cases hlt : (t : Int) < 2
    · rename World => w0
      have hwt : IntKind.i64.wrap ((t : Int) + 1) = ((t + 1 : Nat) : Int) := by rw [IntWalk.i64_in _ (by omega)]; omega
      go_wp2_with fail
      refine (HDP2.out w0).mono ?_
      rintro e wd ⟨hb, v, rfl, hv⟩
      obtain ⟨a2, k2, rfl, hfv⟩ := own_files hv hm.out.symm HFF.out
      have HBd := Lib.hid (hbw.out.trans (hb.mono hbw.out.size))
      have HRw := Lib.hid hb
      have hgd : ∀ g, (Value.slice a2 m k2).ownBlock = some g → w0.heap.size ≤ g ∧ g < wd.heap.size := by
        intro g hg
        refine ⟨own_low hv g hg, ?_⟩
        rcases hv.2 with ⟨h1, _⟩ | ⟨g', c', cur, h1, _, h2, _⟩
        · rw [h1] at hg; cases hg
        · rw [h1] at hg; cases hg; exact (Array.getElem?_eq_some_iff.1 h2).1
      go_upto_region 9 with (fail)
      have hb9 := (Below.refl wd.heap.size wd).alloc (Nat.le_refl _) (.cells #[.int .i64 (s : Int), .int .i64 (n : Int), .int .i64 (c : Int), .slice a2 m k2] 24)
      have HY := Holds.new wd [.int .i64 (s : Int), .int .i64 (n : Int), .int .i64 (c : Int), .slice a2 m k2] 24
      change Holds (wd.alloc (.cells #[.int .i64 (s : Int), .int .i64 (n : Int), .int .i64 (c : Int), .slice a2 m k2] 24)) _ _ _ at HY
      have hva := hv.alloc (.cells #[.int .i64 (s : Int), .int .i64 (n : Int), .int .i64 (c : Int), .slice a2 m k2] 24)
      generalize wd.alloc (.cells #[.int .i64 (s : Int), .int .i64 (n : Int), .int .i64 (c : Int), .slice a2 m k2] 24) = we at hb9 HY hva ⊢
      have HBe := Lib.hid (HBd.out.trans (hb9.mono HBd.out.size))
      have HRe := Lib.hid (HRw.out.trans (hb9.mono HRw.out.size))
      have HGy := Lib.hid (hfv.below hb9)
      obtain ⟨py, hpy⟩ : ∃ py, Hid (py = wd.heap.size) := ⟨_, rfl⟩
      rw [← hpy.out] at HY hgd ⊢
      have HYh := Lib.hid HY
      have HVA := Lib.hid hva
      have HGD := Lib.hid hgd
      have HWR : Hid (w0.heap.size ≤ py) := by rw [hpy.out]; exact HRw.out.size
      have HPe := HP6.out.of_block (HBe.out.block p HP6.out.lt)
      clear hb hb9 hv hfv HBd HRw HY hva hgd
      have y0 := HYh.out.cell 0 _ rfl
      have y1 := HYh.out.cell 1 _ rfl
      have y2 := HYh.out.cell 2 _ rfl
      have y3 := HYh.out.cell 3 _ rfl
      have x0 := HPe.cell 0 _ rfl
      have x1 := HPe.cell 1 _ rfl
      have x2 := HPe.cell 2 _ rfl
      have x3 := HPe.cell 3 _ rfl
      have HSA := Lib.hid (same_true (s : Int) (n : Int) (c : Int) a2 a' m k2 k' _ we HGy.out (HG6.out.below HBe.out) (by omega))
      go_wp2_with fail
      clear x0 x1 x2 x3 y0 y1 y2 y3
      refine HSA.out.mono ?_
      rintro e wg ⟨rfl, hb⟩
      have HIS := Lib.hid (is_any z z wg)
      rw [beq_self_eq_true] at HIS
      go_wp2_with fail
      refine HIS.out.mono ?_
      rintro e wh ⟨rfl, rfl⟩
      have HYg := Lib.hid (HYh.out.of_block (hb.block py HYh.out.lt))
      have HVg := Lib.hid (own_below HVA.out hb)
      have HRg := Lib.hid (HRe.out.trans (hb.mono HRe.out.size))
      clear hb HSA HIS HGy HYh HVA HRe HBe HPe
      go_wp2
      obtain ⟨wx, hwx⟩ : ∃ wx, wx = wg := ⟨_, rfl⟩
      have HIN : Hid (wx.ownsRow w0.heap.size 39 3 (.slice a2 m k2) m (cellsF fs) ∧ Holds wx py [.int .i64 (s : Int), .int .i64 (n : Int), .int .i64 (c : Int), .slice a2 m k2] 24 ∧ Below w0.heap.size w0 wx) := by rw [hwx]; exact ⟨HVg.out, HYg.out, HRg.out⟩
      rw [← hwx]
      clear hwx
      go_loopw [19] (fun i w' => ∃ (k : Nat) (xs : List Value), k ≤ m ∧ i = .int .i64 k ∧ Hid (w'.ownsRow w0.heap.size 39 3 (.slice a2 m k2) m xs ∧ Holds w' py [.int .i64 (s : Int), .int .i64 (n : Int), .int .i64 (c : Int), .slice a2 m k2] 24 ∧ Below w0.heap.size w0 w')) (fun i _ => m - (intOf i).toNat)
      case atStart => exact ⟨0, _, Nat.zero_le _, rfl, HIN⟩
      case round =>
        obtain ⟨k, xs, hk, rfl, hin⟩ := hrel
        obtain ⟨ho, hH, hB⟩ := hin.out
        have y3 := hH.cell 3 _ rfl
        by_cases hkm : (k : Int) < m
        · have hkm2 : k < m := by omega
          obtain ⟨g, cap2, hv2, hg1, hg2⟩ := ho.form (by omega)
          cases hv2
          have hlen : xs.length = m * 3 := ho.1
          obtain ⟨v0, hv0⟩ : ∃ v, xs[k * 3]? = some v := ⟨_, List.getElem?_eq_getElem (by omega)⟩
          obtain ⟨v1, hv1⟩ : ∃ v, xs[k * 3 + 1]? = some v := ⟨_, List.getElem?_eq_getElem (by omega)⟩
          obtain ⟨v2, hv2⟩ : ∃ v, xs[k * 3 + 2]? = some v := ⟨_, List.getElem?_eq_getElem (by omega)⟩
          have d0 : wr.cell? ⟨g, k * 3, none⟩ = some v0 := by rw [ho.cellAt _ (by omega)]; exact hv0
          have d1 : wr.cell? ⟨g, k * 3 + 1, none⟩ = some v1 := by rw [ho.cellAt _ (by omega)]; exact hv1
          have d2 : wr.cell? ⟨g, k * 3 + 2, none⟩ = some v2 := by rw [ho.cellAt _ (by omega)]; exact hv2
          have f0 := ho.frozenAt (k * 3)
          have f1 := ho.frozenAt (k * 3 + 1)
          have f2 := ho.frozenAt (k * 3 + 2)
          have s1 := (ho.stored (k * 3) (.int .i64 0)).1
          have s2 := (s1.stored (k * 3 + 1) (.int .i64 0)).1
          have s3 := (s2.stored (k * 3 + 2) (.int .i64 0)).1
          have hgp : py ≠ g := by have := (HGD.out g rfl).2; omega
          have hgr := (HGD.out g rfl).1
          have HH3 := ((hH.ne hgp (k * 3) (.int .i64 0)).ne hgp (k * 3 + 1) (.int .i64 0)).ne hgp (k * 3 + 2) (.int .i64 0)
          have HB3 := ((hB.setCell (p := ⟨g, k * 3, none⟩) hgr (.int .i64 0)).setCell (p := ⟨g, k * 3 + 1, none⟩) hgr (.int .i64 0)).setCell (p := ⟨g, k * 3 + 2, none⟩) hgr (.int .i64 0)
          have HIN2 := Lib.hid (And.intro s3 (And.intro HH3 HB3))
          have hk0 : (0 : Int) ≤ (k : Int) := Int.natCast_nonneg _
          have hwk : IntKind.i64.wrap ((k : Int) + 1) = ((k + 1 : Nat) : Int) := by rw [IntWalk.i64_in _ (by omega)]; omega
          clear s1 s2 s3 HH3 HB3 hv0 hv1 hv2 hlen hin ho hH hB hgp hgr
          go_wp2
          go_roundw
          case rel => exact ⟨k + 1, _, by omega, by go_num, HIN2⟩
          case measure => simp [intOf]; omega
        · have HBn := Lib.hid (hbw.out.trans (hB.mono hbw.out.size))
          clear hin ho hH hB
          go_wp2
          go_roundw
          case rel => exact ⟨t + 1, by omega, by go_num, HBn⟩
          case measure => simp [intOf]; omega
    · have HFr := Lib.hid (HF6.out.below hbw.out)
      have HXr := Lib.hid (HX6.out.of_block (hbw.out.block q HX6.out.lt))
      have HBr := Lib.hid (HB6.out.trans (hbw.out.mono HB6.out.size))
      have hS0 : wr.drew.cell? ⟨q, 0, none⟩ = some (.int .i64 seq) ∧ wr.drew.cell? ⟨q, 1, none⟩ = some (.int .i64 next) ∧ wr.drew.cell? ⟨q, 2, none⟩ = some (.int .i64 cur) ∧ wr.drew.cell? ⟨q, 3, none⟩ = some (.slice ad len cap) := ⟨HXr.out.cell 0 _ rfl, HXr.out.cell 1 _ rfl, HXr.out.cell 2 _ rfl, HXr.out.cell 3 _ rfl⟩
      clear HF6 HX6 HB6 HP6 HG6 hbw HDP2
      rcases hEo2.out with ⟨rfl, rfl⟩ | ⟨rfl, rfl⟩
      · simp only [show errV 54 0 = .nilIface from rfl]
        go_upto_region 17 with (fail)
        refine wp_region_until (fun w' => w'.cell? ⟨q, 0, none⟩ = some (.int .i64 seq) ∧ w'.cell? ⟨q, 1, none⟩ = some (.int .i64 next) ∧ w'.cell? ⟨q, 2, none⟩ = some (.int .i64 cur) ∧ w'.cell? ⟨q, 3, none⟩ = some (.slice ad len cap)) 31 (by kernel_rfl) ?_
        refine wpAnyU_take (i := 0) (v := (.bool true)) (some 73) rfl rfl (by kernel_rfl) (by kernel_rfl) (by kernel_rfl) (by kernel_rfl) (fun _ _ _ h => h) hS0 (yields_of (by kernel_rfl) (fun w hw => by obtain ⟨v0, v1, v2, v3⟩ := hw; go_simp)) ?_
        refine wpAnyU_take (i := 1) (v := (.bool true)) (some 74) rfl rfl (by kernel_rfl) (by kernel_rfl) (by kernel_rfl) (by kernel_rfl) (fun _ _ _ h => h) hS0 (yields_of (by kernel_rfl) (fun w hw => by obtain ⟨v0, v1, v2, v3⟩ := hw; go_simp)) ?_
        refine wpAnyU_take (i := 2) (v := (.string ⟨A.toArray⟩)) (some 75) rfl rfl (by kernel_rfl) (by kernel_rfl) (by kernel_rfl) (by kernel_rfl) (fun _ _ _ h => h) hS0 (yields_of (by kernel_rfl) (fun w hw => by obtain ⟨v0, v1, v2, v3⟩ := hw; go_simp)) ?_
        refine wpAnyU_take (i := 3) (v := (.string ⟨A.toArray⟩)) (some 76) rfl rfl (by kernel_rfl) (by kernel_rfl) (by kernel_rfl) (by kernel_rfl) (fun _ _ _ h => h) hS0 (yields_of (by kernel_rfl) (fun w hw => by obtain ⟨v0, v1, v2, v3⟩ := hw; go_simp)) ?_
        refine wpAnyU_take (i := 4) (v := (.bool true)) (some 77) rfl rfl (by kernel_rfl) (by kernel_rfl) (by kernel_rfl) (by kernel_rfl) (fun _ _ _ h => h) hS0 (yields_of (by kernel_rfl) (fun w hw => by obtain ⟨v0, v1, v2, v3⟩ := hw; go_simp)) ?_
        refine wpAnyU_take (i := 5) (v := (.bool true)) (some 78) rfl rfl (by kernel_rfl) (by kernel_rfl) (by kernel_rfl) (by kernel_rfl) (fun _ _ _ h => h) hS0 (yields_of (by kernel_rfl) (fun w hw => by obtain ⟨v0, v1, v2, v3⟩ := hw; go_simp)) ?_
        refine wpAnyU_take (i := 6) (v := (.bool true)) (some 79) rfl rfl (by kernel_rfl) (by kernel_rfl) (by kernel_rfl) (by kernel_rfl) (fun _ _ _ h => h) hS0 (yields_of (by kernel_rfl) (fun w hw => by obtain ⟨v0, v1, v2, v3⟩ := hw; go_simp)) ?_
        refine wpAnyU_take (i := 7) (v := (.bool true)) (some 80) rfl rfl (by kernel_rfl) (by kernel_rfl) (by kernel_rfl) (by kernel_rfl) (fun _ _ _ h => h) hS0 (yields_of (by kernel_rfl) (fun w hw => by obtain ⟨v0, v1, v2, v3⟩ := hw; go_simp)) ?_
        refine wpAnyU_take (i := 8) (v := (.bool true)) (some 81) rfl rfl (by kernel_rfl) (by kernel_rfl) (by kernel_rfl) (by kernel_rfl) (fun _ _ _ h => h) hS0 (yields_of (by kernel_rfl) (fun w hw => by obtain ⟨v0, v1, v2, v3⟩ := hw; go_simp)) ?_
        refine wpAnyU_take (i := 9) (v := .nilIface) (some 82) rfl rfl (by kernel_rfl) (by kernel_rfl) (by kernel_rfl) (by kernel_rfl) (fun _ _ _ h => h) hS0 (yields_of (by kernel_rfl) (fun w hw => by obtain ⟨v0, v1, v2, v3⟩ := hw; go_simp)) ?_
        refine wpAnyU_take (i := 10) (v := (.bool true)) (some 83) rfl rfl (by kernel_rfl) (by kernel_rfl) (by kernel_rfl) (by kernel_rfl) (fun _ _ _ h => h) hS0 (yields_of (by kernel_rfl) (fun w hw => by obtain ⟨v0, v1, v2, v3⟩ := hw; go_simp)) ?_
        refine wpAnyU_take (i := 11) (v := (.bool true)) (some 84) rfl rfl (by kernel_rfl) (by kernel_rfl) (by kernel_rfl) (by kernel_rfl) (fun _ _ _ h => h) hS0 (yields_of (by kernel_rfl) (fun w hw => by obtain ⟨v0, v1, v2, v3⟩ := hw; go_simp)) ?_
        refine wpAnyU_take (i := 12) (v := (.bool true)) (some 85) rfl rfl (by kernel_rfl) (by kernel_rfl) (by kernel_rfl) (by kernel_rfl) (fun _ _ _ h => h) hS0 (yields_of (by kernel_rfl) (fun w hw => by obtain ⟨v0, v1, v2, v3⟩ := hw; go_simp)) ?_
        refine wpAnyU_take (i := 13) (v := undef) (some 86) rfl rfl (by kernel_rfl) (by kernel_rfl) (by kernel_rfl) (by kernel_rfl) (fun _ _ _ h => h) hS0 (unwanted (by kernel_rfl)) ?_
        refine wpAnyU_take (i := 14) (v := undef) (some 87) rfl rfl (by kernel_rfl) (by kernel_rfl) (by kernel_rfl) (by kernel_rfl) (fun _ _ _ h => h) hS0 (unwanted (by kernel_rfl)) ?_
        refine wpAnyU_take (i := 15) (v := undef) (some 88) rfl rfl (by kernel_rfl) (by kernel_rfl) (by kernel_rfl) (by kernel_rfl) (fun _ _ _ h => h) hS0 (unwanted (by kernel_rfl)) ?_
        refine wpAnyU_take (i := 16) (v := undef) (some 89) rfl rfl (by kernel_rfl) (by kernel_rfl) (by kernel_rfl) (by kernel_rfl) (fun _ _ _ h => h) hS0 (unwanted (by kernel_rfl)) ?_
        refine wpAnyU_take (i := 17) (v := undef) (some 90) rfl rfl (by kernel_rfl) (by kernel_rfl) (by kernel_rfl) (by kernel_rfl) (fun _ _ _ h => h) hS0 (unwanted (by kernel_rfl)) ?_
        refine wpAnyU_take (i := 18) (v := undef) (some 91) rfl rfl (by kernel_rfl) (by kernel_rfl) (by kernel_rfl) (by kernel_rfl) (fun _ _ _ h => h) hS0 (unwanted (by kernel_rfl)) ?_
        refine wpAnyU_take (i := 19) (v := (.bool true)) (some 92) rfl rfl (by kernel_rfl) (by kernel_rfl) (by kernel_rfl) (by kernel_rfl) (fun _ _ _ h => h) hS0 (yields_of (by kernel_rfl) (fun w hw => by obtain ⟨v0, v1, v2, v3⟩ := hw; go_simp)) ?_
        refine wpAnyU_take (i := 20) (v := (.bool true)) (some 93) rfl rfl (by kernel_rfl) (by kernel_rfl) (by kernel_rfl) (by kernel_rfl) (fun _ _ _ h => h) hS0 (yields_of (by kernel_rfl) (fun w hw => by obtain ⟨v0, v1, v2, v3⟩ := hw; go_simp)) ?_
        refine wpAnyU_take (i := 21) (v := (.bool true)) (some 94) rfl rfl (by kernel_rfl) (by kernel_rfl) (by kernel_rfl) (by kernel_rfl) (fun _ _ _ h => h) hS0 (yields_of (by kernel_rfl) (fun w hw => by obtain ⟨v0, v1, v2, v3⟩ := hw; go_simp)) ?_
        refine wpAnyU_take (i := 22) (v := (.int .i64 T)) (some 95) rfl rfl (by kernel_rfl) (by kernel_rfl) (by kernel_rfl) (by kernel_rfl) (fun _ _ _ h => h) hS0 (yields_of (by kernel_rfl) (fun w hw => by obtain ⟨v0, v1, v2, v3⟩ := hw; go_simp)) ?_
        refine wpAnyU_take (i := 23) (v := (.agg #[.int .i64 seq, .int .i64 next, .int .i64 cur, .slice ad len cap])) (some 96) rfl rfl (by kernel_rfl) (by kernel_rfl) (by kernel_rfl) (by kernel_rfl) (fun _ _ _ h => h) hS0 (yields_of (by kernel_rfl) (fun w hw => by obtain ⟨v0, v1, v2, v3⟩ := hw; go_simp)) ?_
        refine wpAnyU_take (i := 25) (v := (.int .i64 T)) (some 98) rfl rfl (by kernel_rfl) (by kernel_rfl) (by kernel_rfl) (by kernel_rfl) (fun _ _ _ h => h) hS0 (yields_of (by kernel_rfl) (fun w hw => by obtain ⟨v0, v1, v2, v3⟩ := hw; go_simp)) ?_
        refine wpAnyU_take (i := 26) (v := (.agg #[.int .i64 seq, .int .i64 next, .int .i64 cur, .slice ad len cap])) (some 99) rfl rfl (by kernel_rfl) (by kernel_rfl) (by kernel_rfl) (by kernel_rfl) (fun _ _ _ h => h) hS0 (yields_of (by kernel_rfl) (fun w hw => by obtain ⟨v0, v1, v2, v3⟩ := hw; go_simp)) ?_
        refine wpAnyU_call (i := 24) (f := 16) (args := #[.int .i64 T, .agg #[.int .i64 seq, .int .i64 next, .int .i64 cur, .slice ad len cap]]) (some 97) rfl rfl (by kernel_rfl) (by kernel_rfl) (by kernel_rfl) ?_
        refine (HRP.out wr.drew (HFr.out.below (belowN (Below.refl _ _) 1))).mono ?_
        rintro e wj ⟨rfl, hb1⟩
        have hb1 := (belowN (Below.refl wr.heap.size wr) 1).trans hb1
        have HFj := Lib.hid (HFr.out.below hb1)
        have HXj := HXr.out.of_block (hb1.block q HXr.out.lt)
        have hS0 : wj.cell? ⟨q, 0, none⟩ = some (.int .i64 seq) ∧ wj.cell? ⟨q, 1, none⟩ = some (.int .i64 next) ∧ wj.cell? ⟨q, 2, none⟩ = some (.int .i64 cur) ∧ wj.cell? ⟨q, 3, none⟩ = some (.slice ad len cap) := ⟨HXj.cell 0 _ rfl, HXj.cell 1 _ rfl, HXj.cell 2 _ rfl, HXj.cell 3 _ rfl⟩
        have HBj := Lib.hid (HBr.out.trans (hb1.mono HBr.out.size))
        refine ⟨_, rfl, fun _ => hS0, ?_⟩
        refine wpAnyU_call (i := 27) (f := 17) (args := #[.int .i64 T, .agg #[.int .i64 seq, .int .i64 next, .int .i64 cur, .slice ad len cap]]) (some 100) rfl rfl (by kernel_rfl) (by kernel_rfl) (by kernel_rfl) ?_
        refine (HRR.out wj HFj.out).mono ?_
        rintro e wk ⟨rfl, hb2⟩
        have HXk := HXj.of_block (hb2.block q HXj.lt)
        have hS0 : wk.cell? ⟨q, 0, none⟩ = some (.int .i64 seq) ∧ wk.cell? ⟨q, 1, none⟩ = some (.int .i64 next) ∧ wk.cell? ⟨q, 2, none⟩ = some (.int .i64 cur) ∧ wk.cell? ⟨q, 3, none⟩ = some (.slice ad len cap) := ⟨HXk.cell 0 _ rfl, HXk.cell 1 _ rfl, HXk.cell 2 _ rfl, HXk.cell 3 _ rfl⟩
        have HBk := Lib.hid (HBj.out.trans (hb2.mono HBj.out.size))
        refine ⟨_, rfl, fun _ => hS0, ?_⟩
        refine wpAnyU_take (i := 28) (v := (.bool true)) (some 101) rfl rfl (by kernel_rfl) (by kernel_rfl) (by kernel_rfl) (by kernel_rfl) (fun _ _ _ h => h) hS0 (yields_of (by kernel_rfl) (fun w hw => by obtain ⟨v0, v1, v2, v3⟩ := hw; go_simp)) ?_
        refine wpAnyU_take (i := 29) (v := (.bool true)) (some 102) rfl rfl (by kernel_rfl) (by kernel_rfl) (by kernel_rfl) (by kernel_rfl) (fun _ _ _ h => h) hS0 (yields_of (by kernel_rfl) (fun w hw => by obtain ⟨v0, v1, v2, v3⟩ := hw; go_simp)) ?_
        refine wpAnyU_run (i := 30) (v := .bool true) (w' := wk) (some 6) rfl rfl (by kernel_rfl) (by kernel_rfl) (by go_simp) (fun _ => hS0) ?_
        refine wpAnyU_done (by kernel_rfl) ?_ _
        clear hS0 HXk HXj hb1 hb2
        simp only [put_lit, List.set_cons_succ, List.set_cons_zero]
        go_wp2
        go_ret
        exact ⟨rfl, HBk.out⟩
      · go_upto_region 17 with (fail)
        refine wp_region_until (fun w' => w'.cell? ⟨q, 0, none⟩ = some (.int .i64 seq) ∧ w'.cell? ⟨q, 1, none⟩ = some (.int .i64 next) ∧ w'.cell? ⟨q, 2, none⟩ = some (.int .i64 cur) ∧ w'.cell? ⟨q, 3, none⟩ = some (.slice ad len cap)) 31 (by kernel_rfl) ?_
        refine wpAnyU_take (i := 0) (v := (.bool true)) (some 73) rfl rfl (by kernel_rfl) (by kernel_rfl) (by kernel_rfl) (by kernel_rfl) (fun _ _ _ h => h) hS0 (yields_of (by kernel_rfl) (fun w hw => by obtain ⟨v0, v1, v2, v3⟩ := hw; go_simp)) ?_
        refine wpAnyU_take (i := 1) (v := (.bool true)) (some 74) rfl rfl (by kernel_rfl) (by kernel_rfl) (by kernel_rfl) (by kernel_rfl) (fun _ _ _ h => h) hS0 (yields_of (by kernel_rfl) (fun w hw => by obtain ⟨v0, v1, v2, v3⟩ := hw; go_simp)) ?_
        refine wpAnyU_take (i := 2) (v := (.string ⟨A.toArray⟩)) (some 75) rfl rfl (by kernel_rfl) (by kernel_rfl) (by kernel_rfl) (by kernel_rfl) (fun _ _ _ h => h) hS0 (yields_of (by kernel_rfl) (fun w hw => by obtain ⟨v0, v1, v2, v3⟩ := hw; go_simp)) ?_
        refine wpAnyU_take (i := 3) (v := (.string ⟨A.toArray⟩)) (some 76) rfl rfl (by kernel_rfl) (by kernel_rfl) (by kernel_rfl) (by kernel_rfl) (fun _ _ _ h => h) hS0 (yields_of (by kernel_rfl) (fun w hw => by obtain ⟨v0, v1, v2, v3⟩ := hw; go_simp)) ?_
        refine wpAnyU_take (i := 4) (v := (.bool true)) (some 77) rfl rfl (by kernel_rfl) (by kernel_rfl) (by kernel_rfl) (by kernel_rfl) (fun _ _ _ h => h) hS0 (yields_of (by kernel_rfl) (fun w hw => by obtain ⟨v0, v1, v2, v3⟩ := hw; go_simp)) ?_
        refine wpAnyU_take (i := 5) (v := (.bool true)) (some 78) rfl rfl (by kernel_rfl) (by kernel_rfl) (by kernel_rfl) (by kernel_rfl) (fun _ _ _ h => h) hS0 (yields_of (by kernel_rfl) (fun w hw => by obtain ⟨v0, v1, v2, v3⟩ := hw; go_simp)) ?_
        refine wpAnyU_take (i := 6) (v := (.bool true)) (some 79) rfl rfl (by kernel_rfl) (by kernel_rfl) (by kernel_rfl) (by kernel_rfl) (fun _ _ _ h => h) hS0 (yields_of (by kernel_rfl) (fun w hw => by obtain ⟨v0, v1, v2, v3⟩ := hw; go_simp)) ?_
        refine wpAnyU_take (i := 7) (v := (.bool false)) (some 80) rfl rfl (by kernel_rfl) (by kernel_rfl) (by kernel_rfl) (by kernel_rfl) (fun _ _ _ h => h) hS0 (yields_of (by kernel_rfl) (fun w hw => by obtain ⟨v0, v1, v2, v3⟩ := hw; go_simp)) ?_
        refine wpAnyU_take (i := 8) (v := (.bool false)) (some 81) rfl rfl (by kernel_rfl) (by kernel_rfl) (by kernel_rfl) (by kernel_rfl) (fun _ _ _ h => h) hS0 (yields_of (by kernel_rfl) (fun w hw => by obtain ⟨v0, v1, v2, v3⟩ := hw; go_simp)) ?_
        refine wpAnyU_take (i := 9) (v := undef) (some 82) rfl rfl (by kernel_rfl) (by kernel_rfl) (by kernel_rfl) (by kernel_rfl) (fun _ _ _ h => h) hS0 (unwanted (by kernel_rfl)) ?_
        refine wpAnyU_take (i := 10) (v := undef) (some 83) rfl rfl (by kernel_rfl) (by kernel_rfl) (by kernel_rfl) (by kernel_rfl) (fun _ _ _ h => h) hS0 (unwanted (by kernel_rfl)) ?_
        refine wpAnyU_take (i := 11) (v := (.bool false)) (some 84) rfl rfl (by kernel_rfl) (by kernel_rfl) (by kernel_rfl) (by kernel_rfl) (fun _ _ _ h => h) hS0 (yields_of (by kernel_rfl) (fun w hw => by obtain ⟨v0, v1, v2, v3⟩ := hw; go_simp)) ?_
        refine wpAnyU_take (i := 12) (v := (.bool false)) (some 85) rfl rfl (by kernel_rfl) (by kernel_rfl) (by kernel_rfl) (by kernel_rfl) (fun _ _ _ h => h) hS0 (yields_of (by kernel_rfl) (fun w hw => by obtain ⟨v0, v1, v2, v3⟩ := hw; go_simp)) ?_
        refine wpAnyU_take (i := 13) (v := (.bool false)) (some 86) rfl rfl (by kernel_rfl) (by kernel_rfl) (by kernel_rfl) (by kernel_rfl) (fun _ _ _ h => h) hS0 (yields_of (by kernel_rfl) (fun w hw => by obtain ⟨v0, v1, v2, v3⟩ := hw; go_simp)) ?_
        refine wpAnyU_take (i := 14) (v := (.bool true)) (some 87) rfl rfl (by kernel_rfl) (by kernel_rfl) (by kernel_rfl) (by kernel_rfl) (fun _ _ _ h => h) hS0 (yields_of (by kernel_rfl) (fun w hw => by obtain ⟨v0, v1, v2, v3⟩ := hw; go_simp)) ?_
        refine wpAnyU_take (i := 15) (v := (.bool true)) (some 88) rfl rfl (by kernel_rfl) (by kernel_rfl) (by kernel_rfl) (by kernel_rfl) (fun _ _ _ h => h) hS0 (yields_of (by kernel_rfl) (fun w hw => by obtain ⟨v0, v1, v2, v3⟩ := hw; go_simp)) ?_
        refine wpAnyU_take (i := 16) (v := (errV 54 1)) (some 89) rfl rfl (by kernel_rfl) (by kernel_rfl) (by kernel_rfl) (by kernel_rfl) (fun _ _ _ h => h) hS0 (yields_of (by kernel_rfl) (fun w hw => by obtain ⟨v0, v1, v2, v3⟩ := hw; go_simp)) ?_
        refine wpAnyU_call (i := 17) (f := 15) (args := #[errV 54 1, .int .i64 1]) (some 90) rfl rfl (by kernel_rfl) (by kernel_rfl) (by kernel_rfl) ?_
        refine (is_any 1 1 wr.drew).mono ?_
        rintro e wi ⟨rfl, rfl⟩
        refine ⟨_, rfl, fun _ => hS0, ?_⟩
        refine wpAnyU_take (i := 18) (v := (.bool true)) (some 91) rfl rfl (by kernel_rfl) (by kernel_rfl) (by kernel_rfl) (by kernel_rfl) (fun _ _ _ h => h) hS0 (yields_of (by kernel_rfl) (fun w hw => by obtain ⟨v0, v1, v2, v3⟩ := hw; go_simp)) ?_
        refine wpAnyU_take (i := 19) (v := (.bool true)) (some 92) rfl rfl (by kernel_rfl) (by kernel_rfl) (by kernel_rfl) (by kernel_rfl) (fun _ _ _ h => h) hS0 (yields_of (by kernel_rfl) (fun w hw => by obtain ⟨v0, v1, v2, v3⟩ := hw; go_simp)) ?_
        refine wpAnyU_take (i := 20) (v := (.bool true)) (some 93) rfl rfl (by kernel_rfl) (by kernel_rfl) (by kernel_rfl) (by kernel_rfl) (fun _ _ _ h => h) hS0 (yields_of (by kernel_rfl) (fun w hw => by obtain ⟨v0, v1, v2, v3⟩ := hw; go_simp)) ?_
        refine wpAnyU_take (i := 21) (v := (.bool true)) (some 94) rfl rfl (by kernel_rfl) (by kernel_rfl) (by kernel_rfl) (by kernel_rfl) (fun _ _ _ h => h) hS0 (yields_of (by kernel_rfl) (fun w hw => by obtain ⟨v0, v1, v2, v3⟩ := hw; go_simp)) ?_
        refine wpAnyU_take (i := 22) (v := (.int .i64 T)) (some 95) rfl rfl (by kernel_rfl) (by kernel_rfl) (by kernel_rfl) (by kernel_rfl) (fun _ _ _ h => h) hS0 (yields_of (by kernel_rfl) (fun w hw => by obtain ⟨v0, v1, v2, v3⟩ := hw; go_simp)) ?_
        refine wpAnyU_take (i := 23) (v := (.agg #[.int .i64 seq, .int .i64 next, .int .i64 cur, .slice ad len cap])) (some 96) rfl rfl (by kernel_rfl) (by kernel_rfl) (by kernel_rfl) (by kernel_rfl) (fun _ _ _ h => h) hS0 (yields_of (by kernel_rfl) (fun w hw => by obtain ⟨v0, v1, v2, v3⟩ := hw; go_simp)) ?_
        refine wpAnyU_take (i := 25) (v := (.int .i64 T)) (some 98) rfl rfl (by kernel_rfl) (by kernel_rfl) (by kernel_rfl) (by kernel_rfl) (fun _ _ _ h => h) hS0 (yields_of (by kernel_rfl) (fun w hw => by obtain ⟨v0, v1, v2, v3⟩ := hw; go_simp)) ?_
        refine wpAnyU_take (i := 26) (v := (.agg #[.int .i64 seq, .int .i64 next, .int .i64 cur, .slice ad len cap])) (some 99) rfl rfl (by kernel_rfl) (by kernel_rfl) (by kernel_rfl) (by kernel_rfl) (fun _ _ _ h => h) hS0 (yields_of (by kernel_rfl) (fun w hw => by obtain ⟨v0, v1, v2, v3⟩ := hw; go_simp)) ?_
        refine wpAnyU_call (i := 24) (f := 16) (args := #[.int .i64 T, .agg #[.int .i64 seq, .int .i64 next, .int .i64 cur, .slice ad len cap]]) (some 97) rfl rfl (by kernel_rfl) (by kernel_rfl) (by kernel_rfl) ?_
        refine (HRP.out wr.drew (HFr.out.below (belowN (Below.refl _ _) 1))).mono ?_
        rintro e wj ⟨rfl, hb1⟩
        have hb1 := (belowN (Below.refl wr.heap.size wr) 1).trans hb1
        have HFj := Lib.hid (HFr.out.below hb1)
        have HXj := HXr.out.of_block (hb1.block q HXr.out.lt)
        have hS0 : wj.cell? ⟨q, 0, none⟩ = some (.int .i64 seq) ∧ wj.cell? ⟨q, 1, none⟩ = some (.int .i64 next) ∧ wj.cell? ⟨q, 2, none⟩ = some (.int .i64 cur) ∧ wj.cell? ⟨q, 3, none⟩ = some (.slice ad len cap) := ⟨HXj.cell 0 _ rfl, HXj.cell 1 _ rfl, HXj.cell 2 _ rfl, HXj.cell 3 _ rfl⟩
        have HBj := Lib.hid (HBr.out.trans (hb1.mono HBr.out.size))
        refine ⟨_, rfl, fun _ => hS0, ?_⟩
        refine wpAnyU_call (i := 27) (f := 17) (args := #[.int .i64 T, .agg #[.int .i64 seq, .int .i64 next, .int .i64 cur, .slice ad len cap]]) (some 100) rfl rfl (by kernel_rfl) (by kernel_rfl) (by kernel_rfl) ?_
        refine (HRR.out wj HFj.out).mono ?_
        rintro e wk ⟨rfl, hb2⟩
        have HXk := HXj.of_block (hb2.block q HXj.lt)
        have hS0 : wk.cell? ⟨q, 0, none⟩ = some (.int .i64 seq) ∧ wk.cell? ⟨q, 1, none⟩ = some (.int .i64 next) ∧ wk.cell? ⟨q, 2, none⟩ = some (.int .i64 cur) ∧ wk.cell? ⟨q, 3, none⟩ = some (.slice ad len cap) := ⟨HXk.cell 0 _ rfl, HXk.cell 1 _ rfl, HXk.cell 2 _ rfl, HXk.cell 3 _ rfl⟩
        have HBk := Lib.hid (HBj.out.trans (hb2.mono HBj.out.size))
        refine ⟨_, rfl, fun _ => hS0, ?_⟩
        refine wpAnyU_take (i := 28) (v := (.bool true)) (some 101) rfl rfl (by kernel_rfl) (by kernel_rfl) (by kernel_rfl) (by kernel_rfl) (fun _ _ _ h => h) hS0 (yields_of (by kernel_rfl) (fun w hw => by obtain ⟨v0, v1, v2, v3⟩ := hw; go_simp)) ?_
        refine wpAnyU_take (i := 29) (v := (.bool true)) (some 102) rfl rfl (by kernel_rfl) (by kernel_rfl) (by kernel_rfl) (by kernel_rfl) (fun _ _ _ h => h) hS0 (yields_of (by kernel_rfl) (fun w hw => by obtain ⟨v0, v1, v2, v3⟩ := hw; go_simp)) ?_
        refine wpAnyU_run (i := 30) (v := .bool true) (w' := wk) (some 6) rfl rfl (by kernel_rfl) (by kernel_rfl) (by go_simp) (fun _ => hS0) ?_
        refine wpAnyU_done (by kernel_rfl) ?_ _
        clear hS0 HXk HXj hb1 hb2
        simp only [put_lit, List.set_cons_succ, List.set_cons_zero]
        go_wp2
        go_ret
        exact ⟨rfl, HBk.out⟩

end Go.Proofs.Ytbfdhonmmoikdaa
