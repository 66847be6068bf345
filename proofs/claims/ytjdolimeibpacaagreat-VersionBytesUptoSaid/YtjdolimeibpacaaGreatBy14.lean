/- The law VersionBytes (printed by genby14.py). -/
import Derived.Test.YtjdolimeibpacaaGreatBx14
import Derived.Test.YtjdolimeibpacaaGreatRc14
namespace Go.Proofs.YtjdolimeibpacaaGreat
open Go.RowKit Go.Proofs Go.Proofs.Pk
set_option maxRecDepth 10000
attribute [local simp] mk_get wrap64_u8 mk_extract ByteArray.mk_append_mk get_1k

set_option maxHeartbeats 2000000 in
theorem bytes14 {N : Int} (K : VnB N) (hN : 1048576 ≤ N) (ad : Option Addr) (len cap : Nat) (ad2 : Option Addr) (len2 cap2 : Nat) (ad3 : Option Addr) (len3 cap3 : Nat) (ad4 : Option Addr) (len4 cap4 : Nat) (v : EdV) (b : VTxt) (w : World)
    (h0 : EdW w ad len cap ad2 len2 cap2 ad3 len3 cap3 ad4 len4 cap4 v) (hb : (b.length : Int) ≤ 1048576) :
    Calls Tryz.prog 3 #[edC ad len cap ad2 len2 cap2 ad3 len3 cap3 ad4 len4 cap4 v.2.2.2.2, .string ⟨b.toArray⟩] w fun e w' => e = .returned (.bool true) ∧ Kept (fun _ => False) w w' := by
  have HB := Lib.hid (EBox.new (Kept.refl _ w) h0)
  obtain ⟨s, hs⟩ : ∃ s, s = v.2.2.2.2 := ⟨_, rfl⟩
  have HS := Lib.hid hs
  have HD1 := Lib.hid (fun W : World => K.decode b W (by omega))
  have HD2 := Lib.hid (fun W : World => refDecode14 b W (by omega))
  obtain ⟨⟨y, fine⟩, hz⟩ : ∃ r, r = decE b := ⟨decE b, rfl⟩
  rw [← hz] at HD1 HD2
  obtain ⟨⟨a, ok⟩, hr⟩ : ∃ r, Hid (r = encE v) := ⟨encE v, rfl⟩
  obtain ⟨s5, hs5⟩ : ∃ s5, s5 = y.2.2.2.2 := ⟨_, rfl⟩
  have HS5 := Lib.hid hs5
  obtain ⟨v1, hv1⟩ : ∃ v1, Hid (v1 = errV 49 (if ok = true then 0 else 1)) := ⟨_, rfl⟩
  obtain ⟨v2, hv2⟩ : ∃ v2, Hid (v2 = errV 49 (if fine = true then 0 else 3)) := ⟨_, rfl⟩
  clear h0 hb hz hN hs5
  unfold edC
  rw [← hs] at HB ⊢
  clear hs
  go_enter Tryz.func3, Tryz.ntmps3
  go_upto_region 1 with fail
  obtain ⟨g, hg⟩ : ∃ g, g = w.heap.size := ⟨_, rfl⟩
  rw [← hg] at HB ⊢
  generalize w.alloc (.cells #[.slice ad len cap, .slice ad2 len2 cap2, .slice ad3 len3 cap3, .slice ad4 len4 cap4, .int .i64 s] 25) = wa at HB ⊢
  clear hg
  have HX := Lib.hid (examples14 K wa)
  go_wp2_with fail
  refine HX.out.mono ?_
  rintro e w1 ⟨rfl, hk⟩
  have HB1 := Lib.hid (HB.out.quiet hk)
  clear hk HX HB
  obtain ⟨d0, d1, d2, d3, d4⟩ := HB1.out.cells
  have HA := K.encode w1 ad len cap ad2 len2 cap2 ad3 len3 cap3 ad4 len4 cap4 v HB1.out.ed
  unfold edC at HA
  rw [← HS.out] at d4 HA
  rw [← hr.out] at HA
  simp only at HA
  rw [← hv1.out] at HA
  have HA := Lib.hid HA
  go_wp2_with fail
  refine HA.out.mono ?_
  rintro e w2 ⟨rfl, hk⟩
  have HB2 := Lib.hid (HB1.out.quiet hk)
  clear hk HA HB1 d0 d1 d2 d3 d4
  obtain ⟨d0, d1, d2, d3, d4⟩ := HB2.out.cells
  have HA := refEncode14 ad len cap ad2 len2 cap2 ad3 len3 cap3 ad4 len4 cap4 v w2 HB2.out.ed
  unfold edC at HA
  rw [← HS.out] at d4 HA
  rw [← hr.out] at HA
  have HA := Lib.hid HA
  go_wp2_with fail
  refine HA.out.mono ?_
  rintro e w3 ⟨rfl, hk⟩
  have HK3 := Lib.hid (HB2.out.kept.trans hk (fun _ f => f.elim))
  clear hk HA HB2 d0 d1 d2 d3 d4 hr
  go_wp2_with fail
  refine (HD1.out w3).mono ?_
  rintro e w4 ⟨xd, xl, xc, xd2, xl2, xc2, xd3, xl3, xc3, xd4, xl4, xc4, rfl, hx, hk⟩
  have HB4 := Lib.hid (And.intro (HK3.out.trans hk (fun _ f => f.elim)) hx)
  clear hk HK3 hx HD1
  unfold edC
  simp only at HB4 ⊢
  rw [← HS5.out, ← hv2.out]
  go_upto_region 5 with fail
  change Code.wp _ _ _ _ (w4.alloc (.cells #[.slice xd xl xc, .slice xd2 xl2 xc2, .slice xd3 xl3 xc3, .slice xd4 xl4 xc4, .int .i64 s5] 25))
  have HN := EBox.new HB4.out.1 HB4.out.2
  rw [← HS5.out] at HN
  have HB5 := Lib.hid HN
  obtain ⟨g2, hg2⟩ : ∃ g2, g2 = w4.heap.size := ⟨_, rfl⟩
  rw [← hg2] at HB5 ⊢
  clear HN hg2 HB4
  generalize w4.alloc (.cells #[.slice xd xl xc, .slice xd2 xl2 xc2, .slice xd3 xl3 xc3, .slice xd4 xl4 xc4, .int .i64 s5] 25) = w5 at HB5 ⊢
  go_wp2_with fail
  refine (HD2.out w5).mono ?_
  rintro e w6 ⟨yd, yl, yc, yd2, yl2, yc2, yd3, yl3, yc3, yd4, yl4, yc4, rfl, hy, hk⟩
  have HB6 := Lib.hid (And.intro (HB5.out.quiet hk) hy)
  clear hk HB5 hy HD2
  unfold edC
  simp only at HB6 ⊢
  rw [← HS5.out]
  go_upto_region 6 with fail
  change Code.wp _ _ _ _ (w6.alloc (.cells #[.slice yd yl yc, .slice yd2 yl2 yc2, .slice yd3 yl3 yc3, .slice yd4 yl4 yc4, .int .i64 s5] 25))
  have HN := EBox.new HB6.out.1.kept HB6.out.2
  rw [← HS5.out] at HN
  have HB7 := Lib.hid (And.intro (HB6.out.1.quiet ((Kept.refl _ w6).alloc (.cells #[.slice yd yl yc, .slice yd2 yl2 yc2, .slice yd3 yl3 yc3, .slice yd4 yl4 yc4, .int .i64 s5] 25))) HN)
  obtain ⟨g3, hg3⟩ : ∃ g3, g3 = w6.heap.size := ⟨_, rfl⟩
  rw [← hg3] at HB7 ⊢
  clear HN hg3 HB6
  generalize w6.alloc (.cells #[.slice yd yl yc, .slice yd2 yl2 yc2, .slice yd3 yl3 yc3, .slice yd4 yl4 yc4, .int .i64 s5] 25) = w7 at HB7 ⊢
  obtain ⟨d0, d1, d2, d3, d4⟩ := HB7.out.1.cells
  obtain ⟨f0, f1, f2, f3, f4⟩ := HB7.out.2.cells
  have HM := Lib.hid (editsSame w7 xd xl xc xd2 xl2 xc2 xd3 xl3 xc3 xd4 xl4 xc4 yd yl yc yd2 yl2 yc2 yd3 yl3 yc3 yd4 yl4 yc4 y HB7.out.1.ed HB7.out.2.ed)
  unfold edC at HM
  rw [← HS5.out] at d4 f4 HM
  go_wp2_with fail
  refine HM.out.mono ?_
  rintro e w8 ⟨rfl, hk⟩
  have HK := Lib.hid (HB7.out.1.kept.trans hk (fun _ f => f.elim))
  clear hk HM HB7 d0 d1 d2 d3 d4 f0 f1 f2 f3 f4
  cases ok with
  | false =>
    obtain rfl : v1 = .iface 49 (.int .i64 1) := hv1.out
    cases fine with
    | false =>
      obtain rfl : v2 = .iface 49 (.int .i64 3) := hv2.out
      go_wp2_with fail
      refine (is_any 1 1 _).mono ?_
      rintro e w9 ⟨rfl, rfl⟩
      go_wp2_with fail
      refine (is_any 3 3 _).mono ?_
      rintro e w10 ⟨rfl, rfl⟩
      go_wp2
      go_ret
      exact ⟨rfl, HK.out⟩
    | true =>
      obtain rfl : v2 = .nilIface := hv2.out
      go_wp2_with fail
      refine (is_any 1 1 _).mono ?_
      rintro e w9 ⟨rfl, rfl⟩
      go_wp2
      go_ret
      exact ⟨rfl, HK.out⟩
  | true =>
    obtain rfl : v1 = .nilIface := hv1.out
    cases fine with
    | false =>
      obtain rfl : v2 = .iface 49 (.int .i64 3) := hv2.out
      go_wp2_with fail
      refine (is_any 3 3 _).mono ?_
      rintro e w10 ⟨rfl, rfl⟩
      go_wp2
      go_ret
      exact ⟨rfl, HK.out⟩
    | true =>
      obtain rfl : v2 = .nilIface := hv2.out
      go_wp2
      go_ret
      exact ⟨rfl, HK.out⟩

end Go.Proofs.YtjdolimeibpacaaGreat
