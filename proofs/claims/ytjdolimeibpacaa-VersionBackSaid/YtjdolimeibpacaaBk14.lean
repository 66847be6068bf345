/- The law VersionBack (printed by genbk14.py). -/
import Derived.Test.YtjdolimeibpacaaBx14
import Derived.Test.YtjdolimeibpacaaEb14
namespace Go.Proofs.Ytjdolimeibpacaa
open Go.RowKit Go.Proofs Go.Proofs.Pk
set_option maxRecDepth 10000
attribute [local simp] mk_get wrap64_u8 mk_extract ByteArray.mk_append_mk get_1k

set_option maxHeartbeats 2000000 in
theorem back14 {N : Int} (K : VnK N) (hN : 50000 ≤ N) (ad : Option Addr) (len cap : Nat) (ad2 : Option Addr) (len2 cap2 : Nat) (ad3 : Option Addr) (len3 cap3 : Nat) (ad4 : Option Addr) (len4 cap4 : Nat) (v : EdV) (b : VTxt) (w : World)
    (h0 : EdW w ad len cap ad2 len2 cap2 ad3 len3 cap3 ad4 len4 cap4 v) (hb : (b.length : Int) ≤ N) :
    Calls Try.prog 4 #[edC ad len cap ad2 len2 cap2 ad3 len3 cap3 ad4 len4 cap4 v.2.2.2.2, .string ⟨b.toArray⟩] w fun e w' => e = .returned (.bool true) ∧ Kept (fun _ => False) w w' := by
  have HB := Lib.hid (EBox.new (Kept.refl _ w) h0)
  obtain ⟨s, hs⟩ : ∃ s, s = v.2.2.2.2 := ⟨_, rfl⟩
  have HS := Lib.hid hs
  have HDB := Lib.hid (fun W : World => K.decode b W hb)
  clear h0 hb
  unfold edC
  rw [← hs] at HB ⊢
  clear hs
  go_enter Try.func4, Try.ntmps4
  go_upto_region 1 with fail
  obtain ⟨g, hg⟩ : ∃ g, g = w.heap.size := ⟨_, rfl⟩
  rw [← hg] at HB ⊢
  generalize w.alloc (.cells #[.slice ad len cap, .slice ad2 len2 cap2, .slice ad3 len3 cap3, .slice ad4 len4 cap4, .int .i64 s] 33) = wa at HB ⊢
  clear hg
  have HX := Lib.hid (examples14 K wa)
  go_wp2_with fail
  refine HX.out.mono ?_
  rintro e w1 ⟨rfl, hk⟩
  have HB1 := Lib.hid (HB.out.quiet hk)
  clear hk HX HB
  obtain ⟨d0, d1, d2, d3, d4⟩ := HB1.out.cells
  have HA := K.encode w1 ad len cap ad2 len2 cap2 ad3 len3 cap3 ad4 len4 cap4 v HB1.out.ed
  unfold edC at HA
  rw [← HS.out] at d4 HA
  obtain ⟨⟨a, ok⟩, hr⟩ : ∃ r, Hid (r = encE v) := ⟨encE v, rfl⟩
  have hal : a.length ≤ 50000 := by have := encE_len v; rw [← hr.out] at this; exact this
  rw [← hr.out] at HA
  have HA := Lib.hid HA
  go_wp2_with fail
  refine HA.out.mono ?_
  rintro e w2 ⟨rfl, hk⟩
  have HB2 := Lib.hid (HB1.out.quiet hk)
  clear hk HA HB1 d0 d1 d2 d3 d4
  cases ok with
  | false =>
    simp only [Bool.false_eq_true, if_false]
    rw [show errV 54 1 = .iface 54 (.int .i64 1) from rfl]
    go_wp2_with fail
    refine (HDB.out w2).mono ?_
    rintro e w5 ⟨yd, yl, yc, yd2, yl2, yc2, yd3, yl3, yc3, yd4, yl4, yc4, rfl, hy, hk⟩
    have HB5 := Lib.hid (And.intro (HB2.out.quiet hk) hy)
    have hbi := @decE_iff (decE b).1 b
    obtain ⟨⟨y, fine⟩, hz⟩ : ∃ r, Hid (r = decE b) := ⟨decE b, rfl⟩
    have hno := @decE_no b
    rw [← hz.out] at HB5 hbi hno ⊢
    obtain ⟨s5, hs5⟩ : ∃ s5, s5 = y.2.2.2.2 := ⟨_, rfl⟩
    have HS5 := Lib.hid hs5
    simp only at hbi hno HB5 ⊢
    have HI := Lib.hid hbi
    have HNO := Lib.hid hno
    clear hk HB2 hy hbi hno HDB
    unfold edC
    rw [← hs5]
    clear hs5
    cases fine with
    | false =>
      simp only [Bool.false_eq_true, if_false]
      rw [show errV 54 3 = .iface 54 (.int .i64 3) from rfl]
      have hy0 : y = zeroE := (Prod.mk.inj (HNO.out rfl)).1
      obtain rfl : yl = 0 := by have := HB5.out.2.1.1; rw [hy0] at this; exact this.symm
      go_upto_region 9 with fail
      change Code.wp _ _ _ _ (w5.alloc (.cells #[.slice yd 0 yc, .slice yd2 yl2 yc2, .slice yd3 yl3 yc3, .slice yd4 yl4 yc4, .int .i64 s5] 33))
      have hbx := Holds.new w5 [.slice yd 0 yc, .slice yd2 yl2 yc2, .slice yd3 yl3 yc3, .slice yd4 yl4 yc4, .int .i64 s5] 33
      have f0 := hbx.cell 0 _ rfl
      have HK := Lib.hid (HB5.out.1.kept.alloc (.cells #[.slice yd 0 yc, .slice yd2 yl2 yc2, .slice yd3 yl3 yc3, .slice yd4 yl4 yc4, .int .i64 s5] 33))
      change Hid (Kept (fun _ => False) w (w5.alloc (.cells #[.slice yd 0 yc, .slice yd2 yl2 yc2, .slice yd3 yl3 yc3, .slice yd4 yl4 yc4, .int .i64 s5] 33))) at HK
      change World.cell? (w5.alloc (.cells #[.slice yd 0 yc, .slice yd2 yl2 yc2, .slice yd3 yl3 yc3, .slice yd4 yl4 yc4, .int .i64 s5] 33)) _ = _ at f0
      obtain ⟨g6, hg6⟩ : ∃ g6, g6 = w5.heap.size := ⟨_, rfl⟩
      rw [← hg6] at f0 ⊢
      clear hbx hg6 HB5
      generalize w5.alloc (.cells #[.slice yd 0 yc, .slice yd2 yl2 yc2, .slice yd3 yl3 yc3, .slice yd4 yl4 yc4, .int .i64 s5] 33) = w6 at f0 HK ⊢
      go_wp2
      go_ret
      exact ⟨rfl, HK.out⟩
    | true =>
      simp only [if_true]
      rw [show errV 54 0 = .nilIface from rfl]
      go_upto_region 9 with fail
      change Code.wp _ _ _ _ (w5.alloc (.cells #[.slice yd yl yc, .slice yd2 yl2 yc2, .slice yd3 yl3 yc3, .slice yd4 yl4 yc4, .int .i64 s5] 33))
      have HN := EBox.new (HB5.out.1.kept) HB5.out.2
      rw [← HS5.out] at HN
      have HB6 := Lib.hid HN
      obtain ⟨g6, hg6⟩ : ∃ g6, g6 = w5.heap.size := ⟨_, rfl⟩
      rw [← hg6] at HB6 ⊢
      clear HN hg6 HB5
      generalize w5.alloc (.cells #[.slice yd yl yc, .slice yd2 yl2 yc2, .slice yd3 yl3 yc3, .slice yd4 yl4 yc4, .int .i64 s5] 33) = w6 at HB6 ⊢
      obtain ⟨f0, f1, f2, f3, f4⟩ := HB6.out.cells
      have HE := K.encode w6 yd yl yc yd2 yl2 yc2 yd3 yl3 yc3 yd4 yl4 yc4 y HB6.out.ed
      rw [HI.out.1 rfl] at HE
      unfold edC at HE
      rw [← HS5.out] at f4 HE
      have HE := Lib.hid HE
      go_wp2_with fail
      refine HE.out.mono ?_
      rintro e w7 ⟨rfl, hk⟩
      have HK := Lib.hid (HB6.out.kept.trans hk (fun _ f => f.elim))
      clear hk HE HB6 f0 f1 f2 f3 f4
      simp only [if_true]
      rw [show errV 54 0 = .nilIface from rfl]
      go_wp2
      go_ret
      exact ⟨rfl, HK.out⟩
  | true =>
    simp only [if_true]
    rw [show errV 54 0 = .nilIface from rfl]
    have HD := K.decode a w2 (by omega)
    rw [decE_iff.2 hr.out.symm] at HD
    have HD := Lib.hid HD
    go_wp2_with fail
    refine HD.out.mono ?_
    rintro e w3 ⟨xd, xl, xc, xd2, xl2, xc2, xd3, xl3, xc3, xd4, xl4, xc4, rfl, hx, hk⟩
    have HB3 := Lib.hid (And.intro (HB2.out.quiet hk) hx)
    clear hk HD HB2 hx
    unfold edC
    simp only [if_true]
    rw [show errV 54 0 = .nilIface from rfl, ← HS.out]
    go_upto_region 5 with fail
    change Code.wp _ _ _ _ (w3.alloc (.cells #[.slice xd xl xc, .slice xd2 xl2 xc2, .slice xd3 xl3 xc3, .slice xd4 xl4 xc4, .int .i64 s] 33))
    have HN := EBox.new (HB3.out.1.kept) HB3.out.2
    rw [← HS.out] at HN
    have HB4 := Lib.hid (And.intro (HB3.out.1.quiet ((Kept.refl _ w3).alloc (.cells #[.slice xd xl xc, .slice xd2 xl2 xc2, .slice xd3 xl3 xc3, .slice xd4 xl4 xc4, .int .i64 s] 33))) HN)
    obtain ⟨g2, hg2⟩ : ∃ g2, g2 = w3.heap.size := ⟨_, rfl⟩
    rw [← hg2] at HB4 ⊢
    clear HN hg2 HB3
    generalize w3.alloc (.cells #[.slice xd xl xc, .slice xd2 xl2 xc2, .slice xd3 xl3 xc3, .slice xd4 xl4 xc4, .int .i64 s] 33) = w4 at HB4 ⊢
    obtain ⟨d0, d1, d2, d3, d4⟩ := HB4.out.1.cells
    obtain ⟨f0, f1, f2, f3, f4⟩ := HB4.out.2.cells
    have HM := Lib.hid (editsSame w4 xd xl xc xd2 xl2 xc2 xd3 xl3 xc3 xd4 xl4 xc4 ad len cap ad2 len2 cap2 ad3 len3 cap3 ad4 len4 cap4 v HB4.out.2.ed HB4.out.1.ed)
    unfold edC at HM
    rw [← HS.out] at d4 f4 HM
    go_wp2_with fail
    refine HM.out.mono ?_
    rintro e w2 ⟨rfl, hk⟩
    have HB2 := Lib.hid (HB4.out.1.quiet hk)
    clear hk HM HB4 d0 d1 d2 d3 d4 f0 f1 f2 f3 f4
    go_wp2_with fail
    refine (HDB.out w2).mono ?_
    rintro e w5 ⟨yd, yl, yc, yd2, yl2, yc2, yd3, yl3, yc3, yd4, yl4, yc4, rfl, hy, hk⟩
    have HB5 := Lib.hid (And.intro (HB2.out.quiet hk) hy)
    have hbi := @decE_iff (decE b).1 b
    obtain ⟨⟨y, fine⟩, hz⟩ : ∃ r, Hid (r = decE b) := ⟨decE b, rfl⟩
    have hno := @decE_no b
    rw [← hz.out] at HB5 hbi hno ⊢
    obtain ⟨s5, hs5⟩ : ∃ s5, s5 = y.2.2.2.2 := ⟨_, rfl⟩
    have HS5 := Lib.hid hs5
    simp only at hbi hno HB5 ⊢
    have HI := Lib.hid hbi
    have HNO := Lib.hid hno
    clear hk HB2 hy hbi hno HDB
    unfold edC
    rw [← hs5]
    clear hs5
    cases fine with
    | false =>
      simp only [Bool.false_eq_true, if_false]
      rw [show errV 54 3 = .iface 54 (.int .i64 3) from rfl]
      have hy0 : y = zeroE := (Prod.mk.inj (HNO.out rfl)).1
      obtain rfl : yl = 0 := by have := HB5.out.2.1.1; rw [hy0] at this; exact this.symm
      go_upto_region 9 with fail
      change Code.wp _ _ _ _ (w5.alloc (.cells #[.slice yd 0 yc, .slice yd2 yl2 yc2, .slice yd3 yl3 yc3, .slice yd4 yl4 yc4, .int .i64 s5] 33))
      have hbx := Holds.new w5 [.slice yd 0 yc, .slice yd2 yl2 yc2, .slice yd3 yl3 yc3, .slice yd4 yl4 yc4, .int .i64 s5] 33
      have f0 := hbx.cell 0 _ rfl
      have HK := Lib.hid (HB5.out.1.kept.alloc (.cells #[.slice yd 0 yc, .slice yd2 yl2 yc2, .slice yd3 yl3 yc3, .slice yd4 yl4 yc4, .int .i64 s5] 33))
      change Hid (Kept (fun _ => False) w (w5.alloc (.cells #[.slice yd 0 yc, .slice yd2 yl2 yc2, .slice yd3 yl3 yc3, .slice yd4 yl4 yc4, .int .i64 s5] 33))) at HK
      change World.cell? (w5.alloc (.cells #[.slice yd 0 yc, .slice yd2 yl2 yc2, .slice yd3 yl3 yc3, .slice yd4 yl4 yc4, .int .i64 s5] 33)) _ = _ at f0
      obtain ⟨g6, hg6⟩ : ∃ g6, g6 = w5.heap.size := ⟨_, rfl⟩
      rw [← hg6] at f0 ⊢
      clear hbx hg6 HB5
      generalize w5.alloc (.cells #[.slice yd 0 yc, .slice yd2 yl2 yc2, .slice yd3 yl3 yc3, .slice yd4 yl4 yc4, .int .i64 s5] 33) = w6 at f0 HK ⊢
      go_wp2
      go_ret
      exact ⟨rfl, HK.out⟩
    | true =>
      simp only [if_true]
      rw [show errV 54 0 = .nilIface from rfl]
      go_upto_region 9 with fail
      change Code.wp _ _ _ _ (w5.alloc (.cells #[.slice yd yl yc, .slice yd2 yl2 yc2, .slice yd3 yl3 yc3, .slice yd4 yl4 yc4, .int .i64 s5] 33))
      have HN := EBox.new (HB5.out.1.kept) HB5.out.2
      rw [← HS5.out] at HN
      have HB6 := Lib.hid HN
      obtain ⟨g6, hg6⟩ : ∃ g6, g6 = w5.heap.size := ⟨_, rfl⟩
      rw [← hg6] at HB6 ⊢
      clear HN hg6 HB5
      generalize w5.alloc (.cells #[.slice yd yl yc, .slice yd2 yl2 yc2, .slice yd3 yl3 yc3, .slice yd4 yl4 yc4, .int .i64 s5] 33) = w6 at HB6 ⊢
      obtain ⟨f0, f1, f2, f3, f4⟩ := HB6.out.cells
      have HE := K.encode w6 yd yl yc yd2 yl2 yc2 yd3 yl3 yc3 yd4 yl4 yc4 y HB6.out.ed
      rw [HI.out.1 rfl] at HE
      unfold edC at HE
      rw [← HS5.out] at f4 HE
      have HE := Lib.hid HE
      go_wp2_with fail
      refine HE.out.mono ?_
      rintro e w7 ⟨rfl, hk⟩
      have HK := Lib.hid (HB6.out.kept.trans hk (fun _ f => f.elim))
      clear hk HE HB6 f0 f1 f2 f3 f4
      simp only [if_true]
      rw [show errV 54 0 = .nilIface from rfl]
      go_wp2
      go_ret
      exact ⟨rfl, HK.out⟩

end Go.Proofs.Ytjdolimeibpacaa
