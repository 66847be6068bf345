/- The law VersionWhole. -/
import Derived.Test.YtjdolimeibpacaaBx14
namespace Go.Proofs.Ytjdolimeibpacaa
open Go.RowKit Go.Proofs Go.Proofs.Pk
set_option maxRecDepth 10000
attribute [local simp] mk_get wrap64_u8 mk_extract ByteArray.mk_append_mk get_1k

set_option maxHeartbeats 4000000 in
theorem whole14 {N : Int} (K : VnK N) (ad : Option Addr) (len cap : Nat) (ad2 : Option Addr) (len2 cap2 : Nat) (v : VerV) (w : World) (h0 : VerW w ad len cap ad2 len2 cap2 v) :
    Calls Try.prog 3 #[verC ad len cap ad2 len2 cap2 v.2.2] w fun e w' => e = .returned (.bool true) ∧ Kept (fun _ => False) w w' := by
  have HB := Lib.hid (VBox.new (Kept.refl _ w) h0)
  obtain ⟨s, hs⟩ : ∃ s, s = v.2.2 := ⟨_, rfl⟩
  obtain ⟨rv, hrv⟩ : ∃ rv, Hid (rv = rightV v) := ⟨_, rfl⟩
  have HS := Lib.hid hs
  clear h0
  unfold verC
  rw [← hs] at HB ⊢
  clear hs
  go_enter Try.func3, Try.ntmps3
  go_upto_region 1 with fail
  obtain ⟨g, hg⟩ : ∃ g, g = w.heap.size := ⟨_, rfl⟩
  rw [← hg] at HB ⊢
  generalize w.alloc (.cells #[.slice ad len cap, .slice ad2 len2 cap2, .int .i64 s] 25) = wa at HB ⊢
  clear hg
  have HX := Lib.hid (examples14 K wa)
  go_wp2_with fail
  refine HX.out.mono ?_
  rintro e w1 ⟨rfl, hk⟩
  have HB1 := Lib.hid (HB.out.quiet hk)
  clear hk HX HB
  obtain ⟨d0, d1, d2⟩ := HB1.out.cells
  have HR := Lib.hid (K.right w1 ad len cap ad2 len2 cap2 v HB1.out.ver)
  unfold verC at HR
  rw [← HS.out] at d2 HR
  rw [← hrv.out] at HR
  go_wp2_with fail
  refine HR.out.mono ?_
  rintro e w2 ⟨rfl, hk⟩
  have HB2 := Lib.hid (HB1.out.quiet hk)
  clear hk HR HB1 d0 d1 d2
  cases rv with
  | false =>
    go_wp2
    go_ret
    exact ⟨rfl, HB2.out.kept⟩
  | true =>
    obtain ⟨d0, d1, d2⟩ := HB2.out.cells
    have HW := Lib.hid (K.whole w2 ad len cap ad2 len2 cap2 v HB2.out.ver)
    unfold verC at HW
    rw [← HS.out] at d2 HW
    go_wp2_with fail
    refine HW.out.mono ?_
    rintro e w3 ⟨bd, bl, bc, bd2, bl2, bc2, bd3, bl3, bc3, bd4, bl4, bc4, rfl, he, hk⟩
    have HB3 := Lib.hid (HB2.out.quiet hk)
    have HA := K.apply w3 none 0 0 none 0 0 zeroV bd bl bc bd2 bl2 bc2 bd3 bl3 bc3 bd4 bl4 bc4 (wholeV v) (ver_zero _) he
    rw [whole_back hrv.out.symm, show (wholeV v).2.2.2.2 = s from HS.out.symm, show zeroV.2.2 = 0 from rfl] at HA
    unfold verC edC at HA
    have HA := Lib.hid HA
    clear hk HW HB2 d0 d1 d2 he
    unfold edC
    go_wp2_with fail
    refine HA.out.mono ?_
    rintro e w4 ⟨ae, ln, cp, ae2, ln2, cp2, rfl, hv, hk⟩
    have HB4 := Lib.hid (And.intro (HB3.out.quiet hk) hv)
    clear hk HA HB3 hv
    unfold verC
    simp only
    rw [show errV 54 0 = .nilIface from rfl, ← HS.out]
    go_upto_region 5 with fail
    change Code.wp _ _ _ _ (w4.alloc (.cells #[.slice ae ln cp, .slice ae2 ln2 cp2, .int .i64 s] 25))
    have HN := VBox.new (HB4.out.1.kept) HB4.out.2
    rw [← HS.out] at HN
    have HB5 := Lib.hid (And.intro (HB4.out.1.quiet ((Kept.refl _ w4).alloc (.cells #[.slice ae ln cp, .slice ae2 ln2 cp2, .int .i64 s] 25))) HN)
    obtain ⟨g2, hg2⟩ : ∃ g2, g2 = w4.heap.size := ⟨_, rfl⟩
    rw [← hg2] at HB5 ⊢
    clear HN hg2 HB4
    generalize w4.alloc (.cells #[.slice ae ln cp, .slice ae2 ln2 cp2, .int .i64 s] 25) = w5 at HB5 ⊢
    obtain ⟨d0, d1, d2⟩ := HB5.out.1.cells
    obtain ⟨e0, e1, e2⟩ := HB5.out.2.cells
    have HM := Lib.hid (sameV w5 ad len cap ad2 len2 cap2 ae ln cp ae2 ln2 cp2 v HB5.out.1.ver HB5.out.2.ver)
    unfold verC at HM
    rw [← HS.out] at d2 e2 HM
    go_wp2_with fail
    refine HM.out.mono ?_
    rintro e w6 ⟨rfl, hk⟩
    have HK := Lib.hid (HB5.out.1.kept.trans hk (fun _ f => f.elim))
    clear hk HM HB5 d0 d1 d2 e0 e1 e2
    go_wp2
    go_ret
    exact ⟨rfl, HK.out⟩

end Go.Proofs.Ytjdolimeibpacaa
