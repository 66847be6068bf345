/- The law PickPicks (layer 16), walked over the contract of the program's choice. -/
import Derived.Test.YtgcepbpdicadnaaEx16
import Derived.Test.YtgcepbpdicadnaaJ15
import Derived.Test.YtgcepbpdicadnaaJ23
import Derived.Test.YtgcepbpdicadnaaRpb16
import Derived.Deep.CutRange
namespace Go.Proofs.Ytgcepbpdicadnaa
open Go.RowKit Go.Proofs Go.Proofs.Pk
set_option maxRecDepth 10000
attribute [local simp] mk_get wrap64_u8 mk_extract ByteArray.mk_append_mk get_1k

def CutM (ad : Option Addr) (len cap n cap2 : Nat) (m : Int) : Prop := (∃ b off, ad = some ⟨b, off, none⟩ ∧ min (len : Int) m = (n : Int) ∧ (n : Int) ≤ (cap : Int) ∧ (len : Int) ≤ (cap : Int) ∧ cap2 = cap) ∨ (ad = Option.none ∧ len = 0 ∧ cap = 0 ∧ n = 0 ∧ cap2 = 0)
theorem metas_head {w : World} {ad : Option Addr} {len : Nat} {l : List MetaV} (h : MetasW w ad len l) (n : Nat) (hn : n ≤ len) : MetasW w ad n (l.take n) := by
  have hl := h.1
  refine ⟨by rw [List.length_take]; omega, ?_⟩
  rcases h.2 with h0 | ⟨b, off, e1, e2, e3⟩
  · exact .inl (by rw [h0]; simp)
  · refine .inr ⟨b, off, e1, e2, fun i hi => ?_⟩
    rw [List.length_take] at hi
    rw [List.getElem_take]
    exact e3 i (by omega)
theorem cut_ver {w : World} {ad : Option Addr} {len cap : Nat} {ad2 : Option Addr} {len2 cap2 : Nat} {v : VerV} (h : VerW w ad len cap ad2 len2 cap2 v) (m : Nat) :
    ∃ n c, CutM ad len cap n c (m : Int) ∧ VerW w ad n c ad2 len2 cap2 (v.1.take n, v.2.1, v.2.2) := by
  obtain ⟨hm, ⟨hfl, hlc, hbg, hno⟩, hr⟩ := h
  rcases hfl with rfl | ⟨b, off, rfl⟩
  · obtain ⟨rfl, rfl⟩ := hno rfl
    exact ⟨0, 0, .inr ⟨rfl, rfl, rfl, rfl, rfl⟩, metas_head hm 0 (by omega), ⟨.inl rfl, by omega, by omega, fun _ => ⟨rfl, rfl⟩⟩, hr⟩
  · exact ⟨min len m, cap, .inl ⟨b, off, rfl, by omega, by omega, by omega, rfl⟩, metas_head hm _ (by omega), ⟨.inr ⟨b, off, rfl⟩, by omega, by omega, fun h => by cases h⟩, hr⟩

set_option maxHeartbeats 16000000 in
theorem picks_go (K : PkK) (ad : Option Addr) (len cap n c : Nat) (ad2 : Option Addr) (len2 cap2 : Nat) (s : Int) (V : VerV) (lv : Int) (w : World) (hsl : CutM ad len cap n c 60) (h0 : VerW w ad n c ad2 len2 cap2 V) (hs : s = V.2.2) (hlv : FitV lv) :
    Calls Try.prog 3 #[.agg #[.slice ad len cap, .slice ad2 len2 cap2, .int .i64 s], .int .i64 lv] w fun e w' => e = .returned (.bool true) ∧ Kept (fun _ => False) w w' := by
  have H0 := Lib.hid h0
  have HS := Lib.hid hs
  have hBx := Holds.new w [.slice ad len cap, .slice ad2 len2 cap2, .int .i64 s] 25
  have hk0 := (Kept.refl (fun _ => False) w).alloc (.cells #[.slice ad len cap, .slice ad2 len2 cap2, .int .i64 s] 25)
  have HB : Hid (Holds (w.alloc (.cells #[.slice ad len cap, .slice ad2 len2 cap2, .int .i64 s] 25)) w.heap.size [.slice ad len cap, .slice ad2 len2 cap2, .int .i64 s] 25 ∧ Kept (fun _ => False) w (w.alloc (.cells #[.slice ad len cap, .slice ad2 len2 cap2, .int .i64 s] 25)) ∧ w.heap.size ≤ w.heap.size) := ⟨hBx, hk0, Nat.le_refl _⟩
  have L1 := Lib.hid (fun W => K.limit lv W hlv)
  have L2 := Lib.hid (fun W => rLim16 lv W)
  obtain ⟨lm, hlm⟩ : ∃ lm, lm = limM lv := ⟨_, rfl⟩
  rw [← hlm] at L1 L2
  clear h0 hs hBx hk0 hlm hlv
  go_enter Try.func3, Try.ntmps3
  go_upto_region 1 with fail
  obtain ⟨g, hg⟩ : ∃ g, g = w.heap.size := ⟨_, rfl⟩
  have HBg : Hid (Holds (w.alloc (.cells #[.slice ad len cap, .slice ad2 len2 cap2, .int .i64 s] 25)) g [.slice ad len cap, .slice ad2 len2 cap2, .int .i64 s] 25 ∧ Kept (fun _ => False) w (w.alloc (.cells #[.slice ad len cap, .slice ad2 len2 cap2, .int .i64 s] 25)) ∧ w.heap.size ≤ g) := by
    subst hg; exact HB.out
  clear HB
  rw [← hg]
  clear hg
  change Code.wp _ _ _ _ (w.alloc (.cells #[.slice ad len cap, .slice ad2 len2 cap2, .int .i64 s] 25))
  generalize w.alloc (.cells #[.slice ad len cap, .slice ad2 len2 cap2, .int .i64 s] 25) = wa at HBg ⊢
  have HX := Lib.hid (examples16 K wa)
  go_wp2_with fail
  refine HX.out.mono ?_
  rintro e w1 ⟨rfl, hk⟩
  have HB1 : Hid (Holds w1 g [.slice ad len cap, .slice ad2 len2 cap2, .int .i64 s] 25 ∧ Kept (fun _ => False) w w1 ∧ w.heap.size ≤ g) := ⟨HBg.out.1.of_block (hk.block g HBg.out.1.lt (fun f => f)), HBg.out.2.1.trans hk (fun _ f => f.elim), HBg.out.2.2⟩
  clear hk HX HBg
  have d0 := Holds.cell HB1.out.1 0 _ rfl
  have f0 := Holds.free HB1.out.1 0
  go_upto_region 2 with fail
  go_cut [5] from 12 (fun s5 wx => s5 = .bool true ∧ Hid (VBox w wx g ad n c ad2 len2 cap2 V ∧ w.heap.size ≤ g))
  case first =>
    have HV : Hid (VBox w (w1.setCell ⟨g, 0, none⟩ (.slice ad n c)) g ad n c ad2 len2 cap2 V ∧ w.heap.size ≤ g) := by
      have hk := HB1.out.2.1.setNew (p := ⟨g, 0, none⟩) HB1.out.2.2 (.slice ad n c)
      refine ⟨⟨hk, ?_, H0.out.kept hk⟩, HB1.out.2.2⟩
      rw [← HS.out]
      exact Holds.set HB1.out.1 0 (.slice ad n c)
    clear HB1 L1 L2 H0
    rcases hsl with ⟨b0, off, rfl, k1, k2, k3, rfl⟩ | ⟨rfl, rfl, rfl, rfl, rfl⟩
    all_goals
      go_wp2
      go_meet
      case rel => exact ⟨rfl, HV⟩
  case rest =>
  obtain ⟨rfl, HV⟩ := hcut
  clear HB1 d0 f0 hsl
  rename World => w2
  obtain ⟨d0, d1, d2⟩ := HV.out.1.cells
  have HR := Lib.hid (K.pick w2 ad n c ad2 len2 cap2 V HV.out.1.ver)
  unfold verC at HR
  rw [← HS.out] at d2 HR
  go_wp2_with fail
  refine HR.out.mono ?_
  rintro e w3 ⟨ia, il, ic, ua, ul, uc, rfl, hI, hBI, hU, hBU, hk⟩
  have HB5I : Hid ((il : Int) * 8 ≤ 140737488351232 ∧ (ul : Int) * 8 ≤ 140737488351232) := ⟨hBI.2.2.1, hBU.2.2.1⟩
  clear hBI hBU
  have HV3 := Lib.hid (And.intro (HV.out.1.quiet hk) (Lib.hid (And.intro hI hU)).out)
  clear hk HR HV d0 d1 d2 hI hU
  obtain ⟨J, hJ⟩ : ∃ J, Hid (J = pickM V) := ⟨_, rfl⟩
  rw [← hJ.out] at HV3 ⊢
  obtain ⟨jn, hjn⟩ : ∃ jn, Hid (jn = (J.getD zeroJ).1) := ⟨_, rfl⟩
  obtain ⟨jb, hjb⟩ : ∃ jb, Hid (jb = (J.getD zeroJ).2.2.2) := ⟨_, rfl⟩
  obtain ⟨ok, hok⟩ : ∃ ok, Hid (ok = J.isSome) := ⟨_, rfl⟩
  rw [← hjn.out, ← hjb.out, ← hok.out]
  unfold jobC
  have hilI := HV3.out.2.1.1
  have hulU := HV3.out.2.2.1
  go_upto_region 4 with fail
  change Code.wp _ _ _ _ (w3.alloc (.cells #[.int .i64 jn, .slice ia il ic, .slice ua ul uc, .bool jb] 28))
  have HJ1 : Hid (Holds (w3.alloc (.cells #[.int .i64 jn, .slice ia il ic, .slice ua ul uc, .bool jb] 28)) w3.heap.size [.int .i64 jn, .slice ia il ic, .slice ua ul uc, .bool jb] 28) := Holds.new w3 _ _
  have hk3 := (Kept.refl (fun _ => False) w3).alloc (.cells #[.int .i64 jn, .slice ia il ic, .slice ua ul uc, .bool jb] 28)
  have HV4 := Lib.hid (And.intro (HV3.out.1.quiet hk3) (And.intro (ints_keptV HV3.out.2.1 hk3) (ints_keptV HV3.out.2.2 hk3)))
  clear HV3 hk3
  obtain ⟨q, hq⟩ : ∃ q, q = w3.heap.size := ⟨_, rfl⟩
  rw [← hq] at HJ1 ⊢
  clear hq
  generalize w3.alloc (.cells #[.int .i64 jn, .slice ia il ic, .slice ua ul uc, .bool jb] 28) = w4 at HJ1 HV4 ⊢
  obtain ⟨d0, d1, d2⟩ := HV4.out.1.cells
  have HR := Lib.hid (rPick16 w4 ad n c ad2 len2 cap2 V HV4.out.1.ver)
  unfold verC at HR
  rw [← HS.out, ← hJ.out] at HR
  rw [← HS.out] at d2
  go_wp2_with fail
  refine HR.out.mono ?_
  rintro e w5 ⟨ia2, il2, ic2, ua2, ul2, uc2, rfl, hI2, hU2, hk⟩
  obtain rfl : il2 = il := by rw [← hI2.1, hilI]
  obtain rfl : ul2 = ul := by rw [← hU2.1, hulU]
  have HV5 := Lib.hid (And.intro (HV4.out.1.quiet hk) (And.intro (ints_keptV HV4.out.2.1 hk) (ints_keptV HV4.out.2.2 hk)))
  have HJ5 : Hid (Holds w5 q [.int .i64 jn, .slice ia il2 ic, .slice ua ul2 uc, .bool jb] 28) := HJ1.out.of_block (hk.block q HJ1.out.lt (fun f => f))
  have HI2 := Lib.hid (And.intro hI2 hU2)
  clear hk HR HV4 HJ1 d0 d1 d2 hI2 hU2
  rw [← hjn.out, ← hjb.out, ← hok.out]
  unfold jobC
  go_upto_region 5 with fail
  change Code.wp _ _ _ _ (w5.alloc (.cells #[.int .i64 jn, .slice ia2 il2 ic2, .slice ua2 ul2 uc2, .bool jb] 28))
  have HJ6 : Hid (Holds (w5.alloc (.cells #[.int .i64 jn, .slice ia2 il2 ic2, .slice ua2 ul2 uc2, .bool jb] 28)) w5.heap.size [.int .i64 jn, .slice ia2 il2 ic2, .slice ua2 ul2 uc2, .bool jb] 28) := Holds.new w5 _ _
  have hk5 := (Kept.refl (fun _ => False) w5).alloc (.cells #[.int .i64 jn, .slice ia2 il2 ic2, .slice ua2 ul2 uc2, .bool jb] 28)
  have HV6 := Lib.hid (HV5.out.1.kept.trans hk5 (fun _ f => f.elim))
  have HL6 := Lib.hid (And.intro (And.intro (ints_keptV HV5.out.2.1 hk5) (ints_keptV HV5.out.2.2 hk5)) (And.intro (ints_keptV HI2.out.1 hk5) (ints_keptV HI2.out.2 hk5)))
  have HJ6a := Lib.hid (HJ5.out.of_block (hk5.block q HJ5.out.lt (fun f => f)))
  have hb1 : (il2 : Int) ≤ 140737488351232 := by have := HB5I.out; omega
  have hb2 : (ul2 : Int) ≤ 140737488351232 := by have := HB5I.out; omega
  clear HV5 HI2 HJ5 hk5
  obtain ⟨p, hp⟩ : ∃ p, p = w5.heap.size := ⟨_, rfl⟩
  rw [← hp] at HJ6 ⊢
  clear hp
  generalize w5.alloc (.cells #[.int .i64 jn, .slice ia2 il2 ic2, .slice ua2 ul2 uc2, .bool jb] 28) = w6 at HJ6 HJ6a HV6 HL6 ⊢
  have a1 := Holds.cell HJ6a.out 1 _ rfl
  have b1 := Holds.cell HJ6.out 1 _ rfl
  have HN := Lib.hid (numbers16 w6 ia ia2 il2 ic ic2 _ HL6.out.1.1 HL6.out.2.1 hb1)
  go_wp2_with fail
  refine HN.out.mono ?_
  rintro e w7 ⟨rfl, hk⟩
  have HV7 := Lib.hid (HV6.out.trans hk (fun _ f => f.elim))
  have HU7 := Lib.hid (And.intro (ints_keptV HL6.out.1.2 hk) (ints_keptV HL6.out.2.2 hk))
  have HJ7 := Lib.hid (HJ6.out.of_block (hk.block p HJ6.out.lt (fun f => f)))
  have HJ7a := Lib.hid (HJ6a.out.of_block (hk.block q HJ6a.out.lt (fun f => f)))
  clear hk HN HV6 HL6 HJ6 HJ6a a1 b1
  have a1 := Holds.cell HJ7a.out 2 _ rfl
  have b1 := Holds.cell HJ7.out 2 _ rfl
  have HN := Lib.hid (numbers16 w7 ua ua2 ul2 uc uc2 _ HU7.out.1 HU7.out.2 hb2)
  go_wp2_with fail
  refine HN.out.mono ?_
  rintro e w8 ⟨rfl, hk⟩
  have HV8 := Lib.hid (HV7.out.trans hk (fun _ f => f.elim))
  have HJ8 := Lib.hid (HJ7.out.of_block (hk.block p HJ7.out.lt (fun f => f)))
  have HJ8a := Lib.hid (HJ7a.out.of_block (hk.block q HJ7a.out.lt (fun f => f)))
  clear hk HN HV7 HU7 HJ7 HJ7a a1 b1
  have a0 := Holds.cell HJ8a.out 0 _ rfl
  have b0 := Holds.cell HJ8.out 0 _ rfl
  have a3 := Holds.cell HJ8a.out 3 _ rfl
  have b3 := Holds.cell HJ8.out 3 _ rfl
  clear HJ8 HJ8a
  go_wp2_with fail
  refine (L1.out _).mono ?_
  rintro e w9 ⟨rfl, hk⟩
  have HV9 := Lib.hid (HV8.out.trans hk (fun _ f => f.elim))
  clear hk HV8 L1 a0 b0 a3 b3
  go_wp2_with fail
  refine (L2.out _).mono ?_
  rintro e w10 ⟨rfl, hk⟩
  have HV10 := Lib.hid (HV9.out.trans hk (fun _ f => f.elim))
  clear hk HV9 L2
  go_wp2
  go_ret
  exact ⟨rfl, HV10.out⟩

theorem picks16 (K : PkK) (ad : Option Addr) (len cap : Nat) (ad2 : Option Addr) (len2 cap2 : Nat) (v : VerV) (lv : Int) (w : World) (h0 : VerW w ad len cap ad2 len2 cap2 v) (hlv : FitV lv) :
    Calls Try.prog 3 #[verC ad len cap ad2 len2 cap2 v.2.2, .int .i64 lv] w fun e w' => e = .returned (.bool true) ∧ Kept (fun _ => False) w w' := by
  obtain ⟨n, c, h1, h2⟩ := cut_ver h0 60
  exact picks_go K ad len cap n c ad2 len2 cap2 v.2.2 _ lv w h1 h2 rfl hlv

end Go.Proofs.Ytgcepbpdicadnaa
