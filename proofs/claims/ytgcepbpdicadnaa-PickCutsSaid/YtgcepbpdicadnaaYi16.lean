/- The program of layer 16: Pick. Printed by genyi16.py. -/
import Derived.Test.YtgcepbpdicadnaaJ14
import Derived.Test.YtgcepbpdicadnaaJ16
import Derived.Test.YtgcepbpdicadnaaJ18
import Derived.Test.YtgcepbpdicadnaaJ19
import Derived.Test.YtgcepbpdicadnaaVf14
import Derived.Test.YtgcepbpdicadnaaRpb16
namespace Go.Proofs.Ytgcepbpdicadnaa
open Go.RowKit Go.Proofs Go.Proofs.Pk
set_option maxRecDepth 10000
attribute [local simp] mk_get wrap64_u8 mk_extract ByteArray.mk_append_mk get_1k

set_option maxHeartbeats 2000000 in
/-- Pick returns what its result's box holds, and slot 3. -/
theorem pk_doorP {R : Ending → World → Prop} {W : World} {r : Nat} {n : Int} {ia : Option Addr} {il ic : Nat} {ua : Option Addr} {ul uc : Nat} {b : Bool} {bv : Value} (l : List Value) (hP : Holds W r [.int .i64 n, .slice ia il ic, .slice ua ul uc, .bool b] 28)
    (h2 : l[2]? = some (.pointer (some ⟨r, 0, none⟩))) (h3 : l[3]? = some bv) (hR : R (.returned (.tuple #[jobC n ia il ic ua ul uc b, bv])) W) : bodyPost Try.prog Try.f9 R Exit.ret { tmps := l.toArray, defers := [] } W := by
  have d0 := Holds.cell hP 0 _ rfl
  have d1 := Holds.cell hP 1 _ rfl
  have d2 := Holds.cell hP 2 _ rfl
  have d3 := Holds.cell hP 3 _ rfl
  refine bodyPost_ret (v := .tuple #[jobC n ia il ic ua ul uc b, bv]) ?_ rfl hR
  rw [results_cell_tmp rfl]
  have e2 : l.toArray.getD 2 undef = .pointer (some ⟨r, 0, none⟩) := by simp [Array.getD_eq_getD_getElem?, h2]
  have e3 : l.toArray.getD 3 undef = bv := by simp [Array.getD_eq_getD_getElem?, h3]
  show ((asAddr (l.toArray.getD 2 undef)).run _ _).andThen _ = _
  rw [e2, e3]
  go_simp
  rfl
theorem pj_none {w W : World} {l : List Value} {g r : Nat} {ad : Option Addr} {len cap : Nat} {ad2 : Option Addr} {len2 cap2 : Nat} {v : VerV} {o : Option JobV} (ho : o = none) (h : PB w W g r ad len cap ad2 len2 cap2 v)
    (h2 : l[2]? = some (.pointer (some ⟨r, 0, none⟩))) (h3 : l[3]? = some (.bool false)) :
    bodyPost Try.prog Try.f9 (JobE w o) Exit.ret { tmps := l.toArray, defers := [] } ((((W.setCell ⟨r, 0, none⟩ (.int .i64 0)).setCell ⟨r, 1, none⟩ (.slice none 0 0)).setCell ⟨r, 2, none⟩ (.slice none 0 0)).setCell ⟨r, 3, none⟩ (.bool false)) := by
  subst ho
  have hk : Kept (fun _ => False) w ((((W.setCell ⟨r, 0, none⟩ (.int .i64 0)).setCell ⟨r, 1, none⟩ (.slice none 0 0)).setCell ⟨r, 2, none⟩ (.slice none 0 0)).setCell ⟨r, 3, none⟩ (.bool false)) :=
    (((h.vb.kept.setNew (p := ⟨r, 0, none⟩) h.far _).setNew (p := ⟨r, 1, none⟩) h.far _).setNew (p := ⟨r, 2, none⟩) h.far _).setNew (p := ⟨r, 3, none⟩) h.far _
  exact pk_doorP l ((((Holds.set h.res 0 (.int .i64 0)).set 1 (.slice none 0 0)).set 2 (.slice none 0 0)).set 3 (.bool false)) h2 h3 ⟨none, 0, 0, none, 0, 0, rfl, (ints_none _).1, (ints_none W).2, (ints_none _).1, (ints_none W).2, hk⟩
/-- No level below k was chosen. -/
def NoneP (v : VerV) (k : Nat) : Prop := (0 < k → (levelV v 0).length < 3) ∧ (1 < k → sizeT (levelV v 1) ≤ 4000) ∧ (2 < k → sizeT (levelV v 2) ≤ 16000)
theorem NoneP.all {v : VerV} (h : NoneP v 3) : chooseM v = none := by
  have h1 := h.1 (by omega)
  have h2 := h.2.1 (by omega)
  have h3 := h.2.2 (by omega)
  unfold chooseM
  rw [if_neg (by omega), if_neg (by omega), if_neg (by omega)]
theorem NoneP.first {v : VerV} (h : 3 ≤ (levelV v 0).length) : chooseM v = some (0, levelV v 0) := by unfold chooseM; rw [if_pos h]
theorem NoneP.next0 {v : VerV} (h : ¬3 ≤ (levelV v 0).length) : NoneP v 1 := ⟨fun _ => by omega, fun h => by omega, fun h => by omega⟩
theorem NoneP.yes {v : VerV} {k : Nat} (h : NoneP v k) (h0 : 0 < k) (h3 : k < 3) (hs : limM (k : Int) < sizeT (levelV v (k : Int))) : chooseM v = some ((k : Int), (levelV v (k : Int)).take 1) := by
  have h1 := h.1 h0
  rcases (by omega : k = 1 ∨ k = 2) with rfl | rfl
  · have hs : (4000 : Int) < sizeT (levelV v 1) := hs
    unfold chooseM; rw [if_neg (by omega), if_pos hs]; rfl
  · have hs : (16000 : Int) < sizeT (levelV v 2) := hs
    have := h.2.1 (by omega)
    unfold chooseM; rw [if_neg (by omega), if_neg (by omega), if_pos hs]; rfl
theorem NoneP.next {v : VerV} {k : Nat} (h : NoneP v k) (h0 : 0 < k) (h3 : k < 3) (hs : ¬limM (k : Int) < sizeT (levelV v (k : Int))) : NoneP v (k + 1) := by
  have h1 := h.1 h0
  rcases (by omega : k = 1 ∨ k = 2) with rfl | rfl
  · have hs : ¬(4000 : Int) < sizeT (levelV v 1) := hs
    exact ⟨fun _ => h1, fun _ => by omega, fun h => by omega⟩
  · have hs : ¬(16000 : Int) < sizeT (levelV v 2) := hs
    exact ⟨fun _ => h1, fun _ => h.2.1 (by omega), fun _ => by omega⟩

set_option maxHeartbeats 16000000 in
theorem pPick (w : World) (ad : Option Addr) (len cap : Nat) (ad2 : Option Addr) (len2 cap2 : Nat) (v : VerV) (h0 : VerW w ad len cap ad2 len2 cap2 v) :
    Calls Try.prog 9 #[verC ad len cap ad2 len2 cap2 v.2.2] w (JobE w (pickM v)) := by
  have hlen := h0.1.1
  have HB := Lib.hid (PB.new h0)
  have H0 := Lib.hid h0
  obtain ⟨Z, hZ⟩ : ∃ Z, Hid (Z = pickM v) := ⟨pickM v, rfl⟩
  rw [← hZ.out]
  obtain ⟨s, hs⟩ : ∃ s, s = v.2.2 := ⟨_, rfl⟩
  have HS := Lib.hid hs
  clear h0
  unfold verC
  rw [← hs] at HB ⊢
  clear hs
  go_enter Try.func9, Try.ntmps9
  go_upto_region 1 with fail
  change Code.wp _ _ _ _ ((w.alloc (.cells #[.slice ad len cap, .slice ad2 len2 cap2, .int .i64 s] 25)).alloc (.cells #[.int .i64 0, .slice none 0 0, .slice none 0 0, .bool false] 28))
  obtain ⟨g, hg⟩ : ∃ g, g = w.heap.size := ⟨_, rfl⟩
  obtain ⟨r, hr⟩ : ∃ r, r = w.heap.size + 1 := ⟨_, rfl⟩
  rw [← hr, ← hg] at HB
  generalize (w.alloc (.cells #[.slice ad len cap, .slice ad2 len2 cap2, .int .i64 s] 25)).alloc (.cells #[.int .i64 0, .slice none 0 0, .slice none 0 0, .bool false] 28) = wa at HB ⊢
  rw [← hr, ← hg]
  have hgr : g < r := by omega
  clear hr hg
  obtain ⟨d0, d1, d2⟩ := HB.out.vb.cells
  have HR := Lib.hid (right14p ad len cap ad2 len2 cap2 v wa HB.out.vb.ver.x)
  unfold verC at HR
  rw [← HS.out] at d2 HR
  obtain ⟨rv, hrv⟩ : ∃ rv, Hid (rv = rightV v) := ⟨rightV v, rfl⟩
  rw [← hrv.out] at HR
  refine wp_scope_straight ?_
  go_wp2_with fail
  refine HR.out.mono ?_
  rintro e w1 ⟨rfl, hk⟩
  have HB1 := Lib.hid (HB.out.quiet hk)
  clear hk HR HB d0 d1 d2
  cases rv with
  | false =>
    obtain rfl : Z = none := by rw [hZ.out]; exact pick_wrong hrv.out.symm
    have r0 := Holds.cell HB1.out.res 0 _ rfl
    have r1 := Holds.cell HB1.out.res 1 _ rfl
    have r2 := Holds.cell HB1.out.res 2 _ rfl
    have r3 := Holds.cell HB1.out.res 3 _ rfl
    have q0 := Holds.free HB1.out.res 0
    have q1 := Holds.free HB1.out.res 1
    have q2 := Holds.free HB1.out.res 2
    have q3 := Holds.free HB1.out.res 3
    go_wp2
    exact pj_none rfl HB1.out rfl rfl
  | true =>
  have HRt : Hid (rightV v = true) := hrv.out.symm
  clear hrv
  have HLen : Hid (len ≤ 200) := by have := (right_ofV HRt.out).1.1; show len ≤ 200; omega
  have HN0 : Hid (NoneP v 0) := ⟨fun h => by omega, fun h => by omega, fun h => by omega⟩
  go_wp2
  refine wp_label ?_
  go_wp2
  go_loopw [4, 5] (fun x4 x5 wr => ∃ (k : Nat) (ia : Option Addr) (il ic : Nat), k ≤ 3 ∧ x4 = .slice ia il ic ∧ x5 = .int .i64 (k : Int) ∧ Hid (PB w wr g r ad len cap ad2 len2 cap2 v) ∧ Hid (NoneP v k)) (fun _ n _ => 3 - (intOf n).toNat)
  case atStart => exact ⟨0, none, 0, 0, by omega, rfl, rfl, HB1, HN0⟩
  case round =>
    clear HB1 HN0
    rename World => wr
    obtain ⟨k, ja, jl, jc, hk3, rfl, rfl, HB, HN⟩ := hrel
    have k0 : (0 : Int) ≤ (k : Int) := by omega
    have hwk : IntKind.i64.wrap ((k : Int) + 1) = (k : Int) + 1 := IntWalk.i64_in _ (by omega)
    by_cases hlt : k < 3
    case neg =>
      obtain rfl : k = 3 := by omega
      obtain rfl : Z = none := by rw [hZ.out]; exact pick_no HN.out.all
      have r0 := Holds.cell HB.out.res 0 _ rfl
      have r1 := Holds.cell HB.out.res 1 _ rfl
      have r2 := Holds.cell HB.out.res 2 _ rfl
      have r3 := Holds.cell HB.out.res 3 _ rfl
      have q0 := Holds.free HB.out.res 0
      have q1 := Holds.free HB.out.res 1
      have q2 := Holds.free HB.out.res 2
      have q3 := Holds.free HB.out.res 3
      clear k0 hwk hk3
      go_wp2
      exact pj_none rfl HB.out rfl rfl
    have kN : (k : Int) < 3 := by omega
    have hk2 : k ≤ 2 := by omega
    obtain ⟨d0, d1, d2⟩ := HB.out.vb.cells
    have HL := Lib.hid (level16o ad len cap ad2 len2 cap2 v (k : Int) wr HB.out.vb.ver)
    unfold verC at HL
    rw [← HS.out] at d2 HL
    go_wp2_with fail
    refine HL.out.mono ?_
    rintro e wt ⟨ia, il, ic, rfl, hil, hill, hio, hk⟩
    have HB0 := Lib.hid (HB.out.quiet hk)
    have hil2 : il ≤ 200 := by have := HLen.out; omega
    obtain ⟨ia', ic', hv, hM, hic, hfl, hnn⟩ := owns_metas hio hil.symm (fun m hm => fits_ofM HB.out.vb.ver.1 m (List.mem_filter.1 hm).1)
    cases hv
    have hform : 0 < il → ∃ gi, ia = some ⟨gi, 0, none⟩ := fun h => by
      rcases hio.2 with ⟨h1, h2⟩ | ⟨gi, c, cur, h1, _⟩
      · omega
      · cases h1; exact ⟨gi, rfl⟩
    have HMt := Lib.hid hM
    have HIl := Lib.hid hil
    clear hk HL HB d0 d1 d2 hio hill hfl hnn hM hil
    by_cases hk0 : k = 0
    · have e0 : ((k : Int) == 0) = true := beq_iff_eq.2 (by omega)
      have HLv : Hid (levelV v (k : Int) = levelV v 0) := by show _ = _; rw [hk0]; rfl
      by_cases h3 : 3 ≤ il
      · have c3' : decide ((3 : Int) ≤ (il : Int)) = true := decide_eq_true (by omega)
        have HCh : Hid (chooseM v = some ((k : Int), levelV v (k : Int))) := by
          have h := NoneP.first (v := v) (by rw [← HLv.out, ← HIl.out]; exact h3)
          show _ = _
          rw [h, HLv.out, hk0]; rfl
        have HIn : Hid (MetasW wt ia il (levelV v (k : Int)) ∧ il ≤ ic ∧ 0 < il ∧ il ≤ 200) := ⟨HMt.out, hic, by omega, hil2⟩
        generalize levelV v (k : Int) = I at HCh HIn
        clear HLv HIl HMt hform hil2 HN hk0
        have c3 : ((k : Int) == 3) = false := beq_eq_false_iff_ne.2 (by omega)
        obtain ⟨d0, d1, d2⟩ := HB0.out.vb.cells
        have HL2 := Lib.hid (level16o ad len cap ad2 len2 cap2 v ((k : Int) + 1) wt HB0.out.vb.ver)
        unfold verC at HL2
        rw [← HS.out] at d2 HL2
        go_wp2_with fail
        refine HL2.out.mono ?_
        rintro e wt1 ⟨ua0, um, uc0, rfl, hum, huml, huo, hk1⟩
        clear HL2 d0 d1 d2
        have HR1 := Lib.hid (pReach wt1 ia il ic I (metas_kept HIn.out.1 hk1) HIn.out.2.2.1 HIn.out.2.1 (by have := HIn.out.2.2.2; omega))
        have HO1 := Lib.hid (And.intro hum (And.intro huml (And.intro huo hk1)))
        clear hum huml huo hk1
        go_wp2_with fail
        refine HR1.out.mono ?_
        rintro e wt2 ⟨lo, hi, he, hsp, hk2'⟩
        replace he : e = .returned (.agg #[.string ⟨lo.toArray⟩, .string ⟨hi.toArray⟩]) := he
        subst he
        clear HR1
        have HM := Lib.hid (pMeeting wt2 wt.heap.size ua0 um uc0 (levelV v ((k : Int) + 1)) lo hi (owns_of_block HO1.out.2.2.1 (fun q hq => hk2'.block q (HO1.out.2.2.1.lt q hq).2 (fun f => f))) HO1.out.1.symm (fun m hm => fits_ofM HB0.out.vb.ver.1 m (List.mem_filter.1 hm).1) (by have := HO1.out.2.1; have := HLen.out; omega))
        have HE1 := Lib.hid (And.intro hsp (HO1.out.2.2.2.trans hk2' (fun _ f => f.elim)))
        have hum := HO1.out.2.1
        clear hsp hk2' HO1
        go_wp2_with fail
        refine HM.out.mono ?_
        rintro e wt3 ⟨ua, ul, uc, rfl, hU, hul, huc, hk3⟩
        have hkt : Kept (fun _ => False) wt wt3 := HE1.out.2.trans hk3 (fun n h => .inr h)
        obtain ⟨U, hUe⟩ : ∃ U, Hid (U = underM v (k : Int) I) := ⟨underM v (k : Int) I, rfl⟩
        have hUM : (levelV v ((k : Int) + 1)).filter (kmeet lo hi) = U := by
          rw [hUe.out]
          unfold underM
          congr 1
          funext m
          exact kmeet_is HE1.out.1 m
        rw [hUM] at hU
        have HB3 := Lib.hid (HB0.out.quiet hkt)
        have HI3 := Lib.hid (And.intro (metas_kept HIn.out.1 hkt) (And.intro hU (And.intro huc HIn.out.2)))
        have hul2 : ul ≤ 200 := by have := HLen.out; omega
        clear hU huc hk3 hkt HE1 HM hUM hum hul HB0 HIn
        go_wp2_with fail
        obtain ⟨w4, hw4⟩ : ∃ w4, w4 = wt3.alloc (.cells #[.slice ia il ic, .slice ua ul uc] 22) := ⟨_, rfl⟩
        have hk4 : Kept (fun _ => False) wt3 w4 := by rw [hw4]; exact (Kept.refl _ _).alloc _
        have hB4 : Holds w4 wt3.heap.size [.slice ia il ic, .slice ua ul uc] 22 := by rw [hw4]; exact Holds.new wt3 _ _
        rw [← hw4]
        clear hw4
        have hlI := HI3.out.1.1
        have hlU := HI3.out.2.1.1
        have hLs : LsM w4 (some ⟨wt3.heap.size, 0, none⟩) 2 [I, U] := ⟨rfl, .inr ⟨_, 0, rfl, hB4.lt, fun i hi => by
          match i, hi with
          | 0, _ => exact ⟨ia, ic, by show w4.cell? ⟨_, 0, none⟩ = some (.slice ia I.length ic); rw [hlI]; exact hB4.cell 0 _ rfl, by show MetasW w4 ia I.length I; rw [hlI]; exact metas_kept HI3.out.1 hk4, by show I.length ≤ ic; rw [hlI]; exact HI3.out.2.2.2.1⟩
          | 1, _ => exact ⟨ua, uc, by show w4.cell? ⟨_, 1, none⟩ = some (.slice ua U.length uc); rw [hlU]; exact hB4.cell 1 _ rfl, by show MetasW w4 ua U.length U; rw [hlU]; exact metas_kept HI3.out.2.1 hk4, by show U.length ≤ uc; rw [hlU]; exact HI3.out.2.2.1⟩⟩⟩
        have hfl : [I, U].flatten = I ++ U := by simp
        have hil3 := HI3.out.2.2.2.2
        have HC := Lib.hid (pConcatM w4 (some ⟨wt3.heap.size, 0, none⟩) 2 2 [I, U] hLs (by omega) (by rw [hfl, List.length_append]; omega))
        rw [hfl] at HC
        have HLI : Hid (I.length = il ∧ U.length = ul) := ⟨hlI, hlU⟩
        have HK4 := Lib.hid hk4
        clear hLs hB4 hk4 hlI hlU hfl hil3
        refine HC.out.mono ?_
        rintro e wt5 ⟨aa, an, ac, rfl, hO⟩
        have hkO := HK4.out.trans hO.2.2.1 (fun _ f => f.elim)
        have han : an ≤ 1000 ∧ 0 < an := by
          have h1 := hO.1
          rw [List.length_append, HLI.out.1, HLI.out.2] at h1
          have := HI3.out.2.2.2.2
          omega
        have HR2 := Lib.hid (pReach wt5 aa an ac (I ++ U) hO.metas.1 han.2 hO.metas.2 han.1)
        have HB5 := Lib.hid (HB3.out.quiet hkO)
        have HI5 := Lib.hid (And.intro (metas_kept HI3.out.1 hkO) (And.intro (metas_kept HI3.out.2.1 hkO) HI3.out.2.2))
        clear hO hkO HC HK4 HB3 HI3 han
        go_wp2_with fail
        refine HR2.out.mono ?_
        rintro e wt6 ⟨lo2, hi2, he, hsp2, hk6⟩
        replace he : e = .returned (.agg #[.string ⟨lo2.toArray⟩, .string ⟨hi2.toArray⟩]) := he
        subst he
        have HS2 := Lib.hid hsp2
        have HB6 := Lib.hid (HB5.out.quiet hk6)
        have HI6 := Lib.hid (And.intro (metas_kept HI5.out.1 hk6) (And.intro (metas_kept HI5.out.2.1 hk6) HI5.out.2.2))
        clear hsp2 hk6 HR2 HB5 HI5
        go_upto_region 15 with fail
        obtain ⟨g7, hg7⟩ : ∃ g7, g7 = wt6.heap.size := ⟨_, rfl⟩
        have hk7 : Kept (fun _ => False) wt6 (wt6.alloc (.cells #[.string ⟨lo2.toArray⟩, .string ⟨hi2.toArray⟩] 56)) := (Kept.refl _ _).alloc _
        have hB7 : Holds (wt6.alloc (.cells #[.string ⟨lo2.toArray⟩, .string ⟨hi2.toArray⟩] 56)) wt6.heap.size (keysC lo2 hi2) 56 := Holds.new wt6 _ _
        rw [← hg7] at hB7 ⊢
        have HB7 := Lib.hid (HB6.out.quiet hk7)
        have HI7 := Lib.hid (And.intro (metas_kept HI6.out.1 hk7) (And.intro (metas_kept HI6.out.2.1 hk7) HI6.out.2.2))
        clear hk7 HB6 HI6
        generalize wt6.alloc (.cells #[.string ⟨lo2.toArray⟩, .string ⟨hi2.toArray⟩] 56) = w6 at hB7 HB7 HI7 ⊢
        clear hg7
        obtain ⟨w7, hw7⟩ : ∃ w7, w7 = w6.drew := ⟨_, rfl⟩
        have hkd : Kept (fun _ => False) w6 w7 := by rw [hw7]; exact (Kept.refl _ _).drewN 1
        have hBd : Holds w7 g7 (keysC lo2 hi2) 56 := by rw [hw7]; exact hB7
        have HBd := Lib.hid (HB7.out.quiet hkd)
        have HId := Lib.hid (And.intro (metas_kept HI7.out.1 hkd) (And.intro (metas_kept HI7.out.2.1 hkd) HI7.out.2.2))
        clear hkd hB7 HB7 HI7
        have hS : (fun W : World => W.cell? ⟨g, 0, none⟩ = some (.slice ad len cap) ∧ W.cell? ⟨g, 1, none⟩ = some (.slice ad2 len2 cap2) ∧ W.cell? ⟨g, 2, none⟩ = some (.int .i64 s) ∧ W.cell? ⟨g7, 0, none⟩ = some (.string ⟨lo2.toArray⟩) ∧ W.cell? ⟨g7, 1, none⟩ = some (.string ⟨hi2.toArray⟩)) w7 := ⟨HBd.out.vb.cells.1, HBd.out.vb.cells.2.1, by rw [HS.out]; exact HBd.out.vb.cells.2.2, hBd.cell 0 _ rfl, hBd.cell 1 _ rfl⟩
        refine wp_region_until (fun W : World => W.cell? ⟨g, 0, none⟩ = some (.slice ad len cap) ∧ W.cell? ⟨g, 1, none⟩ = some (.slice ad2 len2 cap2) ∧ W.cell? ⟨g, 2, none⟩ = some (.int .i64 s) ∧ W.cell? ⟨g7, 0, none⟩ = some (.string ⟨lo2.toArray⟩) ∧ W.cell? ⟨g7, 1, none⟩ = some (.string ⟨hi2.toArray⟩)) 11 (by kernel_rfl) ?_
        rw [← hw7]
        clear hw7
        refine wpAnyU_take (i := 0) (v := (.int .i64 (k : Int))) (some 54) rfl rfl (by kernel_rfl) (by kernel_rfl) (by kernel_rfl) (by kernel_rfl) (fun _ _ _ h => h) hS (yields_of (by kernel_rfl) (fun w hw => by obtain ⟨h0, h1, h2, h3, h4⟩ := hw; go_simp)) ?_
        refine wpAnyU_take (i := 1) (v := (.slice ia il ic)) (some 55) rfl rfl (by kernel_rfl) (by kernel_rfl) (by kernel_rfl) (by kernel_rfl) (fun _ _ _ h => h) hS (yields_of (by kernel_rfl) (fun w hw => by obtain ⟨h0, h1, h2, h3, h4⟩ := hw; go_simp)) ?_
        refine wpAnyU_take (i := 3) (v := (.slice ua ul uc)) (some 57) rfl rfl (by kernel_rfl) (by kernel_rfl) (by kernel_rfl) (by kernel_rfl) (fun _ _ _ h => h) hS (yields_of (by kernel_rfl) (fun w hw => by obtain ⟨h0, h1, h2, h3, h4⟩ := hw; go_simp)) ?_
        refine wpAnyU_take (i := 5) (v := (.agg #[.slice ad len cap, .slice ad2 len2 cap2, .int .i64 s])) (some 59) rfl rfl (by kernel_rfl) (by kernel_rfl) (by kernel_rfl) (by kernel_rfl) (fun _ _ _ h => h) hS (yields_of (by kernel_rfl) (fun w hw => by obtain ⟨h0, h1, h2, h3, h4⟩ := hw; go_simp)) ?_
        refine wpAnyU_take (i := 6) (v := (.int .i64 (k : Int))) (some 60) rfl rfl (by kernel_rfl) (by kernel_rfl) (by kernel_rfl) (by kernel_rfl) (fun _ _ _ h => h) hS (yields_of (by kernel_rfl) (fun w hw => by obtain ⟨h0, h1, h2, h3, h4⟩ := hw; go_simp)) ?_
        refine wpAnyU_take (i := 7) (v := (.int .i64 ((k : Int) + 1))) (some 61) rfl rfl (by kernel_rfl) (by kernel_rfl) (by kernel_rfl) (by kernel_rfl) (fun _ _ _ h => h) hS (yields_of (by kernel_rfl) (fun w hw => by obtain ⟨h0, h1, h2, h3, h4⟩ := hw; go_simp)) ?_
        refine wpAnyU_take (i := 8) (v := (.agg #[.string ⟨lo2.toArray⟩, .string ⟨hi2.toArray⟩])) (some 62) rfl rfl (by kernel_rfl) (by kernel_rfl) (by kernel_rfl) (by kernel_rfl) (fun _ _ _ h => h) hS (yields_of (by kernel_rfl) (fun w hw => by obtain ⟨h0, h1, h2, h3, h4⟩ := hw; go_simp)) ?_
        refine wpAnyU_call (i := 2) (f := 26) (args := #[.slice ia il ic]) (some 56) rfl rfl (by kernel_rfl) (by kernel_rfl) (by kernel_rfl) ?_
        refine (pIds w7 ia il ic I HId.out.1 (by have := HId.out.2.2.2.2.2; omega)).mono ?_
        rintro e w8 ⟨i8, c8, rfl, hJ, hJb, hJo, hk8⟩
        have hB8 : Holds w8 g7 (keysC lo2 hi2) 56 := hBd.of_block (hk8.block g7 hBd.lt (fun f => f))
        have HB8 := Lib.hid (HBd.out.quiet hk8)
        have HI8 := Lib.hid (metas_kept HId.out.2.1 hk8)
        have hrJ : ∀ b off, i8 = some ⟨b, off, none⟩ → r < b := fun b off hb => by have := hJo b off hb; have := HBd.out.res.lt; omega
        refine ⟨.slice i8 il c8, rfl, fun _ => ⟨HB8.out.vb.cells.1, HB8.out.vb.cells.2.1, by rw [HS.out]; exact HB8.out.vb.cells.2.2, hB8.cell 0 _ rfl, hB8.cell 1 _ rfl⟩, ?_⟩
        refine wpAnyU_call (i := 4) (f := 26) (args := #[.slice ua ul uc]) (some 58) rfl rfl (by kernel_rfl) (by kernel_rfl) (by kernel_rfl) ?_
        refine (pIds w8 ua ul uc U HI8.out (by omega)).mono ?_
        rintro e w9 ⟨u9, d9, rfl, hV, hVb, hVo, hk9⟩
        have hB9 : Holds w9 g7 (keysC lo2 hi2) 56 := hB8.of_block (hk9.block g7 hB8.lt (fun f => f))
        have HB9 := Lib.hid (HB8.out.quiet hk9)
        have hrV : ∀ b off, u9 = some ⟨b, off, none⟩ → r < b := fun b off hb => by have := hVo b off hb; have := HB8.out.res.lt; omega
        have hJ9 := hJ.kept hk9 (.inr fun _ _ _ f => f)
        refine ⟨.slice u9 ul d9, rfl, fun _ => ⟨HB9.out.vb.cells.1, HB9.out.vb.cells.2.1, by rw [HS.out]; exact HB9.out.vb.cells.2.2, hB9.cell 0 _ rfl, hB9.cell 1 _ rfl⟩, ?_⟩
        refine wpAnyU_call (i := 9) (f := 27) (args := #[.agg #[.slice ad len cap, .slice ad2 len2 cap2, .int .i64 s], .int .i64 ((k : Int) + 1), .agg #[.string ⟨lo2.toArray⟩, .string ⟨hi2.toArray⟩]]) (some 63) rfl rfl (by kernel_rfl) (by kernel_rfl) (by kernel_rfl) ?_
        refine (pBottom w9 ad len cap ad2 len2 cap2 s v.1 ((k : Int) + 1) lo2 hi2 HB9.out.vb.ver.1 (by have := HLen.out; omega)).mono ?_
        rintro e w10 ⟨rfl, hk10⟩
        obtain ⟨bb, hbb⟩ : ∃ bb, Hid (bb = !(v.1.any fun m => decide ((k : Int) + 1 < m.2.1) && kmeet lo2 hi2 m)) := ⟨!(v.1.any fun m => decide ((k : Int) + 1 < m.2.1) && kmeet lo2 hi2 m), rfl⟩
        rw [← hbb.out]
        have hB10 : Holds w10 g7 (keysC lo2 hi2) 56 := hB9.of_block (hk10.block g7 hB9.lt (fun f => f))
        have HB10 := Lib.hid (HB9.out.quiet hk10)
        have hJ10 := hJ9.kept hk10 (.inr fun _ _ _ f => f)
        have hV10 := hV.kept hk10 (.inr fun _ _ _ f => f)
        refine ⟨.bool bb, rfl, fun _ => ⟨HB10.out.vb.cells.1, HB10.out.vb.cells.2.1, by rw [HS.out]; exact HB10.out.vb.cells.2.2, hB10.cell 0 _ rfl, hB10.cell 1 _ rfl⟩, ?_⟩
        refine wpAnyU_run (i := 10) (v := jobC (k : Int) i8 il c8 u9 ul d9 bb) (w' := w10) (some 64) rfl rfl (by kernel_rfl) (by kernel_rfl) (by simp only [put_lit, List.set_cons_succ, List.set_cons_zero]; go_simp; rfl) (fun _ => ⟨HB10.out.vb.cells.1, HB10.out.vb.cells.2.1, by rw [HS.out]; exact HB10.out.vb.cells.2.2, hB10.cell 0 _ rfl, hB10.cell 1 _ rfl⟩) ?_
        have r0 := Holds.cell HB10.out.res 0 _ rfl
        have r1 := Holds.cell HB10.out.res 1 _ rfl
        have r2 := Holds.cell HB10.out.res 2 _ rfl
        have r3 := Holds.cell HB10.out.res 3 _ rfl
        have q0 := Holds.free HB10.out.res 0
        have q1 := Holds.free HB10.out.res 1
        have q2 := Holds.free HB10.out.res 2
        have q3 := Holds.free HB10.out.res 3
        have hkN : Kept (fun _ => False) w (w10.setCells r 0 [.int .i64 (k : Int), .slice i8 il c8, .slice u9 ul d9, .bool bb]) := Kept.setCellsN HB10.out.far _ 0 w10 HB10.out.vb.kept
        have hkr : Kept (fun z => z = r) w10 (w10.setCells r 0 [.int .i64 (k : Int), .slice i8 il c8, .slice u9 ul d9, .bool bb]) := Kept.setCells (X := fun z => z = r) rfl _ 0 w10 (Kept.refl _ _)
        have hPN := HB10.out.res.setCells [.int .i64 (k : Int), .slice i8 il c8, .slice u9 ul d9, .bool bb] 0 w10 [.int .i64 0, .slice none 0 0, .slice none 0 0, .bool false] (Nat.le_refl _)
        rw [lay_all [.int .i64 0, .slice none 0 0, .slice none 0 0, .bool false] [.int .i64 (k : Int), .slice i8 il c8, .slice u9 ul d9, .bool bb] rfl] at hPN
        unfold jobC
        refine wpAnyU_skip (i := 11) (w' := w10.setCells r 0 [.int .i64 (k : Int), .slice i8 il c8, .slice u9 ul d9, .bool bb]) none rfl rfl (by kernel_rfl) (by kernel_rfl) (by simp only [put_lit, List.set_cons_succ, List.set_cons_zero]; go_simp; rfl) (fun h => absurd h (by decide)) ?_
        generalize w10.setCells r 0 [.int .i64 (k : Int), .slice i8 il c8, .slice u9 ul d9, .bool bb] = w11 at hkN hkr hPN ⊢
        refine wpAnyU_run (i := 12) (v := .bool true) (w' := w11) (some 3) rfl rfl (by kernel_rfl) (by kernel_rfl) (by simp only [put_lit, List.set_cons_succ, List.set_cons_zero]; go_simp) (fun h => absurd h (by decide)) ?_
        refine wpAnyU_done (by kernel_rfl) ?_ _
        simp only [put_lit, List.set_cons_succ, List.set_cons_zero]
        have HJ11 := Lib.hid (hJ10.kept hkr (.inr fun b off hb => by have := hrJ b off hb; omega))
        have HV11 := Lib.hid (hV10.kept hkr (.inr fun b off hb => by have := hrV b off hb; omega))
        have HJV := Lib.hid (And.intro hJb hVb)
        have HPN := Lib.hid hPN
        have HKN := Lib.hid hkN
        have HJM : Hid (Z = some ((k : Int), I.map (·.1), U.map (·.1), bb)) := by
          show Z = _
          rw [hZ.out, pick_some HRt.out HCh.out]
          unfold jobM
          rw [← hUe.out, hbb.out]
          refine congrArg some ?_
          refine congrArg (Prod.mk _) (congrArg (Prod.mk _) (congrArg (Prod.mk _) (congrArg (! ·) ?_)))
          refine congrArg (fun f => List.any v.1 f) ?_
          funext m
          rw [kmeet_is HS2.out m]
          refine congrArg (· && _) ?_
          by_cases hx : (k : Int) + 2 ≤ m.2.1
          · rw [decide_eq_true hx, decide_eq_true (by omega)]
          · rw [decide_eq_false hx, decide_eq_false (by omega)]
        clear hJ10 hV10 hkr hPN hkN r0 r1 r2 r3 q0 q1 q2 q3 hB10 HB10 hJ9 hV hrV hB9 HB9 hrJ hB8 HB8 HI8 hJ hJb hVb hJo hVo hk8 hk9 hk10 hS hBd HBd HId hbb HS2
        go_wp2
        refine pk_doorP _ HPN.out rfl rfl ?_
        obtain rfl := HJM.out
        exact ⟨i8, il, c8, u9, ul, d9, rfl, HJ11.out, HJV.out.1, HV11.out, HJV.out.2, HKN.out⟩
      · have c3' : decide ((3 : Int) ≤ (il : Int)) = false := decide_eq_false (by omega)
        have g0 : ¬(0 : Int) < (k : Int) := by omega
        have HN2 : Hid (NoneP v (k + 1)) := by
          have := NoneP.next0 (v := v) (by rw [← HLv.out, ← HIl.out]; exact h3)
          show NoneP v (k + 1)
          rw [hk0]; exact this
        clear HLv HIl HMt hform hil2 HN hk0
        go_wp2
        go_roundw
        case rel => exact ⟨k + 1, ia, il, ic, by omega, rfl, by first | rfl | go_num, HB0, HN2⟩
        case measure => simp [intOf]; omega
    · have e0 : ((k : Int) == 0) = false := beq_eq_false_iff_ne.2 (by omega)
      have g0 : (0 : Int) < (k : Int) := by omega
      have HSz := Lib.hid (pSize wt ia il ic (levelV v (k : Int)) HMt.out (by omega) (level_meta HRt.out))
      obtain ⟨z1, hz1⟩ : ∃ z1, Hid (z1 = sizeT (levelV v (k : Int))) := ⟨sizeT (levelV v (k : Int)), rfl⟩
      rw [← hz1.out] at HSz
      have HLm := Lib.hid (fun W => pLimit (k : Int) W (by unfold FitV; omega))
      obtain ⟨z2, hz2⟩ : ∃ z2, Hid (z2 = limM (k : Int)) := ⟨limM (k : Int), rfl⟩
      rw [← hz2.out] at HLm
      have hb0 : decide (z2 < z1) = decide (z2 < z1) := rfl
      by_cases hs : z2 < z1
      · have hpos : 0 < il := by
          rw [HIl.out]
          refine size_ne (x := limM (k : Int)) ?_ (by rw [← hz1.out, ← hz2.out]; exact hs)
          unfold limM; split
          · omega
          · split <;> omega
        obtain ⟨gi, rfl⟩ := hform hpos
        have HCh : Hid (chooseM v = some ((k : Int), (levelV v (k : Int)).take 1)) := HN.out.yes (by omega) hlt (by rw [← hz1.out, ← hz2.out]; exact hs)
        have hsl : ∀ W : World, (Instr.slice 22 (.slice (some ⟨gi, 0, none⟩) il ic) none (some (.int .i64 1)) none).run Try.prog W = .ok (.slice (some ⟨gi, 0, none⟩) 1 ic) W := fun W => slice_toM gi 1 il ic hpos hic W
        have hM1 : MetasW wt (some ⟨gi, 0, none⟩) 1 ((levelV v (k : Int)).take 1) := by
          have hl := HMt.out.1
          refine ⟨by rw [List.length_take]; omega, ?_⟩
          rcases HMt.out.2 with h | ⟨b, off, h1, h2, h3⟩
          · rw [h] at hl; simp at hl; omega
          · refine .inr ⟨b, off, h1, h2, fun i hi => ?_⟩
            rw [List.length_take] at hi
            rw [List.getElem_take]
            exact h3 i (by omega)
        generalize (levelV v (k : Int)).take 1 = I at HCh hM1
        obtain ⟨i1, hi1⟩ : ∃ i1, Hid (i1 = 1) := ⟨1, rfl⟩
        obtain ⟨ib, hib⟩ : ∃ ib : Option Addr, Hid (ib = some ⟨gi, 0, none⟩) := ⟨some ⟨gi, 0, none⟩, rfl⟩
        have hd : decide (z2 < z1) = true := decide_eq_true hs
        rw [← hi1.out, ← hib.out] at hM1
        have HIn0 : Hid (MetasW wt ib i1 I ∧ i1 ≤ ic ∧ 0 < i1 ∧ i1 ≤ 200) := ⟨hM1, by have := hi1.out; omega, by have := hi1.out; omega, by have := hi1.out; omega⟩
        have hsl2 : ∀ W : World, (Instr.slice 22 (.slice (some ⟨gi, 0, none⟩) il ic) none (some (.int .i64 1)) none).run Try.prog W = .ok (.slice ib i1 ic) W := by rw [hi1.out, hib.out]; exact hsl
        clear hsl hM1 HMt HIl hz1 hz2 hform hil2 HN hi1 hib hb0 hs
        go_wp2_with fail
        refine HSz.out.mono ?_
        rintro e w5 ⟨rfl, hk5⟩
        have HB5 := Lib.hid (HB0.out.quiet hk5)
        have HIn5 : Hid (MetasW w5 ib i1 I ∧ i1 ≤ ic ∧ 0 < i1 ∧ i1 ≤ 200) := ⟨metas_kept HIn0.out.1 hk5, HIn0.out.2⟩
        clear hk5 HSz HB0 HIn0
        go_wp2_with fail
        refine (HLm.out _).mono ?_
        rintro e wu ⟨rfl, hk6⟩
        have HB0 := Lib.hid (HB5.out.quiet hk6)
        have HIn : Hid (MetasW wu ib i1 I ∧ i1 ≤ ic ∧ 0 < i1 ∧ i1 ≤ 200) := ⟨metas_kept HIn5.out.1 hk6, HIn5.out.2⟩
        clear hk6 HLm HB5 HIn5 hk0
        have c3 : ((k : Int) == 3) = false := beq_eq_false_iff_ne.2 (by omega)
        obtain ⟨d0, d1, d2⟩ := HB0.out.vb.cells
        have HL2 := Lib.hid (level16o ad len cap ad2 len2 cap2 v ((k : Int) + 1) wu HB0.out.vb.ver)
        unfold verC at HL2
        rw [← HS.out] at d2 HL2
        go_wp2_with fail
        refine HL2.out.mono ?_
        rintro e wt1 ⟨ua0, um, uc0, rfl, hum, huml, huo, hk1⟩
        clear HL2 d0 d1 d2
        have HR1 := Lib.hid (pReach wt1 ib i1 ic I (metas_kept HIn.out.1 hk1) HIn.out.2.2.1 HIn.out.2.1 (by have := HIn.out.2.2.2; omega))
        have HO1 := Lib.hid (And.intro hum (And.intro huml (And.intro huo hk1)))
        clear hum huml huo hk1
        go_wp2_with fail
        refine HR1.out.mono ?_
        rintro e wt2 ⟨lo, hi, he, hsp, hk2'⟩
        replace he : e = .returned (.agg #[.string ⟨lo.toArray⟩, .string ⟨hi.toArray⟩]) := he
        subst he
        clear HR1
        have HM := Lib.hid (pMeeting wt2 wu.heap.size ua0 um uc0 (levelV v ((k : Int) + 1)) lo hi (owns_of_block HO1.out.2.2.1 (fun q hq => hk2'.block q (HO1.out.2.2.1.lt q hq).2 (fun f => f))) HO1.out.1.symm (fun m hm => fits_ofM HB0.out.vb.ver.1 m (List.mem_filter.1 hm).1) (by have := HO1.out.2.1; have := HLen.out; omega))
        have HE1 := Lib.hid (And.intro hsp (HO1.out.2.2.2.trans hk2' (fun _ f => f.elim)))
        have hum := HO1.out.2.1
        clear hsp hk2' HO1
        go_wp2_with fail
        refine HM.out.mono ?_
        rintro e wt3 ⟨ua, ul, uc, rfl, hU, hul, huc, hk3⟩
        have hkt : Kept (fun _ => False) wu wt3 := HE1.out.2.trans hk3 (fun n h => .inr h)
        obtain ⟨U, hUe⟩ : ∃ U, Hid (U = underM v (k : Int) I) := ⟨underM v (k : Int) I, rfl⟩
        have hUM : (levelV v ((k : Int) + 1)).filter (kmeet lo hi) = U := by
          rw [hUe.out]
          unfold underM
          congr 1
          funext m
          exact kmeet_is HE1.out.1 m
        rw [hUM] at hU
        have HB3 := Lib.hid (HB0.out.quiet hkt)
        have HI3 := Lib.hid (And.intro (metas_kept HIn.out.1 hkt) (And.intro hU (And.intro huc HIn.out.2)))
        have hul2 : ul ≤ 200 := by have := HLen.out; omega
        clear hU huc hk3 hkt HE1 HM hUM hum hul HB0 HIn
        go_wp2_with fail
        obtain ⟨w4, hw4⟩ : ∃ w4, w4 = wt3.alloc (.cells #[.slice ib i1 ic, .slice ua ul uc] 22) := ⟨_, rfl⟩
        have hk4 : Kept (fun _ => False) wt3 w4 := by rw [hw4]; exact (Kept.refl _ _).alloc _
        have hB4 : Holds w4 wt3.heap.size [.slice ib i1 ic, .slice ua ul uc] 22 := by rw [hw4]; exact Holds.new wt3 _ _
        rw [← hw4]
        clear hw4
        have hlI := HI3.out.1.1
        have hlU := HI3.out.2.1.1
        have hLs : LsM w4 (some ⟨wt3.heap.size, 0, none⟩) 2 [I, U] := ⟨rfl, .inr ⟨_, 0, rfl, hB4.lt, fun i hi => by
          match i, hi with
          | 0, _ => exact ⟨ib, ic, by show w4.cell? ⟨_, 0, none⟩ = some (.slice ib I.length ic); rw [hlI]; exact hB4.cell 0 _ rfl, by show MetasW w4 ib I.length I; rw [hlI]; exact metas_kept HI3.out.1 hk4, by show I.length ≤ ic; rw [hlI]; exact HI3.out.2.2.2.1⟩
          | 1, _ => exact ⟨ua, uc, by show w4.cell? ⟨_, 1, none⟩ = some (.slice ua U.length uc); rw [hlU]; exact hB4.cell 1 _ rfl, by show MetasW w4 ua U.length U; rw [hlU]; exact metas_kept HI3.out.2.1 hk4, by show U.length ≤ uc; rw [hlU]; exact HI3.out.2.2.1⟩⟩⟩
        have hfl : [I, U].flatten = I ++ U := by simp
        have hil3 := HI3.out.2.2.2.2
        have HC := Lib.hid (pConcatM w4 (some ⟨wt3.heap.size, 0, none⟩) 2 2 [I, U] hLs (by omega) (by rw [hfl, List.length_append]; omega))
        rw [hfl] at HC
        have HLI : Hid (I.length = i1 ∧ U.length = ul) := ⟨hlI, hlU⟩
        have HK4 := Lib.hid hk4
        clear hLs hB4 hk4 hlI hlU hfl hil3
        refine HC.out.mono ?_
        rintro e wt5 ⟨aa, an, ac, rfl, hO⟩
        have hkO := HK4.out.trans hO.2.2.1 (fun _ f => f.elim)
        have han : an ≤ 1000 ∧ 0 < an := by
          have h1 := hO.1
          rw [List.length_append, HLI.out.1, HLI.out.2] at h1
          have := HI3.out.2.2.2.2
          omega
        have HR2 := Lib.hid (pReach wt5 aa an ac (I ++ U) hO.metas.1 han.2 hO.metas.2 han.1)
        have HB5 := Lib.hid (HB3.out.quiet hkO)
        have HI5 := Lib.hid (And.intro (metas_kept HI3.out.1 hkO) (And.intro (metas_kept HI3.out.2.1 hkO) HI3.out.2.2))
        clear hO hkO HC HK4 HB3 HI3 han
        go_wp2_with fail
        refine HR2.out.mono ?_
        rintro e wt6 ⟨lo2, hi2, he, hsp2, hk6⟩
        replace he : e = .returned (.agg #[.string ⟨lo2.toArray⟩, .string ⟨hi2.toArray⟩]) := he
        subst he
        have HS2 := Lib.hid hsp2
        have HB6 := Lib.hid (HB5.out.quiet hk6)
        have HI6 := Lib.hid (And.intro (metas_kept HI5.out.1 hk6) (And.intro (metas_kept HI5.out.2.1 hk6) HI5.out.2.2))
        clear hsp2 hk6 HR2 HB5 HI5
        go_upto_region 15 with fail
        obtain ⟨g7, hg7⟩ : ∃ g7, g7 = wt6.heap.size := ⟨_, rfl⟩
        have hk7 : Kept (fun _ => False) wt6 (wt6.alloc (.cells #[.string ⟨lo2.toArray⟩, .string ⟨hi2.toArray⟩] 56)) := (Kept.refl _ _).alloc _
        have hB7 : Holds (wt6.alloc (.cells #[.string ⟨lo2.toArray⟩, .string ⟨hi2.toArray⟩] 56)) wt6.heap.size (keysC lo2 hi2) 56 := Holds.new wt6 _ _
        rw [← hg7] at hB7 ⊢
        have HB7 := Lib.hid (HB6.out.quiet hk7)
        have HI7 := Lib.hid (And.intro (metas_kept HI6.out.1 hk7) (And.intro (metas_kept HI6.out.2.1 hk7) HI6.out.2.2))
        clear hk7 HB6 HI6
        generalize wt6.alloc (.cells #[.string ⟨lo2.toArray⟩, .string ⟨hi2.toArray⟩] 56) = w6 at hB7 HB7 HI7 ⊢
        clear hg7
        obtain ⟨w7, hw7⟩ : ∃ w7, w7 = w6.drew := ⟨_, rfl⟩
        have hkd : Kept (fun _ => False) w6 w7 := by rw [hw7]; exact (Kept.refl _ _).drewN 1
        have hBd : Holds w7 g7 (keysC lo2 hi2) 56 := by rw [hw7]; exact hB7
        have HBd := Lib.hid (HB7.out.quiet hkd)
        have HId := Lib.hid (And.intro (metas_kept HI7.out.1 hkd) (And.intro (metas_kept HI7.out.2.1 hkd) HI7.out.2.2))
        clear hkd hB7 HB7 HI7
        have hS : (fun W : World => W.cell? ⟨g, 0, none⟩ = some (.slice ad len cap) ∧ W.cell? ⟨g, 1, none⟩ = some (.slice ad2 len2 cap2) ∧ W.cell? ⟨g, 2, none⟩ = some (.int .i64 s) ∧ W.cell? ⟨g7, 0, none⟩ = some (.string ⟨lo2.toArray⟩) ∧ W.cell? ⟨g7, 1, none⟩ = some (.string ⟨hi2.toArray⟩)) w7 := ⟨HBd.out.vb.cells.1, HBd.out.vb.cells.2.1, by rw [HS.out]; exact HBd.out.vb.cells.2.2, hBd.cell 0 _ rfl, hBd.cell 1 _ rfl⟩
        refine wp_region_until (fun W : World => W.cell? ⟨g, 0, none⟩ = some (.slice ad len cap) ∧ W.cell? ⟨g, 1, none⟩ = some (.slice ad2 len2 cap2) ∧ W.cell? ⟨g, 2, none⟩ = some (.int .i64 s) ∧ W.cell? ⟨g7, 0, none⟩ = some (.string ⟨lo2.toArray⟩) ∧ W.cell? ⟨g7, 1, none⟩ = some (.string ⟨hi2.toArray⟩)) 11 (by kernel_rfl) ?_
        rw [← hw7]
        clear hw7
        refine wpAnyU_take (i := 0) (v := (.int .i64 (k : Int))) (some 54) rfl rfl (by kernel_rfl) (by kernel_rfl) (by kernel_rfl) (by kernel_rfl) (fun _ _ _ h => h) hS (yields_of (by kernel_rfl) (fun w hw => by obtain ⟨h0, h1, h2, h3, h4⟩ := hw; go_simp)) ?_
        refine wpAnyU_take (i := 1) (v := (.slice ib i1 ic)) (some 55) rfl rfl (by kernel_rfl) (by kernel_rfl) (by kernel_rfl) (by kernel_rfl) (fun _ _ _ h => h) hS (yields_of (by kernel_rfl) (fun w hw => by obtain ⟨h0, h1, h2, h3, h4⟩ := hw; go_simp)) ?_
        refine wpAnyU_take (i := 3) (v := (.slice ua ul uc)) (some 57) rfl rfl (by kernel_rfl) (by kernel_rfl) (by kernel_rfl) (by kernel_rfl) (fun _ _ _ h => h) hS (yields_of (by kernel_rfl) (fun w hw => by obtain ⟨h0, h1, h2, h3, h4⟩ := hw; go_simp)) ?_
        refine wpAnyU_take (i := 5) (v := (.agg #[.slice ad len cap, .slice ad2 len2 cap2, .int .i64 s])) (some 59) rfl rfl (by kernel_rfl) (by kernel_rfl) (by kernel_rfl) (by kernel_rfl) (fun _ _ _ h => h) hS (yields_of (by kernel_rfl) (fun w hw => by obtain ⟨h0, h1, h2, h3, h4⟩ := hw; go_simp)) ?_
        refine wpAnyU_take (i := 6) (v := (.int .i64 (k : Int))) (some 60) rfl rfl (by kernel_rfl) (by kernel_rfl) (by kernel_rfl) (by kernel_rfl) (fun _ _ _ h => h) hS (yields_of (by kernel_rfl) (fun w hw => by obtain ⟨h0, h1, h2, h3, h4⟩ := hw; go_simp)) ?_
        refine wpAnyU_take (i := 7) (v := (.int .i64 ((k : Int) + 1))) (some 61) rfl rfl (by kernel_rfl) (by kernel_rfl) (by kernel_rfl) (by kernel_rfl) (fun _ _ _ h => h) hS (yields_of (by kernel_rfl) (fun w hw => by obtain ⟨h0, h1, h2, h3, h4⟩ := hw; go_simp)) ?_
        refine wpAnyU_take (i := 8) (v := (.agg #[.string ⟨lo2.toArray⟩, .string ⟨hi2.toArray⟩])) (some 62) rfl rfl (by kernel_rfl) (by kernel_rfl) (by kernel_rfl) (by kernel_rfl) (fun _ _ _ h => h) hS (yields_of (by kernel_rfl) (fun w hw => by obtain ⟨h0, h1, h2, h3, h4⟩ := hw; go_simp)) ?_
        refine wpAnyU_call (i := 2) (f := 26) (args := #[.slice ib i1 ic]) (some 56) rfl rfl (by kernel_rfl) (by kernel_rfl) (by kernel_rfl) ?_
        refine (pIds w7 ib i1 ic I HId.out.1 (by have := HId.out.2.2.2.2.2; omega)).mono ?_
        rintro e w8 ⟨i8, c8, rfl, hJ, hJb, hJo, hk8⟩
        have hB8 : Holds w8 g7 (keysC lo2 hi2) 56 := hBd.of_block (hk8.block g7 hBd.lt (fun f => f))
        have HB8 := Lib.hid (HBd.out.quiet hk8)
        have HI8 := Lib.hid (metas_kept HId.out.2.1 hk8)
        have hrJ : ∀ b off, i8 = some ⟨b, off, none⟩ → r < b := fun b off hb => by have := hJo b off hb; have := HBd.out.res.lt; omega
        refine ⟨.slice i8 i1 c8, rfl, fun _ => ⟨HB8.out.vb.cells.1, HB8.out.vb.cells.2.1, by rw [HS.out]; exact HB8.out.vb.cells.2.2, hB8.cell 0 _ rfl, hB8.cell 1 _ rfl⟩, ?_⟩
        refine wpAnyU_call (i := 4) (f := 26) (args := #[.slice ua ul uc]) (some 58) rfl rfl (by kernel_rfl) (by kernel_rfl) (by kernel_rfl) ?_
        refine (pIds w8 ua ul uc U HI8.out (by omega)).mono ?_
        rintro e w9 ⟨u9, d9, rfl, hV, hVb, hVo, hk9⟩
        have hB9 : Holds w9 g7 (keysC lo2 hi2) 56 := hB8.of_block (hk9.block g7 hB8.lt (fun f => f))
        have HB9 := Lib.hid (HB8.out.quiet hk9)
        have hrV : ∀ b off, u9 = some ⟨b, off, none⟩ → r < b := fun b off hb => by have := hVo b off hb; have := HB8.out.res.lt; omega
        have hJ9 := hJ.kept hk9 (.inr fun _ _ _ f => f)
        refine ⟨.slice u9 ul d9, rfl, fun _ => ⟨HB9.out.vb.cells.1, HB9.out.vb.cells.2.1, by rw [HS.out]; exact HB9.out.vb.cells.2.2, hB9.cell 0 _ rfl, hB9.cell 1 _ rfl⟩, ?_⟩
        refine wpAnyU_call (i := 9) (f := 27) (args := #[.agg #[.slice ad len cap, .slice ad2 len2 cap2, .int .i64 s], .int .i64 ((k : Int) + 1), .agg #[.string ⟨lo2.toArray⟩, .string ⟨hi2.toArray⟩]]) (some 63) rfl rfl (by kernel_rfl) (by kernel_rfl) (by kernel_rfl) ?_
        refine (pBottom w9 ad len cap ad2 len2 cap2 s v.1 ((k : Int) + 1) lo2 hi2 HB9.out.vb.ver.1 (by have := HLen.out; omega)).mono ?_
        rintro e w10 ⟨rfl, hk10⟩
        obtain ⟨bb, hbb⟩ : ∃ bb, Hid (bb = !(v.1.any fun m => decide ((k : Int) + 1 < m.2.1) && kmeet lo2 hi2 m)) := ⟨!(v.1.any fun m => decide ((k : Int) + 1 < m.2.1) && kmeet lo2 hi2 m), rfl⟩
        rw [← hbb.out]
        have hB10 : Holds w10 g7 (keysC lo2 hi2) 56 := hB9.of_block (hk10.block g7 hB9.lt (fun f => f))
        have HB10 := Lib.hid (HB9.out.quiet hk10)
        have hJ10 := hJ9.kept hk10 (.inr fun _ _ _ f => f)
        have hV10 := hV.kept hk10 (.inr fun _ _ _ f => f)
        refine ⟨.bool bb, rfl, fun _ => ⟨HB10.out.vb.cells.1, HB10.out.vb.cells.2.1, by rw [HS.out]; exact HB10.out.vb.cells.2.2, hB10.cell 0 _ rfl, hB10.cell 1 _ rfl⟩, ?_⟩
        refine wpAnyU_run (i := 10) (v := jobC (k : Int) i8 i1 c8 u9 ul d9 bb) (w' := w10) (some 64) rfl rfl (by kernel_rfl) (by kernel_rfl) (by simp only [put_lit, List.set_cons_succ, List.set_cons_zero]; go_simp; rfl) (fun _ => ⟨HB10.out.vb.cells.1, HB10.out.vb.cells.2.1, by rw [HS.out]; exact HB10.out.vb.cells.2.2, hB10.cell 0 _ rfl, hB10.cell 1 _ rfl⟩) ?_
        have r0 := Holds.cell HB10.out.res 0 _ rfl
        have r1 := Holds.cell HB10.out.res 1 _ rfl
        have r2 := Holds.cell HB10.out.res 2 _ rfl
        have r3 := Holds.cell HB10.out.res 3 _ rfl
        have q0 := Holds.free HB10.out.res 0
        have q1 := Holds.free HB10.out.res 1
        have q2 := Holds.free HB10.out.res 2
        have q3 := Holds.free HB10.out.res 3
        have hkN : Kept (fun _ => False) w (w10.setCells r 0 [.int .i64 (k : Int), .slice i8 i1 c8, .slice u9 ul d9, .bool bb]) := Kept.setCellsN HB10.out.far _ 0 w10 HB10.out.vb.kept
        have hkr : Kept (fun z => z = r) w10 (w10.setCells r 0 [.int .i64 (k : Int), .slice i8 i1 c8, .slice u9 ul d9, .bool bb]) := Kept.setCells (X := fun z => z = r) rfl _ 0 w10 (Kept.refl _ _)
        have hPN := HB10.out.res.setCells [.int .i64 (k : Int), .slice i8 i1 c8, .slice u9 ul d9, .bool bb] 0 w10 [.int .i64 0, .slice none 0 0, .slice none 0 0, .bool false] (Nat.le_refl _)
        rw [lay_all [.int .i64 0, .slice none 0 0, .slice none 0 0, .bool false] [.int .i64 (k : Int), .slice i8 i1 c8, .slice u9 ul d9, .bool bb] rfl] at hPN
        unfold jobC
        refine wpAnyU_skip (i := 11) (w' := w10.setCells r 0 [.int .i64 (k : Int), .slice i8 i1 c8, .slice u9 ul d9, .bool bb]) none rfl rfl (by kernel_rfl) (by kernel_rfl) (by simp only [put_lit, List.set_cons_succ, List.set_cons_zero]; go_simp; rfl) (fun h => absurd h (by decide)) ?_
        generalize w10.setCells r 0 [.int .i64 (k : Int), .slice i8 i1 c8, .slice u9 ul d9, .bool bb] = w11 at hkN hkr hPN ⊢
        refine wpAnyU_run (i := 12) (v := .bool true) (w' := w11) (some 3) rfl rfl (by kernel_rfl) (by kernel_rfl) (by simp only [put_lit, List.set_cons_succ, List.set_cons_zero]; go_simp) (fun h => absurd h (by decide)) ?_
        refine wpAnyU_done (by kernel_rfl) ?_ _
        simp only [put_lit, List.set_cons_succ, List.set_cons_zero]
        have HJ11 := Lib.hid (hJ10.kept hkr (.inr fun b off hb => by have := hrJ b off hb; omega))
        have HV11 := Lib.hid (hV10.kept hkr (.inr fun b off hb => by have := hrV b off hb; omega))
        have HJV := Lib.hid (And.intro hJb hVb)
        have HPN := Lib.hid hPN
        have HKN := Lib.hid hkN
        have HJM : Hid (Z = some ((k : Int), I.map (·.1), U.map (·.1), bb)) := by
          show Z = _
          rw [hZ.out, pick_some HRt.out HCh.out]
          unfold jobM
          rw [← hUe.out, hbb.out]
          refine congrArg some ?_
          refine congrArg (Prod.mk _) (congrArg (Prod.mk _) (congrArg (Prod.mk _) (congrArg (! ·) ?_)))
          refine congrArg (fun f => List.any v.1 f) ?_
          funext m
          rw [kmeet_is HS2.out m]
          refine congrArg (· && _) ?_
          by_cases hx : (k : Int) + 2 ≤ m.2.1
          · rw [decide_eq_true hx, decide_eq_true (by omega)]
          · rw [decide_eq_false hx, decide_eq_false (by omega)]
        clear hJ10 hV10 hkr hPN hkN r0 r1 r2 r3 q0 q1 q2 q3 hB10 HB10 hJ9 hV hrV hB9 HB9 hrJ hB8 HB8 HI8 hJ hJb hVb hJo hVo hk8 hk9 hk10 hS hBd HBd HId hbb HS2
        go_wp2
        refine pk_doorP _ HPN.out rfl rfl ?_
        obtain rfl := HJM.out
        exact ⟨i8, i1, c8, u9, ul, d9, rfl, HJ11.out, HJV.out.1, HV11.out, HJV.out.2, HKN.out⟩
      · have hd : decide (z2 < z1) = false := decide_eq_false hs
        have HN2 : Hid (NoneP v (k + 1)) := HN.out.next (by omega) hlt (by rw [← hz1.out, ← hz2.out]; exact hs)
        clear HMt HIl hz1 hz2 hform hil2 HN hb0 hs
        go_wp2_with fail
        refine HSz.out.mono ?_
        rintro e w5 ⟨rfl, hk5⟩
        have HB5 := Lib.hid (HB0.out.quiet hk5)
        clear hk5 HSz HB0
        go_wp2_with fail
        refine (HLm.out _).mono ?_
        rintro e wu ⟨rfl, hk6⟩
        have HB0 := Lib.hid (HB5.out.quiet hk6)
        clear hk6 HLm HB5 hk0
        go_wp2
        go_roundw
        case rel => exact ⟨k + 1, ia, il, ic, by omega, rfl, by first | rfl | go_num, HB0, HN2⟩
        case measure => simp [intOf]; omega

end Go.Proofs.Ytgcepbpdicadnaa
