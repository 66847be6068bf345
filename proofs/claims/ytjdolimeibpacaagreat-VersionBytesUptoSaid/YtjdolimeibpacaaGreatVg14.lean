/- Layer 14's landed program: Apply. -/
import Derived.Test.YtjdolimeibpacaaGreatVd14
import Derived.Test.YtjdolimeibpacaaGreatOrd
import Derived.Test.YtjdolimeibpacaaGreatVf14
import Derived.Test.YtjdolimeibpacaaGreatVu14
import Derived.Test.YtjdolimeibpacaaGreatVh14
import Derived.Test.YtjdolimeibpacaaGreatVnB
import Derived.Test.YtjdolimeibpacaaGreatOrd2
import Derived.Deep.CutRange
namespace Go.Proofs.YtjdolimeibpacaaGreat
open Go.RowKit Go.Proofs Go.Proofs.Pk
set_option maxRecDepth 10000

/-- Apply's boxes: the version, the edit, the result. -/
structure ApB (w W : World) (ad : Option Addr) (len cap : Nat) (ad2 : Option Addr) (len2 cap2 : Nat) (s : Int) (bd : Option Addr) (bl bc : Nat) (bd2 : Option Addr) (bl2 bc2 : Nat) (bd3 : Option Addr) (bl3 bc3 : Nat) (bd4 : Option Addr) (bl4 bc4 : Nat) (es : Int) : Prop where
  ver : Holds W w.heap.size [.slice ad len cap, .slice ad2 len2 cap2, .int .i64 s] 41
  edt : Holds W (w.heap.size + 1) [.slice bd bl bc, .slice bd2 bl2 bc2, .slice bd3 bl3 bc3, .slice bd4 bl4 bc4, .int .i64 es] 25
  res : Holds W (w.heap.size + 2) [.slice none 0 0, .slice none 0 0, .int .i64 0] 41
  kept : Kept (fun _ => False) w W
theorem ApB.keptX {w W W' : World} {ad : Option Addr} {len cap : Nat} {ad2 : Option Addr} {len2 cap2 : Nat} {s : Int} {bd : Option Addr} {bl bc : Nat} {bd2 : Option Addr} {bl2 bc2 : Nat} {bd3 : Option Addr} {bl3 bc3 : Nat} {bd4 : Option Addr} {bl4 bc4 : Nat} {es : Int} {X : Nat → Prop}
    (h : ApB w W ad len cap ad2 len2 cap2 s bd bl bc bd2 bl2 bc2 bd3 bl3 bc3 bd4 bl4 bc4 es) (hk : Kept X W W') (hx : ∀ k, X k → w.heap.size + 3 ≤ k) : ApB w W' ad len cap ad2 len2 cap2 s bd bl bc bd2 bl2 bc2 bd3 bl3 bc3 bd4 bl4 bc4 es :=
  ⟨Holds.of_block h.ver (hk.block _ (Holds.lt h.ver) (fun f => by have := hx _ f; omega)), Holds.of_block h.edt (hk.block _ (Holds.lt h.edt) (fun f => by have := hx _ f; omega)), Holds.of_block h.res (hk.block _ (Holds.lt h.res) (fun f => by have := hx _ f; omega)),
    h.kept.trans hk (fun k f => .inr (by have := hx _ f; omega))⟩
theorem ApB.kept' {w W W' : World} {ad : Option Addr} {len cap : Nat} {ad2 : Option Addr} {len2 cap2 : Nat} {s : Int} {bd : Option Addr} {bl bc : Nat} {bd2 : Option Addr} {bl2 bc2 : Nat} {bd3 : Option Addr} {bl3 bc3 : Nat} {bd4 : Option Addr} {bl4 bc4 : Nat} {es : Int}
    (h : ApB w W ad len cap ad2 len2 cap2 s bd bl bc bd2 bl2 bc2 bd3 bl3 bc3 bd4 bl4 bc4 es) (hk : Kept (fun _ => False) W W') : ApB w W' ad len cap ad2 len2 cap2 s bd bl bc bd2 bl2 bc2 bd3 bl3 bc3 bd4 bl4 bc4 es := h.keptX hk (fun _ f => f.elim)
theorem ApB.start (w : World) (ad : Option Addr) (len cap : Nat) (ad2 : Option Addr) (len2 cap2 : Nat) (s : Int) (bd : Option Addr) (bl bc : Nat) (bd2 : Option Addr) (bl2 bc2 : Nat) (bd3 : Option Addr) (bl3 bc3 : Nat) (bd4 : Option Addr) (bl4 bc4 : Nat) (es : Int) :
    ApB w (((w.alloc (.cells #[.slice ad len cap, .slice ad2 len2 cap2, .int .i64 s] 41)).alloc (.cells #[.slice bd bl bc, .slice bd2 bl2 bc2, .slice bd3 bl3 bc3, .slice bd4 bl4 bc4, .int .i64 es] 25)).alloc (.cells #[.slice none 0 0, .slice none 0 0, .int .i64 0] 41))
      ad len cap ad2 len2 cap2 s bd bl bc bd2 bl2 bc2 bd3 bl3 bc3 bd4 bl4 bc4 es := by
  have h1 := Holds.new w [.slice ad len cap, .slice ad2 len2 cap2, .int .i64 s] 41
  have k1 := (Kept.refl (fun _ => False) w).alloc (.cells #[.slice ad len cap, .slice ad2 len2 cap2, .int .i64 s] 41)
  have e1 : (w.alloc (.cells #[.slice ad len cap, .slice ad2 len2 cap2, .int .i64 s] 41)).heap.size = w.heap.size + 1 := Array.size_push _
  change Holds (w.alloc (.cells #[.slice ad len cap, .slice ad2 len2 cap2, .int .i64 s] 41)) _ _ _ at h1
  generalize w.alloc (.cells #[.slice ad len cap, .slice ad2 len2 cap2, .int .i64 s] 41) = w1 at h1 k1 e1 ⊢
  have h2 := Holds.new w1 [.slice bd bl bc, .slice bd2 bl2 bc2, .slice bd3 bl3 bc3, .slice bd4 bl4 bc4, .int .i64 es] 25
  have k2 := (Kept.refl (fun _ => False) w1).alloc (.cells #[.slice bd bl bc, .slice bd2 bl2 bc2, .slice bd3 bl3 bc3, .slice bd4 bl4 bc4, .int .i64 es] 25)
  have e2 : (w1.alloc (.cells #[.slice bd bl bc, .slice bd2 bl2 bc2, .slice bd3 bl3 bc3, .slice bd4 bl4 bc4, .int .i64 es] 25)).heap.size = w1.heap.size + 1 := Array.size_push _
  change Holds (w1.alloc (.cells #[.slice bd bl bc, .slice bd2 bl2 bc2, .slice bd3 bl3 bc3, .slice bd4 bl4 bc4, .int .i64 es] 25)) _ _ _ at h2
  generalize w1.alloc (.cells #[.slice bd bl bc, .slice bd2 bl2 bc2, .slice bd3 bl3 bc3, .slice bd4 bl4 bc4, .int .i64 es] 25) = w2 at h2 k2 e2 ⊢
  have h3 := Holds.new w2 [.slice none 0 0, .slice none 0 0, .int .i64 0] 41
  have k3 := (Kept.refl (fun _ => False) w2).alloc (.cells #[.slice none 0 0, .slice none 0 0, .int .i64 0] 41)
  change Holds (w2.alloc (.cells #[.slice none 0 0, .slice none 0 0, .int .i64 0] 41)) _ _ _ at h3
  rw [e1] at h2
  rw [e2, e1] at h3
  have h1' : Holds w2 w.heap.size _ _ := Holds.of_block h1 (k2.block _ (Holds.lt h1) (fun f => f))
  exact ⟨Holds.of_block h1' (k3.block _ (Holds.lt h1') (fun f => f)), Holds.of_block h2 (k3.block _ (Holds.lt h2) (fun f => f)), h3, (k1.trans k2 (fun _ f => f.elim)).trans k3 (fun _ f => f.elim)⟩

set_option maxHeartbeats 2000000 in
/-- Apply returns what its result's box holds, and the error in slot 5. -/
theorem ap_door {R : Ending → World → Prop} {W : World} {g : Nat} {a : Option Addr} {n p : Nat} {a2 : Option Addr} {n2 p2 : Nat} {s : Int} {ev : Value} (l : List Value) (hP : Holds W g [.slice a n p, .slice a2 n2 p2, .int .i64 s] 41)
    (h4 : l[4]? = some (.pointer (some ⟨g, 0, none⟩))) (h5 : l[5]? = some ev) (hR : R (.returned (.tuple #[verC a n p a2 n2 p2 s, ev])) W) : bodyPost Tryz.prog Tryz.f11 R Exit.ret { tmps := l.toArray, defers := [] } W := by
  have d0 := Holds.cell hP 0 _ rfl
  have d1 := Holds.cell hP 1 _ rfl
  have d2 := Holds.cell hP 2 _ rfl
  refine bodyPost_ret (v := .tuple #[verC a n p a2 n2 p2 s, ev]) ?_ rfl hR
  rw [results_cell_tmp rfl]
  have e4 : l.toArray.getD 4 undef = .pointer (some ⟨g, 0, none⟩) := by simp [Array.getD_eq_getD_getElem?, h4]
  have e5 : l.toArray.getD 5 undef = ev := by simp [Array.getD_eq_getD_getElem?, h5]
  show ((asAddr (l.toArray.getD 4 undef)).run _ _).andThen _ = _
  rw [e4, e5]
  go_simp
  rfl
/-- .. with no version, and an error. -/
theorem ap_fail {w W : World} {Z : VerV × Nat} {c : Nat} (l : List Value) (hZ : Z = (zeroV, c + 1)) (hP : Holds W (w.heap.size + 2) [.slice none 0 0, .slice none 0 0, .int .i64 0] 41) (hk : Kept (fun _ => False) w W)
    (h4 : l[4]? = some (.pointer (some ⟨w.heap.size + 2, 0, none⟩))) (h5 : l[5]? = some (.iface 49 (.int .i64 ((c : Int) + 1)))) :
    bodyPost Tryz.prog Tryz.f11 (ApK w Z) Exit.ret { tmps := l.toArray, defers := [] } W := by
  subst hZ
  refine ap_door l hP h4 h5 ⟨none, 0, 0, none, 0, 0, ?_, ver_zero W, hk⟩
  simp [errV, zeroV]
theorem ApB.zeroed {w W : World} {ad : Option Addr} {len cap : Nat} {ad2 : Option Addr} {len2 cap2 : Nat} {s : Int} {bd : Option Addr} {bl bc : Nat} {bd2 : Option Addr} {bl2 bc2 : Nat} {bd3 : Option Addr} {bl3 bc3 : Nat} {bd4 : Option Addr} {bl4 bc4 : Nat} {es : Int}
    (h : ApB w W ad len cap ad2 len2 cap2 s bd bl bc bd2 bl2 bc2 bd3 bl3 bc3 bd4 bl4 bc4 es) :
    Holds (((W.setCell ⟨w.heap.size + 2, 0, none⟩ (.slice none 0 0)).setCell ⟨w.heap.size + 2, 1, none⟩ (.slice none 0 0)).setCell ⟨w.heap.size + 2, 2, none⟩ (.int .i64 0)) (w.heap.size + 2) [.slice none 0 0, .slice none 0 0, .int .i64 0] 41 ∧
      Kept (fun _ => False) w (((W.setCell ⟨w.heap.size + 2, 0, none⟩ (.slice none 0 0)).setCell ⟨w.heap.size + 2, 1, none⟩ (.slice none 0 0)).setCell ⟨w.heap.size + 2, 2, none⟩ (.int .i64 0)) :=
  ⟨((Holds.set h.res 0 (.slice none 0 0)).set 1 (.slice none 0 0)).set 2 (.int .i64 0), ((h.kept.setNew (p := ⟨w.heap.size + 2, 0, none⟩) (by simp) _).setNew (p := ⟨w.heap.size + 2, 1, none⟩) (by simp) _).setNew (p := ⟨w.heap.size + 2, 2, none⟩) (by simp) _⟩

set_option maxHeartbeats 8000000 in
theorem apply14p (ad : Option Addr) (len cap : Nat) (ad2 : Option Addr) (len2 cap2 : Nat) (v : VerV) (bd : Option Addr) (bl bc : Nat) (bd2 : Option Addr) (bl2 bc2 : Nat) (bd3 : Option Addr) (bl3 bc3 : Nat) (bd4 : Option Addr) (bl4 bc4 : Nat) (e : EdV) (w : World)
    (h : VerW w ad len cap ad2 len2 cap2 v) (he : EdW w bd bl bc bd2 bl2 bc2 bd3 bl3 bc3 bd4 bl4 bc4 e) :
    Calls Tryz.prog 11 #[verC ad len cap ad2 len2 cap2 v.2.2, edC bd bl bc bd2 bl2 bc2 bd3 bl3 bc3 bd4 bl4 bc4 e.2.2.2.2] w (ApK w (applyV v e)) := by
  show Calls Tryz.prog 11 #[.agg #[.slice ad len cap, .slice ad2 len2 cap2, .int .i64 v.2.2], .agg #[.slice bd bl bc, .slice bd2 bl2 bc2, .slice bd3 bl3 bc3, .slice bd4 bl4 bc4, .int .i64 e.2.2.2.2]] w _
  obtain ⟨Z, hZ⟩ : ∃ Z, Hid (Z = applyV v e) := ⟨_, Lib.hid rfl⟩
  rw [← hZ.out]
  have HV := Lib.hid h
  have HE := Lib.hid he
  have HRt : Hid (∀ W, Kept (fun _ => False) w W → Calls Tryz.prog 13 #[.agg #[.slice ad len cap, .slice ad2 len2 cap2, .int .i64 v.2.2]] W fun r w' => r = .returned (.bool (rightV v)) ∧ Kept (fun _ => False) W w') :=
    Lib.hid fun W hk => right14p ad len cap ad2 len2 cap2 v W (h.x.kept hk)
  have HB0 := Lib.hid (ApB.start w ad len cap ad2 len2 cap2 v.2.2 bd bl bc bd2 bl2 bc2 bd3 bl3 bc3 bd4 bl4 bc4 e.2.2.2.2)
  have HC := HRt.out _ HB0.out.kept
  have HCh := Lib.hid HC
  clear HC h he HRt
  have hvs : Hid (VerW w none 0 0 none 0 0 zeroV) := Lib.hid (ver_zero w)
  have HZ1 : Hid (rightV v = false → Z = (zeroV, 1)) := Lib.hid fun h => by rw [hZ.out]; unfold applyV; rw [if_pos h]
  have HZ2 : Hid (rightV v = true → (goneB (v.1.map (·.1)) e.2.1 && goneB v.2.1 e.2.2.2.1) = false → Z = (zeroV, 8)) := Lib.hid fun h h2 => by rw [hZ.out]; unfold applyV; rw [if_neg (by rw [h]; simp), if_pos h2]
  have HZ3 : Hid (rightV v = true → (goneB (v.1.map (·.1)) e.2.1 && goneB v.2.1 e.2.2.2.1) = true → Z = if ¬(idsV (outV v e)).Nodup then (zeroV, 9) else if rightV (outV v e) = false then (zeroV, 1) else (outV v e, 0)) := Lib.hid fun h h2 => by
    rw [hZ.out]; unfold applyV; rw [if_neg (by rw [h]; simp), if_neg (by rw [h2]; simp)]
  have HRV : Hid (rightV v = true → v.1.length ≤ 200 ∧ v.2.1.length ≤ 20) := Lib.hid fun h => ⟨(right_ofV h).1.1, (right_ofV h).1.2.1⟩
  generalize hrv : rightV v = rv at HCh HZ1 HZ2 HZ3 HRV
  go_enter Tryz.func11, Tryz.ntmps11
  go_wp2_with fail
  refine HCh.out.mono ?_
  clear HCh
  rintro r w1 ⟨rfl, hk1⟩
  have HB1 := Lib.hid (HB0.out.kept' hk1)
  clear HB0 hk1
  have r0 := Holds.cell HB1.out.res 0 _ rfl
  have r1 := Holds.cell HB1.out.res 1 _ rfl
  have r2 := Holds.cell HB1.out.res 2 _ rfl
  have q0 := Holds.free HB1.out.res 0
  have q1 := Holds.free HB1.out.res 1
  have q2 := Holds.free HB1.out.res 2
  cases rv with
  | false =>
    go_wp2
    obtain ⟨hz1, hz2⟩ := HB1.out.zeroed
    exact ap_fail (c := 0) _ (HZ1.out (by first | rfl | trivial)) hz1 hz2 rfl rfl
  | true =>
    have HZ2' := Lib.hid (HZ2.out (by first | rfl | trivial))
    have HZ3' := Lib.hid (HZ3.out (by first | rfl | trivial))
    have HRV' := Lib.hid (HRV.out (by first | rfl | trivial))
    clear HZ1 HZ2 HZ3 HRV hrv
    have HWM : Hid (Calls Tryz.prog 32 #[.slice ad len cap, .slice bd2 bl2 bc2, .func (.func 33) #[] #[]] w1 (WoM w1 v.1 e.2.1)) :=
      Lib.hid (withoutMetas ad len cap v.1 bd2 bl2 bc2 e.2.1 w1 (metas_kept HV.out.1 HB1.out.kept) (fits_of HV.out.1) (by have := HV.out.2.1.2.2.1; omega) (ints_keptV HE.out.2.2.1 HB1.out.kept) HE.out.2.2.2.1.1 (by have := HE.out.2.2.2.1.2.2.1; omega))
    have c0 := Holds.cell HB1.out.ver 0 _ rfl
    have e1 := Holds.cell HB1.out.edt 1 _ rfl
    clear r0 r1 r2 q0 q1 q2
    go_wp2_with fail
    refine HWM.out.mono ?_
    clear HWM
    rintro r w2 ⟨v1, n1, L1, rfl, hl1, ho1, hg1, hf1, hk2⟩
    generalize goneB (v.1.map (·.1)) e.2.1 = gT at hg1 HZ2' HZ3' ⊢
    have HB2 := Lib.hid (HB1.out.kept' hk2)
    have HO1 := Lib.hid (And.intro hl1 (And.intro ho1 (And.intro hg1 hf1)))
    have hsz1 : w.heap.size + 3 ≤ w1.heap.size := by have := Holds.lt HB1.out.res; omega
    have hsz12 : w1.heap.size ≤ w2.heap.size := hk2.size
    clear hk2 hl1 ho1 hg1 hf1 c0 e1 HB1
    have HWI : Hid (Calls Tryz.prog 34 #[.slice ad2 len2 cap2, .slice bd4 bl4 bc4, .func (.func 35) #[] #[]] w2 (WoI w2 v.2.1 e.2.2.2.1)) :=
      Lib.hid (withoutInts ad2 len2 cap2 v.2.1 bd4 bl4 bc4 e.2.2.2.1 w2 (ints_keptV HV.out.2.2.1 HB2.out.kept) HV.out.2.2.2.1.1 (by have := HV.out.2.2.2.1.2.2.1; omega) (ints_keptV HE.out.2.2.2.2.2.2.1 HB2.out.kept) HE.out.2.2.2.2.2.2.2.1.1 (by have := HE.out.2.2.2.2.2.2.2.1.2.2.1; omega))
    have c1 := Holds.cell HB2.out.ver 1 _ rfl
    have e3 := Holds.cell HB2.out.edt 3 _ rfl
    go_wp2_with fail
    refine HWI.out.mono ?_
    clear HWI
    rintro r w3 ⟨v2, n2, L2, rfl, hl2, ho2, hg2, hk3⟩
    generalize goneB v.2.1 e.2.2.2.1 = gL at hg2 HZ2' HZ3' ⊢
    have HB3 := Lib.hid (HB2.out.kept' hk3)
    have HP1 : Hid (L1.length = n1 ∧ w3.ownsRow w1.heap.size 45 5 v1 n1 (L1.flatMap metaC) ∧ (gT = true → L1 = v.1.filter fun m => decide (m.1 ∉ e.2.1)) ∧ (∀ m ∈ L1, FitMV m)) :=
      Lib.hid ⟨HO1.out.1, owns_of_block HO1.out.2.1 fun g hg => hk3.block g (HO1.out.2.1.lt g hg).2 (fun f => f), HO1.out.2.2.1, HO1.out.2.2.2⟩
    have HP2 : Hid (L2.length = n2 ∧ w3.ownsRow w1.heap.size 3 1 v2 n2 (L2.map intC) ∧ (gL = true → L2 = v.2.1.filter fun x => decide (x ∉ e.2.2.2.1))) := Lib.hid ⟨hl2, owns_base ho2 hsz12, hg2⟩
    have hsz3 : w1.heap.size ≤ w3.heap.size := Nat.le_trans hsz12 hk3.size
    clear HO1 hk3 hl2 ho2 hg2 c1 e3 HB2 hsz12
    have r0 := Holds.cell HB3.out.res 0 _ rfl
    have r1 := Holds.cell HB3.out.res 1 _ rfl
    have r2 := Holds.cell HB3.out.res 2 _ rfl
    have q0 := Holds.free HB3.out.res 0
    have q1 := Holds.free HB3.out.res 1
    have q2 := Holds.free HB3.out.res 2
    cases gT with
    | false =>
      go_wp2
      obtain ⟨hz1, hz2⟩ := HB3.out.zeroed
      exact ap_fail (c := 7) _ (HZ2'.out (by simp)) hz1 hz2 rfl rfl
    | true =>
    cases gL with
    | false =>
      go_wp2
      obtain ⟨hz1, hz2⟩ := HB3.out.zeroed
      exact ap_fail (c := 7) _ (HZ2'.out (by simp)) hz1 hz2 rfl rfl
    | true =>
    have HZ4 := Lib.hid (HZ3'.out (by first | rfl | simp))
    clear HZ2' HZ3' r0 r1 r2 q0 q1 q2
    go_upto_region 7 with (fail)
    have hL1 : Hid (n1 ≤ 200) := Lib.hid (by rw [← HP1.out.1, HP1.out.2.2.1 (by first | rfl | trivial)]; exact Nat.le_trans (List.length_filter_le _ _) HRV'.out.1)
    have hL2 : Hid (n2 ≤ 20) := Lib.hid (by rw [← HP2.out.1, HP2.out.2.2 (by first | rfl | trivial)]; exact Nat.le_trans (List.length_filter_le _ _) HRV'.out.2)
    obtain ⟨mx, hmx⟩ : ∃ mx, Hid (mx = max v.2.2 e.2.2.2.2) := ⟨_, Lib.hid rfl⟩
    go_cut [10] from 40 to 53 (fun p wx => ∃ nb a1 p1 a2 p2, p = .pointer (some ⟨nb, 0, none⟩) ∧ Hid (ApB w wx ad len cap ad2 len2 cap2 v.2.2 bd bl bc bd2 bl2 bc2 bd3 bl3 bc3 bd4 bl4 bc4 e.2.2.2.2 ∧ NxW wx nb w1.heap.size (L1 ++ e.1) (L2 ++ e.2.2.1) mx a1 (n1 + bl) p1 a2 (n2 + bl3) p2))
    case first =>
      have hS : (fun W : World => ApB w W ad len cap ad2 len2 cap2 v.2.2 bd bl bc bd2 bl2 bc2 bd3 bl3 bc3 bd4 bl4 bc4 e.2.2.2.2) w3.drew := HB3.out.kept' ((Kept.refl _ w3).drewN 1)
      refine wp_region_until (fun W : World => ApB w W ad len cap ad2 len2 cap2 v.2.2 bd bl bc bd2 bl2 bc2 bd3 bl3 bc3 bd4 bl4 bc4 e.2.2.2.2) 15 (by kernel_rfl) ?_
      have ho1 : w3.drew.ownsRow w1.heap.size 45 5 v1 n1 (L1.flatMap metaC) := owns_of_block HP1.out.2.1 fun g hg => rfl
      have ho2 : w3.drew.ownsRow w1.heap.size 3 1 v2 n2 (L2.map intC) := owns_of_block HP2.out.2.1 fun g hg => rfl
      have hszd : w1.heap.size ≤ w3.drew.heap.size := hsz3
      generalize w3.drew = w4 at hS ho1 ho2 hszd ⊢
      refine wpAnyU_take (i := 0) (v := v1) (some 40) rfl rfl (by kernel_rfl) (by kernel_rfl) (by kernel_rfl) (by kernel_rfl) (fun _ _ _ h => h) hS (yields_of (by kernel_rfl) (fun w hw => by kernel_rfl)) ?_
      refine wpAnyU_take (i := 1) (v := (.pointer (some ⟨w.heap.size + 1, 0, none⟩))) (some 41) rfl rfl (by kernel_rfl) (by kernel_rfl) (by kernel_rfl) (by kernel_rfl) (fun _ _ _ h => h) hS (yields_of (by kernel_rfl) (fun w hw => by kernel_rfl)) ?_
      refine wpAnyU_take (i := 2) (v := (.slice bd bl bc)) (some 42) rfl rfl (by kernel_rfl) (by kernel_rfl) (by kernel_rfl) (by kernel_rfl) (fun _ _ _ h => h) hS (yields_of (by kernel_rfl) (fun w hw => by have c0 := Holds.cell hw.edt 0 _ rfl; go_simp)) ?_
      refine wpAnyU_take (i := 4) (v := v2) (some 44) rfl rfl (by kernel_rfl) (by kernel_rfl) (by kernel_rfl) (by kernel_rfl) (fun _ _ _ h => h) hS (yields_of (by kernel_rfl) (fun w hw => by kernel_rfl)) ?_
      refine wpAnyU_take (i := 5) (v := (.pointer (some ⟨w.heap.size + 1, 2, none⟩))) (some 45) rfl rfl (by kernel_rfl) (by kernel_rfl) (by kernel_rfl) (by kernel_rfl) (fun _ _ _ h => h) hS (yields_of (by kernel_rfl) (fun w hw => by kernel_rfl)) ?_
      refine wpAnyU_take (i := 6) (v := (.slice bd3 bl3 bc3)) (some 46) rfl rfl (by kernel_rfl) (by kernel_rfl) (by kernel_rfl) (by kernel_rfl) (fun _ _ _ h => h) hS (yields_of (by kernel_rfl) (fun w hw => by have c0 := Holds.cell hw.edt 2 _ rfl; go_simp)) ?_
      refine wpAnyU_take (i := 8) (v := (.pointer (some ⟨w.heap.size, 2, none⟩))) (some 48) rfl rfl (by kernel_rfl) (by kernel_rfl) (by kernel_rfl) (by kernel_rfl) (fun _ _ _ h => h) hS (yields_of (by kernel_rfl) (fun w hw => by kernel_rfl)) ?_
      refine wpAnyU_take (i := 9) (v := (.int .i64 v.2.2)) (some 49) rfl rfl (by kernel_rfl) (by kernel_rfl) (by kernel_rfl) (by kernel_rfl) (fun _ _ _ h => h) hS (yields_of (by kernel_rfl) (fun w hw => by have c2 := Holds.cell hw.ver 2 _ rfl; go_simp)) ?_
      refine wpAnyU_take (i := 10) (v := (.pointer (some ⟨w.heap.size + 1, 4, none⟩))) (some 50) rfl rfl (by kernel_rfl) (by kernel_rfl) (by kernel_rfl) (by kernel_rfl) (fun _ _ _ h => h) hS (yields_of (by kernel_rfl) (fun w hw => by kernel_rfl)) ?_
      refine wpAnyU_take (i := 11) (v := (.int .i64 e.2.2.2.2)) (some 51) rfl rfl (by kernel_rfl) (by kernel_rfl) (by kernel_rfl) (by kernel_rfl) (fun _ _ _ h => h) hS (yields_of (by kernel_rfl) (fun w hw => by have c0 := Holds.cell hw.edt 4 _ rfl; go_simp)) ?_
      refine wpAnyU_take (i := 12) (v := (.int .i64 mx)) (some 52) rfl rfl (by kernel_rfl) (by kernel_rfl) (by kernel_rfl) (by kernel_rfl) (fun _ _ _ h => h) hS (yields_of (by kernel_rfl) (fun w hw => by go_simp; exact hmx.out.symm)) ?_
      refine wpAnyU_either (i := 3) (j := 14) 43 10 rfl rfl rfl rfl (by kernel_rfl) rfl rfl ?_ ?_
      · obtain ⟨a1, p1, wa, x1, y1, k1⟩ := appMetas w4 w1.heap.size v1 n1 L1 ho1 hL1.out bd bl bc e.1 (metas_kept HE.out.1 hS.kept) HE.out.2.1 HP1.out.2.2.2 HP1.out.1 hszd
        have hSa : ApB w wa ad len cap ad2 len2 cap2 v.2.2 bd bl bc bd2 bl2 bc2 bd3 bl3 bc3 bd4 bl4 bc4 e.2.2.2.2 := hS.keptX k1 (fun k hk => by have := (ho1.lt k hk).1; omega)
        have ho2a := owns_of_block ho2 fun g hg => k1.block g (ho2.lt g hg).2 (own_ne_own ho2 ho1 (by decide) g hg)
        have hsza : w1.heap.size ≤ wa.heap.size := Nat.le_trans hszd k1.size
        refine ⟨.slice a1 (n1 + bl) p1, wa, (exec_append (s := .tmp 40) (x := .tmp 42) x1 (by rfl) (by rfl) (by kernel_rfl) (by kernel_rfl)), hSa, ?_⟩
        refine wpAnyU_either (i := 7) (j := 14) 47 10 rfl rfl rfl rfl (by kernel_rfl) rfl rfl ?_ ?_
        · obtain ⟨a2, p2, wb, x2, y2, k2⟩ := appInts wa w1.heap.size v2 n2 L2 ho2a hL2.out bd3 bl3 bc3 e.2.2.1 (ints_keptV HE.out.2.2.2.2.1 hSa.kept) HE.out.2.2.2.2.2.1 HP2.out.1 hsza
          have hSb : ApB w wb ad len cap ad2 len2 cap2 v.2.2 bd bl bc bd2 bl2 bc2 bd3 bl3 bc3 bd4 bl4 bc4 e.2.2.2.2 := hSa.keptX k2 (fun k hk => by have := (ho2a.lt k hk).1; omega)
          have y1b := owns_of_block y1 fun g hg => k2.block g (y1.lt g hg).2 (own_ne_own y1 ho2a (by decide) g hg)
          have hszb : w1.heap.size ≤ wb.heap.size := Nat.le_trans hsza k2.size
          refine ⟨.slice a2 (n2 + bl3) p2, wb, (exec_append (s := .tmp 44) (x := .tmp 46) x2 (by rfl) (by rfl) (by kernel_rfl) (by kernel_rfl)), hSb, ?_⟩
          refine wpAnyU_take (i := 13) (v := (.agg #[.slice a1 (n1 + bl) p1, .slice a2 (n2 + bl3) p2, .int .i64 mx])) (some 53) rfl rfl (by kernel_rfl) (by kernel_rfl) (by kernel_rfl) (by kernel_rfl) (fun _ _ _ h => h) hSb (yields_of (by kernel_rfl) (fun w hw => by kernel_rfl)) ?_
          have hbx := Holds.new wb [.slice none 0 0, .slice none 0 0, .int .i64 0] 41
          have hkz := (Kept.refl (fun _ => False) wb).alloc (.cells #[.slice none 0 0, .slice none 0 0, .int .i64 0] 41)
          have hSc := hSb.kept' hkz
          have y1c := owns_of_block y1b fun g hg => hkz.block g (y1b.lt g hg).2 (fun f => f)
          have y2c := owns_of_block y2 fun g hg => hkz.block g (y2.lt g hg).2 (fun f => f)
          refine wpAnyU_run (i := 14) (v := .pointer (some ⟨wb.heap.size, 0, none⟩)) (w' := wb.alloc (.cells #[.slice none 0 0, .slice none 0 0, .int .i64 0] 41)) (some 10) rfl rfl (by kernel_rfl) (by kernel_rfl) (by kernel_rfl) (fun _ => hSc) ?_
          change Holds (wb.alloc (.cells #[.slice none 0 0, .slice none 0 0, .int .i64 0] 41)) _ _ _ at hbx
          generalize wb.alloc (.cells #[.slice none 0 0, .slice none 0 0, .int .i64 0] 41) = wc at hbx hSc y1c y2c ⊢
          obtain ⟨hnx, hkx⟩ := NxW.store (T := L1 ++ e.1) (l := L2 ++ e.2.2.1) mx hbx hszb y1c y2c (by rw [List.length_append, HP1.out.1, HE.out.1.1]) (by rw [List.length_append, HP2.out.1, HE.out.2.2.2.2.1.1])
          have r0 := Holds.cell hbx 0 _ rfl
          have r1 := Holds.cell hbx 1 _ rfl
          have r2 := Holds.cell hbx 2 _ rfl
          have q0 := Holds.free hbx 0
          have q1 := Holds.free hbx 1
          have q2 := Holds.free hbx 2
          refine wpAnyU_skip (i := 15) (w' := ((wc.setCell ⟨wb.heap.size, 0, none⟩ (.slice a1 (n1 + bl) p1)).setCell ⟨wb.heap.size, 1, none⟩ (.slice a2 (n2 + bl3) p2)).setCell ⟨wb.heap.size, 2, none⟩ (.int .i64 mx)) none rfl rfl (by kernel_rfl) (by kernel_rfl) (by simp only [put_lit, List.set_cons_succ, List.set_cons_zero]; go_simp) (fun h => absurd h (by decide)) ?_
          refine wpAnyU_done (by kernel_rfl) ?_ _
          simp only [put_none, put_lit, List.set_cons_succ, List.set_cons_zero]
          have hfin : ApB w (((wc.setCell ⟨wb.heap.size, 0, none⟩ (.slice a1 (n1 + bl) p1)).setCell ⟨wb.heap.size, 1, none⟩ (.slice a2 (n2 + bl3) p2)).setCell ⟨wb.heap.size, 2, none⟩ (.int .i64 mx)) ad len cap ad2 len2 cap2 v.2.2 bd bl bc bd2 bl2 bc2 bd3 bl3 bc3 bd4 bl4 bc4 e.2.2.2.2 := ApB.keptX hSc hkx (fun k hk => by have := hszb; omega)
          generalize ((wc.setCell ⟨wb.heap.size, 0, none⟩ (.slice a1 (n1 + bl) p1)).setCell ⟨wb.heap.size, 1, none⟩ (.slice a2 (n2 + bl3) p2)).setCell ⟨wb.heap.size, 2, none⟩ (.int .i64 mx) = wf at hnx hfin hkx ⊢
          have HFN := Lib.hid (And.intro hfin hnx)
          clear hfin hnx hkx r0 r1 r2 q0 q1 q2
          go_wp2
          go_meet
          case rel => exact ⟨wb.heap.size, a1, p1, a2, p2, rfl, HFN⟩
        · have hbx := Holds.new wa [.slice none 0 0, .slice none 0 0, .int .i64 0] 41
          have hkz := (Kept.refl (fun _ => False) wa).alloc (.cells #[.slice none 0 0, .slice none 0 0, .int .i64 0] 41)
          have hSb := hSa.kept' hkz
          have y1b := owns_of_block y1 fun g hg => hkz.block g (y1.lt g hg).2 (fun f => f)
          have ho2b := owns_of_block ho2a fun g hg => hkz.block g (ho2a.lt g hg).2 (fun f => f)
          have hszb : w1.heap.size ≤ (wa.alloc (.cells #[.slice none 0 0, .slice none 0 0, .int .i64 0] 41)).heap.size := Nat.le_trans hsza hkz.size
          refine ⟨.pointer (some ⟨wa.heap.size, 0, none⟩), wa.alloc (.cells #[.slice none 0 0, .slice none 0 0, .int .i64 0] 41), by kernel_rfl, hSb, ?_⟩
          change Holds (wa.alloc (.cells #[.slice none 0 0, .slice none 0 0, .int .i64 0] 41)) _ _ _ at hbx
          generalize wa.alloc (.cells #[.slice none 0 0, .slice none 0 0, .int .i64 0] 41) = wb at hbx hSb y1b ho2b hszb ⊢
          obtain ⟨a2, p2, wc, x2, y2, k2⟩ := appInts wb w1.heap.size v2 n2 L2 ho2b hL2.out bd3 bl3 bc3 e.2.2.1 (ints_keptV HE.out.2.2.2.2.1 hSb.kept) HE.out.2.2.2.2.2.1 HP2.out.1 hszb
          have hSc : ApB w wc ad len cap ad2 len2 cap2 v.2.2 bd bl bc bd2 bl2 bc2 bd3 bl3 bc3 bd4 bl4 bc4 e.2.2.2.2 := hSb.keptX k2 (fun k hk => by have := (ho2b.lt k hk).1; omega)
          have y1c := owns_of_block y1b fun g hg => k2.block g (y1b.lt g hg).2 (own_ne_own y1b ho2b (by decide) g hg)
          have hbc := Holds.of_block hbx (k2.block _ (Holds.lt hbx) (own_ne_box ho2b hbx (by decide)))
          refine wpAnyU_run (i := 7) (v := .slice a2 (n2 + bl3) p2) (w' := wc) (some 47) rfl rfl (by kernel_rfl) (by kernel_rfl) (exec_append (s := .tmp 44) (x := .tmp 46) x2 (by rfl) (by rfl) (by kernel_rfl) (by kernel_rfl)) (fun _ => hSc) ?_
          refine wpAnyU_take (i := 13) (v := (.agg #[.slice a1 (n1 + bl) p1, .slice a2 (n2 + bl3) p2, .int .i64 mx])) (some 53) rfl rfl (by kernel_rfl) (by kernel_rfl) (by kernel_rfl) (by kernel_rfl) (fun _ _ _ h => h) hSc (yields_of (by kernel_rfl) (fun w hw => by kernel_rfl)) ?_
          obtain ⟨hnx, hkx⟩ := NxW.store (T := L1 ++ e.1) (l := L2 ++ e.2.2.1) mx hbc hsza y1c y2 (by rw [List.length_append, HP1.out.1, HE.out.1.1]) (by rw [List.length_append, HP2.out.1, HE.out.2.2.2.2.1.1])
          have r0 := Holds.cell hbc 0 _ rfl
          have r1 := Holds.cell hbc 1 _ rfl
          have r2 := Holds.cell hbc 2 _ rfl
          have q0 := Holds.free hbc 0
          have q1 := Holds.free hbc 1
          have q2 := Holds.free hbc 2
          refine wpAnyU_skip (i := 15) (w' := ((wc.setCell ⟨wa.heap.size, 0, none⟩ (.slice a1 (n1 + bl) p1)).setCell ⟨wa.heap.size, 1, none⟩ (.slice a2 (n2 + bl3) p2)).setCell ⟨wa.heap.size, 2, none⟩ (.int .i64 mx)) none rfl rfl (by kernel_rfl) (by kernel_rfl) (by simp only [put_lit, List.set_cons_succ, List.set_cons_zero]; go_simp) (fun h => absurd h (by decide)) ?_
          refine wpAnyU_done (by kernel_rfl) ?_ _
          simp only [put_none, put_lit, List.set_cons_succ, List.set_cons_zero]
          have hfin : ApB w (((wc.setCell ⟨wa.heap.size, 0, none⟩ (.slice a1 (n1 + bl) p1)).setCell ⟨wa.heap.size, 1, none⟩ (.slice a2 (n2 + bl3) p2)).setCell ⟨wa.heap.size, 2, none⟩ (.int .i64 mx)) ad len cap ad2 len2 cap2 v.2.2 bd bl bc bd2 bl2 bc2 bd3 bl3 bc3 bd4 bl4 bc4 e.2.2.2.2 := ApB.keptX hSc hkx (fun k hk => by have := hsza; omega)
          generalize ((wc.setCell ⟨wa.heap.size, 0, none⟩ (.slice a1 (n1 + bl) p1)).setCell ⟨wa.heap.size, 1, none⟩ (.slice a2 (n2 + bl3) p2)).setCell ⟨wa.heap.size, 2, none⟩ (.int .i64 mx) = wf at hnx hfin hkx ⊢
          have HFN := Lib.hid (And.intro hfin hnx)
          clear hfin hnx hkx r0 r1 r2 q0 q1 q2
          go_wp2
          go_meet
          case rel => exact ⟨wa.heap.size, a1, p1, a2, p2, rfl, HFN⟩
      · have hbx := Holds.new w4 [.slice none 0 0, .slice none 0 0, .int .i64 0] 41
        have hkz := (Kept.refl (fun _ => False) w4).alloc (.cells #[.slice none 0 0, .slice none 0 0, .int .i64 0] 41)
        have hSb := ApB.kept' hS hkz
        have ho1b := owns_of_block ho1 fun g hg => hkz.block g (ho1.lt g hg).2 (fun f => f)
        have ho2b := owns_of_block ho2 fun g hg => hkz.block g (ho2.lt g hg).2 (fun f => f)
        have hszb : w1.heap.size ≤ (w4.alloc (.cells #[.slice none 0 0, .slice none 0 0, .int .i64 0] 41)).heap.size := Nat.le_trans hszd hkz.size
        refine ⟨.pointer (some ⟨w4.heap.size, 0, none⟩), w4.alloc (.cells #[.slice none 0 0, .slice none 0 0, .int .i64 0] 41), by kernel_rfl, hSb, ?_⟩
        change Holds (w4.alloc (.cells #[.slice none 0 0, .slice none 0 0, .int .i64 0] 41)) _ _ _ at hbx
        generalize w4.alloc (.cells #[.slice none 0 0, .slice none 0 0, .int .i64 0] 41) = wb at hbx hSb ho1b ho2b hszb ⊢
        obtain ⟨a1, p1, wc, x1, y1, k1⟩ := appMetas wb w1.heap.size v1 n1 L1 ho1b hL1.out bd bl bc e.1 (metas_kept HE.out.1 hSb.kept) HE.out.2.1 HP1.out.2.2.2 HP1.out.1 hszb
        have hSc : ApB w wc ad len cap ad2 len2 cap2 v.2.2 bd bl bc bd2 bl2 bc2 bd3 bl3 bc3 bd4 bl4 bc4 e.2.2.2.2 := hSb.keptX k1 (fun k hk => by have := (ho1b.lt k hk).1; omega)
        have ho2c := owns_of_block ho2b fun g hg => k1.block g (ho2b.lt g hg).2 (own_ne_own ho2b ho1b (by decide) g hg)
        have hbc := Holds.of_block hbx (k1.block _ (Holds.lt hbx) (own_ne_box ho1b hbx (by decide)))
        have hszc : w1.heap.size ≤ wc.heap.size := Nat.le_trans hszb k1.size
        refine wpAnyU_run (i := 3) (v := .slice a1 (n1 + bl) p1) (w' := wc) (some 43) rfl rfl (by kernel_rfl) (by kernel_rfl) (exec_append (s := .tmp 40) (x := .tmp 42) x1 (by rfl) (by rfl) (by kernel_rfl) (by kernel_rfl)) (fun _ => hSc) ?_
        obtain ⟨a2, p2, wd, x2, y2, k2⟩ := appInts wc w1.heap.size v2 n2 L2 ho2c hL2.out bd3 bl3 bc3 e.2.2.1 (ints_keptV HE.out.2.2.2.2.1 hSc.kept) HE.out.2.2.2.2.2.1 HP2.out.1 hszc
        have hSd : ApB w wd ad len cap ad2 len2 cap2 v.2.2 bd bl bc bd2 bl2 bc2 bd3 bl3 bc3 bd4 bl4 bc4 e.2.2.2.2 := hSc.keptX k2 (fun k hk => by have := (ho2c.lt k hk).1; omega)
        have y1d := owns_of_block y1 fun g hg => k2.block g (y1.lt g hg).2 (own_ne_own y1 ho2c (by decide) g hg)
        have hbd := Holds.of_block hbc (k2.block _ (Holds.lt hbc) (own_ne_box ho2c hbc (by decide)))
        refine wpAnyU_run (i := 7) (v := .slice a2 (n2 + bl3) p2) (w' := wd) (some 47) rfl rfl (by kernel_rfl) (by kernel_rfl) (exec_append (s := .tmp 44) (x := .tmp 46) x2 (by rfl) (by rfl) (by kernel_rfl) (by kernel_rfl)) (fun _ => hSd) ?_
        refine wpAnyU_take (i := 13) (v := (.agg #[.slice a1 (n1 + bl) p1, .slice a2 (n2 + bl3) p2, .int .i64 mx])) (some 53) rfl rfl (by kernel_rfl) (by kernel_rfl) (by kernel_rfl) (by kernel_rfl) (fun _ _ _ h => h) hSd (yields_of (by kernel_rfl) (fun w hw => by kernel_rfl)) ?_
        obtain ⟨hnx, hkx⟩ := NxW.store (T := L1 ++ e.1) (l := L2 ++ e.2.2.1) mx hbd hszd y1d y2 (by rw [List.length_append, HP1.out.1, HE.out.1.1]) (by rw [List.length_append, HP2.out.1, HE.out.2.2.2.2.1.1])
        have r0 := Holds.cell hbd 0 _ rfl
        have r1 := Holds.cell hbd 1 _ rfl
        have r2 := Holds.cell hbd 2 _ rfl
        have q0 := Holds.free hbd 0
        have q1 := Holds.free hbd 1
        have q2 := Holds.free hbd 2
        refine wpAnyU_skip (i := 15) (w' := ((wd.setCell ⟨w4.heap.size, 0, none⟩ (.slice a1 (n1 + bl) p1)).setCell ⟨w4.heap.size, 1, none⟩ (.slice a2 (n2 + bl3) p2)).setCell ⟨w4.heap.size, 2, none⟩ (.int .i64 mx)) none rfl rfl (by kernel_rfl) (by kernel_rfl) (by simp only [put_lit, List.set_cons_succ, List.set_cons_zero]; go_simp) (fun h => absurd h (by decide)) ?_
        refine wpAnyU_done (by kernel_rfl) ?_ _
        simp only [put_none, put_lit, List.set_cons_succ, List.set_cons_zero]
        have hfin : ApB w (((wd.setCell ⟨w4.heap.size, 0, none⟩ (.slice a1 (n1 + bl) p1)).setCell ⟨w4.heap.size, 1, none⟩ (.slice a2 (n2 + bl3) p2)).setCell ⟨w4.heap.size, 2, none⟩ (.int .i64 mx)) ad len cap ad2 len2 cap2 v.2.2 bd bl bc bd2 bl2 bc2 bd3 bl3 bc3 bd4 bl4 bc4 e.2.2.2.2 := ApB.keptX hSd hkx (fun k hk => by have := hszd; omega)
        generalize ((wd.setCell ⟨w4.heap.size, 0, none⟩ (.slice a1 (n1 + bl) p1)).setCell ⟨w4.heap.size, 1, none⟩ (.slice a2 (n2 + bl3) p2)).setCell ⟨w4.heap.size, 2, none⟩ (.int .i64 mx) = wf at hnx hfin hkx ⊢
        have HFN := Lib.hid (And.intro hfin hnx)
        clear hfin hnx hkx r0 r1 r2 q0 q1 q2
        go_wp2
        go_meet
        case rel => exact ⟨w4.heap.size, a1, p1, a2, p2, rfl, HFN⟩
    case rest =>
      obtain ⟨nb, a1, p1, a2, p2, rfl, HN⟩ := hcut
      have HM : Hid (outV v e = (sortTb (L1 ++ e.1), L2 ++ e.2.2.1, mx)) := Lib.hid (by unfold outV; rw [hmx.out, HP1.out.2.2.1 (by first | rfl | trivial), HP2.out.2.2 (by first | rfl | trivial)])
      have HfT : Hid (∀ m ∈ L1 ++ e.1, FitMV m) := Lib.hid fun m hm => (List.mem_append.1 hm).elim (fun h => HP1.out.2.2.2 m h) (fun h => fits_of HE.out.1 m h)
      have HfL : Hid (∀ x ∈ L2 ++ e.2.2.1, FitV x) := Lib.hid fun x hx => (List.mem_append.1 hx).elim (fun h => by
        rw [HP2.out.2.2 (by first | rfl | trivial)] at h
        exact HV.out.2.2.2.1.1 x (List.mem_filter.1 h).1) (fun h => HE.out.2.2.2.2.2.1.1 x h)
      have Hb1 : Hid (((n1 + bl : Nat) : Int) * 56 ≤ 140737488375328) := Lib.hid (by have := hL1.out; have := HE.out.2.1.2.2.1; omega)
      have Hb2 : Hid (((n2 + bl3 : Nat) : Int) * 8 ≤ 140737488355328) := Lib.hid (by have := hL2.out; have := HE.out.2.2.2.2.2.1.2.2.1; omega)
      clear HP1 HP2 hL1 hL2 HRV' hmx
      generalize L1 ++ e.1 = T at HN HM HfT
      generalize L2 ++ e.2.2.1 = l at HN HM HfL
      generalize n1 + bl = N1 at HN Hb1 ⊢
      generalize n2 + bl3 = N2 at HN Hb2 ⊢
      obtain ⟨es, hes⟩ : ∃ es, Hid (es = e.2.2.2.2) := ⟨_, Lib.hid rfl⟩
      have HX := Lib.hid (HN.out.2.x HfT.out HfL.out Hb1.out Hb2.out)
      have c0 := Holds.cell HN.out.2.box 0 _ rfl
      have c1 := Holds.cell HN.out.2.box 1 _ rfl
      have c2 := Holds.cell HN.out.2.box 2 _ rfl
      have HLv := Lib.hid (liveP14 a1 N1 p1 a2 N2 p2 T l mx wc HX.out)
      go_wp2_with fail
      refine HLv.out.mono ?_
      clear HLv
      rintro r w5 ⟨ad', cap', I, rfl, hI, hp, _, hk5⟩
      have HAp := Lib.hid (apartP14 ad' (N2 + N1) cap' I w5 hI (fun x hx => by
        rcases List.mem_append.1 (hp.mem_iff.1 hx) with h | h
        · exact HfL.out x h
        · obtain ⟨m, hm, rfl⟩ := List.mem_map.1 h
          exact (HfT.out m hm).1) (by have := Hb1.out; have := Hb2.out; omega))
      have Hnd : Hid (I.Nodup ↔ (idsV (outV v e)).Nodup) := Lib.hid (by
        rw [HM.out, hp.nodup_iff]
        unfold idsV
        simp only
        exact (List.perm_append_comm.trans (((sortTb_perm T).map _).symm.append_right l)).nodup_iff)
      have HN5 := Lib.hid (And.intro (HN.out.1.kept' hk5) (HN.out.2.kept hk5))
      clear hI hp hk5 c0 c1 c2 HX HN
      by_cases hnd : I.Nodup
      case neg =>
        have hd : decide I.Nodup = false := decide_eq_false hnd
        rw [hd] at HAp
        have HZ5 : Hid (Z = (zeroV, 9)) := Lib.hid (by rw [HZ4.out, if_pos (fun h => hnd (Hnd.out.2 h))])
        clear HZ4 hd hnd Hnd
        go_wp2_with fail
        refine HAp.out.mono ?_
        clear HAp
        rintro r w6 ⟨rfl, hk6⟩
        have HB6 := Lib.hid (HN5.out.1.kept' hk6)
        have r0 := Holds.cell HB6.out.res 0 _ rfl
        have r1 := Holds.cell HB6.out.res 1 _ rfl
        have r2 := Holds.cell HB6.out.res 2 _ rfl
        have q0 := Holds.free HB6.out.res 0
        have q1 := Holds.free HB6.out.res 1
        have q2 := Holds.free HB6.out.res 2
        clear hk6 HN5
        go_wp2
        obtain ⟨hz1, hz2⟩ := HB6.out.zeroed
        exact ap_fail (c := 8) _ HZ5.out hz1 hz2 rfl rfl
      case pos =>
        have hd : decide I.Nodup = true := decide_eq_true hnd
        rw [hd] at HAp
        have HZ5 : Hid (Z = if rightV (outV v e) = false then (zeroV, 1) else (outV v e, 0)) := Lib.hid (by rw [HZ4.out, if_neg (fun h => h (Hnd.out.1 hnd))])
        have HTn : Hid ((T.map (·.1)).Nodup) := Lib.hid (by
          have h := Hnd.out.1 hnd
          rw [HM.out] at h
          exact ((sortTb_perm T).map _).nodup_iff.1 (List.nodup_append.1 h).1)
        clear HZ4 hd hnd Hnd
        go_wp2_with fail
        refine HAp.out.mono ?_
        clear HAp
        rintro r w6 ⟨rfl, hk6⟩
        have HN6 := Lib.hid (And.intro (HN5.out.1.kept' hk6) (HN5.out.2.kept hk6))
        have HSo : Hid (Calls Tryz.prog 37 #[.slice a1 N1 p1, .func (.func 38) #[] #[]] w6 fun e w' =>
            e = .returned (.tuple #[]) ∧ ∃ L : List MetaV, MetasW w' a1 N1 L ∧ L.Perm T ∧ SortedTb L ∧ Kept (fun k => (Value.slice a1 N1 p1).ownBlock = some k) w6 w') := Lib.hid (by
          have hl := HN6.out.2.lenT
          subst hl
          refine (sortMetas w1.heap.size (.slice a1 T.length p1) T w6 HN6.out.2.ownT HfT.out (by have := Hb1.out; omega)).mono ?_
          rintro e w' ⟨rfl, ad, cap, L, he, h1, h2, h3, h4⟩
          cases he
          exact ⟨rfl, L, h1, h2, h3, h4⟩)
        have c0 := Holds.cell HN6.out.2.box 0 _ rfl
        clear hk6 HN5
        go_wp2_with fail
        refine HSo.out.mono ?_
        clear HSo
        rintro r w7 ⟨rfl, Ls, hM7, hp7, hs7, hk7⟩
        have hLs : Hid (Ls = sortTb T) := Lib.hid (sortedTb_uniq _ _ (hp7.trans (sortTb_perm T).symm) hs7 (sortTb_sorted T) ((hp7.map _).nodup_iff.2 HTn.out))
        have hoff : ∀ k, (Value.slice a1 N1 p1).ownBlock = some k → w1.heap.size ≤ k := fun k hk => (HN6.out.2.ownT.lt k hk).1
        have HB7 : Hid (ApB w w7 ad len cap ad2 len2 cap2 v.2.2 bd bl bc bd2 bl2 bc2 bd3 bl3 bc3 bd4 bl4 bc4 e.2.2.2.2) := Lib.hid (HN6.out.1.keptX hk7 (fun k hk => by have := hoff k hk; omega))
        have HBx7 : Hid (Holds w7 nb [.slice a1 N1 p1, .slice a2 N2 p2, .int .i64 mx] 41) := Lib.hid (Holds.of_block HN6.out.2.box (hk7.block _ (Holds.lt HN6.out.2.box) (own_ne_box HN6.out.2.ownT HN6.out.2.box (by decide))))
        have ho7 : w7.ownsRow w1.heap.size 3 1 (.slice a2 N2 p2) N2 (l.map intC) := owns_of_block HN6.out.2.ownL fun g hg => hk7.block g (HN6.out.2.ownL.lt g hg).2 (own_ne_own HN6.out.2.ownL HN6.out.2.ownT (by decide) g hg)
        have HI7 : Hid (Ints w7 a2 N2 l ∧ N2 ≤ p2 ∧ (a2 = none → N2 = 0 ∧ p2 = 0)) := Lib.hid (by
          obtain ⟨ad, cap, he, h1, h2, h3⟩ := owns_ints ho7 HN6.out.2.lenL
          cases he
          exact ⟨h1, h2, h3⟩)
        have HM7 : Hid (MetasW w7 a1 N1 Ls ∧ FlatV a1 ∧ N1 ≤ p1 ∧ (a1 = none → N1 = 0 ∧ p1 = 0)) := Lib.hid (by
          obtain ⟨ad, cap, he, h1, h2, h3, h4⟩ := owns_metas HN6.out.2.ownT HN6.out.2.lenT HfT.out
          cases he
          exact ⟨hM7, h3, h2, h4⟩)
        have HOff : Hid ((∀ b off sp, a1 = some ⟨b, off, sp⟩ → w1.heap.size ≤ b) ∧ (∀ b off sp, a2 = some ⟨b, off, sp⟩ → w1.heap.size ≤ b)) := Lib.hid ⟨own_off HN6.out.2.ownT, own_off ho7⟩
        have HfLs : Hid (∀ m ∈ Ls, FitMV m) := Lib.hid fun m hm => HfT.out m (hp7.mem_iff.1 hm)
        have HX7 : Hid (VerX w7 a1 N1 p1 a2 N2 p2 Ls l) := Lib.hid ⟨HM7.out.1, HI7.out.1, HfLs.out, HfL.out, Hb1.out, Hb2.out, HI7.out.2.2⟩
        have HRt7 : Hid (Calls Tryz.prog 13 #[.agg #[.slice a1 N1 p1, .slice a2 N2 p2, .int .i64 mx]] w7 fun r w' => r = .returned (.bool (rightV (outV v e))) ∧ Kept (fun _ => False) w7 w') := Lib.hid (by
          have heq : rightV (outV v e) = rightV (Ls, l, mx) := by rw [HM.out, hLs.out]
          rw [heq]
          exact right14p a1 N1 p1 a2 N2 p2 (Ls, l, mx) w7 HX7.out)
        have d0 := Holds.cell HBx7.out 0 _ rfl
        have d1 := Holds.cell HBx7.out 1 _ rfl
        have d2 := Holds.cell HBx7.out 2 _ rfl
        clear hM7 hp7 hs7 hk7 hoff ho7 HN6 c0 HX7 HTn
        cases hro : rightV (outV v e) with
        | false =>
          rw [hro] at HRt7
          have HZ6 : Hid (Z = (zeroV, 1)) := Lib.hid (by rw [HZ5.out, if_pos hro])
          clear HZ5
          go_wp2_with fail
          refine HRt7.out.mono ?_
          clear HRt7
          rintro r w8 ⟨rfl, hk8⟩
          have HB8 := Lib.hid (HB7.out.kept' hk8)
          have r0 := Holds.cell HB8.out.res 0 _ rfl
          have r1 := Holds.cell HB8.out.res 1 _ rfl
          have r2 := Holds.cell HB8.out.res 2 _ rfl
          have q0 := Holds.free HB8.out.res 0
          have q1 := Holds.free HB8.out.res 1
          have q2 := Holds.free HB8.out.res 2
          clear hk8 HB7 d0 d1 d2
          go_wp2
          obtain ⟨hz1, hz2⟩ := HB8.out.zeroed
          exact ap_fail (c := 0) _ HZ6.out hz1 hz2 rfl rfl
        | true =>
          rw [hro] at HRt7
          have HZ6 : Hid (Z = ((Ls, l, mx), 0)) := Lib.hid (by rw [HZ5.out, if_neg (by rw [hro]; simp), HM.out, hLs.out])
          have Hlen : Hid (N1 ≤ 200 ∧ N2 ≤ 20 ∧ 0 ≤ mx ∧ mx ≤ 9007199254740991) := Lib.hid (by
            rw [HM.out, ← hLs.out] at hro
            obtain ⟨⟨h1, h2, h3⟩, _⟩ := right_ofV hro
            simp only at h1 h2 h3
            rw [HM7.out.1.1] at h1
            rw [HI7.out.1.1] at h2
            exact ⟨h1, h2, h3⟩)
          clear HZ5
          go_wp2_with fail
          refine HRt7.out.mono ?_
          clear HRt7
          rintro r w8 ⟨rfl, hk8⟩
          have HB8 := Lib.hid (HB7.out.kept' hk8)
          have HBx8 : Hid (Holds w8 nb [.slice a1 N1 p1, .slice a2 N2 p2, .int .i64 mx] 41) := Lib.hid (Holds.of_block HBx7.out (hk8.block _ (Holds.lt HBx7.out) (fun f => f)))
          have HM8 := Lib.hid (metas_kept HM7.out.1 hk8)
          have HI8 := Lib.hid (ints_keptV HI7.out.1 hk8)
          have r0 := Holds.cell HB8.out.res 0 _ rfl
          have r1 := Holds.cell HB8.out.res 1 _ rfl
          have r2 := Holds.cell HB8.out.res 2 _ rfl
          have q0 := Holds.free HB8.out.res 0
          have q1 := Holds.free HB8.out.res 1
          have q2 := Holds.free HB8.out.res 2
          have b0 := Holds.cell HBx8.out 0 _ rfl
          have b1 := Holds.cell HBx8.out 1 _ rfl
          have b2 := Holds.cell HBx8.out 2 _ rfl
          clear hk8 HB7 d0 d1 d2
          go_wp2
          have hP := ((Holds.set HB8.out.res 0 (.slice a1 N1 p1)).set 1 (.slice a2 N2 p2)).set 2 (.int .i64 mx)
          have hkr : Kept (fun k => k = w.heap.size + 2) w8 (((w8.setCell ⟨w.heap.size + 2, 0, none⟩ (.slice a1 N1 p1)).setCell ⟨w.heap.size + 2, 1, none⟩ (.slice a2 N2 p2)).setCell ⟨w.heap.size + 2, 2, none⟩ (.int .i64 mx)) :=
            (((Kept.refl (fun k => k = w.heap.size + 2) w8).setCell (p := ⟨w.heap.size + 2, 0, none⟩) rfl _).setCell (p := ⟨w.heap.size + 2, 1, none⟩) rfl _).setCell (p := ⟨w.heap.size + 2, 2, none⟩) rfl _
          have hkw := HB8.out.kept.trans hkr (fun k hk => .inr (by omega))
          refine ap_door _ hP rfl rfl ⟨a1, N1, p1, a2, N2, p2, by rw [HZ6.out]; rfl, ?_, hkw⟩
          rw [HZ6.out]
          refine ⟨metas_keptX HM8.out hkr (fun b off sp hb => by have := HOff.out.1 b off sp hb; omega), ⟨HM7.out.2.1, HM7.out.2.2.1, by have := Hlen.out; omega, HM7.out.2.2.2⟩, HI8.out.kept hkr (.inr fun b off hb => by have := HOff.out.2 b off none hb; omega), ⟨fun x hx => HfL.out x hx, HI7.out.2.1, by have := Hlen.out; omega, HI7.out.2.2⟩, by have := Hlen.out; unfold FitV; simp only; omega⟩

end Go.Proofs.YtjdolimeibpacaaGreat
