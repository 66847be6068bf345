/- RootSpoils walked: a root with a file that is not right is none. -/
import Derived.Test.YtbfdhonmmoikdaaEx6
import Derived.Test.YtbfdhonmmoikdaaRtS
import Derived.Test.YtbfdhonmmoikdaaFilO
import Derived.Test.YtbfdhonmmoikdaaOpenF
import Derived.BigQuiet
import Derived.Deep.Cut
import Derived.Test.YtbfdhonmmoikdaaOrd
namespace Go.Proofs.Ytbfdhonmmoikdaa
open Go.RowKit Go.Proofs Go.Proofs.Pk
set_option maxRecDepth 10000
attribute [local simp] mk_get wrap64_u8 mk_extract ByteArray.mk_append_mk get_1k

theorem turned_low {x : Int} (n : Nat) (hn : 0 < n) (h : x < 0) : ∃ k : Nat, -(x + 1).tmod (n : Int) = (k : Int) ∧ k < n := by
  have e : -(x + 1).tmod (n : Int) = (-(x + 1)) % (n : Int) := by rw [← Int.neg_tmod, Int.tmod_eq_emod_of_nonneg (by omega)]
  have h0 := Int.emod_nonneg (-(x + 1)) (show (n : Int) ≠ 0 by omega)
  have h1 := Int.emod_lt_of_pos (-(x + 1)) (show (0 : Int) < (n : Int) by omega)
  exact ⟨((-(x + 1)) % (n : Int)).toNat, by rw [e]; omega, by omega⟩
theorem turned_high (x : Int) (n : Nat) (hn : 0 < n) : ∃ k : Nat, x % (n : Int) = (k : Int) ∧ k < n := by
  have h0 := Int.emod_nonneg x (show (n : Int) ≠ 0 by omega)
  have h1 := Int.emod_lt_of_pos x (show (0 : Int) < (n : Int) by omega)
  exact ⟨(x % (n : Int)).toNat, by omega, by omega⟩

theorem turned (x : Int) (h0 : -9223372036854775808 ≤ x) (h1 : x ≤ 9223372036854775807) : ∃ k : Nat, (k : Int) = (if x < 0 then -(x + 1) else x) ∧ (k : Int) ≤ 9223372036854775807 :=
  ⟨(if x < 0 then -(x + 1) else x).toNat, by split <;> omega, by split <;> omega⟩
theorem flatF_set : ∀ (l : List FileV) (k t : Nat) (hk : k < l.length) (_ : t < 3) (f' : FileV) (v : Value) (_ : fileV f' = (fileV l[k]).set t v), (l.flatMap fileV).set (k * 3 + t) v = (l.set k f').flatMap fileV
  | f :: l, 0, t, _, ht, f', v, h => by
    simp only [List.flatMap_cons, List.set_cons_zero, Nat.zero_mul, Nat.zero_add]
    rw [List.set_append_left _ _ (by simpa [fileV] using ht)]
    rw [h]; rfl
  | f :: l, k + 1, t, hk, ht, f', v, h => by
    have ih := flatF_set l k t (by simpa using hk) ht f' v (by simpa using h)
    simp only [List.flatMap_cons, List.set_cons_succ]
    rw [← ih, List.set_append_right _ _ (by simp [fileV]; omega)]
    congr 2
    simp [fileV]; omega

set_option maxHeartbeats 1000000 in
theorem sSpoils (total : Int) (seq next cur : Int) (ad : Option Addr) (len cap : Nat) (l : List FileV) (which how : Int) (W : World) (ht : -9223372036854775808 ≤ total ∧ total ≤ 9223372036854775807) (hF : Files W ad len l)
    (hb : Fit seq ∧ Fit next ∧ Fit cur ∧ Flat ad ∧ len ≤ cap ∧ (ad = none → cap = 0) ∧ (len : Int) * 24 ≤ 140737488351232) (hw : -9223372036854775808 ≤ which ∧ which ≤ 9223372036854775807) (hh : -9223372036854775808 ≤ how ∧ how ≤ 9223372036854775807) :
    Calls Try.prog 7 #[.int .i64 total, .agg #[.int .i64 seq, .int .i64 next, .int .i64 cur, .slice ad len cap], .int .i64 which, .int .i64 how] W fun e w' => e = .returned (.bool true) ∧ Below W.heap.size W w' := by
  have HX := Holds.new W [.int .i64 seq, .int .i64 next, .int .i64 cur, .slice ad len cap] 24
  have HB0 := Lib.hid ((Below.refl W.heap.size W).alloc (Nat.le_refl _) (.cells #[.int .i64 seq, .int .i64 next, .int .i64 cur, .slice ad len cap] 24))
  change Holds (W.alloc (.cells #[.int .i64 seq, .int .i64 next, .int .i64 cur, .slice ad len cap] 24)) _ _ _ at HX
  have HF0 := Lib.hid (hF.below HB0.out)
  have HEx := Lib.hid examples_any
  have HR := Lib.hid (fun (w : World) (h : Files w ad len l) => pRightR total seq next cur ad len cap l w ht h)
  have hP := right_prop total seq next cur l
  generalize rightV total seq next cur l = rv at HR hP
  have HFL := Lib.hid hb.2.2.2.1
  have HNC := Lib.hid hb.2.2.2.2.2.1
  have HNX := Lib.hid hb.2.1
  clear hF
  by_cases hgo : rv = true ∧ len ≠ 0
  · obtain ⟨rfl, hl0⟩ := hgo
    have HP := Lib.hid (hP.1 rfl)
    have hl24 : len ≤ 24 := by have := HP.out.few; have := HF0.out.1; omega
    have hlz : ¬(len : Int) = 0 := by omega
    have hlb : ((len : Int) == 0) = false := by simpa using hl0
    have hlw : IntKind.i64.wrap (len : Int) = (len : Int) := IntWalk.i64_in _ (by omega)
    clear hP hb
    go_enter Try.func7, Try.ntmps7
    go_wp2_with fail
    obtain ⟨q, hq⟩ : ∃ q, Hid (q = W.heap.size) := ⟨_, rfl⟩
    rw [← hq.out] at HX ⊢
    generalize W.alloc (.cells #[.int .i64 seq, .int .i64 next, .int .i64 cur, .slice ad len cap] 24) = w1 at HX HB0 HF0 ⊢
    have HXh := Lib.hid HX
    clear HX
    refine (HEx.out w1).mono ?_
    rintro e w2 ⟨rfl, hb2⟩
    have HB2 := Lib.hid (HB0.out.trans (hb2.mono HB0.out.size))
    have HF2 := Lib.hid (HF0.out.below hb2)
    have HX2 := Lib.hid (HXh.out.of_block (hb2.block q HXh.out.lt))
    clear hb2 HB0 HF0 HXh
    have x0 := HX2.out.cell 0 _ rfl
    have x1 := HX2.out.cell 1 _ rfl
    have x2 := HX2.out.cell 2 _ rfl
    have x3 := HX2.out.cell 3 _ rfl
    go_wp2_with fail
    refine (HR.out w2 HF2.out).mono ?_
    rintro e w3 ⟨rfl, hb3⟩
    have HB3 := Lib.hid (HB2.out.trans (hb3.mono HB2.out.size))
    have HF3 := Lib.hid (HF2.out.below hb3)
    have HX3 := Lib.hid (HX2.out.of_block (hb3.block q HX2.out.lt))
    clear hb3 HB2 HF2 HX2 x0 x1 x2 x3 HEx
    have x0 := HX3.out.cell 0 _ rfl
    have x1 := HX3.out.cell 1 _ rfl
    have x2 := HX3.out.cell 2 _ rfl
    have x3 := HX3.out.cell 3 _ rfl
    obtain ⟨wh, hwh, hwh1⟩ := turned which hw.1 hw.2
    obtain ⟨ho, hho, hho1⟩ := turned how hh.1 hh.2
    go_upto_if 25 with (fail)
    go_cut [2] from 26 (fun v wx => v = .int .i64 (wh : Int) ∧ wx = w3)
    case first =>
      by_cases hwn : which < 0
      · have hw1 : IntKind.i64.wrap (which + 1) = which + 1 := IntWalk.i64_in _ (by omega)
        have hw2 : IntKind.i64.wrap (-(which + 1)) = -(which + 1) := IntWalk.i64_in _ (by omega)
        rw [if_pos hwn] at hwh
        have HWH := Lib.hid hwh
        clear hwh
        go_wp2
        go_meet
        case rel => exact ⟨by rw [HWH.out], rfl⟩
      · rw [if_neg hwn] at hwh
        have HWH := Lib.hid hwh
        clear hwh
        go_wp2
        go_meet
        case rel => exact ⟨by rw [HWH.out], rfl⟩
    case rest =>
      obtain ⟨rfl, rfl⟩ := hcut
      clear hwh hw
      go_upto_if 30 with (fail)
      go_cut [3] from 31 (fun v wx => v = .int .i64 (ho : Int) ∧ wx = wc)
      case first =>
        by_cases hhn : how < 0
        · have hh1 : IntKind.i64.wrap (how + 1) = how + 1 := IntWalk.i64_in _ (by omega)
          have hh2 : IntKind.i64.wrap (-(how + 1)) = -(how + 1) := IntWalk.i64_in _ (by omega)
          rw [if_pos hhn] at hho
          have HHO := Lib.hid hho
          clear hho
          go_wp2
          go_meet
          case rel => exact ⟨by rw [HHO.out], rfl⟩
        · rw [if_neg hhn] at hho
          have HHO := Lib.hid hho
          clear hho
          go_wp2
          go_meet
          case rel => exact ⟨by rw [HHO.out], rfl⟩
      case rest =>
        obtain ⟨rfl, rfl⟩ := hcut
        clear hho hh
        obtain ⟨k, hk⟩ : ∃ k, Hid (k = wh % len) := ⟨_, rfl⟩
        obtain ⟨m, hm⟩ : ∃ m, Hid (m = ho % 5) := ⟨_, rfl⟩
        have hk1 : k < len := by rw [hk.out]; exact Nat.mod_lt _ (by omega)
        have hm1 : m < 5 := by rw [hm.out]; exact Nat.mod_lt _ (by omega)
        have ek : (wh : Int).tmod (len : Int) = (k : Int) := by rw [hk.out, Int.tmod_eq_emod_of_nonneg (by omega)]; simp
        have em : (ho : Int).tmod 5 = (m : Int) := by rw [hm.out, Int.tmod_eq_emod_of_nonneg (by omega)]; simp
        have ek2 : IntKind.i64.wrap (k : Int) = (k : Int) := IntWalk.i64_in _ (by omega)
        have em2 : IntKind.i64.wrap (m : Int) = (m : Int) := IntWalk.i64_in _ (by omega)
        go_upto_region 10 with (fail)
        have hb5 := (Below.refl wc.heap.size wc).alloc (Nat.le_refl _) (.cells #[.int .i64 seq, .int .i64 next, .int .i64 cur, .slice ad len cap] 24)
        have HY := Holds.new wc [.int .i64 seq, .int .i64 next, .int .i64 cur, .slice ad len cap] 24
        change Holds (wc.alloc (.cells #[.int .i64 seq, .int .i64 next, .int .i64 cur, .slice ad len cap] 24)) _ _ _ at HY
        generalize wc.alloc (.cells #[.int .i64 seq, .int .i64 next, .int .i64 cur, .slice ad len cap] 24) = w4 at hb5 HY ⊢
        have HB4 := Lib.hid (HB3.out.trans (hb5.mono HB3.out.size))
        have HF4 := Lib.hid (HF3.out.below hb5)
        have HX4 := Lib.hid (HX3.out.of_block (hb5.block q HX3.out.lt))
        have hpW : Hid (W.heap.size ≤ wc.heap.size) := HB3.out.size
        clear hb5 HB3 HF3 HX3 x0 x1 x2 x3
        generalize wc.heap.size = p at HY hpW ⊢
        have x3 := HX4.out.cell 3 _ rfl
        refine wp_region_lit ?_
        iterate 2
          refine wpList_plain rfl fun K hK => ?_
          go_simp
          refine hK _ _ ?_
          clear hK K
        obtain ⟨BB, hBB⟩ : ∃ BB, Hid (BB = w4.heap.size) := ⟨_, rfl⟩
        refine wpList_append_files w4 rfl (.const (.slice none 0 0)) (.tmp 41) rfl BB _ 0 [] l (by rfl) (World.ownsRow_nil _ _ _ _) ad len cap (by rfl) HF4.out HFL.out HNC.out (by unfold maxLen; omega) (by omega) (Nat.le_of_eq hBB.out) ?_
        intro v' w5 ho hgr
        rw [List.nil_append, Nat.zero_add] at ho
        have HFIT : Hid (∀ f ∈ l, FitF f) := HF4.out.fit
        obtain ⟨g1, cap1, rfl, hg1, hg2⟩ := ho.form (by omega)
        have HB5 := Lib.hid (HB4.out.grown hgr HB4.out.size (fun k hk => by cases hk))
        have HY5 := HY.of_block (hgr.block p HY.lt (fun h => by cases h))
        have hpB : p < BB := by rw [hBB.out]; exact HY.lt
        have hpg : p ≠ g1 := by omega
        have hWg : W.heap.size ≤ g1 := by have := hpW.out; omega
        have hBw5 : BB ≤ w5.heap.size := by rw [hBB.out]; exact hgr.size
        have z3 := HY5.free 3
        have y3 := HY5.cell 3 _ rfl
        have HO5 := Lib.hid ho
        clear ho hgr HB4 HX4 HF4 x3 HY
        go_upto_region 11 with (fail)
        have HY6 := Lib.hid (HY5.set 3 (.slice (some ⟨g1, 0, none⟩) len cap1))
        have HB6 := Lib.hid (HB5.out.setCell (p := ⟨p, 3, none⟩) (by have := hpW.out; simpa using this) (.slice (some ⟨g1, 0, none⟩) len cap1))
        have HO := Lib.hid (owns_setCell (p := p) (k := 3) (u := .slice (some ⟨g1, 0, none⟩) len cap1) HO5.out (fun e => by have := Option.some.inj e; exact hpg this.symm))
        have hBw6 : BB ≤ (w5.setCell ⟨p, 3, none⟩ (.slice (some ⟨g1, 0, none⟩) len cap1)).heap.size := by simpa using hBw5
        clear z3 y3 HY5 HB5 HO5 hBw5
        generalize w5.setCell ⟨p, 3, none⟩ (.slice (some ⟨g1, 0, none⟩) len cap1) = w6 at HY6 HB6 HO hBw6 ⊢
        have HF6 : Hid (Files w6 (some ⟨g1, 0, none⟩) len l) := by
          obtain ⟨_, ad7, cap7, hv7, _, _, hF7⟩ := own_filesV HO.out HFIT.out
          cases hv7
          exact hF7
        have hll : l.length = len := HF6.out.1
        have hkL : k < l.length := by omega
        have hkl3 : (k : Int) < (len : Int) := by omega
        have hk0 : (0 : Int) ≤ (k : Int) := Int.natCast_nonneg _
        have y1 := HY6.out.cell 1 _ rfl
        have y2 := HY6.out.cell 2 _ rfl
        have y3 := HY6.out.cell 3 _ rfl
        have HLL := Lib.hid hll
        clear hll
        have hc : m = 0 ∨ m = 1 ∨ m = 2 ∨ m = 3 ∨ m = 4 := by omega
        rcases hc with hc | hc | hc | hc | hc
        · have em3 : (ho : Int).tmod 5 = 0 := by rw [em, hc]; rfl
          clear em em2 hc hm1
          have hset := flatF_set l k 1 hkL (by decide) ((l[k]).1, 17, (l[k]).2.2) (.int .i64 17) rfl
          have hst := HO.out.stored (k * 3 + 1) (.int .i64 17)
          rw [hset] at hst
          have d0 : w6.cell? ⟨g1, k * 3 + 1, none⟩ = some (.int .i64 l[k].2.1) := by
            rw [HO.out.cellAt _ (by omega), flatF_get l k 1 hkL (by decide)]; rfl
          have f0 := HO.out.frozenAt (k * 3 + 1)
          have hfit : ∀ f ∈ l.set k ((l[k]).1, 17, (l[k]).2.2), FitF f := fun f hf => by
            rcases List.mem_or_eq_of_mem_set hf with hf | hf
            · exact HFIT.out f hf
            · rw [hf]; exact ⟨(HFIT.out _ (List.getElem_mem hkL)).1, by unfold Fit; simp only; omega, (HFIT.out _ (List.getElem_mem hkL)).2.2⟩
          have HFs : Hid (Files (w6.setCell ⟨g1, k * 3 + 1, none⟩ (.int .i64 17)) (some ⟨g1, 0, none⟩) len (l.set k ((l[k]).1, 17, (l[k]).2.2))) := by
            obtain ⟨_, ad7, cap7, hv7, _, _, hF7⟩ := own_filesV hst.1 hfit
            cases hv7
            exact hF7
          have HY7 : Hid (Holds (w6.setCell ⟨g1, k * 3 + 1, none⟩ (.int .i64 17)) p [.int .i64 seq, .int .i64 next, .int .i64 cur, .slice (some ⟨g1, 0, none⟩) len cap1] 24) := HY6.out.ne hpg _ _
          have HB7 : Hid (Below W.heap.size W (w6.setCell ⟨g1, k * 3 + 1, none⟩ (.int .i64 17))) := HB6.out.setCell (p := ⟨g1, k * 3 + 1, none⟩) hWg _
          have HSP := Lib.hid (@spoil_low total seq next cur l k hkL l[k])
          generalize l[k] = fk at *
          obtain ⟨fk0, fk1, fk2⟩ := fk
          simp only at d0
          clear hset hst hfit
          go_upto_region 21 with (fail)
          clear d0 f0
          generalize w6.setCell ⟨g1, k * 3 + 1, none⟩ (.int .i64 17) = w7 at HFs HY7 HB7 ⊢
          have x0' := HY7.out.cell 0 _ rfl
          have x1' := HY7.out.cell 1 _ rfl
          have x2' := HY7.out.cell 2 _ rfl
          have x3' := HY7.out.cell 3 _ rfl
          have HC0 := pRightR total seq next cur (some ⟨g1, 0, none⟩) len cap1 _ w7 ht HFs.out
          rw [HSP.out] at HC0
          have HC := Lib.hid HC0
          clear HC0
          go_wp2_with fail
          refine HC.out.mono ?_
          rintro e wz ⟨rfl, hbz⟩
          clear x0' x1' x2' x3'
          go_wp2
          go_ret
          exact ⟨rfl, HB7.out.trans (hbz.mono HB7.out.size)⟩
        · have em3 : (ho : Int).tmod 5 = 1 := by rw [em, hc]; rfl
          clear em em2 hc hm1
          have hset := flatF_set l k 2 hkL (by decide) ((l[k]).1, (l[k]).2.1, 0) (.int .i64 0) rfl
          have hst := HO.out.stored (k * 3 + 2) (.int .i64 0)
          rw [hset] at hst
          have d0 : w6.cell? ⟨g1, k * 3 + 2, none⟩ = some (.int .i64 l[k].2.2) := by
            rw [HO.out.cellAt _ (by omega), flatF_get l k 2 hkL (by decide)]; rfl
          have f0 := HO.out.frozenAt (k * 3 + 2)
          have hfit : ∀ f ∈ l.set k ((l[k]).1, (l[k]).2.1, 0), FitF f := fun f hf => by
            rcases List.mem_or_eq_of_mem_set hf with hf | hf
            · exact HFIT.out f hf
            · rw [hf]; exact ⟨(HFIT.out _ (List.getElem_mem hkL)).1, (HFIT.out _ (List.getElem_mem hkL)).2.1, by unfold Fit; simp only; omega⟩
          have HFs : Hid (Files (w6.setCell ⟨g1, k * 3 + 2, none⟩ (.int .i64 0)) (some ⟨g1, 0, none⟩) len (l.set k ((l[k]).1, (l[k]).2.1, 0))) := by
            obtain ⟨_, ad7, cap7, hv7, _, _, hF7⟩ := own_filesV hst.1 hfit
            cases hv7
            exact hF7
          have HY7 : Hid (Holds (w6.setCell ⟨g1, k * 3 + 2, none⟩ (.int .i64 0)) p [.int .i64 seq, .int .i64 next, .int .i64 cur, .slice (some ⟨g1, 0, none⟩) len cap1] 24) := HY6.out.ne hpg _ _
          have HB7 : Hid (Below W.heap.size W (w6.setCell ⟨g1, k * 3 + 2, none⟩ (.int .i64 0))) := HB6.out.setCell (p := ⟨g1, k * 3 + 2, none⟩) hWg _
          have HSP := Lib.hid (@spoil_none total seq next cur l k hkL l[k])
          generalize l[k] = fk at *
          obtain ⟨fk0, fk1, fk2⟩ := fk
          simp only at d0
          clear hset hst hfit
          go_upto_region 21 with (fail)
          clear d0 f0
          generalize w6.setCell ⟨g1, k * 3 + 2, none⟩ (.int .i64 0) = w7 at HFs HY7 HB7 ⊢
          have x0' := HY7.out.cell 0 _ rfl
          have x1' := HY7.out.cell 1 _ rfl
          have x2' := HY7.out.cell 2 _ rfl
          have x3' := HY7.out.cell 3 _ rfl
          have HC0 := pRightR total seq next cur (some ⟨g1, 0, none⟩) len cap1 _ w7 ht HFs.out
          rw [HSP.out] at HC0
          have HC := Lib.hid HC0
          clear HC0
          go_wp2_with fail
          refine HC.out.mono ?_
          rintro e wz ⟨rfl, hbz⟩
          clear x0' x1' x2' x3'
          go_wp2
          go_ret
          exact ⟨rfl, HB7.out.trans (hbz.mono HB7.out.size)⟩
        · have em3 : (ho : Int).tmod 5 = 2 := by rw [em, hc]; rfl
          clear em em2 hc hm1
          have d0 : w6.cell? ⟨g1, k * 3, none⟩ = some (.int .i64 l[k].1) := by
            rw [HO.out.cellAt _ (by omega)]; have := flatF_get l k 0 hkL (by decide); rw [Nat.add_zero] at this; rw [this]; rfl
          have d1 : w6.cell? ⟨g1, k * 3 + 1, none⟩ = some (.int .i64 l[k].2.1) := by
            rw [HO.out.cellAt _ (by omega), flatF_get l k 1 hkL (by decide)]; rfl
          have hfit : ∀ f ∈ l ++ [((l[k]).1, (l[k]).2.1, 1)], FitF f := fun f hf => by
            rcases List.mem_append.1 hf with hf | hf
            · exact HFIT.out f hf
            · simp only [List.mem_cons, List.not_mem_nil, or_false] at hf
              subst hf
              exact ⟨(HFIT.out _ (List.getElem_mem hkL)).1, (HFIT.out _ (List.getElem_mem hkL)).2.1, by unfold Fit; simp only; omega⟩
          have HFit2 := Lib.hid hfit
          have HSP := Lib.hid (@spoil_twice total seq next cur (l[k]).2.1 1 l k hkL)
          clear hfit
          generalize l[k] = fk at *
          obtain ⟨fk0, fk1, fk2⟩ := fk
          simp only at d0 d1
          have hS0 : w6.drew.cell? ⟨p, 3, none⟩ = some (.slice (some ⟨g1, 0, none⟩) len cap1) ∧ w6.drew.cell? ⟨g1, k * 3, none⟩ = some (.int .i64 fk0) ∧ w6.drew.cell? ⟨g1, k * 3 + 1, none⟩ = some (.int .i64 fk1) := ⟨y3, d0, d1⟩
          obtain ⟨iF, hiF, hzF, hsF, hbF⟩ := info_parts file_info
          clear d0 d1 y1 y2 y3
          go_upto_region 18 with (fail)
          refine wp_region_until (fun w' => w'.cell? ⟨p, 3, none⟩ = some (.slice (some ⟨g1, 0, none⟩) len cap1) ∧ w'.cell? ⟨g1, k * 3, none⟩ = some (.int .i64 fk0) ∧ w'.cell? ⟨g1, k * 3 + 1, none⟩ = some (.int .i64 fk1)) 18 (by kernel_rfl) ?_
          refine wpAnyU_take (i := 0) (v := (.pointer (some ⟨p, 3, none⟩))) (some 65) rfl rfl (by kernel_rfl) (by kernel_rfl) (by kernel_rfl) (by kernel_rfl) (fun _ _ _ h => h) hS0 (yields_of (by kernel_rfl) (fun w hw => by obtain ⟨v0, v1, v2⟩ := hw; go_simp)) ?_
          refine wpAnyU_take (i := 1) (v := (.slice (some ⟨g1, 0, none⟩) len cap1)) (some 66) rfl rfl (by kernel_rfl) (by kernel_rfl) (by kernel_rfl) (by kernel_rfl) (fun _ _ _ h => h) hS0 (yields_of (by kernel_rfl) (fun w hw => by obtain ⟨v0, v1, v2⟩ := hw; go_simp)) ?_
          refine wpAnyU_take (i := 2) (v := (.pointer (some ⟨p, 3, none⟩))) (some 67) rfl rfl (by kernel_rfl) (by kernel_rfl) (by kernel_rfl) (by kernel_rfl) (fun _ _ _ h => h) hS0 (yields_of (by kernel_rfl) (fun w hw => by obtain ⟨v0, v1, v2⟩ := hw; go_simp)) ?_
          refine wpAnyU_take (i := 3) (v := (.slice (some ⟨g1, 0, none⟩) len cap1)) (some 68) rfl rfl (by kernel_rfl) (by kernel_rfl) (by kernel_rfl) (by kernel_rfl) (fun _ _ _ h => h) hS0 (yields_of (by kernel_rfl) (fun w hw => by obtain ⟨v0, v1, v2⟩ := hw; go_simp)) ?_
          refine wpAnyU_take (i := 4) (v := (.int .i64 (k : Int))) (some 69) rfl rfl (by kernel_rfl) (by kernel_rfl) (by kernel_rfl) (by kernel_rfl) (fun _ _ _ h => h) hS0 (yields_of (by kernel_rfl) (fun w hw => by obtain ⟨v0, v1, v2⟩ := hw; go_simp)) ?_
          refine wpAnyU_take (i := 5) (v := (.pointer (some ⟨g1, k * 3, none⟩))) (some 70) rfl rfl (by kernel_rfl) (by kernel_rfl) (by kernel_rfl) (by kernel_rfl) (fun _ _ _ h => h) hS0 (yields_of (by kernel_rfl) (fun w hw => by obtain ⟨v0, v1, v2⟩ := hw; go_simp)) ?_
          refine wpAnyU_take (i := 6) (v := (.pointer (some ⟨g1, k * 3, none⟩))) (some 71) rfl rfl (by kernel_rfl) (by kernel_rfl) (by kernel_rfl) (by kernel_rfl) (fun _ _ _ h => h) hS0 (yields_of (by kernel_rfl) (fun w hw => by obtain ⟨v0, v1, v2⟩ := hw; go_simp)) ?_
          refine wpAnyU_take (i := 7) (v := (.int .i64 fk0)) (some 72) rfl rfl (by kernel_rfl) (by kernel_rfl) (by kernel_rfl) (by kernel_rfl) (fun _ _ _ h => h) hS0 (yields_of (by kernel_rfl) (fun w hw => by obtain ⟨v0, v1, v2⟩ := hw; go_simp)) ?_
          refine wpAnyU_take (i := 8) (v := (.pointer (some ⟨p, 3, none⟩))) (some 73) rfl rfl (by kernel_rfl) (by kernel_rfl) (by kernel_rfl) (by kernel_rfl) (fun _ _ _ h => h) hS0 (yields_of (by kernel_rfl) (fun w hw => by obtain ⟨v0, v1, v2⟩ := hw; go_simp)) ?_
          refine wpAnyU_take (i := 9) (v := (.slice (some ⟨g1, 0, none⟩) len cap1)) (some 74) rfl rfl (by kernel_rfl) (by kernel_rfl) (by kernel_rfl) (by kernel_rfl) (fun _ _ _ h => h) hS0 (yields_of (by kernel_rfl) (fun w hw => by obtain ⟨v0, v1, v2⟩ := hw; go_simp)) ?_
          refine wpAnyU_take (i := 10) (v := (.int .i64 (k : Int))) (some 75) rfl rfl (by kernel_rfl) (by kernel_rfl) (by kernel_rfl) (by kernel_rfl) (fun _ _ _ h => h) hS0 (yields_of (by kernel_rfl) (fun w hw => by obtain ⟨v0, v1, v2⟩ := hw; go_simp)) ?_
          refine wpAnyU_take (i := 11) (v := (.pointer (some ⟨g1, k * 3, none⟩))) (some 76) rfl rfl (by kernel_rfl) (by kernel_rfl) (by kernel_rfl) (by kernel_rfl) (fun _ _ _ h => h) hS0 (yields_of (by kernel_rfl) (fun w hw => by obtain ⟨v0, v1, v2⟩ := hw; go_simp)) ?_
          refine wpAnyU_take (i := 12) (v := (.pointer (some ⟨g1, k * 3 + 1, none⟩))) (some 77) rfl rfl (by kernel_rfl) (by kernel_rfl) (by kernel_rfl) (by kernel_rfl) (fun _ _ _ h => h) hS0 (yields_of (by kernel_rfl) (fun w hw => by obtain ⟨v0, v1, v2⟩ := hw; go_simp)) ?_
          refine wpAnyU_take (i := 13) (v := (.int .i64 fk1)) (some 78) rfl rfl (by kernel_rfl) (by kernel_rfl) (by kernel_rfl) (by kernel_rfl) (fun _ _ _ h => h) hS0 (yields_of (by kernel_rfl) (fun w hw => by obtain ⟨v0, v1, v2⟩ := hw; go_simp)) ?_
          refine wpAnyU_take (i := 14) (v := (.agg (fileV (fk0, fk1, 1)).toArray)) (some 79) rfl rfl (by kernel_rfl) (by kernel_rfl) (by kernel_rfl) (by kernel_rfl) (fun _ _ _ h => h) hS0 (yields_of (by kernel_rfl) (fun w hw => by obtain ⟨v0, v1, v2⟩ := hw; go_simp; rfl)) ?_
          obtain ⟨FV, hFV⟩ : ∃ FV, Hid (FV = fileV (fk0, fk1, 1)) := ⟨_, rfl⟩
          have hFl : FV.length = 3 := by rw [hFV.out]; rfl
          have hF1 : ∀ u ∈ FV, u.oneCell' = true := by rw [hFV.out]; simp [fileV, Value.oneCell']
          rw [← hFV.out]
          have hbs := run_buildSlice_one (P := Try.prog) w6.drew 22 39 iF _ FV Try.underlying22 hiF hzF (by rw [hsF, hFl]) (by omega) (by omega)
          have HQ := Holds.new w6.drew FV 39
          have HOw := (owns_drewN (n := 1) HO.out).alloc (.cells FV.toArray 39)
          change (w6.drew.alloc _).ownsRow _ _ _ _ _ _ at HOw
          have HYd := (Holds.drew HY6.out).alloc (.cells FV.toArray 39)
          have HBd := (belowN HB6.out 1).alloc (belowN HB6.out 1).size (.cells FV.toArray 39)
          change Below W.heap.size W (w6.drew.alloc _) at HBd
          have hBd : BB ≤ (w6.drew.alloc (.cells FV.toArray 39)).heap.size := by
            have h1 : (w6.drew.alloc (.cells FV.toArray 39)).heap.size = w6.drew.heap.size + 1 := by simp
            have h2 : w6.drew.heap.size = w6.heap.size := rfl
            omega
          have hS1 : (w6.drew.alloc (.cells FV.toArray 39)).cell? ⟨p, 3, none⟩ = some (.slice (some ⟨g1, 0, none⟩) len cap1) ∧ (w6.drew.alloc (.cells FV.toArray 39)).cell? ⟨g1, k * 3, none⟩ = some (.int .i64 fk0) ∧ (w6.drew.alloc (.cells FV.toArray 39)).cell? ⟨g1, k * 3 + 1, none⟩ = some (.int .i64 fk1) :=
            ⟨Lib.cell?_alloc_some _ hS0.1, Lib.cell?_alloc_some _ hS0.2.1, Lib.cell?_alloc_some _ hS0.2.2⟩
          obtain ⟨qq, hqq⟩ : ∃ qq, Hid (qq = w6.drew.heap.size) := ⟨_, rfl⟩
          rw [← hqq.out] at HQ hbs
          generalize w6.drew.alloc (.cells FV.toArray 39) = wd at HQ HOw HYd HBd hBd hbs hS1
          refine wpAnyU_run (i := 15) (v := .slice (some ⟨qq, 0, none⟩) 1 1) (some 80) rfl rfl (by kernel_rfl) (by kernel_rfl) (exec_buildSlice (x := .tmp 79) hbs (by rfl) (by kernel_rfl)) (fun _ => hS1) ?_
          obtain ⟨v', we, happ, ho3, hgr, _⟩ := run_append_at (P := Try.prog) wd BB 22 22 39 iF _ 3 24 Try.underlying22 hiF hzF hsF hbF (by rfl) (by omega) _ len _ HOw
            ⟨qq, 0, none⟩ 1 1 FV (by rw [hFl]) (fun j u hj => by rw [add0]; exact HQ.cell j u hj) hF1 (by unfold maxLen; omega) (by omega) hBd (by omega)
          have hkept := append_kept (P := Try.prog) wd BB 22 22 39 iF _ 3 24 Try.underlying22 hiF hzF hsF hbF _ len _ HOw ⟨qq, 0, none⟩ 1 1 FV (by rw [hFl]) (fun j u hj => by rw [add0]; exact HQ.cell j u hj) hF1 (by unfold maxLen; omega) (by omega) (by omega) happ
          have hcel := fun (j : Nat) (hj : j < len * 3) => append_cells HOw (by omega) ho3 hkept j hj
          have hpne : some p ≠ (Value.slice (some ⟨g1, 0, none⟩) len cap1).ownBlock := fun e => by
            have := Option.some.inj e; exact hpg this
          have HYe : Holds we p _ _ := HYd.of_block (hgr.block p HYd.lt hpne)
          have hS2 : we.cell? ⟨p, 3, none⟩ = some (.slice (some ⟨g1, 0, none⟩) len cap1) ∧ we.cell? ⟨g1, k * 3, none⟩ = some (.int .i64 fk0) ∧ we.cell? ⟨g1, k * 3 + 1, none⟩ = some (.int .i64 fk1) :=
            ⟨HYe.cell 3 _ rfl, by rw [hcel _ (by omega)]; exact hS1.2.1, by rw [hcel _ (by omega)]; exact hS1.2.2⟩
          refine wpAnyU_run (i := 16) (v := v') (some 81) rfl rfl (by kernel_rfl) (by kernel_rfl) (exec_append (s := .tmp 66) (x := .tmp 80) happ (by rfl) (by rfl) (by kernel_rfl) (by kernel_rfl)) (fun _ => hS2) ?_
          refine wpAnyU_run (i := 17) (v := (.pointer (some ⟨p, 3, none⟩))) (w' := we) (some 82) rfl rfl (by kernel_rfl) (by kernel_rfl) (by go_simp) (fun _ => hS2) ?_
          obtain ⟨gv, cv, rfl⟩ : ∃ gv cv, v' = .slice (some ⟨gv, 0, none⟩) (len + 1) cv := by
            rcases ho3.2 with ⟨_, h0⟩ | ⟨g', cap, cur, hv, _⟩
            · omega
            · exact ⟨_, _, hv⟩
          have c3 := HYe.cell 3 _ rfl
          have f3 := HYe.free 3
          refine wpAnyU_skip (i := 18) (w' := we.setCell ⟨p, 3, none⟩ (.slice (some ⟨gv, 0, none⟩) (len + 1) cv)) none rfl rfl (by kernel_rfl) (by kernel_rfl) (by go_simp) (fun h => by omega) ?_
          refine wpAnyU_done (by kernel_rfl) ?_ _
          have HBe : Below W.heap.size W we := HBd.grown hgr HBd.size (fun k hk => by cases hk; omega)
          have HB7 := Lib.hid (HBe.setCell (p := ⟨p, 3, none⟩) (by have := hpW.out; simpa using this) (.slice (some ⟨gv, 0, none⟩) (len + 1) cv))
          have HY7 := Lib.hid (HYe.set 3 (.slice (some ⟨gv, 0, none⟩) (len + 1) cv))
          have hne : (Value.slice (some ⟨gv, 0, none⟩) (len + 1) cv).ownBlock ≠ some p := fun e => by
            have := own_low ho3 p e; omega
          have hof : (we.setCell ⟨p, 3, none⟩ (.slice (some ⟨gv, 0, none⟩) (len + 1) cv)).ownsRow BB 39 3 (.slice (some ⟨gv, 0, none⟩) (len + 1) cv) (len + 1) ((l ++ [(fk0, fk1, 1)]).flatMap fileV) :=
            owns_len (owns_setCell (p := p) (k := 3) ho3 hne) rfl (by rw [hFV.out]; simp)
          obtain ⟨_, adf, capf, hvf, _, _, hFF⟩ := own_filesV hof HFit2.out
          cases hvf
          have HFs := Lib.hid hFF
          generalize we.setCell ⟨p, 3, none⟩ (.slice (some ⟨gv, 0, none⟩) (len + 1) cv) = w7 at HY7 HB7 HFs ⊢
          clear hcel hkept hS2 hof hFF hne HBe HYe c3 f3 ho3 hgr happ hpne HBd HYd HOw HQ hbs hS1 hS0 hFl hF1 hBd
          have hpn : ∀ (a : Act) (v : Value), a.put none v = a := fun _ _ => rfl
          simp only [put_lit, List.set_cons_succ, List.set_cons_zero]
          go_upto_region 21 with (fail)
          rw [hpn]
          clear hpn
          have x0' := HY7.out.cell 0 _ rfl
          have x1' := HY7.out.cell 1 _ rfl
          have x2' := HY7.out.cell 2 _ rfl
          have x3' := HY7.out.cell 3 _ rfl
          have HC0 := pRightR total seq next cur (some ⟨gv, 0, none⟩) (len + 1) cv _ w7 ht HFs.out
          rw [HSP.out] at HC0
          have HC := Lib.hid HC0
          clear HC0
          go_wp2_with fail
          refine HC.out.mono ?_
          rintro e wz ⟨rfl, hbz⟩
          clear x0' x1' x2' x3'
          go_wp2
          go_ret
          exact ⟨rfl, HB7.out.trans (hbz.mono HB7.out.size)⟩
        · have em3 : (ho : Int).tmod 5 = 3 := by rw [em, hc]; rfl
          clear em em2 hc hm1
          have hset : (l.flatMap fileV).set (k * 3) (.int .i64 next) = _ := flatF_set l k 0 hkL (by decide) (next, (l[k]).2.1, (l[k]).2.2) (.int .i64 next) rfl
          have hst := HO.out.stored (k * 3) (.int .i64 next)
          rw [hset] at hst
          have d0 : w6.cell? ⟨g1, k * 3, none⟩ = some (.int .i64 l[k].1) := by
            rw [HO.out.cellAt _ (by omega)]; have := flatF_get l k 0 hkL (by decide); rw [Nat.add_zero] at this; rw [this]; rfl
          have f0 := HO.out.frozenAt (k * 3)
          have hfit : ∀ f ∈ l.set k (next, (l[k]).2.1, (l[k]).2.2), FitF f := fun f hf => by
            rcases List.mem_or_eq_of_mem_set hf with hf | hf
            · exact HFIT.out f hf
            · rw [hf]; exact ⟨HNX.out, (HFIT.out _ (List.getElem_mem hkL)).2.1, (HFIT.out _ (List.getElem_mem hkL)).2.2⟩
          have HFs : Hid (Files (w6.setCell ⟨g1, k * 3, none⟩ (.int .i64 next)) (some ⟨g1, 0, none⟩) len (l.set k (next, (l[k]).2.1, (l[k]).2.2))) := by
            obtain ⟨_, ad7, cap7, hv7, _, _, hF7⟩ := own_filesV hst.1 hfit
            cases hv7
            exact hF7
          have HY7 : Hid (Holds (w6.setCell ⟨g1, k * 3, none⟩ (.int .i64 next)) p [.int .i64 seq, .int .i64 next, .int .i64 cur, .slice (some ⟨g1, 0, none⟩) len cap1] 24) := HY6.out.ne hpg _ _
          have HB7 : Hid (Below W.heap.size W (w6.setCell ⟨g1, k * 3, none⟩ (.int .i64 next))) := HB6.out.setCell (p := ⟨g1, k * 3, none⟩) hWg _
          have HSP := Lib.hid (@spoil_next total seq next cur l k hkL l[k])
          generalize l[k] = fk at *
          obtain ⟨fk0, fk1, fk2⟩ := fk
          simp only at d0
          clear hset hst hfit
          go_upto_region 21 with (fail)
          clear d0 f0
          generalize w6.setCell ⟨g1, k * 3, none⟩ (.int .i64 next) = w7 at HFs HY7 HB7 ⊢
          have x0' := HY7.out.cell 0 _ rfl
          have x1' := HY7.out.cell 1 _ rfl
          have x2' := HY7.out.cell 2 _ rfl
          have x3' := HY7.out.cell 3 _ rfl
          have HC0 := pRightR total seq next cur (some ⟨g1, 0, none⟩) len cap1 _ w7 ht HFs.out
          rw [HSP.out] at HC0
          have HC := Lib.hid HC0
          clear HC0
          go_wp2_with fail
          refine HC.out.mono ?_
          rintro e wz ⟨rfl, hbz⟩
          clear x0' x1' x2' x3'
          go_wp2
          go_ret
          exact ⟨rfl, HB7.out.trans (hbz.mono HB7.out.size)⟩
        · have em3 : (ho : Int).tmod 5 = 4 := by rw [em, hc]; rfl
          clear em em2 hc hm1
          have z2 := HY6.out.free 2
          have HY7 := Lib.hid (HY6.out.set 2 (.int .i64 next))
          have HB7 := Lib.hid (HB6.out.setCell (p := ⟨p, 2, none⟩) (by have := hpW.out; simpa using this) (.int .i64 next))
          have HFs := Lib.hid (HF6.out.kept ((Kept.refl (fun k => k = p) w6).setCell (p := ⟨p, 2, none⟩) rfl (.int .i64 next)) (fun b off h => by cases h; exact fun h => hpg h.symm))
          go_upto_region 21 with (fail)
          clear z2 y1 y2 y3
          generalize w6.setCell ⟨p, 2, none⟩ (.int .i64 next) = w7 at HFs HY7 HB7 ⊢
          have x0' := HY7.out.cell 0 _ rfl
          have x1' := HY7.out.cell 1 _ rfl
          have x2' := HY7.out.cell 2 _ rfl
          have x3' := HY7.out.cell 3 _ rfl
          have HC0 := pRightR total seq next next (some ⟨g1, 0, none⟩) len cap1 l w7 ht HFs.out
          rw [@spoil_cur total seq next l] at HC0
          have HC := Lib.hid HC0
          clear HC0
          go_wp2_with fail
          refine HC.out.mono ?_
          rintro e wz ⟨rfl, hbz⟩
          clear x0' x1' x2' x3'
          go_wp2
          go_ret
          exact ⟨rfl, HB7.out.trans (hbz.mono HB7.out.size)⟩
  · have HN : Hid (rv = false ∨ rv = true ∧ len = 0) := by
      show _ ∨ _
      cases rv with
      | false => exact .inl rfl
      | true => right; exact ⟨rfl, by simpa using hgo⟩
    clear hgo hP
    go_enter Try.func7, Try.ntmps7
    go_wp2_with fail
    obtain ⟨q, hq⟩ : ∃ q, Hid (q = W.heap.size) := ⟨_, rfl⟩
    rw [← hq.out] at HX ⊢
    generalize W.alloc (.cells #[.int .i64 seq, .int .i64 next, .int .i64 cur, .slice ad len cap] 24) = w1 at HX HB0 HF0 ⊢
    have HXh := Lib.hid HX
    clear HX
    refine (HEx.out w1).mono ?_
    rintro e w2 ⟨rfl, hb2⟩
    have HB2 := Lib.hid (HB0.out.trans (hb2.mono HB0.out.size))
    have HF2 := Lib.hid (HF0.out.below hb2)
    have HX2 := Lib.hid (HXh.out.of_block (hb2.block q HXh.out.lt))
    clear hb2 HB0 HF0 HXh
    have x0 := HX2.out.cell 0 _ rfl
    have x1 := HX2.out.cell 1 _ rfl
    have x2 := HX2.out.cell 2 _ rfl
    have x3 := HX2.out.cell 3 _ rfl
    go_wp2_with fail
    refine (HR.out w2 HF2.out).mono ?_
    rintro e w3 ⟨rfl, hb3⟩
    have HB3 := Lib.hid (HB2.out.trans (hb3.mono HB2.out.size))
    have HX3 := Lib.hid (HX2.out.of_block (hb3.block q HX2.out.lt))
    clear hb3 HB2 HF2 HX2 x0 x1 x2 x3 HR HEx
    have x3 := HX3.out.cell 3 _ rfl
    rcases HN.out with rfl | ⟨rfl, rfl⟩
    · go_wp2
      go_ret
      exact ⟨rfl, HB3.out⟩
    · go_wp2
      go_ret
      exact ⟨rfl, HB3.out⟩
end Go.Proofs.Ytbfdhonmmoikdaa
