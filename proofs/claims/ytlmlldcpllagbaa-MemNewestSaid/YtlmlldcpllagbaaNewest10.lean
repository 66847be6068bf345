/- The law MemNewest, walked over the contract of the program's table. -/
import Derived.Test.YtlmlldcpllagbaaNw10
import Derived.Test.YtlmlldcpllagbaaOrd2
import Derived.Deep.CutRange
namespace Go.Proofs.Ytlmlldcpllagbaa
open Go.RowKit Go.Proofs Go.Proofs.Pk
set_option maxRecDepth 10000
attribute [local simp] mk_get wrap64_u8 mk_extract ByteArray.mk_append_mk get_1k

set_option maxHeartbeats 8000000 in
theorem newest10 {At : MmOf} (K : MmK At) (ad : Option Addr) (len cap : Nat) (l : List MEnt) (key : Txt) (seq : Int) (w : World) (h0 : EntsW w ad len l) (hfs : FitN seq) :
    Calls Try.prog 4 #[.slice ad len cap, .string ⟨key.toArray⟩, .int .i64 seq] w fun e w' => e = .returned (.bool true) ∧ Below w.heap.size w w' := by
  obtain ⟨i0, hi, hz0, hz1, hz2⟩ := info_parts ent_info
  have HE := Lib.hid (examples10 K w)
  have HA := Lib.hid (And.intro h0 hfs)
  clear h0 hfs
  go_enter Try.func4, Try.ntmps4
  go_wp2_with fail
  refine HE.out.mono ?_
  clear HE
  rintro e w1 ⟨rfl, hb1⟩
  have HB1 := Lib.hid hb1
  clear hb1
  obtain ⟨w2, hw2⟩ : ∃ w2, w2 = w1.alloc (.cells #[.int .i64 1, .int .i64 3, .int .i64 2] 3) := ⟨_, rfl⟩
  obtain ⟨g0, hg0⟩ : ∃ g0, g0 = w1.heap.size := ⟨_, rfl⟩
  have hk12 : Kept (fun _ => False) w1 w2 := by rw [hw2]; exact (Kept.refl _ w1).alloc _
  have hInts : Ints w2 (some ⟨g0, 0, none⟩) 3 [1, 3, 2] := by
    have hh : Holds w2 g0 [.int .i64 1, .int .i64 3, .int .i64 2] 3 := by rw [hw2, hg0]; exact Holds.new _ _ _
    refine ⟨rfl, .inr ⟨g0, 0, rfl, hh.lt, fun i hi => ?_⟩⟩
    have hi2 : i < 3 := hi
    obtain rfl | rfl | rfl : i = 0 ∨ i = 1 ∨ i = 2 := by omega
    · exact hh.cell 0 _ rfl
    · exact hh.cell 1 _ rfl
    · exact hh.cell 2 _ rfl
  have HN := Lib.hid (K.new w2 w1.heap.size (some ⟨g0, 0, none⟩) 3 3 [1, 3, 2] hk12.size hInts (by intro n hn; simp at hn; omega) (Nat.le_refl _) (by decide) (fun h => by cases h))
  have HK12 := Lib.hid hk12
  clear hInts hk12
  go_wp2_with fail
  rw [← hw2, ← hg0]
  clear hw2 hg0
  refine HN.out.mono ?_
  clear HN
  rintro e w3 ⟨t, X3, rfl, h3, hx3, hk3⟩
  have hk13 := HK12.out.trans hk3 (fun _ hf => hf.elim)
  have hM3 : Mt At w1 w3 t [] X3 := ⟨h3, hk13.below (Nat.le_refl _) (fun _ hf => hf.elim)⟩
  have HRt := Lib.hid (right10 w3 ad len cap l 80 (by omega) (fun i hi => by
    obtain ⟨b, off, e1, e2, e3, e4, e5⟩ := entsW_S HA.out.1 i hi
    exact ⟨b, off, e1, l[i], e4, fun w' hk => e5 w' (HB1.out.trans ((hk13.trans hk (fun _ hf => hf.elim)).below HB1.out.size (fun _ hf => hf.elim)))⟩))
  have HM3 := Lib.hid hM3
  have HK13 := Lib.hid hk13
  clear h3 hx3 hk3 hk13 hM3 HK12
  go_wp2_with fail
  refine HRt.out.mono ?_
  clear HRt
  rintro e w4 ⟨v0, rfl, ⟨L, hL, hL80, hLr⟩, hk4⟩
  obtain ⟨ad0, cap0, rfl⟩ := owns_slice hL
  have HNw : Hid (∃ D T X, Nw At w1 w4 t (.slice ad0 L.length cap0) (.slice none 0 0) L D T X ∧ (∀ x, x ∈ T ↔ x ∈ D) ∧ D.length ≤ 0 ∧ T.length ≤ 0) := by
    refine ⟨[], [], X3, ⟨HM3.out.still K hk4, owns_base hL HK13.out.size, World.ownsRow_nil _ _ _ _, fun b hb hx => ?_, fun b hb => (by cases hb), fun b hb => (by cases hb)⟩, fun x => Iff.rfl, Nat.le_refl _, Nat.le_refl _⟩
    have h1 := (hL.lt b hb).1
    have h2 := (K.lt HM3.out.sk b hx).2
    omega
  have HLr := Lib.hid hLr
  obtain ⟨N, hN⟩ : ∃ N, Hid (N = L.length) := ⟨_, rfl⟩
  have hN80 : N ≤ 80 := by rw [hN.out]; exact hL80
  rw [← hN.out] at HNw ⊢
  clear hL hLr hk4 HM3 HK13 hL80
  go_wp2
  go_loopw [9, 10] (fun v i wr => ∃ j : Nat, j ≤ N ∧ i = .int .i64 (j : Int) ∧ Hid (∃ D T X, Nw At w1 wr t (.slice ad0 N cap0) v L D T X ∧ (∀ x, x ∈ T ↔ x ∈ D) ∧ D.length ≤ j ∧ T.length ≤ j)) (fun _ i _ => N - (intOf i).toNat)
  case atStart => exact ⟨0, Nat.zero_le _, rfl, HNw⟩
  case round =>
    obtain ⟨j, hj, rfl, hI⟩ := hrel
    clear HNw
    obtain ⟨D, T, X, hNw, hmem, hDl, hTl⟩ := hI.out
    have j0 : (0 : Int) ≤ (j : Int) := by omega
    have hwj : IntKind.i64.wrap ((j : Int) + 1) = (j : Int) + 1 := IntWalk.i64_in _ (by omega)
    by_cases hlt : j < N
    · have hjL : j < L.length := by rw [← hN.out]; exact hlt
      obtain ⟨g, cap', hv, hg, c5, c0, c1, c2, c3⟩ := owns_S hNw.row j hjL
      have hr := HLr.out L[j] (List.getElem_mem hjL)
      obtain ⟨x, hx⟩ : ∃ x, x = L[j] := ⟨_, rfl⟩
      rw [← hx] at c0 c1 c2 c3 hr
      have hfx : FitN x.2.1 := by unfold rightM at hr; simp only [decide_eq_true_eq] at hr; unfold FitN; omega
      obtain rfl : ad0 = some ⟨g, 0, none⟩ := by injection hv
      clear hv
      have k1 : (j : Int) < (N : Int) := by omega
      have hPt := Lib.hid (hNw.put K (by omega) x hfx)
      have HM := Lib.hid (And.intro hmem (And.intro hDl hTl))
      have HX := Lib.hid (And.intro hjL hx)
      have hc9 : putC T x = 0 ∨ putC T x = 9 := by
        rcases putC_cases T x with h | h | h
        · exact .inl h
        · exact .inr h
        · have h2 := putC_right (T := T) (e := x); rw [hr, h] at h2; cases h2
      clear hI hNw hmem hDl hTl c5 hg hx
      go_wp2_with fail
      refine hPt.out.mono ?_
      clear hPt
      rintro e w5 ⟨rfl, X5, h5⟩
      rcases hc9 with hc | hc
      · rw [hc, show errV 55 0 = .nilIface from rfl]
        obtain ⟨g', cap2, hv2, hg2, c5, c0, c1, c2, c3⟩ := owns_S h5.row j HX.out.1
        rw [← HX.out.2] at c0 c1 c2 c3
        obtain rfl : g = g' := by injection hv2 with h _ _; injection h with h; injection h
        clear hv2
        obtain ⟨adI, capI, rfl⟩ := owns_slice h5.rin
        have H5 := Lib.hid h5
        have hDl := HM.out.2.1
        have hsz := h5.mt.below.size
        clear c5 hg2 h5
        go_wp2_with (at_builtin; refine wpList_append_at _ rfl (.tmp 37) (.tmp 42) 23 rfl w1.heap.size 34 i0 _ 4 48 Try.underlying23 hi hz0 hz1 hz2 rfl (by decide) _ _ _ rfl (H5.out.rin.alloc _) ⟨w5.heap.size, 0, none⟩ 1 1 (entC x) rfl rfl ?d1 (entC_one _) ?d3 ?d4 ?d5 (by decide) ?_)
        case d1 => intro m u hm; first | (rw [add0]; exact (Holds.new w5 (entC x) 34).cell m u hm) | exact hm
        case d3 => unfold maxLen; omega
        case d4 => omega
        case d5 => simp; omega
        intro v' w6 hown' hgrow hpl
        have HI2 : Hid (∃ D T X, Nw At w1 w6 t (.slice (some ⟨g, 0, none⟩) N cap0) v' L D T X ∧ (∀ x, x ∈ T ↔ x ∈ D) ∧ D.length ≤ j + 1 ∧ T.length ≤ j + 1) := by
          refine ⟨D ++ [x], _, X5, H5.out.app K x hown' hgrow hpl, fun y => ?_, ?_, put_len_le T x HM.out.2.2⟩
          · rw [mem_put, HM.out.1 y, List.mem_append, List.mem_singleton]
            constructor
            · rintro (⟨_, h⟩ | h)
              · exact .inr h
              · exact .inl h
            · rintro (h | h)
              · exact .inr h
              · exact .inl ⟨hc, h⟩
          · rw [List.length_append, List.length_singleton]; have := HM.out.2.1; omega
        clear hown' hgrow hpl H5 c0 c1 c2 c3
        go_wp2
        go_roundw
        case rel => exact ⟨j + 1, by omega, by first | rfl | go_num, HI2⟩
        case measure => simp [intOf]; omega
      · rw [hc, show errV 55 9 = .iface 55 (.int .i64 9) from rfl]
        have HI2 : Hid (∃ D T X, Nw At w1 w5 t (.slice (some ⟨g, 0, none⟩) N cap0) u9 L D T X ∧ (∀ x, x ∈ T ↔ x ∈ D) ∧ D.length ≤ j + 1 ∧ T.length ≤ j + 1) := by
          refine ⟨D, _, X5, h5, fun y => ?_, by have := HM.out.2.1; omega, put_len_le T x HM.out.2.2⟩
          rw [putM_not (by omega)]; exact HM.out.1 y
        clear h5 c0 c1 c2 c3
        go_wp2
        go_roundw
        case rel => exact ⟨j + 1, by omega, by first | rfl | go_num, HI2⟩
        case measure => simp [intOf]; omega
    · have k1 : ¬(j : Int) < (N : Int) := by omega
      obtain ⟨adI, capI, rfl⟩ := owns_slice hNw.rin
      obtain ⟨M, hM⟩ : ∃ M, Hid (M = D.length) := ⟨_, rfl⟩
      have HNW := Lib.hid (And.intro hNw hmem)
      have hM80 : M ≤ 80 := by rw [hM.out]; omega
      have HTl : Hid (T.length ≤ 80) := by show _ ≤ _; omega
      rw [← hM.out] at HNW ⊢
      clear hI hNw hmem hDl hTl hwj j0
      obtain ⟨wp, hwp⟩ : ∃ wp, wp = wr := ⟨_, rfl⟩
      rw [← hwp] at HNW ⊢
      have HB0 : Hid (BestI D key seq 0 (-1)) := BestI.zero D key seq
      have HK0 : Hid (Kept (fun _ => False) wp wp) := Kept.refl _ _
      clear hwp
      go_wp2
      go_loopw [11, 12] (fun s11 s12 wr => ∃ (j : Nat) (b : Int), j ≤ M ∧ -1 ≤ b ∧ b < 80 ∧ s12 = .int .i64 (j : Int) ∧ s11 = .int .i64 b ∧ Hid (BestI D key seq j b) ∧ Hid (Kept (fun _ => False) wp wr)) (fun _ i _ => M - (intOf i).toNat)
      case atStart => exact ⟨0, -1, Nat.zero_le _, by omega, by omega, rfl, rfl, HB0, HK0⟩
      case round =>
        obtain ⟨j, b, hj, hb1, hb2, rfl, rfl, hBI, hKI⟩ := hrel
        clear HB0 HK0
        have j0 : (0 : Int) ≤ (j : Int) := by omega
        have hwj : IntKind.i64.wrap ((j : Int) + 1) = (j : Int) + 1 := IntWalk.i64_in _ (by omega)
        by_cases hlt : j < M
        · have hjD : j < D.length := by rw [← hM.out]; exact hlt
          have hNr := HNW.out.1.still K hKI.out
          obtain ⟨g, cap', hv, hg, hsent⟩ := owns_S hNr.rin j hjD
          obtain ⟨x, hx⟩ : ∃ x, x = D[j] := ⟨_, rfl⟩
          rw [← hx] at hsent
          obtain rfl : adI = some ⟨g, 0, none⟩ := by injection hv
          have hxT : x ∈ T := (HNW.out.2 x).2 (by rw [hx]; exact List.getElem_mem hjD)
          have hok := K.ok hNr.mt.sk
          have hfx : FitN x.2.1 := by
            have hr := hok.right x hxT
            unfold rightM at hr; simp only [decide_eq_true_eq] at hr; unfold FitN; omega
          have HG : Hid (∀ W, Kept (fun _ => False) wr W → Calls Try.prog 16 #[.pointer (some ⟨t, 0, none⟩), .string ⟨x.1.toArray⟩, .int .i64 x.2.1] W fun r w' => r = .returned (.tuple #[.agg (entC x).toArray, .bool true]) ∧ Kept (fun _ => False) W w') := fun W hk => by
            have := K.get (hNr.still K hk).mt.sk (by have := HTl.out; omega) x.1 x.2.1 hfx
            rw [show getM T x.1 x.2.1 = (x, true) from by unfold getM; rw [find_mem hok hxT]] at this; exact this
          have HSF : Hid (∀ W, Kept (fun _ => False) wr W → SEnt g (j * 4) x W) := fun W hk => hsent.kept hk hg
          have HX : Hid (∃ h : j < D.length, x = D[j]) := ⟨hjD, hx⟩
          have HNr := Lib.hid hNr
          have k1 : (j : Int) < (M : Int) := by omega
          clear hv hsent hxT hok hfx hNr hx hg hjD
          go_upto_region 16 with (fail)
          go_cut [13, 14] from 50 to 64 (fun s13 s14 wx => s14 = .bool true ∧ ∃ eb, s13 = .pointer (some ⟨eb, 0, none⟩) ∧ Hid (Kept (fun _ => False) wr wx ∧ Holds wx eb (entC x) 34))
          case first =>
            have HKA : Hid (Kept (fun _ => False) wr wr.drew) := (Kept.refl _ wr).drewN 1
            have hS := HSF.out _ HKA.out
            refine wp_region_until (SEnt g (j * 4) x) 18 (by kernel_rfl) ?_
            refine wpAnyU_take (i := 0) (v := (.pointer (some ⟨t, 0, none⟩))) (some 51) rfl rfl (by kernel_rfl) (by kernel_rfl) (by kernel_rfl) (by kernel_rfl) (fun _ _ _ h => h) hS (yields_of (by kernel_rfl) (fun w ⟨hr, h0, h1, h2, h3⟩ => by go_simp)) ?_
            refine wpAnyU_take (i := 1) (v := (.slice (some ⟨g, 0, none⟩) M capI)) (some 52) rfl rfl (by kernel_rfl) (by kernel_rfl) (by kernel_rfl) (by kernel_rfl) (fun _ _ _ h => h) hS (yields_of (by kernel_rfl) (fun w ⟨hr, h0, h1, h2, h3⟩ => by go_simp)) ?_
            refine wpAnyU_take (i := 2) (v := (.int .i64 (j : Int))) (some 53) rfl rfl (by kernel_rfl) (by kernel_rfl) (by kernel_rfl) (by kernel_rfl) (fun _ _ _ h => h) hS (yields_of (by kernel_rfl) (fun w ⟨hr, h0, h1, h2, h3⟩ => by go_simp)) ?_
            refine wpAnyU_take (i := 3) (v := (.pointer (some ⟨g, j * 4, none⟩))) (some 54) rfl rfl (by kernel_rfl) (by kernel_rfl) (by kernel_rfl) (by kernel_rfl) (fun _ _ _ h => h) hS (yields_of (by kernel_rfl) (fun w ⟨hr, h0, h1, h2, h3⟩ => by go_simp)) ?_
            refine wpAnyU_take (i := 4) (v := (.pointer (some ⟨g, j * 4, none⟩))) (some 55) rfl rfl (by kernel_rfl) (by kernel_rfl) (by kernel_rfl) (by kernel_rfl) (fun _ _ _ h => h) hS (yields_of (by kernel_rfl) (fun w ⟨hr, h0, h1, h2, h3⟩ => by go_simp)) ?_
            refine wpAnyU_take (i := 5) (v := (.string ⟨x.1.toArray⟩)) (some 56) rfl rfl (by kernel_rfl) (by kernel_rfl) (by kernel_rfl) (by kernel_rfl) (fun _ _ _ h => h) hS (yields_of (by kernel_rfl) (fun w ⟨hr, h0, h1, h2, h3⟩ => by go_simp)) ?_
            refine wpAnyU_take (i := 6) (v := (.slice (some ⟨g, 0, none⟩) M capI)) (some 57) rfl rfl (by kernel_rfl) (by kernel_rfl) (by kernel_rfl) (by kernel_rfl) (fun _ _ _ h => h) hS (yields_of (by kernel_rfl) (fun w ⟨hr, h0, h1, h2, h3⟩ => by go_simp)) ?_
            refine wpAnyU_take (i := 7) (v := (.int .i64 (j : Int))) (some 58) rfl rfl (by kernel_rfl) (by kernel_rfl) (by kernel_rfl) (by kernel_rfl) (fun _ _ _ h => h) hS (yields_of (by kernel_rfl) (fun w ⟨hr, h0, h1, h2, h3⟩ => by go_simp)) ?_
            refine wpAnyU_take (i := 8) (v := (.pointer (some ⟨g, j * 4, none⟩))) (some 59) rfl rfl (by kernel_rfl) (by kernel_rfl) (by kernel_rfl) (by kernel_rfl) (fun _ _ _ h => h) hS (yields_of (by kernel_rfl) (fun w ⟨hr, h0, h1, h2, h3⟩ => by go_simp)) ?_
            refine wpAnyU_take (i := 9) (v := (.pointer (some ⟨g, j * 4 + 1, none⟩))) (some 60) rfl rfl (by kernel_rfl) (by kernel_rfl) (by kernel_rfl) (by kernel_rfl) (fun _ _ _ h => h) hS (yields_of (by kernel_rfl) (fun w ⟨hr, h0, h1, h2, h3⟩ => by go_simp)) ?_
            refine wpAnyU_take (i := 10) (v := (.int .i64 x.2.1)) (some 61) rfl rfl (by kernel_rfl) (by kernel_rfl) (by kernel_rfl) (by kernel_rfl) (fun _ _ _ h => h) hS (yields_of (by kernel_rfl) (fun w ⟨hr, h0, h1, h2, h3⟩ => by go_simp)) ?_
            refine wpAnyU_two (i := 11) (j := 15) (by kernel_rfl) ?_ ?_
            · refine wpOp_call (f := 16) (args := #[(.pointer (some ⟨t, 0, none⟩)), (.string ⟨x.1.toArray⟩), (.int .i64 x.2.1)]) (some 62) rfl rfl (by kernel_rfl) (by kernel_rfl) ?_
              refine (HG.out _ HKA.out).mono ?_
              rintro r wc ⟨rfl, hkc⟩
              have HKC := Lib.hid (HKA.out.trans hkc (fun _ hf => hf.elim))
              clear hkc
              have hSc := HSF.out _ HKC.out
              refine ⟨_, rfl, fun _ => hSc, ?_⟩
              refine wpAnyU_take (i := 12) (v := (.tuple #[.agg (entC x).toArray, .bool true])) (some 50) rfl rfl (by kernel_rfl) (by kernel_rfl) (by kernel_rfl) (by kernel_rfl) (fun _ _ _ h => h) hSc (yields_of (by kernel_rfl) (fun w ⟨hr, h0, h1, h2, h3⟩ => by go_simp)) ?_
              refine wpAnyU_take (i := 13) (v := (.agg (entC x).toArray)) (some 63) rfl rfl (by kernel_rfl) (by kernel_rfl) (by kernel_rfl) (by kernel_rfl) (fun _ _ _ h => h) hSc (yields_of (by kernel_rfl) (fun w ⟨hr, h0, h1, h2, h3⟩ => by go_simp)) ?_
              refine wpAnyU_take (i := 14) (v := (.bool true)) (some 64) rfl rfl (by kernel_rfl) (by kernel_rfl) (by kernel_rfl) (by kernel_rfl) (fun _ _ _ h => h) hSc (yields_of (by kernel_rfl) (fun w ⟨hr, h0, h1, h2, h3⟩ => by go_simp)) ?_
              have HKZ0 := Lib.hid (HKC.out.alloc (.cells (entC zeroM).toArray 34))
              have HNZ0 := Holds.new wc (entC zeroM) 34
              have hSz := HSF.out _ HKZ0.out
              have hebw : Hid (wr.heap.size ≤ wc.heap.size) := HKC.out.size
              obtain ⟨eb, heb⟩ : ∃ eb, Hid (eb = wc.heap.size) := ⟨_, rfl⟩
              refine wpAnyU_run (i := 15) (v := .pointer (some ⟨wc.heap.size, 0, none⟩)) (w' := wc.alloc (.cells (entC zeroM).toArray 34)) (some 13) rfl rfl (by kernel_rfl) (by kernel_rfl) (exec_alloc 34 rfl i0 (entC zeroM) hi hz0) (fun _ => hSz) ?_
              rw [← heb.out] at HNZ0 hebw ⊢
              generalize wc.alloc (.cells (entC zeroM).toArray 34) = wz at HNZ0 HKZ0 hSz ⊢
              have HKZ : Hid (Kept (fun _ => False) wr (wz.setCells eb 0 (entC x))) := Kept.setCellsN hebw.out (entC x) 0 wz HKZ0.out
              have HNZ := HNZ0.setCells (entC x) 0 wz (entC zeroM) (Nat.le_refl _)
              rw [lay_all (entC zeroM) (entC x) rfl] at HNZ
              have hSw := HSF.out _ HKZ.out
              refine wpAnyU_skip (i := 16) (w' := wz.setCells eb 0 (entC x)) none rfl rfl (by kernel_rfl) (by kernel_rfl) (exec_store_mid 34 (.tmp 13) (.tmp 63) rfl eb 0 (entC x).toArray (by kernel_rfl) (by kernel_rfl) (HNZ0.there 0 _ (Nat.le_refl _)) (by rw [ent_size]; rfl) (all_oneCell_toArray (entC_one _))) (fun _ => hSw) ?_
              generalize wz.setCells eb 0 (entC x) = wv at HKZ HNZ hSw ⊢
              refine wpAnyU_take (i := 17) (v := (.bool true)) (some 14) rfl rfl (by kernel_rfl) (by kernel_rfl) (by kernel_rfl) (by kernel_rfl) (fun _ _ _ h => h) hSw (yields_of (by kernel_rfl) (fun w ⟨hr, h0, h1, h2, h3⟩ => by go_simp)) ?_
              refine wpAnyU_done (by kernel_rfl) ?_ _
              simp only [put_none, put_lit, List.set_cons_succ, List.set_cons_zero]
              have HNZ := Lib.hid HNZ
              clear hSw hSz HNZ0 HKZ0 hebw heb
              go_wp2
              go_meet
              case rel => exact ⟨rfl, eb, rfl, HKZ.out, HNZ.out⟩
            · have HKZ1 := Lib.hid (HKA.out.alloc (.cells (entC zeroM).toArray 34))
              have HNZ1 := Holds.new wr.drew (entC zeroM) 34
              have hSz := HSF.out _ HKZ1.out
              have hebw : Hid (wr.heap.size ≤ wr.drew.heap.size) := HKA.out.size
              obtain ⟨eb, heb⟩ : ∃ eb, Hid (eb = wr.drew.heap.size) := ⟨_, rfl⟩
              refine wpOp_run (v := .pointer (some ⟨wr.drew.heap.size, 0, none⟩)) (w' := wr.drew.alloc (.cells (entC zeroM).toArray 34)) (some 13) rfl rfl (by kernel_rfl) (exec_alloc 34 rfl i0 (entC zeroM) hi hz0) ⟨fun _ => hSz, ?_⟩
              rw [← heb.out] at HNZ1 hebw ⊢
              generalize wr.drew.alloc (.cells (entC zeroM).toArray 34) = wy at HNZ1 HKZ1 hSz ⊢
              refine wpAnyU_call (i := 11) (f := 16) (args := #[(.pointer (some ⟨t, 0, none⟩)), (.string ⟨x.1.toArray⟩), (.int .i64 x.2.1)]) (some 62) rfl rfl (by kernel_rfl) (by kernel_rfl) (by kernel_rfl) ?_
              refine (HG.out _ HKZ1.out).mono ?_
              rintro r wz ⟨rfl, hkc⟩
              have HKZ0 := Lib.hid (HKZ1.out.trans hkc (fun _ hf => hf.elim))
              have HNZ0 := HNZ1.of_block (hkc.block eb HNZ1.lt (fun hf => hf))
              clear hkc HNZ1 HKZ1 hSz
              have hSz := HSF.out _ HKZ0.out
              refine ⟨_, rfl, fun _ => hSz, ?_⟩
              refine wpAnyU_take (i := 12) (v := (.tuple #[.agg (entC x).toArray, .bool true])) (some 50) rfl rfl (by kernel_rfl) (by kernel_rfl) (by kernel_rfl) (by kernel_rfl) (fun _ _ _ h => h) hSz (yields_of (by kernel_rfl) (fun w ⟨hr, h0, h1, h2, h3⟩ => by go_simp)) ?_
              refine wpAnyU_take (i := 13) (v := (.agg (entC x).toArray)) (some 63) rfl rfl (by kernel_rfl) (by kernel_rfl) (by kernel_rfl) (by kernel_rfl) (fun _ _ _ h => h) hSz (yields_of (by kernel_rfl) (fun w ⟨hr, h0, h1, h2, h3⟩ => by go_simp)) ?_
              refine wpAnyU_take (i := 14) (v := (.bool true)) (some 64) rfl rfl (by kernel_rfl) (by kernel_rfl) (by kernel_rfl) (by kernel_rfl) (fun _ _ _ h => h) hSz (yields_of (by kernel_rfl) (fun w ⟨hr, h0, h1, h2, h3⟩ => by go_simp)) ?_
              have HKZ : Hid (Kept (fun _ => False) wr (wz.setCells eb 0 (entC x))) := Kept.setCellsN hebw.out (entC x) 0 wz HKZ0.out
              have HNZ := HNZ0.setCells (entC x) 0 wz (entC zeroM) (Nat.le_refl _)
              rw [lay_all (entC zeroM) (entC x) rfl] at HNZ
              have hSw := HSF.out _ HKZ.out
              refine wpAnyU_skip (i := 16) (w' := wz.setCells eb 0 (entC x)) none rfl rfl (by kernel_rfl) (by kernel_rfl) (exec_store_mid 34 (.tmp 13) (.tmp 63) rfl eb 0 (entC x).toArray (by kernel_rfl) (by kernel_rfl) (HNZ0.there 0 _ (Nat.le_refl _)) (by rw [ent_size]; rfl) (all_oneCell_toArray (entC_one _))) (fun _ => hSw) ?_
              generalize wz.setCells eb 0 (entC x) = wv at HKZ HNZ hSw ⊢
              refine wpAnyU_take (i := 17) (v := (.bool true)) (some 14) rfl rfl (by kernel_rfl) (by kernel_rfl) (by kernel_rfl) (by kernel_rfl) (fun _ _ _ h => h) hSw (yields_of (by kernel_rfl) (fun w ⟨hr, h0, h1, h2, h3⟩ => by go_simp)) ?_
              refine wpAnyU_done (by kernel_rfl) ?_ _
              simp only [put_none, put_lit, List.set_cons_succ, List.set_cons_zero]
              have HNZ := Lib.hid HNZ
              clear hSw hSz HNZ0 HKZ0 hebw heb
              go_wp2
              go_meet
              case rel => exact ⟨rfl, eb, rfl, HKZ.out, HNZ.out⟩
          case rest =>
            obtain ⟨rfl, eb, rfl, hI2⟩ := hcut
            obtain ⟨-, a0, a1, a2, a3⟩ := HSF.out _ hI2.out.1
            have e0 := hI2.out.2.cell 0 _ rfl
            have e1 := hI2.out.2.cell 1 _ rfl
            have e2 := hI2.out.2.cell 2 _ rfl
            have e3 := hI2.out.2.cell 3 _ rfl
            go_wp2
            go_quiet (fail)
            obtain ⟨wd, hwd⟩ : ∃ wd, wd = wc.drewN nq := ⟨_, rfl⟩
            rw [← hwd]
            have hkr : Kept (fun _ => False) wr wd := by rw [hwd]; exact hI2.out.1.drewN _
            have HKD : Hid (Kept (fun _ => False) wp wd) := hKI.out.trans hkr (fun _ hf => hf.elim)
            have HND := Lib.hid (HNr.out.still K hkr)
            obtain ⟨-, d0, d1, d2, d3⟩ := HSF.out _ hkr
            clear hkr hwd hI2 e0 e1 e2 e3 a0 a1 a2 a3 HSF HG
            obtain ⟨hjD, hx⟩ := HX.out
            by_cases hk : x.1 = key
            · by_cases hs : x.2.1 ≤ seq
              · have hcnd : D[j].1 = key ∧ D[j].2.1 ≤ seq := by rw [← hx]; exact ⟨hk, hs⟩
                rw [hk] at d0
                by_cases hb0 : b < 0
                · obtain rfl : b = -1 := by omega
                  have HB2 : Hid (BestI D key seq (j + 1) (j : Int)) := hBI.out.first hjD hcnd
                  clear hBI HX hcnd hx hjD hk
                  go_wp2
                  go_quiet (fail)
                  go_wp2
                  go_roundw
                  case rel => exact ⟨j + 1, (j : Int), by omega, by omega, by omega, by first | rfl | go_num, by first | rfl | go_num, HB2, HKD.out.drewN _⟩
                  case measure => simp [intOf]; omega
                · obtain ⟨n, hbn⟩ := Int.eq_ofNat_of_zero_le (show 0 ≤ b by omega)
                  have hbn' : b = (n : Int) := hbn
                  clear hbn
                  subst hbn'
                  have hnD : n < D.length := by
                    rcases hBI.out with ⟨h1, _⟩ | ⟨n', h1, h2, _⟩
                    · omega
                    · obtain rfl : n' = n := by omega
                      exact h2
                  obtain ⟨g', cap', hv, _, hsn⟩ := owns_S HND.out.rin n hnD
                  obtain rfl : g = g' := by injection hv with h _ _; injection h with h; injection h
                  obtain ⟨-, n0, n1, n2, n3⟩ := hsn
                  have hnM : (n : Int) < (M : Int) := by have := hM.out; omega
                  have n0' : (0 : Int) ≤ (n : Int) := by omega
                  have hneg : ¬(n : Int) < 0 := by omega
                  by_cases hg : D[n].2.1 < x.2.1
                  · have HB2 : Hid (BestI D key seq (j + 1) (j : Int)) := hBI.out.take hjD hnD hcnd (by rw [← hx]; exact hg)
                    generalize D[n].2.1 = z at n1 hg
                    have hgz : z < x.2.1 := hg
                    clear hBI HX hcnd hx hjD hk hv hnD n0 n2 n3 hb0
                    go_wp2
                    go_quiet (fail)
                    go_wp2
                    go_roundw
                    case rel => exact ⟨j + 1, (j : Int), by omega, by omega, by omega, by first | rfl | go_num, by first | rfl | go_num, HB2, HKD.out.drewN _⟩
                    case measure => simp [intOf]; omega
                  · have HB2 : Hid (BestI D key seq (j + 1) (n : Int)) := hBI.out.keep hjD hnD (by rw [← hx]; exact hg)
                    generalize D[n].2.1 = z at n1 hg
                    have hgz : ¬z < x.2.1 := hg
                    clear hBI HX hcnd hx hjD hk hv hnD n0 n2 n3 hb0
                    go_wp2
                    go_quiet (fail)
                    go_wp2
                    go_roundw
                    case rel => exact ⟨j + 1, (n : Int), by omega, by omega, by omega, by first | rfl | go_num, by first | rfl | go_num, HB2, HKD.out.drewN _⟩
                    case measure => simp [intOf]; omega
              · have HB2 : Hid (BestI D key seq (j + 1) b) := hBI.out.skip hjD (by rw [← hx]; exact fun h => hs h.2)
                rw [hk] at d0
                have hsd : decide (x.2.1 ≤ seq) = false := by simpa using hs
                have hslt : seq < x.2.1 := by omega
                clear hBI HX hx hjD hk
                go_wp2
                go_quiet (fail)
                go_wp2
                go_roundw
                case rel => exact ⟨j + 1, b, by omega, by omega, by omega, by first | rfl | go_num, by first | rfl | go_num, HB2, HKD.out.drewN _⟩
                case measure => simp [intOf]; omega
            · have HB2 : Hid (BestI D key seq (j + 1) b) := hBI.out.skip hjD (by rw [← hx]; exact fun h => hk h.1)
              have hkb : (x.1 == key) = false := by simpa using hk
              clear hBI HX hx hjD
              go_wp2
              go_quiet (fail)
              go_wp2
              go_roundw
              case rel => exact ⟨j + 1, b, by omega, by omega, by omega, by first | rfl | go_num, by first | rfl | go_num, HB2, HKD.out.drewN _⟩
              case measure => simp [intOf]; omega
        · have hjM : j = D.length := by have := hM.out; omega
          have k1 : ¬(j : Int) < (M : Int) := by omega
          have HNr := Lib.hid (HNW.out.1.still K hKI.out)
          have hBE := hBI.out
          rw [hjM] at hBE
          have hend := hBE.end (K.ok HNr.out.mt.sk) HNW.out.2
          have hGt := K.get HNr.out.mt.sk (by have := HTl.out; omega) key seq HA.out.2
          have HBW : Hid (∀ W, Kept (fun _ => False) wr W → Below w.heap.size w W) := fun W hk => HB1.out.trans ((HNr.out.still K hk).mt.below.mono HB1.out.size)
          clear hBI hBE hjM
          rcases hend with ⟨rfl, hgm⟩ | ⟨n, rfl, hnD, hgm⟩
          · rw [hgm] at hGt
            have HG : Hid (Calls Try.prog 16 #[.pointer (some ⟨t, 0, none⟩), .string ⟨key.toArray⟩, .int .i64 seq] wr fun r w' => r = .returned (.tuple #[.agg #[.string ⟨#[]⟩, .int .i64 0, .bool false, .string ⟨#[]⟩], .bool false]) ∧ Kept (fun _ => False) wr w') := hGt
            clear hGt hgm
            go_wp2_with fail
            refine HG.out.mono ?_
            clear HG
            rintro e wg ⟨rfl, hkg⟩
            go_upto_region 22 with (fail)
            have hkz := hkg.alloc (.cells #[.string ⟨#[]⟩, .int .i64 0, .bool false, .string ⟨#[]⟩] 34)
            obtain ⟨wz, hwz⟩ : ∃ wz, wz = wg.alloc (.cells #[.string ⟨#[]⟩, .int .i64 0, .bool false, .string ⟨#[]⟩] 34) := ⟨_, rfl⟩
            rw [← hwz] at hkz ⊢
            generalize wg.heap.size = eb
            have HF := Lib.hid hkz
            clear hwz hkg hkz
            go_quiet (fail)
            go_wp2
            go_ret
            exact ⟨rfl, HBW.out _ (HF.out.drewN _)⟩
          · rw [hgm] at hGt
            obtain ⟨g, cap', hv, hg, hsn⟩ := owns_S HNr.out.rin n hnD
            obtain ⟨x, hx⟩ : ∃ x, x = D[n] := ⟨_, rfl⟩
            rw [← hx] at hsn hGt
            obtain rfl : adI = some ⟨g, 0, none⟩ := by injection hv
            have hnM : (n : Int) < (M : Int) := by have := hM.out; omega
            have n0' : (0 : Int) ≤ (n : Int) := by omega
            have hneg : ¬(n : Int) < 0 := by omega
            have HG : Hid (Calls Try.prog 16 #[.pointer (some ⟨t, 0, none⟩), .string ⟨key.toArray⟩, .int .i64 seq] wr fun r w' => r = .returned (.tuple #[.agg #[.string ⟨x.1.toArray⟩, .int .i64 x.2.1, .bool x.2.2.1, .string ⟨x.2.2.2.toArray⟩], .bool true]) ∧ Kept (fun _ => False) wr w') := hGt
            have HSn := Lib.hid (fun (W : World) (hk : Kept (fun _ => False) wr W) => hsn.kept hk hg)
            clear hGt hgm hx hv hsn hg
            go_wp2_with fail
            refine HG.out.mono ?_
            clear HG
            rintro e wg ⟨rfl, hkg⟩
            go_upto_region 22 with (fail)
            have hkz := hkg.alloc (.cells (entC x).toArray 34)
            have hNz := Holds.new wg (entC x) 34
            obtain ⟨wz, hwz⟩ : ∃ wz, wz = wg.alloc (.cells (entC x).toArray 34) := ⟨_, rfl⟩
            rw [← hwz] at hkz hNz
            have hwz' : wz = wg.alloc (.cells #[.string ⟨x.1.toArray⟩, .int .i64 x.2.1, .bool x.2.2.1, .string ⟨x.2.2.2.toArray⟩] 34) := hwz
            rw [← hwz']
            generalize wg.heap.size = eb at hNz ⊢
            obtain ⟨-, d0, d1, d2, d3⟩ := HSn.out _ hkz
            have e0 := hNz.cell 0 _ rfl
            have e1 := hNz.cell 1 _ rfl
            have e2 := hNz.cell 2 _ rfl
            have e3 := hNz.cell 3 _ rfl
            have HF := Lib.hid hkz
            clear hwz hwz' hkg hkz hNz HSn
            go_quiet (fail)
            go_wp2
            go_ret
            exact ⟨rfl, HBW.out _ (HF.out.drewN _)⟩

end Go.Proofs.Ytlmlldcpllagbaa
