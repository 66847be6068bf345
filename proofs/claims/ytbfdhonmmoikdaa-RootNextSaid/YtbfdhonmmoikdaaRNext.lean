/- RootNext walked: a file more behind all. -/
import Derived.Test.YtbfdhonmmoikdaaEx6
import Derived.Test.YtbfdhonmmoikdaaRtS
import Derived.Test.YtbfdhonmmoikdaaFilO
import Derived.Test.YtbfdhonmmoikdaaOpenF
import Derived.Test.YtbfdhonmmoikdaaFork
import Derived.BigQuiet
import Derived.Deep.CutRange
namespace Go.Proofs.Ytbfdhonmmoikdaa
open Go.RowKit Go.Proofs Go.Proofs.Pk
set_option maxRecDepth 10000
attribute [local simp] mk_get wrap64_u8 mk_extract ByteArray.mk_append_mk get_1k

set_option maxHeartbeats 1000000 in
theorem sNext (total : Int) (seq next cur : Int) (ad : Option Addr) (len cap : Nat) (l : List FileV) (many : Int) (W : World) (ht : -9223372036854775808 ≤ total ∧ total ≤ 9223372036854775807) (hF : Files W ad len l)
    (hb : Fit seq ∧ Fit next ∧ Fit cur ∧ Flat ad ∧ len ≤ cap ∧ (ad = none → cap = 0) ∧ (len : Int) * 24 ≤ 140737488351232) (hm : -9223372036854775808 ≤ many ∧ many ≤ 9223372036854775807) :
    Calls Try.prog 8 #[.int .i64 total, .agg #[.int .i64 seq, .int .i64 next, .int .i64 cur, .slice ad len cap], .int .i64 many] W fun e w' => e = .returned (.bool true) ∧ Below W.heap.size W w' := by
  have HX := Holds.new W [.int .i64 seq, .int .i64 next, .int .i64 cur, .slice ad len cap] 24
  have HB0 := Lib.hid ((Below.refl W.heap.size W).alloc (Nat.le_refl _) (.cells #[.int .i64 seq, .int .i64 next, .int .i64 cur, .slice ad len cap] 24))
  change Holds (W.alloc (.cells #[.int .i64 seq, .int .i64 next, .int .i64 cur, .slice ad len cap] 24)) _ _ _ at HX
  have HF0 := Lib.hid (hF.below HB0.out)
  have hln : len ≤ 9223372036854775806 := by omega
  clear hF
  have HEx := Lib.hid examples_any
  have HR := Lib.hid (fun (w : World) (h : Files w ad len l) => pRightR total seq next cur ad len cap l w ht h)
  have hP := right_prop total seq next cur l
  generalize rightV total seq next cur l = rv at HR hP
  by_cases hgo : rv = true ∧ seq < 9007199254740991 ∧ next < 9007199254740991
  · obtain ⟨rfl, hs, hn⟩ := hgo
    have HP := Lib.hid (hP.1 rfl)
    clear hP
    have hs1 : ¬9007199254740991 ≤ seq := by omega
    have hn1 : ¬9007199254740991 ≤ next := by omega
    have hl : l.length = len := HF0.out.1
    obtain ⟨N, hT, hN, hg, _⟩ := HP.out.runs
    have HG : Hid (∀ f ∈ l, 0 ≤ f.2.1 ∧ 1 ≤ f.2.2 ∧ f.2.1 + f.2.2 ≤ 4000) := fun f hf => by
      have := hg f.2 (by unfold usedF; exact List.mem_map_of_mem hf)
      unfold Pk.Good at this; omega
    have HT : Hid (total = (N : Int) ∧ N ≤ 4000) := ⟨hT, hN⟩
    clear hg hT hN
    go_enter Try.func8, Try.ntmps8
    go_wp2_with fail
    obtain ⟨q, hq⟩ : ∃ q, Hid (q = W.heap.size) := ⟨_, rfl⟩
    rw [← hq.out] at HX ⊢
    generalize W.alloc (.cells #[.int .i64 seq, .int .i64 next, .int .i64 cur, .slice ad len cap] 24) = w1 at HX HB0 HF0 ⊢
    have HXh := Lib.hid HX
    clear HX
    refine (HEx.out w1).mono ?_
    rintro e w2 ⟨rfl, hb2⟩
    have HB2 := Lib.hid (HB0.out.trans (hb2.mono HB0.out.size))
    have HF2 := Lib.hid (HF0.out.below hb2)
    have HX2 := Lib.hid (HXh.out.of_block (hb2.block q HXh.out.lt))
    clear hb2 HB0 HF0 HXh
    have x0 := HX2.out.cell 0 _ rfl
    have x1 := HX2.out.cell 1 _ rfl
    have x2 := HX2.out.cell 2 _ rfl
    have x3 := HX2.out.cell 3 _ rfl
    go_wp2_with fail
    refine (HR.out w2 HF2.out).mono ?_
    rintro e w3 ⟨rfl, hb3⟩
    have HB3 := Lib.hid (HB2.out.trans (hb3.mono HB2.out.size))
    have HF3 := Lib.hid (HF2.out.below hb3)
    have HX3 := Lib.hid (HX2.out.of_block (hb3.block q HX2.out.lt))
    clear hb3 HB2 HF2 HX2 x0 x1 x2 x3 HR HEx
    have x0 := HX3.out.cell 0 _ rfl
    have x1 := HX3.out.cell 1 _ rfl
    go_wp2
    clear x0 x1
    obtain ⟨wq, hwq⟩ : ∃ wq, wq = w3 := ⟨_, rfl⟩
    have HS : Hid (Below w3.heap.size w3 wq) := by rw [hwq]; exact Below.refl _ _
    rw [← hwq]
    clear hwq
    go_loopw [8, 9] (fun m i wr => ∃ (k : Nat) (M : Int), k ≤ len ∧ i = .int .i64 k ∧ m = .int .i64 M ∧ (18 ≤ M ∧ M ≤ 4000) ∧ Hid (∀ j (h : j < l.length), j < k → (l[j]).2.1 + (l[j]).2.2 ≤ M) ∧ Hid (Below w3.heap.size w3 wr)) (fun _ i _ => len - (intOf i).toNat)
    case atStart => exact ⟨0, 18, Nat.zero_le _, rfl, rfl, ⟨by omega, by omega⟩, fun j h h0 => by omega, HS⟩
    case round =>
      obtain ⟨k, M, hk, rfl, rfl, hM, hE, hbw⟩ := hrel
      have x3 : wr.cell? ⟨q, 3, none⟩ = some (.slice ad len cap) := (HX3.out.of_block (hbw.out.block q HX3.out.lt)).cell 3 _ rfl
      by_cases hlt : (k : Int) < len
      · have hkl : k < len := by omega
        obtain ⟨g, og, rfl, _, r1, _⟩ := files_at (HF3.out.below hbw.out) k hkl
        have hfg := HG.out l[k] (List.getElem_mem (by omega))
        obtain ⟨S, hS⟩ : ∃ S, Hid (S = (l[k]).2.1 + (l[k]).2.2) := ⟨(l[k]).2.1 + (l[k]).2.2, rfl⟩
        have hE' : Hid (∀ j (h : j < l.length), j < k + 1 → (l[j]).2.1 + (l[j]).2.2 ≤ max M S) := fun j h h1 => by
          by_cases hjk : j = k
          · subst hjk; have := hS.out; omega
          · have := hE.out j h (by omega); omega
        have hS0 := hS.out
        clear hS
        generalize l[k] = f at r1 hfg hS0
        obtain ⟨f0, f1, f2⟩ := f
        simp only at hfg hS0
        have hS : Hid (S = f1 + f2) := hS0
        clear hS0
        have d1 : wr.cell? ⟨g, og + k * 3 + 1, none⟩ = some (.int .i64 f1) := r1 1 _ rfl
        have d2 : wr.cell? ⟨g, og + k * 3 + 2, none⟩ = some (.int .i64 f2) := r1 2 _ rfl
        have hsum : IntKind.i64.wrap (f1 + f2) = S := by rw [IntWalk.i64_in _ (by omega)]; exact hS.out.symm
        have hk0 : (0 : Int) ≤ (k : Int) := Int.natCast_nonneg _
        have hwk : IntKind.i64.wrap ((k : Int) + 1) = ((k + 1 : Nat) : Int) := by rw [IntWalk.i64_in _ (by omega)]; omega
        clear r1
        go_upto_region 8 with (fail)
        go_region
        go_wp2
        exact ⟨⟨k + 1, max M S, by omega, by go_num, rfl, ⟨by omega, by have := hS.out; omega⟩, hE', belowN hbw.out 1⟩, by simp [intOf]; omega⟩
      · have HXr := HX3.out.of_block (hbw.out.block q HX3.out.lt)
        have x0 := HXr.cell 0 _ rfl
        have x1 := HXr.cell 1 _ rfl
        have x2 := HXr.cell 2 _ rfl
        have hkl : k = len := by omega
        have hE2 : Hid (∀ f ∈ l, f.2.1 + f.2.2 ≤ M) := fun f hf => by
          obtain ⟨j, hj, rfl⟩ := List.getElem_of_mem hf
          exact hE.out j hj (by omega)
        have HFr := Lib.hid (HF3.out.below hbw.out)
        have HBr := Lib.hid (HB3.out.trans (hbw.out.mono HB3.out.size))
        have hws : IntKind.i64.wrap (seq + 1) = seq + 1 := IntWalk.i64_in _ (by have := HP.out.aSeq; omega)
        have hwn : IntKind.i64.wrap (next + 1) = next + 1 := IntWalk.i64_in _ (by have := HP.out.aNext; omega)
        clear hE hbw HX3 HF3 HB3 HG
        go_upto_region 10 with (fail)
        have hb5 := (Below.refl wr.heap.size wr).alloc (Nat.le_refl _) (.cells #[.int .i64 seq, .int .i64 next, .int .i64 cur, .slice ad len cap] 24)
        have HY := Holds.new wr [.int .i64 seq, .int .i64 next, .int .i64 cur, .slice ad len cap] 24
        change Holds (wr.alloc (.cells #[.int .i64 seq, .int .i64 next, .int .i64 cur, .slice ad len cap] 24)) _ _ _ at HY
        generalize wr.alloc (.cells #[.int .i64 seq, .int .i64 next, .int .i64 cur, .slice ad len cap] 24) = w5 at hb5 HY ⊢
        have HB5 := Lib.hid hb5
        have HXR := Lib.hid HXr
        obtain ⟨p, hp⟩ : ∃ p, Hid (p = wr.heap.size) := ⟨_, rfl⟩
        rw [← hp.out] at HY ⊢
        clear hb5 HXr x0 x1 x2 x3
        have hle : Hid (wr.heap.size ≤ p) := by rw [hp.out]; exact Nat.le_refl _
        have y0 := HY.cell 0 _ rfl
        have z0 := HY.free 0
        go_upto_region 11 with (fail)
        have HY1 := HY.set 0 (.int .i64 (seq + 1))
        have HB6 := Lib.hid (HB5.out.setCell (p := ⟨p, 0, none⟩) hle.out (.int .i64 (seq + 1)))
        clear y0 z0 HB5 HY
        generalize w5.setCell ⟨p, 0, none⟩ (.int .i64 (seq + 1)) = w6 at HY1 HB6 ⊢
        have y1 := HY1.cell 1 _ rfl
        have z1 := HY1.free 1
        go_upto_region 12 with (fail)
        have HY2 := HY1.set 1 (.int .i64 (next + 1))
        have HB7 := Lib.hid (HB6.out.setCell (p := ⟨p, 1, none⟩) hle.out (.int .i64 (next + 1)))
        clear y1 z1 HB6 HY1
        generalize w6.setCell ⟨p, 1, none⟩ (.int .i64 (next + 1)) = w7 at HY2 HB7 ⊢
        have HFs := Lib.hid (HFr.out.below HB7.out)
        have HX7 : Holds w7 q _ _ := HXR.out.of_block (HB7.out.block q HXR.out.lt)
        have hqp : q < p := by rw [hp.out]; exact HXR.out.lt
        have hp7 : p < w7.heap.size := HY2.lt
        obtain ⟨BB, hBB⟩ : ∃ BB, Hid (BB = w7.heap.size) := ⟨_, rfl⟩
        have hSB : ∀ w' : World, Below BB w7.drew w' → (w'.cell? ⟨q, 3, none⟩ = some (.slice ad len cap) ∧ w'.cell? ⟨q, 1, none⟩ = some (.int .i64 next)) := fun w' h => by
          have hl : q < BB := by rw [hBB.out]; omega
          exact ⟨by rw [h.cell (p := ⟨q, 3, none⟩) hl]; exact HX7.cell 3 _ rfl, by rw [h.cell (p := ⟨q, 1, none⟩) hl]; exact HX7.cell 1 _ rfl⟩
        have hS0 := hSB w7.drew (Below.refl _ _)
        obtain ⟨iF, hiF, hzF, hsF, hbF⟩ := info_parts file_info
        refine wp_region_until (fun w' => w'.cell? ⟨q, 3, none⟩ = some (.slice ad len cap) ∧ w'.cell? ⟨q, 1, none⟩ = some (.int .i64 next)) 12 (by kernel_rfl) ?_
        refine wpAnyU_take (i := 0) (v := (.pointer (some ⟨q, 3, none⟩))) (some 60) rfl rfl (by kernel_rfl) (by kernel_rfl) (by kernel_rfl) (by kernel_rfl) (fun _ _ _ h => h) hS0 (yields_of (by kernel_rfl) (fun w hw => by obtain ⟨z0, z1⟩ := hw; go_simp)) ?_
        refine wpAnyU_take (i := 1) (v := (.slice ad len cap)) (some 61) rfl rfl (by kernel_rfl) (by kernel_rfl) (by kernel_rfl) (by kernel_rfl) (fun _ _ _ h => h) hS0 (yields_of (by kernel_rfl) (fun w hw => by obtain ⟨z0, z1⟩ := hw; go_simp)) ?_
        refine wpAnyU_take (i := 3) (v := (.pointer (some ⟨q, 1, none⟩))) (some 63) rfl rfl (by kernel_rfl) (by kernel_rfl) (by kernel_rfl) (by kernel_rfl) (fun _ _ _ h => h) hS0 (yields_of (by kernel_rfl) (fun w hw => by obtain ⟨z0, z1⟩ := hw; go_simp)) ?_
        refine wpAnyU_take (i := 4) (v := (.int .i64 next)) (some 64) rfl rfl (by kernel_rfl) (by kernel_rfl) (by kernel_rfl) (by kernel_rfl) (fun _ _ _ h => h) hS0 (yields_of (by kernel_rfl) (fun w hw => by obtain ⟨z0, z1⟩ := hw; go_simp)) ?_
        refine wpAnyU_take (i := 5) (v := (.int .i64 M)) (some 65) rfl rfl (by kernel_rfl) (by kernel_rfl) (by kernel_rfl) (by kernel_rfl) (fun _ _ _ h => h) hS0 (yields_of (by kernel_rfl) (fun w hw => by obtain ⟨z0, z1⟩ := hw; go_simp)) ?_
        refine wpAnyU_take (i := 6) (v := (.int .i64 many)) (some 66) rfl rfl (by kernel_rfl) (by kernel_rfl) (by kernel_rfl) (by kernel_rfl) (fun _ _ _ h => h) hS0 (yields_of (by kernel_rfl) (fun w hw => by obtain ⟨z0, z1⟩ := hw; go_simp)) ?_
        refine wpAnyU_take (i := 7) (v := (.agg (fileV (next, M, many)).toArray)) (some 67) rfl rfl (by kernel_rfl) (by kernel_rfl) (by kernel_rfl) (by kernel_rfl) (fun _ _ _ h => h) hS0 (yields_of (by kernel_rfl) (fun w hw => by obtain ⟨z0, z1⟩ := hw; go_simp; try simp [fileV])) ?_
        obtain ⟨FV, hFV⟩ : ∃ FV, Hid (FV = fileV (next, M, many)) := ⟨_, rfl⟩
        have hFl : FV.length = 3 := by rw [hFV.out]; rfl
        have hF1 : ∀ u ∈ FV, u.oneCell' = true := by rw [hFV.out]; simp [fileV, Value.oneCell']
        rw [← hFV.out]
        have hb24 := hb.2.2.2.2.2.2
        have hbs := fun w' : World => run_buildSlice_one (P := Try.prog) w' 22 39 iF _ FV Try.underlying22 hiF hzF (by rw [hsF, hFl]) (by omega) (by omega)
        have happ := fun (w' : World) (hw : Below BB w7.drew w') => run_append_files w' BB (.slice none 0 0) 0 [] l (World.ownsRow_nil _ _ _ _) ad len cap (HFs.out.below (by have h := hw; rw [hBB.out] at h; exact (belowN (Below.refl w7.heap.size w7) 1).trans h)) hb.2.2.2.1 hb.2.2.2.2.2.1 (by unfold maxLen; omega) (by omega) (Nat.le_trans (Nat.le_of_eq (by rw [hBB.out]; rfl)) hw.size)
        refine wpAnyU_fork (i := 2) (j := 8) 62 68 (by decide) (by decide) rfl rfl rfl rfl (by kernel_rfl) (by kernel_rfl) (by kernel_rfl) rfl rfl
          (fun w' vi vj => w'.ownsRow BB 39 3 vi (0 + len) (([] ++ l).flatMap fileV) ∧ (∃ qq, vj = .slice (some ⟨qq, 0, none⟩) 1 1 ∧ Holds w' qq FV 39) ∧ Below BB w7.drew w') ?_ ?_ ?_
        · obtain ⟨vi, wx, e1, o1, g1⟩ := happ w7.drew (Below.refl _ _)
          have hx : Below BB w7.drew wx := (Below.refl BB w7.drew).grown g1 (Nat.le_of_eq (by rw [hBB.out]; rfl)) (fun k hk => by cases hk)
          have hBx : BB ≤ wx.heap.size := Nat.le_trans (Nat.le_of_eq (by rw [hBB.out]; rfl)) hx.size
          have hy := hx.alloc hBx (.cells FV.toArray 39)
          exact ⟨vi, wx, _, _, exec_append (s := .const (.slice none 0 0)) (x := .tmp 61) e1 (by rfl) (by rfl) (by kernel_rfl) (by kernel_rfl), hSB _ hx, exec_buildSlice (x := .tmp 67) (hbs wx) (by rfl) (by kernel_rfl), hSB _ hy, o1.alloc _, ⟨_, rfl, Holds.new wx FV 39⟩, hy⟩
        · have hBx : BB ≤ w7.drew.heap.size := Nat.le_of_eq (by rw [hBB.out]; rfl)
          have hy := (Below.refl BB w7.drew).alloc hBx (.cells FV.toArray 39)
          obtain ⟨vi, wx, e1, o1, g1⟩ := happ _ hy
          have hx := hy.grown g1 (Nat.le_trans hBx hy.size) (fun k hk => by cases hk)
          have HQ := Holds.new w7.drew FV 39
          exact ⟨_, _, vi, wx, exec_buildSlice (x := .tmp 67) (hbs w7.drew) (by rfl) (by kernel_rfl), hSB _ hy, exec_append (s := .const (.slice none 0 0)) (x := .tmp 61) e1 (by rfl) (by rfl) (by kernel_rfl) (by kernel_rfl), hSB _ hx, o1, ⟨_, rfl, HQ.of_block (g1.block _ HQ.lt (by intro h; cases h))⟩, hx⟩
        · rintro wc vi vj sc ⟨hoC, ⟨qq, rfl, HQ⟩, hbC⟩
          have hBc : BB ≤ wc.heap.size := Nat.le_trans (Nat.le_of_eq (by rw [hBB.out]; rfl)) hbC.size
          obtain ⟨v', we, happ2, ho3, hgr, _⟩ := run_append_at (P := Try.prog) wc BB 22 22 39 iF _ 3 24 Try.underlying22 hiF hzF hsF hbF (by rfl) (by omega) vi (0 + len) _ hoC
            ⟨qq, 0, none⟩ 1 1 FV (by rw [hFl]) (fun j u hj => by rw [add0]; exact HQ.cell j u hj) hF1 (by unfold maxLen; omega) (by omega) hBc (by omega)
          have hbe : Below BB w7.drew we := hbC.grown hgr hBc (own_low hoC)
          refine wpAnyU_run (i := 9) (v := v') (some 69) rfl rfl (by kernel_rfl) (by kernel_rfl) (exec_append (s := .tmp 62) (x := .tmp 68) happ2 (by rfl) (by rfl) (by kernel_rfl) (by kernel_rfl)) (fun _ => hSB _ hbe) ?_
          refine wpAnyU_run (i := 10) (v := (.pointer (some ⟨p, 3, none⟩))) (w' := we) (some 70) rfl rfl (by kernel_rfl) (by kernel_rfl) (by go_simp) (fun _ => hSB _ hbe) ?_
          obtain ⟨gv, cv, rfl⟩ : ∃ gv cv, v' = .slice (some ⟨gv, 0, none⟩) (len + 1) cv := by
            rcases ho3.2 with ⟨_, h0⟩ | ⟨g', cap, cur, hv, _⟩
            · omega
            · exact ⟨_, _, by rw [hv, Nat.zero_add]⟩
          have HYe : Holds we p _ _ := (Holds.drew HY2).of_block (hbe.block p (by rw [hBB.out]; exact hp7))
          have c3 := HYe.cell 3 _ rfl
          have f3 := HYe.free 3
          have hpB : p < BB := by rw [hBB.out]; exact hp7
          refine wpAnyU_skip (i := 11) (w' := we.setCell ⟨p, 3, none⟩ (.slice (some ⟨gv, 0, none⟩) (len + 1) cv)) none rfl rfl (by kernel_rfl) (by kernel_rfl) (by go_simp) (fun _ => ?_) ?_
          · obtain ⟨s1, s2⟩ := hSB _ hbe
            have hne : (⟨q, 3, none⟩ : Addr).block ≠ p := by show q ≠ p; omega
            exact ⟨by rw [World.cell?_of_block (w := we) (a := ⟨q, 3, none⟩) (Below.heap_setCell _ _ _ _ hne)]; exact s1, by rw [World.cell?_of_block (w := we) (a := ⟨q, 1, none⟩) (Below.heap_setCell _ _ _ _ hne)]; exact s2⟩
          refine wpAnyU_done (by kernel_rfl) ?_ _
          have HYf := HYe.set 3 (.slice (some ⟨gv, 0, none⟩) (len + 1) cv)
          have hBr : wr.heap.size ≤ BB := by rw [hBB.out]; exact HB7.out.size
          have hbr := ((belowN HB7.out 1).trans (hbe.mono hBr)).setCell (p := ⟨p, 3, none⟩) hle.out (.slice (some ⟨gv, 0, none⟩) (len + 1) cv)
          have hne : (Value.slice (some ⟨gv, 0, none⟩) (len + 1) cv).ownBlock ≠ some p := fun e => by
            have := own_low ho3 p e; omega
          have hof : (we.setCell ⟨p, 3, none⟩ (.slice (some ⟨gv, 0, none⟩) (len + 1) cv)).ownsRow BB 39 3 (.slice (some ⟨gv, 0, none⟩) (len + 1) cv) (len + 1) ((l ++ [(next, M, many)]).flatMap fileV) :=
            owns_len (owns_setCell (p := p) (k := 3) ho3 hne) (by omega) (by rw [hFV.out]; simp)
          have hfits : ∀ f ∈ l ++ [(next, M, many)], FitF f := fun f hf => by
            rcases List.mem_append.1 hf with hf | hf
            · exact HFs.out.fit f hf
            · simp only [List.mem_cons, List.not_mem_nil, or_false] at hf
              subst hf
              exact ⟨hb.2.1, ⟨by simp only; omega, by simp only; omega⟩, hm⟩
          obtain ⟨_, adf, capf, hvf, _, _, hFF⟩ := own_filesV hof hfits
          cases hvf
          generalize we.setCell ⟨p, 3, none⟩ (.slice (some ⟨gv, 0, none⟩) (len + 1) cv) = wf at HYf hbr hFF ⊢
          have HYF := Lib.hid HYf
          have HBF := Lib.hid hbr
          have HFF := Lib.hid hFF
          have hy3 := HYf.cell 3 _ rfl
          have hll : l.length = len := hl
          clear hkl
          have hsub : IntKind.i64.wrap (total - M) = total - M := by have := HT.out; exact IntWalk.i64_in _ (by omega)
          obtain ⟨fits, hfit⟩ : ∃ fits : Bool, Hid (fits = decide (1 ≤ many ∧ M ≤ total ∧ many ≤ total - M ∧ len + 1 ≤ 24)) := ⟨_, rfl⟩
          have hrv : Hid (rightV total (seq + 1) (next + 1) cur (l ++ [(next, M, many)]) = fits) := by
            show _ = _
            rw [Bool.eq_iff_iff, right_next HP.out hs hn hM.1 hE2.out, hfit.out, decide_eq_true_iff, hll]
          clear HYf hbr hFF hof hne hBr hbe hSB hS0 hbs happ happ2 ho3 hgr HYe c3 f3 hBc hbC HQ hoC sc HX7 HY2 HB7 hFl hF1 hfits
          simp only [put_lit, List.set_cons_succ, List.set_cons_zero]
          have hpn : ∀ (a : Act) (v : Value), a.put none v = a := fun _ _ => rfl
          go_upto_region 13 with (fail)
          rw [hpn]
          clear hpn
          go_cut [11] from 71 (fun v wx => v = .bool fits ∧ wx = wf)
          case first =>
            by_cases c1 : 1 ≤ many
            case' pos =>
              by_cases c2 : M ≤ total
              case' pos =>
                by_cases c3 : many ≤ total - M
                case' pos =>
                  by_cases c4 : (len : Int) + 1 ≤ 24
            all_goals
              go_wp2
              go_meet
              case rel => exact ⟨congrArg Value.bool (by rw [hfit.out]; symm; first | exact decide_eq_true (by omega) | exact decide_eq_false (by omega)), rfl⟩
          case rest =>
            obtain ⟨rfl, rfl⟩ := hcut
            clear hy3
            have x0 := (HXR.out.of_block (HBF.out.block q HXR.out.lt)).cell 0 _ rfl
            have x1 := (HXR.out.of_block (HBF.out.block q HXR.out.lt)).cell 1 _ rfl
            go_upto_region 15 with (fail)
            have HN0 := Holds.new wc [.int .i64 seq, .int .i64 next, .int .i64 0, .slice none 0 0] 24
            have HYg := HYF.out.alloc (.cells #[.int .i64 seq, .int .i64 next, .int .i64 0, .slice none 0 0] 24)
            have hbg := HBF.out.alloc HBF.out.size (.cells #[.int .i64 seq, .int .i64 next, .int .i64 0, .slice none 0 0] 24)
            have hFg := HFF.out.below ((Below.refl wc.heap.size wc).alloc (Nat.le_refl _) (.cells #[.int .i64 seq, .int .i64 next, .int .i64 0, .slice none 0 0] 24))
            obtain ⟨gn, hgn⟩ : ∃ gn, Hid (gn = wc.heap.size) := ⟨_, rfl⟩
            rw [← hgn.out] at HN0 ⊢
            change Holds (wc.alloc (.cells #[.int .i64 seq, .int .i64 next, .int .i64 0, .slice none 0 0] 24)) gn _ _ at HN0
            generalize wc.alloc (.cells #[.int .i64 seq, .int .i64 next, .int .i64 0, .slice none 0 0] 24) = wg at HN0 HYg hbg hFg ⊢
            clear x0 x1
            have y0 := HYg.cell 0 _ rfl
            have y1 := HYg.cell 1 _ rfl
            have y2 := HYg.cell 2 _ rfl
            have y3 := HYg.cell 3 _ rfl
            have HC1 := Lib.hid (pRightR total (seq + 1) (next + 1) cur (some ⟨gv, 0, none⟩) (len + 1) cv (l ++ [(next, M, many)]) wg ht hFg)
            go_wp2_with fail
            clear y0 y1 y2 y3
            refine HC1.out.mono ?_
            rintro e wh ⟨rfl, hbh⟩
            rw [hrv.out]
            have HNh := HN0.of_block (hbh.block gn HN0.lt)
            have n0 := HNh.cell 0 _ rfl
            have n1 := HNh.cell 1 _ rfl
            have n2 := HNh.cell 2 _ rfl
            have n3 := HNh.cell 3 _ rfl
            have HC2 := Lib.hid (pRightR total seq next 0 none 0 0 [] wh ht ⟨rfl, .inl rfl⟩)
            have HW := Lib.hid (HBr.out.trans ((hbg.trans (hbh.mono hbg.size)).mono HBr.out.size))
            clear HC1 HN0 HYg hbg hFg hbh
            go_wp2_with fail
            refine HC2.out.mono ?_
            rintro e wi ⟨rfl, hbi⟩
            rw [right_bare HP.out]
            clear n0 n1 n2 n3
            go_wp2
            go_ret
            exact ⟨rfl, HW.out.trans (hbi.mono HW.out.size)⟩
  · have HN : Hid (rv = false ∨ 9007199254740991 ≤ seq ∨ 9007199254740991 ≤ next) := by
      show _ ∨ _
      cases rv with
      | false => exact .inl rfl
      | true => right; simp only [true_and, not_and] at hgo; omega
    clear hgo hP
    go_enter Try.func8, Try.ntmps8
    go_wp2_with fail
    obtain ⟨q, hq⟩ : ∃ q, Hid (q = W.heap.size) := ⟨_, rfl⟩
    rw [← hq.out] at HX ⊢
    generalize W.alloc (.cells #[.int .i64 seq, .int .i64 next, .int .i64 cur, .slice ad len cap] 24) = w1 at HX HB0 HF0 ⊢
    have HXh := Lib.hid HX
    clear HX
    refine (HEx.out w1).mono ?_
    rintro e w2 ⟨rfl, hb2⟩
    have HB2 := Lib.hid (HB0.out.trans (hb2.mono HB0.out.size))
    have HF2 := Lib.hid (HF0.out.below hb2)
    have HX2 := Lib.hid (HXh.out.of_block (hb2.block q HXh.out.lt))
    clear hb2 HB0 HF0 HXh
    have x0 := HX2.out.cell 0 _ rfl
    have x1 := HX2.out.cell 1 _ rfl
    have x2 := HX2.out.cell 2 _ rfl
    have x3 := HX2.out.cell 3 _ rfl
    go_wp2_with fail
    refine (HR.out w2 HF2.out).mono ?_
    rintro e w3 ⟨rfl, hb3⟩
    have HB3 := Lib.hid (HB2.out.trans (hb3.mono HB2.out.size))
    have HX3 := Lib.hid (HX2.out.of_block (hb3.block q HX2.out.lt))
    clear hb3 HB2 HF2 HX2 x0 x1 x2 x3 HR HEx
    have x0 := HX3.out.cell 0 _ rfl
    have x1 := HX3.out.cell 1 _ rfl
    rcases HN.out with rfl | h | h
    · go_wp2
      go_ret
      exact ⟨rfl, HB3.out⟩
    · cases rv
      all_goals
        go_wp2
        go_ret
        exact ⟨rfl, HB3.out⟩
    · by_cases h' : 9007199254740991 ≤ seq
      all_goals
        cases rv
        all_goals
          go_wp2
          go_ret
          exact ⟨rfl, HB3.out⟩
end Go.Proofs.Ytbfdhonmmoikdaa
