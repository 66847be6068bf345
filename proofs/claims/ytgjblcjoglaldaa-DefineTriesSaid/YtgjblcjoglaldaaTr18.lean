/- The law DefineTries (layer 18), walked over the contract of the program's definitions (printed by gentr18.py). -/
import Derived.Test.YtgjblcjoglaldaaEx18
import Derived.Test.YtgjblcjoglaldaaAp18
import Derived.Test.YtgjblcjoglaldaaOrdS
import Derived.Test.YtgjblcjoglaldaaOrd2
namespace Go.Proofs.Ytgjblcjoglaldaa
open Go.RowKit Go.Proofs Go.Proofs.Pk
set_option maxRecDepth 10000
attribute [local simp] mk_get wrap64_u8 mk_extract ByteArray.mk_append_mk get_1k

set_option maxHeartbeats 16000000 in
theorem tries18 {N : Nat} (K : DfK N) (ad : Option Addr) (len cap : Nat) (d : DefV) (rt tm : Int) (w : World) (hrt : FitI rt) (htm : FitI tm) (h1 : DefA w ad len cap d) :
    Calls Try.prog 7 #[defC d.1 ad len cap, .int .i64 rt, .int .i64 tm] w fun e w' => e = .returned (.bool true) ∧ Kept (fun _ => False) w w' := by
  have hlb := h1.2
  have h0 := h1.1
  have HB := Lib.hid (DBox.new (Kept.refl _ w) h0)
  obtain ⟨nm, hnm⟩ : ∃ nm, Hid (nm = d.1) := ⟨_, rfl⟩
  have H0 := Lib.hid h0
  have HDL := Lib.hid h0.1.1
  have hnl : (nm.length : Int) ≤ 140737488351232 := by rw [hnm.out]; exact h0.2.2
  have HFI : Hid (∀ m ∈ d.2 ++ [(rt, tm)], FitSt m) := fun m hm => by
    rcases List.mem_append.1 hm with h | h
    · obtain ⟨i, hi, rfl⟩ := List.getElem_of_mem h
      obtain ⟨_, _, _, _, _, _, hf⟩ := h0.1.at i hi
      exact hf
    · rw [List.mem_singleton] at h; subst h; exact ⟨hrt, htm⟩
  unfold defC
  rw [← hnm.out] at HB ⊢
  clear h0 h1
  go_enter Try.func7, Try.ntmps7
  go_upto_region 1 with fail
  obtain ⟨g, hg⟩ : ∃ g, g = w.heap.size := ⟨_, rfl⟩
  rw [← hg] at HB ⊢
  change Code.wp _ _ _ _ (w.alloc (.cells #[.string ⟨nm.toArray⟩, .slice ad len cap] 24))
  generalize w.alloc (.cells #[.string ⟨nm.toArray⟩, .slice ad len cap] 24) = wa at HB ⊢
  clear hg
  have HX := Lib.hid (examples18 K wa)
  go_wp2_with fail
  refine HX.out.mono ?_
  rintro e w1 ⟨rfl, hk⟩
  have HB1 := Lib.hid (HB.out.quiet hk)
  clear hk HX HB
  go_upto_region 2 with fail
  go_cut [8] from 10 (fun x8 wx => ∃ (cb : Nat) (a2 : Option Addr) (p2 : Nat), x8 = .pointer (some ⟨cb, 0, none⟩) ∧ Hid (DBox w wx g ad len cap d ∧ DBox w wx cb a2 (len + 1) p2 (nm, d.2 ++ [(rt, tm)])))
  case first =>
    have hS0 : (fun W : World => DBox w W g ad len cap d) w1.drew := HB1.out.quiet ((Kept.refl _ w1).drewN 1)
    refine wp_region_until (fun W : World => DBox w W g ad len cap d) 12 (by kernel_rfl) ?_
    generalize w1.drew = u0 at hS0 ⊢
    clear HB1
    refine wpAnyU_take (i := 0) (v := (.pointer (some ⟨g, 0, none⟩))) (some 10) rfl rfl (by kernel_rfl) (by kernel_rfl) (by kernel_rfl) (by kernel_rfl) (fun _ _ _ h => h) hS0 (yields_of (by kernel_rfl) (fun w hw => by go_simp)) ?_
    refine wpAnyU_take (i := 1) (v := (.string ⟨nm.toArray⟩)) (some 11) rfl rfl (by kernel_rfl) (by kernel_rfl) (by kernel_rfl) (by kernel_rfl) (fun _ _ _ h => h) hS0 (yields_of (by kernel_rfl) (fun w hw => by obtain ⟨d0, d1⟩ := hw.cells; rw [← hnm.out] at d0; go_simp)) ?_
    refine wpAnyU_take (i := 2) (v := (.pointer (some ⟨g, 1, none⟩))) (some 12) rfl rfl (by kernel_rfl) (by kernel_rfl) (by kernel_rfl) (by kernel_rfl) (fun _ _ _ h => h) hS0 (yields_of (by kernel_rfl) (fun w hw => by go_simp)) ?_
    refine wpAnyU_take (i := 3) (v := (.slice ad len cap)) (some 13) rfl rfl (by kernel_rfl) (by kernel_rfl) (by kernel_rfl) (by kernel_rfl) (fun _ _ _ h => h) hS0 (yields_of (by kernel_rfl) (fun w hw => by obtain ⟨d0, d1⟩ := hw.cells; rw [← hnm.out] at d0; go_simp)) ?_
    refine wpAnyU_take (i := 5) (v := (.int .i64 rt)) (some 15) rfl rfl (by kernel_rfl) (by kernel_rfl) (by kernel_rfl) (by kernel_rfl) (fun _ _ _ h => h) hS0 (yields_of (by kernel_rfl) (fun w hw => by go_simp)) ?_
    refine wpAnyU_take (i := 6) (v := (.int .i64 tm)) (some 16) rfl rfl (by kernel_rfl) (by kernel_rfl) (by kernel_rfl) (by kernel_rfl) (fun _ _ _ h => h) hS0 (yields_of (by kernel_rfl) (fun w hw => by go_simp)) ?_
    refine wpAnyU_take (i := 7) (v := (.agg #[.int .i64 rt, .int .i64 tm])) (some 17) rfl rfl (by kernel_rfl) (by kernel_rfl) (by kernel_rfl) (by kernel_rfl) (fun _ _ _ h => h) hS0 (yields_of (by kernel_rfl) (fun w hw => by go_simp)) ?_
    have hS0 : DBox w u0 g ad len cap d := hS0
    refine wpAnyU_each [4, 8, 11] (by kernel_rfl) (by simp) fun i hi => ?_
    simp only [List.mem_cons, List.not_mem_nil, or_false] at hi
    rcases hi with rfl | rfl | rfl
    · skip
      obtain ⟨a1, p1, u1, xA, hA, kk⟩ := app_copy (W := u0) w.heap.size hS0.df.1 hS0.df.2.1 hS0.kept.size
      have hS1 := hS0.quiet kk
      refine ⟨_, 14, .slice a1 len p1, u1, rfl, rfl, rfl, exec_append (s := .const (.slice none 0 0)) (x := .tmp 13) xA (by rfl) (by rfl) (by kernel_rfl) (by kernel_rfl), hS1, ?_⟩
      refine wpAnyU_each [8, 11] (by kernel_rfl) (by simp) fun i hi => ?_
      simp only [List.mem_cons, List.not_mem_nil, or_false] at hi
      rcases hi with rfl | rfl
      · skip
        have kk := (Kept.refl (fun _ => False) u1).alloc (.cells #[.int .i64 rt, .int .i64 tm] 43)
        have hS2 := hS1.quiet kk
        have hA := owns_kept hA kk
        have hN := Holds.new u1 (stC (rt, tm)) 43
        refine ⟨_, 18, .slice (some ⟨u1.heap.size, 0, none⟩) 1 1, u1.alloc (.cells #[.int .i64 rt, .int .i64 tm] 43), rfl, rfl, rfl, by kernel_rfl, hS2, ?_⟩
        change Holds (u1.alloc (.cells #[.int .i64 rt, .int .i64 tm] 43)) _ _ _ at hN
        obtain ⟨bb, hbbe⟩ : ∃ bb, bb = u1.heap.size := ⟨_, rfl⟩
        rw [← hbbe] at hN ⊢
        clear hbbe kk
        generalize u1.alloc (.cells #[.int .i64 rt, .int .i64 tm] 43) = u2 at hN hS2 hA ⊢
        refine wpAnyU_each [9, 11] (by kernel_rfl) (by simp) fun i hi => ?_
        simp only [List.mem_cons, List.not_mem_nil, or_false] at hi
        rcases hi with rfl | rfl
        · skip
          obtain ⟨a2, p2, u3, xM, hM, kk⟩ := app_more (s := (rt, tm)) hA hN (by omega) hS2.kept.size
          have hS3 := hS2.past H0.out.1 kk (own_ne_boxD hA hS2.box (by decide)) (fun z hz => (hA.lt z hz).1)
          refine ⟨_, 19, .slice a2 (len + 1) p2, u3, rfl, rfl, rfl, exec_append (s := .tmp 14) (x := .tmp 18) xM (by rfl) (by rfl) (by kernel_rfl) (by kernel_rfl), hS3, ?_⟩
          refine wpAnyU_take (i := 10) (v := (.agg #[.string ⟨nm.toArray⟩, .slice a2 (len + 1) p2])) (some 20) rfl rfl (by kernel_rfl) (by kernel_rfl) (by kernel_rfl) (by kernel_rfl) (fun _ _ _ h => h) hS3 (yields_of (by kernel_rfl) (fun w hw => by kernel_rfl)) ?_
          refine wpAnyU_each [11] (by kernel_rfl) (by simp) fun i hi => ?_
          obtain rfl := List.mem_singleton.1 hi
          have kk := (Kept.refl (fun _ => False) u3).alloc (.cells #[.string ⟨#[]⟩, .slice none 0 0] 24)
          have hS4 := hS3.quiet kk
          have hM := owns_kept hM kk
          have hC := Holds.new u3 [.string ⟨#[]⟩, .slice none 0 0] 24
          have hcb : w.heap.size ≤ u3.heap.size := hS3.kept.size
          have hgc : g < u3.heap.size := hS3.box.lt
          refine ⟨_, 8, .pointer (some ⟨u3.heap.size, 0, none⟩), u3.alloc (.cells #[.string ⟨#[]⟩, .slice none 0 0] 24), rfl, rfl, rfl, by kernel_rfl, hS4, ?_⟩
          change Holds (u3.alloc (.cells #[.string ⟨#[]⟩, .slice none 0 0] 24)) _ _ _ at hC
          obtain ⟨cb, hcbe⟩ : ∃ cb, cb = u3.heap.size := ⟨_, rfl⟩
          rw [← hcbe] at hC hcb hgc ⊢
          clear hcbe kk
          generalize u3.alloc (.cells #[.string ⟨#[]⟩, .slice none 0 0] 24) = u4 at hC hS4 hM ⊢
          obtain ⟨hx, _, hks⟩ := DBox.stored (nm := nm) hS4.kept hC hcb hM (by rw [List.length_append, HDL.out]; rfl) HFI.out (by omega) hnl
          have hF := hS4.past H0.out.1 hks (by omega) (fun z hz => by omega)
          have r0 := Holds.cell hC 0 _ rfl
          have r1 := Holds.cell hC 1 _ rfl
          have q0 := Holds.free hC 0
          have q1 := Holds.free hC 1
          refine wpAnyU_skip (i := 12) (w' := ((u4.setCell ⟨cb, 0, none⟩ (.string ⟨nm.toArray⟩)).setCell ⟨cb, 1, none⟩ (.slice a2 (len + 1) p2))) none rfl rfl (by kernel_rfl) (by kernel_rfl) (by simp only [put_lit, List.set_cons_succ, List.set_cons_zero]; go_simp) (fun h => absurd h (by decide)) ?_
          refine wpAnyU_done (by kernel_rfl) ?_ _
          simp only [put_none, put_lit, List.set_cons_succ, List.set_cons_zero]
          have HFN := Lib.hid (And.intro hF hx)
          clear hF hx hks r0 r1 q0 q1
          generalize ((u4.setCell ⟨cb, 0, none⟩ (.string ⟨nm.toArray⟩)).setCell ⟨cb, 1, none⟩ (.slice a2 (len + 1) p2)) = wf at HFN ⊢
          go_wp2
          go_meet
          case rel => exact ⟨cb, a2, p2, rfl, HFN⟩
        · skip
          have kk := (Kept.refl (fun _ => False) u2).alloc (.cells #[.string ⟨#[]⟩, .slice none 0 0] 24)
          have hS3 := hS2.quiet kk
          have hA := owns_kept hA kk
          have hN := holds_kept hN kk
          have hC := Holds.new u2 [.string ⟨#[]⟩, .slice none 0 0] 24
          have hcb : w.heap.size ≤ u2.heap.size := hS2.kept.size
          have hgc : g < u2.heap.size := hS2.box.lt
          refine ⟨_, 8, .pointer (some ⟨u2.heap.size, 0, none⟩), u2.alloc (.cells #[.string ⟨#[]⟩, .slice none 0 0] 24), rfl, rfl, rfl, by kernel_rfl, hS3, ?_⟩
          change Holds (u2.alloc (.cells #[.string ⟨#[]⟩, .slice none 0 0] 24)) _ _ _ at hC
          obtain ⟨cb, hcbe⟩ : ∃ cb, cb = u2.heap.size := ⟨_, rfl⟩
          rw [← hcbe] at hC hcb hgc ⊢
          clear hcbe kk
          generalize u2.alloc (.cells #[.string ⟨#[]⟩, .slice none 0 0] 24) = u3 at hC hS3 hA hN ⊢
          refine wpAnyU_each [9] (by kernel_rfl) (by simp) fun i hi => ?_
          obtain rfl := List.mem_singleton.1 hi
          obtain ⟨a2, p2, u4, xM, hM, kk⟩ := app_more (s := (rt, tm)) hA hN (by omega) hS3.kept.size
          have hS4 := hS3.past H0.out.1 kk (own_ne_boxD hA hS3.box (by decide)) (fun z hz => (hA.lt z hz).1)
          have hC := hC.of_block (kk.block cb hC.lt (own_ne_boxD hA hC (by decide)))
          refine ⟨_, 19, .slice a2 (len + 1) p2, u4, rfl, rfl, rfl, exec_append (s := .tmp 14) (x := .tmp 18) xM (by rfl) (by rfl) (by kernel_rfl) (by kernel_rfl), hS4, ?_⟩
          refine wpAnyU_take (i := 10) (v := (.agg #[.string ⟨nm.toArray⟩, .slice a2 (len + 1) p2])) (some 20) rfl rfl (by kernel_rfl) (by kernel_rfl) (by kernel_rfl) (by kernel_rfl) (fun _ _ _ h => h) hS4 (yields_of (by kernel_rfl) (fun w hw => by kernel_rfl)) ?_
          obtain ⟨hx, _, hks⟩ := DBox.stored (nm := nm) hS4.kept hC hcb hM (by rw [List.length_append, HDL.out]; rfl) HFI.out (by omega) hnl
          have hF := hS4.past H0.out.1 hks (by omega) (fun z hz => by omega)
          have r0 := Holds.cell hC 0 _ rfl
          have r1 := Holds.cell hC 1 _ rfl
          have q0 := Holds.free hC 0
          have q1 := Holds.free hC 1
          refine wpAnyU_skip (i := 12) (w' := ((u4.setCell ⟨cb, 0, none⟩ (.string ⟨nm.toArray⟩)).setCell ⟨cb, 1, none⟩ (.slice a2 (len + 1) p2))) none rfl rfl (by kernel_rfl) (by kernel_rfl) (by simp only [put_lit, List.set_cons_succ, List.set_cons_zero]; go_simp) (fun h => absurd h (by decide)) ?_
          refine wpAnyU_done (by kernel_rfl) ?_ _
          simp only [put_none, put_lit, List.set_cons_succ, List.set_cons_zero]
          have HFN := Lib.hid (And.intro hF hx)
          clear hF hx hks r0 r1 q0 q1
          generalize ((u4.setCell ⟨cb, 0, none⟩ (.string ⟨nm.toArray⟩)).setCell ⟨cb, 1, none⟩ (.slice a2 (len + 1) p2)) = wf at HFN ⊢
          go_wp2
          go_meet
          case rel => exact ⟨cb, a2, p2, rfl, HFN⟩
      · skip
        have kk := (Kept.refl (fun _ => False) u1).alloc (.cells #[.string ⟨#[]⟩, .slice none 0 0] 24)
        have hS2 := hS1.quiet kk
        have hA := owns_kept hA kk
        have hC := Holds.new u1 [.string ⟨#[]⟩, .slice none 0 0] 24
        have hcb : w.heap.size ≤ u1.heap.size := hS1.kept.size
        have hgc : g < u1.heap.size := hS1.box.lt
        refine ⟨_, 8, .pointer (some ⟨u1.heap.size, 0, none⟩), u1.alloc (.cells #[.string ⟨#[]⟩, .slice none 0 0] 24), rfl, rfl, rfl, by kernel_rfl, hS2, ?_⟩
        change Holds (u1.alloc (.cells #[.string ⟨#[]⟩, .slice none 0 0] 24)) _ _ _ at hC
        obtain ⟨cb, hcbe⟩ : ∃ cb, cb = u1.heap.size := ⟨_, rfl⟩
        rw [← hcbe] at hC hcb hgc ⊢
        clear hcbe kk
        generalize u1.alloc (.cells #[.string ⟨#[]⟩, .slice none 0 0] 24) = u2 at hC hS2 hA ⊢
        refine wpAnyU_each [8] (by kernel_rfl) (by simp) fun i hi => ?_
        obtain rfl := List.mem_singleton.1 hi
        have kk := (Kept.refl (fun _ => False) u2).alloc (.cells #[.int .i64 rt, .int .i64 tm] 43)
        have hS3 := hS2.quiet kk
        have hA := owns_kept hA kk
        have hC := holds_kept hC kk
        have hN := Holds.new u2 (stC (rt, tm)) 43
        refine ⟨_, 18, .slice (some ⟨u2.heap.size, 0, none⟩) 1 1, u2.alloc (.cells #[.int .i64 rt, .int .i64 tm] 43), rfl, rfl, rfl, by kernel_rfl, hS3, ?_⟩
        change Holds (u2.alloc (.cells #[.int .i64 rt, .int .i64 tm] 43)) _ _ _ at hN
        obtain ⟨bb, hbbe⟩ : ∃ bb, bb = u2.heap.size := ⟨_, rfl⟩
        rw [← hbbe] at hN ⊢
        clear hbbe kk
        generalize u2.alloc (.cells #[.int .i64 rt, .int .i64 tm] 43) = u3 at hN hS3 hA hC ⊢
        refine wpAnyU_each [9] (by kernel_rfl) (by simp) fun i hi => ?_
        obtain rfl := List.mem_singleton.1 hi
        obtain ⟨a2, p2, u4, xM, hM, kk⟩ := app_more (s := (rt, tm)) hA hN (by omega) hS3.kept.size
        have hS4 := hS3.past H0.out.1 kk (own_ne_boxD hA hS3.box (by decide)) (fun z hz => (hA.lt z hz).1)
        have hC := hC.of_block (kk.block cb hC.lt (own_ne_boxD hA hC (by decide)))
        refine ⟨_, 19, .slice a2 (len + 1) p2, u4, rfl, rfl, rfl, exec_append (s := .tmp 14) (x := .tmp 18) xM (by rfl) (by rfl) (by kernel_rfl) (by kernel_rfl), hS4, ?_⟩
        refine wpAnyU_take (i := 10) (v := (.agg #[.string ⟨nm.toArray⟩, .slice a2 (len + 1) p2])) (some 20) rfl rfl (by kernel_rfl) (by kernel_rfl) (by kernel_rfl) (by kernel_rfl) (fun _ _ _ h => h) hS4 (yields_of (by kernel_rfl) (fun w hw => by kernel_rfl)) ?_
        obtain ⟨hx, _, hks⟩ := DBox.stored (nm := nm) hS4.kept hC hcb hM (by rw [List.length_append, HDL.out]; rfl) HFI.out (by omega) hnl
        have hF := hS4.past H0.out.1 hks (by omega) (fun z hz => by omega)
        have r0 := Holds.cell hC 0 _ rfl
        have r1 := Holds.cell hC 1 _ rfl
        have q0 := Holds.free hC 0
        have q1 := Holds.free hC 1
        refine wpAnyU_skip (i := 12) (w' := ((u4.setCell ⟨cb, 0, none⟩ (.string ⟨nm.toArray⟩)).setCell ⟨cb, 1, none⟩ (.slice a2 (len + 1) p2))) none rfl rfl (by kernel_rfl) (by kernel_rfl) (by simp only [put_lit, List.set_cons_succ, List.set_cons_zero]; go_simp) (fun h => absurd h (by decide)) ?_
        refine wpAnyU_done (by kernel_rfl) ?_ _
        simp only [put_none, put_lit, List.set_cons_succ, List.set_cons_zero]
        have HFN := Lib.hid (And.intro hF hx)
        clear hF hx hks r0 r1 q0 q1
        generalize ((u4.setCell ⟨cb, 0, none⟩ (.string ⟨nm.toArray⟩)).setCell ⟨cb, 1, none⟩ (.slice a2 (len + 1) p2)) = wf at HFN ⊢
        go_wp2
        go_meet
        case rel => exact ⟨cb, a2, p2, rfl, HFN⟩
    · skip
      have kk := (Kept.refl (fun _ => False) u0).alloc (.cells #[.int .i64 rt, .int .i64 tm] 43)
      have hS1 := hS0.quiet kk
      have hN := Holds.new u0 (stC (rt, tm)) 43
      refine ⟨_, 18, .slice (some ⟨u0.heap.size, 0, none⟩) 1 1, u0.alloc (.cells #[.int .i64 rt, .int .i64 tm] 43), rfl, rfl, rfl, by kernel_rfl, hS1, ?_⟩
      change Holds (u0.alloc (.cells #[.int .i64 rt, .int .i64 tm] 43)) _ _ _ at hN
      obtain ⟨bb, hbbe⟩ : ∃ bb, bb = u0.heap.size := ⟨_, rfl⟩
      rw [← hbbe] at hN ⊢
      clear hbbe kk
      generalize u0.alloc (.cells #[.int .i64 rt, .int .i64 tm] 43) = u1 at hN hS1 ⊢
      refine wpAnyU_each [4, 11] (by kernel_rfl) (by simp) fun i hi => ?_
      simp only [List.mem_cons, List.not_mem_nil, or_false] at hi
      rcases hi with rfl | rfl
      · skip
        obtain ⟨a1, p1, u2, xA, hA, kk⟩ := app_copy (W := u1) w.heap.size hS1.df.1 hS1.df.2.1 hS1.kept.size
        have hS2 := hS1.quiet kk
        have hN := holds_kept hN kk
        refine ⟨_, 14, .slice a1 len p1, u2, rfl, rfl, rfl, exec_append (s := .const (.slice none 0 0)) (x := .tmp 13) xA (by rfl) (by rfl) (by kernel_rfl) (by kernel_rfl), hS2, ?_⟩
        refine wpAnyU_each [9, 11] (by kernel_rfl) (by simp) fun i hi => ?_
        simp only [List.mem_cons, List.not_mem_nil, or_false] at hi
        rcases hi with rfl | rfl
        · skip
          obtain ⟨a2, p2, u3, xM, hM, kk⟩ := app_more (s := (rt, tm)) hA hN (by omega) hS2.kept.size
          have hS3 := hS2.past H0.out.1 kk (own_ne_boxD hA hS2.box (by decide)) (fun z hz => (hA.lt z hz).1)
          refine ⟨_, 19, .slice a2 (len + 1) p2, u3, rfl, rfl, rfl, exec_append (s := .tmp 14) (x := .tmp 18) xM (by rfl) (by rfl) (by kernel_rfl) (by kernel_rfl), hS3, ?_⟩
          refine wpAnyU_take (i := 10) (v := (.agg #[.string ⟨nm.toArray⟩, .slice a2 (len + 1) p2])) (some 20) rfl rfl (by kernel_rfl) (by kernel_rfl) (by kernel_rfl) (by kernel_rfl) (fun _ _ _ h => h) hS3 (yields_of (by kernel_rfl) (fun w hw => by kernel_rfl)) ?_
          refine wpAnyU_each [11] (by kernel_rfl) (by simp) fun i hi => ?_
          obtain rfl := List.mem_singleton.1 hi
          have kk := (Kept.refl (fun _ => False) u3).alloc (.cells #[.string ⟨#[]⟩, .slice none 0 0] 24)
          have hS4 := hS3.quiet kk
          have hM := owns_kept hM kk
          have hC := Holds.new u3 [.string ⟨#[]⟩, .slice none 0 0] 24
          have hcb : w.heap.size ≤ u3.heap.size := hS3.kept.size
          have hgc : g < u3.heap.size := hS3.box.lt
          refine ⟨_, 8, .pointer (some ⟨u3.heap.size, 0, none⟩), u3.alloc (.cells #[.string ⟨#[]⟩, .slice none 0 0] 24), rfl, rfl, rfl, by kernel_rfl, hS4, ?_⟩
          change Holds (u3.alloc (.cells #[.string ⟨#[]⟩, .slice none 0 0] 24)) _ _ _ at hC
          obtain ⟨cb, hcbe⟩ : ∃ cb, cb = u3.heap.size := ⟨_, rfl⟩
          rw [← hcbe] at hC hcb hgc ⊢
          clear hcbe kk
          generalize u3.alloc (.cells #[.string ⟨#[]⟩, .slice none 0 0] 24) = u4 at hC hS4 hM ⊢
          obtain ⟨hx, _, hks⟩ := DBox.stored (nm := nm) hS4.kept hC hcb hM (by rw [List.length_append, HDL.out]; rfl) HFI.out (by omega) hnl
          have hF := hS4.past H0.out.1 hks (by omega) (fun z hz => by omega)
          have r0 := Holds.cell hC 0 _ rfl
          have r1 := Holds.cell hC 1 _ rfl
          have q0 := Holds.free hC 0
          have q1 := Holds.free hC 1
          refine wpAnyU_skip (i := 12) (w' := ((u4.setCell ⟨cb, 0, none⟩ (.string ⟨nm.toArray⟩)).setCell ⟨cb, 1, none⟩ (.slice a2 (len + 1) p2))) none rfl rfl (by kernel_rfl) (by kernel_rfl) (by simp only [put_lit, List.set_cons_succ, List.set_cons_zero]; go_simp) (fun h => absurd h (by decide)) ?_
          refine wpAnyU_done (by kernel_rfl) ?_ _
          simp only [put_none, put_lit, List.set_cons_succ, List.set_cons_zero]
          have HFN := Lib.hid (And.intro hF hx)
          clear hF hx hks r0 r1 q0 q1
          generalize ((u4.setCell ⟨cb, 0, none⟩ (.string ⟨nm.toArray⟩)).setCell ⟨cb, 1, none⟩ (.slice a2 (len + 1) p2)) = wf at HFN ⊢
          go_wp2
          go_meet
          case rel => exact ⟨cb, a2, p2, rfl, HFN⟩
        · skip
          have kk := (Kept.refl (fun _ => False) u2).alloc (.cells #[.string ⟨#[]⟩, .slice none 0 0] 24)
          have hS3 := hS2.quiet kk
          have hA := owns_kept hA kk
          have hN := holds_kept hN kk
          have hC := Holds.new u2 [.string ⟨#[]⟩, .slice none 0 0] 24
          have hcb : w.heap.size ≤ u2.heap.size := hS2.kept.size
          have hgc : g < u2.heap.size := hS2.box.lt
          refine ⟨_, 8, .pointer (some ⟨u2.heap.size, 0, none⟩), u2.alloc (.cells #[.string ⟨#[]⟩, .slice none 0 0] 24), rfl, rfl, rfl, by kernel_rfl, hS3, ?_⟩
          change Holds (u2.alloc (.cells #[.string ⟨#[]⟩, .slice none 0 0] 24)) _ _ _ at hC
          obtain ⟨cb, hcbe⟩ : ∃ cb, cb = u2.heap.size := ⟨_, rfl⟩
          rw [← hcbe] at hC hcb hgc ⊢
          clear hcbe kk
          generalize u2.alloc (.cells #[.string ⟨#[]⟩, .slice none 0 0] 24) = u3 at hC hS3 hA hN ⊢
          refine wpAnyU_each [9] (by kernel_rfl) (by simp) fun i hi => ?_
          obtain rfl := List.mem_singleton.1 hi
          obtain ⟨a2, p2, u4, xM, hM, kk⟩ := app_more (s := (rt, tm)) hA hN (by omega) hS3.kept.size
          have hS4 := hS3.past H0.out.1 kk (own_ne_boxD hA hS3.box (by decide)) (fun z hz => (hA.lt z hz).1)
          have hC := hC.of_block (kk.block cb hC.lt (own_ne_boxD hA hC (by decide)))
          refine ⟨_, 19, .slice a2 (len + 1) p2, u4, rfl, rfl, rfl, exec_append (s := .tmp 14) (x := .tmp 18) xM (by rfl) (by rfl) (by kernel_rfl) (by kernel_rfl), hS4, ?_⟩
          refine wpAnyU_take (i := 10) (v := (.agg #[.string ⟨nm.toArray⟩, .slice a2 (len + 1) p2])) (some 20) rfl rfl (by kernel_rfl) (by kernel_rfl) (by kernel_rfl) (by kernel_rfl) (fun _ _ _ h => h) hS4 (yields_of (by kernel_rfl) (fun w hw => by kernel_rfl)) ?_
          obtain ⟨hx, _, hks⟩ := DBox.stored (nm := nm) hS4.kept hC hcb hM (by rw [List.length_append, HDL.out]; rfl) HFI.out (by omega) hnl
          have hF := hS4.past H0.out.1 hks (by omega) (fun z hz => by omega)
          have r0 := Holds.cell hC 0 _ rfl
          have r1 := Holds.cell hC 1 _ rfl
          have q0 := Holds.free hC 0
          have q1 := Holds.free hC 1
          refine wpAnyU_skip (i := 12) (w' := ((u4.setCell ⟨cb, 0, none⟩ (.string ⟨nm.toArray⟩)).setCell ⟨cb, 1, none⟩ (.slice a2 (len + 1) p2))) none rfl rfl (by kernel_rfl) (by kernel_rfl) (by simp only [put_lit, List.set_cons_succ, List.set_cons_zero]; go_simp) (fun h => absurd h (by decide)) ?_
          refine wpAnyU_done (by kernel_rfl) ?_ _
          simp only [put_none, put_lit, List.set_cons_succ, List.set_cons_zero]
          have HFN := Lib.hid (And.intro hF hx)
          clear hF hx hks r0 r1 q0 q1
          generalize ((u4.setCell ⟨cb, 0, none⟩ (.string ⟨nm.toArray⟩)).setCell ⟨cb, 1, none⟩ (.slice a2 (len + 1) p2)) = wf at HFN ⊢
          go_wp2
          go_meet
          case rel => exact ⟨cb, a2, p2, rfl, HFN⟩
      · skip
        have kk := (Kept.refl (fun _ => False) u1).alloc (.cells #[.string ⟨#[]⟩, .slice none 0 0] 24)
        have hS2 := hS1.quiet kk
        have hN := holds_kept hN kk
        have hC := Holds.new u1 [.string ⟨#[]⟩, .slice none 0 0] 24
        have hcb : w.heap.size ≤ u1.heap.size := hS1.kept.size
        have hgc : g < u1.heap.size := hS1.box.lt
        refine ⟨_, 8, .pointer (some ⟨u1.heap.size, 0, none⟩), u1.alloc (.cells #[.string ⟨#[]⟩, .slice none 0 0] 24), rfl, rfl, rfl, by kernel_rfl, hS2, ?_⟩
        change Holds (u1.alloc (.cells #[.string ⟨#[]⟩, .slice none 0 0] 24)) _ _ _ at hC
        obtain ⟨cb, hcbe⟩ : ∃ cb, cb = u1.heap.size := ⟨_, rfl⟩
        rw [← hcbe] at hC hcb hgc ⊢
        clear hcbe kk
        generalize u1.alloc (.cells #[.string ⟨#[]⟩, .slice none 0 0] 24) = u2 at hC hS2 hN ⊢
        refine wpAnyU_each [4] (by kernel_rfl) (by simp) fun i hi => ?_
        obtain rfl := List.mem_singleton.1 hi
        obtain ⟨a1, p1, u3, xA, hA, kk⟩ := app_copy (W := u2) w.heap.size hS2.df.1 hS2.df.2.1 hS2.kept.size
        have hS3 := hS2.quiet kk
        have hN := holds_kept hN kk
        have hC := holds_kept hC kk
        refine ⟨_, 14, .slice a1 len p1, u3, rfl, rfl, rfl, exec_append (s := .const (.slice none 0 0)) (x := .tmp 13) xA (by rfl) (by rfl) (by kernel_rfl) (by kernel_rfl), hS3, ?_⟩
        refine wpAnyU_each [9] (by kernel_rfl) (by simp) fun i hi => ?_
        obtain rfl := List.mem_singleton.1 hi
        obtain ⟨a2, p2, u4, xM, hM, kk⟩ := app_more (s := (rt, tm)) hA hN (by omega) hS3.kept.size
        have hS4 := hS3.past H0.out.1 kk (own_ne_boxD hA hS3.box (by decide)) (fun z hz => (hA.lt z hz).1)
        have hC := hC.of_block (kk.block cb hC.lt (own_ne_boxD hA hC (by decide)))
        refine ⟨_, 19, .slice a2 (len + 1) p2, u4, rfl, rfl, rfl, exec_append (s := .tmp 14) (x := .tmp 18) xM (by rfl) (by rfl) (by kernel_rfl) (by kernel_rfl), hS4, ?_⟩
        refine wpAnyU_take (i := 10) (v := (.agg #[.string ⟨nm.toArray⟩, .slice a2 (len + 1) p2])) (some 20) rfl rfl (by kernel_rfl) (by kernel_rfl) (by kernel_rfl) (by kernel_rfl) (fun _ _ _ h => h) hS4 (yields_of (by kernel_rfl) (fun w hw => by kernel_rfl)) ?_
        obtain ⟨hx, _, hks⟩ := DBox.stored (nm := nm) hS4.kept hC hcb hM (by rw [List.length_append, HDL.out]; rfl) HFI.out (by omega) hnl
        have hF := hS4.past H0.out.1 hks (by omega) (fun z hz => by omega)
        have r0 := Holds.cell hC 0 _ rfl
        have r1 := Holds.cell hC 1 _ rfl
        have q0 := Holds.free hC 0
        have q1 := Holds.free hC 1
        refine wpAnyU_skip (i := 12) (w' := ((u4.setCell ⟨cb, 0, none⟩ (.string ⟨nm.toArray⟩)).setCell ⟨cb, 1, none⟩ (.slice a2 (len + 1) p2))) none rfl rfl (by kernel_rfl) (by kernel_rfl) (by simp only [put_lit, List.set_cons_succ, List.set_cons_zero]; go_simp) (fun h => absurd h (by decide)) ?_
        refine wpAnyU_done (by kernel_rfl) ?_ _
        simp only [put_none, put_lit, List.set_cons_succ, List.set_cons_zero]
        have HFN := Lib.hid (And.intro hF hx)
        clear hF hx hks r0 r1 q0 q1
        generalize ((u4.setCell ⟨cb, 0, none⟩ (.string ⟨nm.toArray⟩)).setCell ⟨cb, 1, none⟩ (.slice a2 (len + 1) p2)) = wf at HFN ⊢
        go_wp2
        go_meet
        case rel => exact ⟨cb, a2, p2, rfl, HFN⟩
    · skip
      have kk := (Kept.refl (fun _ => False) u0).alloc (.cells #[.string ⟨#[]⟩, .slice none 0 0] 24)
      have hS1 := hS0.quiet kk
      have hC := Holds.new u0 [.string ⟨#[]⟩, .slice none 0 0] 24
      have hcb : w.heap.size ≤ u0.heap.size := hS0.kept.size
      have hgc : g < u0.heap.size := hS0.box.lt
      refine ⟨_, 8, .pointer (some ⟨u0.heap.size, 0, none⟩), u0.alloc (.cells #[.string ⟨#[]⟩, .slice none 0 0] 24), rfl, rfl, rfl, by kernel_rfl, hS1, ?_⟩
      change Holds (u0.alloc (.cells #[.string ⟨#[]⟩, .slice none 0 0] 24)) _ _ _ at hC
      obtain ⟨cb, hcbe⟩ : ∃ cb, cb = u0.heap.size := ⟨_, rfl⟩
      rw [← hcbe] at hC hcb hgc ⊢
      clear hcbe kk
      generalize u0.alloc (.cells #[.string ⟨#[]⟩, .slice none 0 0] 24) = u1 at hC hS1 ⊢
      refine wpAnyU_each [4, 8] (by kernel_rfl) (by simp) fun i hi => ?_
      simp only [List.mem_cons, List.not_mem_nil, or_false] at hi
      rcases hi with rfl | rfl
      · skip
        obtain ⟨a1, p1, u2, xA, hA, kk⟩ := app_copy (W := u1) w.heap.size hS1.df.1 hS1.df.2.1 hS1.kept.size
        have hS2 := hS1.quiet kk
        have hC := holds_kept hC kk
        refine ⟨_, 14, .slice a1 len p1, u2, rfl, rfl, rfl, exec_append (s := .const (.slice none 0 0)) (x := .tmp 13) xA (by rfl) (by rfl) (by kernel_rfl) (by kernel_rfl), hS2, ?_⟩
        refine wpAnyU_each [8] (by kernel_rfl) (by simp) fun i hi => ?_
        obtain rfl := List.mem_singleton.1 hi
        have kk := (Kept.refl (fun _ => False) u2).alloc (.cells #[.int .i64 rt, .int .i64 tm] 43)
        have hS3 := hS2.quiet kk
        have hA := owns_kept hA kk
        have hC := holds_kept hC kk
        have hN := Holds.new u2 (stC (rt, tm)) 43
        refine ⟨_, 18, .slice (some ⟨u2.heap.size, 0, none⟩) 1 1, u2.alloc (.cells #[.int .i64 rt, .int .i64 tm] 43), rfl, rfl, rfl, by kernel_rfl, hS3, ?_⟩
        change Holds (u2.alloc (.cells #[.int .i64 rt, .int .i64 tm] 43)) _ _ _ at hN
        obtain ⟨bb, hbbe⟩ : ∃ bb, bb = u2.heap.size := ⟨_, rfl⟩
        rw [← hbbe] at hN ⊢
        clear hbbe kk
        generalize u2.alloc (.cells #[.int .i64 rt, .int .i64 tm] 43) = u3 at hN hS3 hA hC ⊢
        refine wpAnyU_each [9] (by kernel_rfl) (by simp) fun i hi => ?_
        obtain rfl := List.mem_singleton.1 hi
        obtain ⟨a2, p2, u4, xM, hM, kk⟩ := app_more (s := (rt, tm)) hA hN (by omega) hS3.kept.size
        have hS4 := hS3.past H0.out.1 kk (own_ne_boxD hA hS3.box (by decide)) (fun z hz => (hA.lt z hz).1)
        have hC := hC.of_block (kk.block cb hC.lt (own_ne_boxD hA hC (by decide)))
        refine ⟨_, 19, .slice a2 (len + 1) p2, u4, rfl, rfl, rfl, exec_append (s := .tmp 14) (x := .tmp 18) xM (by rfl) (by rfl) (by kernel_rfl) (by kernel_rfl), hS4, ?_⟩
        refine wpAnyU_take (i := 10) (v := (.agg #[.string ⟨nm.toArray⟩, .slice a2 (len + 1) p2])) (some 20) rfl rfl (by kernel_rfl) (by kernel_rfl) (by kernel_rfl) (by kernel_rfl) (fun _ _ _ h => h) hS4 (yields_of (by kernel_rfl) (fun w hw => by kernel_rfl)) ?_
        obtain ⟨hx, _, hks⟩ := DBox.stored (nm := nm) hS4.kept hC hcb hM (by rw [List.length_append, HDL.out]; rfl) HFI.out (by omega) hnl
        have hF := hS4.past H0.out.1 hks (by omega) (fun z hz => by omega)
        have r0 := Holds.cell hC 0 _ rfl
        have r1 := Holds.cell hC 1 _ rfl
        have q0 := Holds.free hC 0
        have q1 := Holds.free hC 1
        refine wpAnyU_skip (i := 12) (w' := ((u4.setCell ⟨cb, 0, none⟩ (.string ⟨nm.toArray⟩)).setCell ⟨cb, 1, none⟩ (.slice a2 (len + 1) p2))) none rfl rfl (by kernel_rfl) (by kernel_rfl) (by simp only [put_lit, List.set_cons_succ, List.set_cons_zero]; go_simp) (fun h => absurd h (by decide)) ?_
        refine wpAnyU_done (by kernel_rfl) ?_ _
        simp only [put_none, put_lit, List.set_cons_succ, List.set_cons_zero]
        have HFN := Lib.hid (And.intro hF hx)
        clear hF hx hks r0 r1 q0 q1
        generalize ((u4.setCell ⟨cb, 0, none⟩ (.string ⟨nm.toArray⟩)).setCell ⟨cb, 1, none⟩ (.slice a2 (len + 1) p2)) = wf at HFN ⊢
        go_wp2
        go_meet
        case rel => exact ⟨cb, a2, p2, rfl, HFN⟩
      · skip
        have kk := (Kept.refl (fun _ => False) u1).alloc (.cells #[.int .i64 rt, .int .i64 tm] 43)
        have hS2 := hS1.quiet kk
        have hC := holds_kept hC kk
        have hN := Holds.new u1 (stC (rt, tm)) 43
        refine ⟨_, 18, .slice (some ⟨u1.heap.size, 0, none⟩) 1 1, u1.alloc (.cells #[.int .i64 rt, .int .i64 tm] 43), rfl, rfl, rfl, by kernel_rfl, hS2, ?_⟩
        change Holds (u1.alloc (.cells #[.int .i64 rt, .int .i64 tm] 43)) _ _ _ at hN
        obtain ⟨bb, hbbe⟩ : ∃ bb, bb = u1.heap.size := ⟨_, rfl⟩
        rw [← hbbe] at hN ⊢
        clear hbbe kk
        generalize u1.alloc (.cells #[.int .i64 rt, .int .i64 tm] 43) = u2 at hN hS2 hC ⊢
        refine wpAnyU_each [4] (by kernel_rfl) (by simp) fun i hi => ?_
        obtain rfl := List.mem_singleton.1 hi
        obtain ⟨a1, p1, u3, xA, hA, kk⟩ := app_copy (W := u2) w.heap.size hS2.df.1 hS2.df.2.1 hS2.kept.size
        have hS3 := hS2.quiet kk
        have hN := holds_kept hN kk
        have hC := holds_kept hC kk
        refine ⟨_, 14, .slice a1 len p1, u3, rfl, rfl, rfl, exec_append (s := .const (.slice none 0 0)) (x := .tmp 13) xA (by rfl) (by rfl) (by kernel_rfl) (by kernel_rfl), hS3, ?_⟩
        refine wpAnyU_each [9] (by kernel_rfl) (by simp) fun i hi => ?_
        obtain rfl := List.mem_singleton.1 hi
        obtain ⟨a2, p2, u4, xM, hM, kk⟩ := app_more (s := (rt, tm)) hA hN (by omega) hS3.kept.size
        have hS4 := hS3.past H0.out.1 kk (own_ne_boxD hA hS3.box (by decide)) (fun z hz => (hA.lt z hz).1)
        have hC := hC.of_block (kk.block cb hC.lt (own_ne_boxD hA hC (by decide)))
        refine ⟨_, 19, .slice a2 (len + 1) p2, u4, rfl, rfl, rfl, exec_append (s := .tmp 14) (x := .tmp 18) xM (by rfl) (by rfl) (by kernel_rfl) (by kernel_rfl), hS4, ?_⟩
        refine wpAnyU_take (i := 10) (v := (.agg #[.string ⟨nm.toArray⟩, .slice a2 (len + 1) p2])) (some 20) rfl rfl (by kernel_rfl) (by kernel_rfl) (by kernel_rfl) (by kernel_rfl) (fun _ _ _ h => h) hS4 (yields_of (by kernel_rfl) (fun w hw => by kernel_rfl)) ?_
        obtain ⟨hx, _, hks⟩ := DBox.stored (nm := nm) hS4.kept hC hcb hM (by rw [List.length_append, HDL.out]; rfl) HFI.out (by omega) hnl
        have hF := hS4.past H0.out.1 hks (by omega) (fun z hz => by omega)
        have r0 := Holds.cell hC 0 _ rfl
        have r1 := Holds.cell hC 1 _ rfl
        have q0 := Holds.free hC 0
        have q1 := Holds.free hC 1
        refine wpAnyU_skip (i := 12) (w' := ((u4.setCell ⟨cb, 0, none⟩ (.string ⟨nm.toArray⟩)).setCell ⟨cb, 1, none⟩ (.slice a2 (len + 1) p2))) none rfl rfl (by kernel_rfl) (by kernel_rfl) (by simp only [put_lit, List.set_cons_succ, List.set_cons_zero]; go_simp) (fun h => absurd h (by decide)) ?_
        refine wpAnyU_done (by kernel_rfl) ?_ _
        simp only [put_none, put_lit, List.set_cons_succ, List.set_cons_zero]
        have HFN := Lib.hid (And.intro hF hx)
        clear hF hx hks r0 r1 q0 q1
        generalize ((u4.setCell ⟨cb, 0, none⟩ (.string ⟨nm.toArray⟩)).setCell ⟨cb, 1, none⟩ (.slice a2 (len + 1) p2)) = wf at HFN ⊢
        go_wp2
        go_meet
        case rel => exact ⟨cb, a2, p2, rfl, HFN⟩
  case rest =>
  obtain ⟨cb, a2, p2, rfl, HC⟩ := hcut
  obtain ⟨rx, hrx⟩ : ∃ rx, Hid (rx = rightD (nm, d.2 ++ [(rt, tm)])) := ⟨_, rfl⟩
  have C1 := K.right wc a2 (len + 1) p2 (nm, d.2 ++ [(rt, tm)]) HC.out.2.df
  unfold defC at C1
  rw [← hrx.out] at C1
  have C1 := Lib.hid C1
  obtain ⟨x0, x1⟩ := HC.out.2.cells
  clear HB1
  go_wp2_with fail
  refine C1.out.mono ?_
  rintro e w3 ⟨rfl, hk⟩
  have HC3 := Lib.hid (And.intro (HC.out.1.quiet hk) (HC.out.2.quiet hk))
  clear hk C1 HC x0 x1
  obtain ⟨d0, d1⟩ := HC3.out.1.cells
  rw [← hnm.out] at d0
  cases rx with
  | false =>
    go_wp2
    go_ret
    exact ⟨rfl, HC3.out.1.kept⟩
  | true =>
    by_cases hl0 : len = 0
    · subst hl0
      go_wp2
      go_ret
      exact ⟨rfl, HC3.out.1.kept⟩
    have e0 : ((len : Int) == 0) = false := by rw [beq_eq_false_iff_ne]; omega
    have hdd : (nm, d.2) = d := by rw [hnm.out]
    obtain ⟨hr1, hr2⟩ := right_less hrx.out.symm (by intro h; rw [h] at HDL; have := HDL.out; simp at this; omega)
    rw [hdd] at hr1
    have hrd := right_ofD hr1
    have hst := step_of hr2
    simp only at hst
    have hsb := sum_bounds d.2 hrd.2.2
    have hl6 := (right_ofD hrx.out.symm).2.1.2
    simp only [List.length_append, List.length_singleton] at hl6
    have htx := tries_right hrx.out.symm
    simp only [sum_snoc] at htx
    have htd := tries_right hr1
    obtain ⟨td, htd'⟩ : ∃ td, td = sumD d.2 := ⟨_, rfl⟩
    rw [← htd'] at hsb htx htd
    rw [HDL.out] at hsb hl6
    have C3 := Lib.hid (fun (W : World) (h : DBox w W g ad len cap d) => K.right W ad len cap d h.df)
    have C4 := Lib.hid (fun (W : World) (h : DBox w W cb a2 (len + 1) p2 (nm, d.2 ++ [(rt, tm)])) => K.tries W a2 (len + 1) p2 (nm, d.2 ++ [(rt, tm)]) h.df)
    have C5 := Lib.hid (fun (W : World) (h : DBox w W g ad len cap d) => K.tries W ad len cap d h.df)
    unfold defC at C3 C4 C5
    rw [← hnm.out] at C3 C5
    rw [hr1] at C3
    rw [htx] at C4
    rw [htd] at C5
    have w1' : IntKind.i64.wrap (rt + 1) = rt + 1 := IntWalk.i64_in _ (by omega)
    have w2' : IntKind.i64.wrap (2 * (rt + 1)) = 2 * (rt + 1) := IntWalk.i64_in _ (by omega)
    have w3' : IntKind.i64.wrap (td + 2 * (rt + 1)) = td + 2 * (rt + 1) := IntWalk.i64_in _ (by omega)
    have w4' : IntKind.i64.wrap (2 * (len : Int)) = 2 * (len : Int) := IntWalk.i64_in _ (by omega)
    have w5' : IntKind.i64.wrap (2 * (len : Int) * 6) = 2 * (len : Int) * 6 := IntWalk.i64_in _ (by omega)
    have k1 : 2 * (len : Int) ≤ td := hsb.1
    have k2 : td ≤ 2 * (len : Int) * 6 := hsb.2
    clear htx htd htd' hsb hrd hr1 hr2 hst hl6 hdd
    go_upto_region 5 with fail
    have HE : Hid (DBox w w3.drew g ad len cap d ∧ DBox w w3.drew cb a2 (len + 1) p2 (nm, d.2 ++ [(rt, tm)])) := ⟨HC3.out.1.quiet ((Kept.refl _ w3).drewN 1), HC3.out.2.quiet ((Kept.refl _ w3).drewN 1)⟩
    clear HC3 d0 d1
    refine wp_region_S (fun W => DBox w W g ad len cap d ∧ DBox w W cb a2 (len + 1) p2 (nm, d.2 ++ [(rt, tm)])) 36 (by kernel_rfl) HE.out ?_
    clear HE
    refine wpAnyS_take (i := 0) (v := (.bool true)) (some 31) rfl rfl (by kernel_rfl) (by kernel_rfl) (by kernel_rfl) (by kernel_rfl) (fun _ _ _ h => h) (by kernel_rfl) (fun W hW => by go_simp) ?_
    refine wpAnyS_take (i := 1) (v := (.bool true)) (some 32) rfl rfl (by kernel_rfl) (by kernel_rfl) (by kernel_rfl) (by kernel_rfl) (fun _ _ _ h => h) (by kernel_rfl) (fun W hW => by go_simp) ?_
    refine wpAnyS_take (i := 2) (v := (.agg #[.string ⟨nm.toArray⟩, .slice ad len cap])) (some 33) rfl rfl (by kernel_rfl) (by kernel_rfl) (by kernel_rfl) (by kernel_rfl) (fun _ _ _ h => h) (by kernel_rfl) (fun W hW => by obtain ⟨d0, d1⟩ := hW.1.cells; rw [← hnm.out] at d0; go_simp) ?_
    refine wpAnyS_call (i := 3) (v := (.bool true)) (f := 11) (args := #[(.agg #[.string ⟨nm.toArray⟩, .slice ad len cap])]) (some 34) rfl rfl (by kernel_rfl) (by kernel_rfl) (by kernel_rfl) (by kernel_rfl) (fun _ _ _ h => h) (by kernel_rfl) (fun W _ => by kernel_rfl) (fun W hW => (C3.out W hW.1).mono fun e W2 h => ⟨h.1, hW.1.quiet h.2, hW.2.quiet h.2⟩) ?_
    refine wpAnyS_take (i := 4) (v := (.bool true)) (some 35) rfl rfl (by kernel_rfl) (by kernel_rfl) (by kernel_rfl) (by kernel_rfl) (fun _ _ _ h => h) (by kernel_rfl) (fun W hW => by go_simp) ?_
    refine wpAnyS_take (i := 5) (v := (.bool true)) (some 36) rfl rfl (by kernel_rfl) (by kernel_rfl) (by kernel_rfl) (by kernel_rfl) (fun _ _ _ h => h) (by kernel_rfl) (fun W hW => by go_simp) ?_
    refine wpAnyS_take (i := 6) (v := (.agg #[.string ⟨nm.toArray⟩, .slice a2 (len + 1) p2])) (some 37) rfl rfl (by kernel_rfl) (by kernel_rfl) (by kernel_rfl) (by kernel_rfl) (fun _ _ _ h => h) (by kernel_rfl) (fun W hW => by obtain ⟨x0, x1⟩ := hW.2.cells; go_simp) ?_
    refine wpAnyS_call (i := 7) (v := (.int .i64 (td + 2 * (rt + 1)))) (f := 13) (args := #[(.agg #[.string ⟨nm.toArray⟩, .slice a2 (len + 1) p2])]) (some 38) rfl rfl (by kernel_rfl) (by kernel_rfl) (by kernel_rfl) (by kernel_rfl) (fun _ _ _ h => h) (by kernel_rfl) (fun W _ => by kernel_rfl) (fun W hW => (C4.out W hW.2).mono fun e W2 h => ⟨h.1, hW.1.quiet h.2, hW.2.quiet h.2⟩) ?_
    refine wpAnyS_take (i := 8) (v := (.agg #[.string ⟨nm.toArray⟩, .slice ad len cap])) (some 39) rfl rfl (by kernel_rfl) (by kernel_rfl) (by kernel_rfl) (by kernel_rfl) (fun _ _ _ h => h) (by kernel_rfl) (fun W hW => by obtain ⟨d0, d1⟩ := hW.1.cells; rw [← hnm.out] at d0; go_simp) ?_
    refine wpAnyS_call (i := 9) (v := (.int .i64 (td))) (f := 13) (args := #[(.agg #[.string ⟨nm.toArray⟩, .slice ad len cap])]) (some 40) rfl rfl (by kernel_rfl) (by kernel_rfl) (by kernel_rfl) (by kernel_rfl) (fun _ _ _ h => h) (by kernel_rfl) (fun W _ => by kernel_rfl) (fun W hW => (C5.out W hW.1).mono fun e W2 h => ⟨h.1, hW.1.quiet h.2, hW.2.quiet h.2⟩) ?_
    refine wpAnyS_take (i := 10) (v := (.int .i64 (rt))) (some 41) rfl rfl (by kernel_rfl) (by kernel_rfl) (by kernel_rfl) (by kernel_rfl) (fun _ _ _ h => h) (by kernel_rfl) (fun W hW => by go_simp) ?_
    refine wpAnyS_take (i := 11) (v := (.int .i64 (rt + 1))) (some 42) rfl rfl (by kernel_rfl) (by kernel_rfl) (by kernel_rfl) (by kernel_rfl) (fun _ _ _ h => h) (by kernel_rfl) (fun W hW => by go_simp) ?_
    refine wpAnyS_take (i := 12) (v := (.int .i64 (2 * (rt + 1)))) (some 43) rfl rfl (by kernel_rfl) (by kernel_rfl) (by kernel_rfl) (by kernel_rfl) (fun _ _ _ h => h) (by kernel_rfl) (fun W hW => by go_simp) ?_
    refine wpAnyS_take (i := 13) (v := (.int .i64 (td + 2 * (rt + 1)))) (some 44) rfl rfl (by kernel_rfl) (by kernel_rfl) (by kernel_rfl) (by kernel_rfl) (fun _ _ _ h => h) (by kernel_rfl) (fun W hW => by go_simp) ?_
    refine wpAnyS_take (i := 14) (v := (.bool true)) (some 45) rfl rfl (by kernel_rfl) (by kernel_rfl) (by kernel_rfl) (by kernel_rfl) (fun _ _ _ h => h) (by kernel_rfl) (fun W hW => by go_simp) ?_
    refine wpAnyS_take (i := 15) (v := (.bool true)) (some 46) rfl rfl (by kernel_rfl) (by kernel_rfl) (by kernel_rfl) (by kernel_rfl) (fun _ _ _ h => h) (by kernel_rfl) (fun W hW => by go_simp) ?_
    refine wpAnyS_take (i := 16) (v := (.bool true)) (some 47) rfl rfl (by kernel_rfl) (by kernel_rfl) (by kernel_rfl) (by kernel_rfl) (fun _ _ _ h => h) (by kernel_rfl) (fun W hW => by go_simp) ?_
    refine wpAnyS_take (i := 17) (v := (.agg #[.string ⟨nm.toArray⟩, .slice ad len cap])) (some 48) rfl rfl (by kernel_rfl) (by kernel_rfl) (by kernel_rfl) (by kernel_rfl) (fun _ _ _ h => h) (by kernel_rfl) (fun W hW => by obtain ⟨d0, d1⟩ := hW.1.cells; rw [← hnm.out] at d0; go_simp) ?_
    refine wpAnyS_call (i := 18) (v := (.int .i64 (td))) (f := 13) (args := #[(.agg #[.string ⟨nm.toArray⟩, .slice ad len cap])]) (some 49) rfl rfl (by kernel_rfl) (by kernel_rfl) (by kernel_rfl) (by kernel_rfl) (fun _ _ _ h => h) (by kernel_rfl) (fun W _ => by kernel_rfl) (fun W hW => (C5.out W hW.1).mono fun e W2 h => ⟨h.1, hW.1.quiet h.2, hW.2.quiet h.2⟩) ?_
    refine wpAnyS_take (i := 19) (v := (.pointer (some ⟨g, 1, none⟩))) (some 50) rfl rfl (by kernel_rfl) (by kernel_rfl) (by kernel_rfl) (by kernel_rfl) (fun _ _ _ h => h) (by kernel_rfl) (fun W hW => by go_simp) ?_
    refine wpAnyS_take (i := 20) (v := (.slice ad len cap)) (some 51) rfl rfl (by kernel_rfl) (by kernel_rfl) (by kernel_rfl) (by kernel_rfl) (fun _ _ _ h => h) (by kernel_rfl) (fun W hW => by obtain ⟨d0, d1⟩ := hW.1.cells; rw [← hnm.out] at d0; go_simp) ?_
    refine wpAnyS_take (i := 21) (v := (.int .i64 ((len : Int)))) (some 52) rfl rfl (by kernel_rfl) (by kernel_rfl) (by kernel_rfl) (by kernel_rfl) (fun _ _ _ h => h) (by kernel_rfl) (fun W hW => by go_simp) ?_
    refine wpAnyS_take (i := 22) (v := (.int .i64 (2 * (len : Int)))) (some 53) rfl rfl (by kernel_rfl) (by kernel_rfl) (by kernel_rfl) (by kernel_rfl) (fun _ _ _ h => h) (by kernel_rfl) (fun W hW => by go_simp) ?_
    refine wpAnyS_take (i := 23) (v := (.bool true)) (some 54) rfl rfl (by kernel_rfl) (by kernel_rfl) (by kernel_rfl) (by kernel_rfl) (fun _ _ _ h => h) (by kernel_rfl) (fun W hW => by go_simp) ?_
    refine wpAnyS_take (i := 24) (v := (.bool true)) (some 55) rfl rfl (by kernel_rfl) (by kernel_rfl) (by kernel_rfl) (by kernel_rfl) (fun _ _ _ h => h) (by kernel_rfl) (fun W hW => by go_simp) ?_
    refine wpAnyS_take (i := 25) (v := (.bool true)) (some 56) rfl rfl (by kernel_rfl) (by kernel_rfl) (by kernel_rfl) (by kernel_rfl) (fun _ _ _ h => h) (by kernel_rfl) (fun W hW => by go_simp) ?_
    refine wpAnyS_take (i := 26) (v := (.agg #[.string ⟨nm.toArray⟩, .slice ad len cap])) (some 57) rfl rfl (by kernel_rfl) (by kernel_rfl) (by kernel_rfl) (by kernel_rfl) (fun _ _ _ h => h) (by kernel_rfl) (fun W hW => by obtain ⟨d0, d1⟩ := hW.1.cells; rw [← hnm.out] at d0; go_simp) ?_
    refine wpAnyS_call (i := 27) (v := (.int .i64 (td))) (f := 13) (args := #[(.agg #[.string ⟨nm.toArray⟩, .slice ad len cap])]) (some 58) rfl rfl (by kernel_rfl) (by kernel_rfl) (by kernel_rfl) (by kernel_rfl) (fun _ _ _ h => h) (by kernel_rfl) (fun W _ => by kernel_rfl) (fun W hW => (C5.out W hW.1).mono fun e W2 h => ⟨h.1, hW.1.quiet h.2, hW.2.quiet h.2⟩) ?_
    refine wpAnyS_take (i := 28) (v := (.pointer (some ⟨g, 1, none⟩))) (some 59) rfl rfl (by kernel_rfl) (by kernel_rfl) (by kernel_rfl) (by kernel_rfl) (fun _ _ _ h => h) (by kernel_rfl) (fun W hW => by go_simp) ?_
    refine wpAnyS_take (i := 29) (v := (.slice ad len cap)) (some 60) rfl rfl (by kernel_rfl) (by kernel_rfl) (by kernel_rfl) (by kernel_rfl) (fun _ _ _ h => h) (by kernel_rfl) (fun W hW => by obtain ⟨d0, d1⟩ := hW.1.cells; rw [← hnm.out] at d0; go_simp) ?_
    refine wpAnyS_take (i := 30) (v := (.int .i64 ((len : Int)))) (some 61) rfl rfl (by kernel_rfl) (by kernel_rfl) (by kernel_rfl) (by kernel_rfl) (fun _ _ _ h => h) (by kernel_rfl) (fun W hW => by go_simp) ?_
    refine wpAnyS_take (i := 31) (v := (.int .i64 (2 * (len : Int)))) (some 62) rfl rfl (by kernel_rfl) (by kernel_rfl) (by kernel_rfl) (by kernel_rfl) (fun _ _ _ h => h) (by kernel_rfl) (fun W hW => by go_simp) ?_
    refine wpAnyS_take (i := 32) (v := (.int .i64 (2 * (len : Int) * 6))) (some 63) rfl rfl (by kernel_rfl) (by kernel_rfl) (by kernel_rfl) (by kernel_rfl) (fun _ _ _ h => h) (by kernel_rfl) (fun W hW => by go_simp) ?_
    refine wpAnyS_take (i := 33) (v := (.bool true)) (some 64) rfl rfl (by kernel_rfl) (by kernel_rfl) (by kernel_rfl) (by kernel_rfl) (fun _ _ _ h => h) (by kernel_rfl) (fun W hW => by go_simp) ?_
    refine wpAnyS_take (i := 34) (v := (.bool true)) (some 65) rfl rfl (by kernel_rfl) (by kernel_rfl) (by kernel_rfl) (by kernel_rfl) (fun _ _ _ h => h) (by kernel_rfl) (fun W hW => by go_simp) ?_
    refine wpAnyS_take (i := 35) (v := (.bool true)) (some 6) rfl rfl (by kernel_rfl) (by kernel_rfl) (by kernel_rfl) (by kernel_rfl) (fun _ _ _ h => h) (by kernel_rfl) (fun W hW => by go_simp) ?_
    refine wpAnyS_done (by kernel_rfl) (fun W hW => ?_) _
    have HK := Lib.hid hW.1.kept
    clear hW
    simp only [put_none, put_lit, List.set_cons_succ, List.set_cons_zero]
    go_wp2
    go_ret
    exact ⟨rfl, HK.out⟩
    
    
end Go.Proofs.Ytgjblcjoglaldaa
