/- The law DefineSpoils (layer 18), walked over the contract of the program's definitions. -/
import Derived.Test.YtgjblcjoglaldaaEx18
import Derived.Test.YtgjblcjoglaldaaAp18
import Derived.Test.YtgjblcjoglaldaaOrd2
namespace Go.Proofs.Ytgjblcjoglaldaa
open Go.RowKit Go.Proofs Go.Proofs.Pk
set_option maxRecDepth 10000
attribute [local simp] mk_get wrap64_u8 mk_extract ByteArray.mk_append_mk get_1k

theorem cell_set_ne {W : World} {g k k2 : Nat} {v : Value} (h : k ≠ k2) : (W.setCell ⟨g, k, none⟩ v).cell? ⟨g, k2, none⟩ = W.cell? ⟨g, k2, none⟩ := by
  apply World.cell?_setCell_other
  intro e
  injection e with _ e
  exact h e
theorem steps_fst {W : World} {gg len : Nat} {T : List StV} (h : StepsW W (some ⟨gg, 0, none⟩) len T) (m : Nat) (hm : m < T.length) (x : Int) (hx : FitI x) : StepsW (W.setCell ⟨gg, m * 2, none⟩ (.int .i64 x)) (some ⟨gg, 0, none⟩) len (T.set m (x, T[m].2)) := by
  rcases h.2 with h0 | ⟨b, off, h1, h2, h3⟩
  · rw [h0] at hm; simp at hm
  · cases h1
    refine ⟨by rw [List.length_set]; exact h.1, .inr ⟨gg, 0, rfl, Nat.lt_of_lt_of_le h2 ((Kept.refl (fun z => z = gg) W).setCell (p := ⟨gg, _, none⟩) rfl _).size, fun i hi => ?_⟩⟩
    rw [List.length_set] at hi
    have hf := (h3 i hi).fit
    have hr := (h3 i hi).row
    rw [List.getElem_set]
    by_cases hmi : m = i
    · subst hmi
      rw [if_pos rfl]
      refine ⟨fun j v hv => ?_, hx, hf.2⟩
      match j, hv with
      | 0, hv =>
        injection hv with hv
        subst hv
        have e := hr 0 _ rfl
        rw [Nat.zero_add, Nat.add_zero] at e ⊢
        exact World.cell?_setCell_same' _ _ _ (by rw [e]; rfl)
      | 1, hv =>
        injection hv with hv
        subst hv
        have e := hr 1 _ rfl
        rw [cell_set_ne (by omega)]
        exact e
      | n + 2, hv => simp [stC] at hv
    · rw [if_neg hmi]
      refine ⟨fun j v hv => ?_, hf⟩
      have hj : j < 2 := by have := (List.getElem?_eq_some_iff.1 hv).1; simpa [stC] using this
      rw [cell_set_ne (by omega)]
      exact hr j v hv
theorem steps_snd {W : World} {gg len : Nat} {T : List StV} (h : StepsW W (some ⟨gg, 0, none⟩) len T) (m : Nat) (hm : m < T.length) (x : Int) (hx : FitI x) : StepsW (W.setCell ⟨gg, m * 2 + 1, none⟩ (.int .i64 x)) (some ⟨gg, 0, none⟩) len (T.set m (T[m].1, x)) := by
  rcases h.2 with h0 | ⟨b, off, h1, h2, h3⟩
  · rw [h0] at hm; simp at hm
  · cases h1
    refine ⟨by rw [List.length_set]; exact h.1, .inr ⟨gg, 0, rfl, Nat.lt_of_lt_of_le h2 ((Kept.refl (fun z => z = gg) W).setCell (p := ⟨gg, _, none⟩) rfl _).size, fun i hi => ?_⟩⟩
    rw [List.length_set] at hi
    have hf := (h3 i hi).fit
    have hr := (h3 i hi).row
    rw [List.getElem_set]
    by_cases hmi : m = i
    · subst hmi
      rw [if_pos rfl]
      refine ⟨fun j v hv => ?_, hf.1, hx⟩
      match j, hv with
      | 0, hv =>
        injection hv with hv
        subst hv
        have e := hr 0 _ rfl
        rw [cell_set_ne (by omega)]
        exact e
      | 1, hv =>
        injection hv with hv
        subst hv
        have e := hr 1 _ rfl
        rw [Nat.zero_add] at e ⊢
        exact World.cell?_setCell_same' _ _ _ (by rw [e]; rfl)
      | n + 2, hv => simp [stC] at hv
    · rw [if_neg hmi]
      refine ⟨fun j v hv => ?_, hf⟩
      have hj : j < 2 := by have := (List.getElem?_eq_some_iff.1 hv).1; simpa [stC] using this
      rw [cell_set_ne (by omega)]
      exact hr j v hv
/-- The definition and its copy, whose steps may be written. -/
structure XB (w W : World) (g cb : Nat) (ad : Option Addr) (len cap : Nat) (d : DefV) (a2 : Option Addr) (p2 : Nat) : Prop where
  base : DBox w W g ad len cap d
  x : DBox w W cb a2 len p2 d
  own : W.ownsRow w.heap.size 43 2 (.slice a2 len p2) len (d.2.flatMap stC)
  far : w.heap.size ≤ cb
theorem XB.blk {w W : World} {g cb : Nat} {ad : Option Addr} {len cap : Nat} {d : DefV} {a2 : Option Addr} {p2 : Nat} (h : XB w W g cb ad len cap d a2 p2) (hn : 0 < len) : ∃ gg, a2 = some ⟨gg, 0, none⟩ ∧ w.heap.size ≤ gg ∧ gg ≠ cb ∧ (∀ k, W.frozen? ⟨gg, k, none⟩ = false) := by
  rcases h.own.2 with ⟨_, h2⟩ | ⟨gg, cap', cur, e, hB, h3⟩
  · omega
  · injection e with e
    subst e
    exact ⟨gg, rfl, hB, fun hc => own_ne_boxD h.own h.x.box (by decide) (by rw [← hc]; rfl), fun k => h.own.frozenAt k⟩
/-- A write into the copy's steps: what it is then. -/
theorem XB.wrote {w W : World} {g cb gg : Nat} {ad : Option Addr} {len cap : Nat} {d : DefV} {p2 : Nat} (h : XB w W g cb ad len cap d (some ⟨gg, 0, none⟩) p2) (hg : w.heap.size ≤ gg) (hne : gg ≠ cb) (k : Nat) (v : Value) {T : List StV} (hs : StepsW (W.setCell ⟨gg, k, none⟩ v) (some ⟨gg, 0, none⟩) len T) :
    DBox w (W.setCell ⟨gg, k, none⟩ v) cb (some ⟨gg, 0, none⟩) len p2 (d.1, T) := by
  have hks : Kept (fun z => z = gg) W (W.setCell ⟨gg, k, none⟩ v) := (Kept.refl (fun z => z = gg) W).setCell (p := ⟨gg, k, none⟩) rfl _
  exact ⟨h.x.kept.trans hks (fun z hz => .inr (by omega)), h.x.box.of_block (hks.block cb h.x.box.lt (fun e => hne e.symm)), hs, h.x.df.2⟩

set_option maxHeartbeats 16000000 in
theorem spoils18 {N : Nat} (K : DfK N) (ad : Option Addr) (len cap : Nat) (d : DefV) (wh ho : Int) (w : World) (hwh : FitI wh) (hho : FitI ho) (h1 : DefA w ad len cap d) :
    Calls Try.prog 6 #[defC d.1 ad len cap, .int .i64 wh, .int .i64 ho] w fun e w' => e = .returned (.bool true) ∧ Kept (fun _ => False) w w' := by
  have hlb := h1.2
  have h0 := h1.1
  have HB := Lib.hid (DBox.new (Kept.refl _ w) h0)
  obtain ⟨nm, hnm⟩ : ∃ nm, Hid (nm = d.1) := ⟨_, rfl⟩
  have H0 := Lib.hid h0
  have HDL := Lib.hid h0.1.1
  have hnl : (nm.length : Int) ≤ 140737488351232 := by rw [hnm.out]; exact h0.2.2
  have HFI : Hid (∀ m ∈ d.2, FitSt m) := fun m hm => by
    obtain ⟨i, hi, rfl⟩ := List.getElem_of_mem hm
    obtain ⟨_, _, _, _, _, _, hf⟩ := h0.1.at i hi
    exact hf
  unfold defC
  rw [← hnm.out] at HB ⊢
  clear h0 h1
  go_enter Try.func6, Try.ntmps6
  go_upto_region 1 with fail
  obtain ⟨g, hg⟩ : ∃ g, g = w.heap.size := ⟨_, rfl⟩
  rw [← hg] at HB ⊢
  change Code.wp _ _ _ _ (w.alloc (.cells #[.string ⟨nm.toArray⟩, .slice ad len cap] 24))
  generalize w.alloc (.cells #[.string ⟨nm.toArray⟩, .slice ad len cap] 24) = wa at HB ⊢
  clear hg
  have HX := Lib.hid (examples18 K wa)
  go_wp2_with fail
  refine HX.out.mono ?_
  rintro e w1 ⟨rfl, hk⟩
  have HB1 := Lib.hid (HB.out.quiet hk)
  clear hk HX HB
  obtain ⟨rx, hrx⟩ : ∃ rx, Hid (rx = rightD d) := ⟨_, rfl⟩
  have C1 := K.right w1 ad len cap d HB1.out.df
  unfold defC at C1
  rw [← hrx.out, ← hnm.out] at C1
  have C1 := Lib.hid C1
  obtain ⟨d0, d1⟩ := HB1.out.cells
  rw [← hnm.out] at d0
  go_wp2_with fail
  refine C1.out.mono ?_
  rintro e w2 ⟨rfl, hk⟩
  have HB2 := Lib.hid (HB1.out.quiet hk)
  clear hk C1 HB1 d0 d1
  obtain ⟨d0, d1⟩ := HB2.out.cells
  rw [← hnm.out] at d0
  cases rx
  case false =>
    go_wp2
    go_ret
    exact ⟨rfl, HB2.out.kept⟩
  have HRt : Hid (rightD d = true) := hrx.out.symm
  have hl16 : 1 ≤ len ∧ len ≤ 6 := by have := (right_ofD HRt.out).2.1; have := HDL.out; omega
  have hn20 : nm.length ≤ 20 := by rw [hnm.out]; exact (name_ofD (right_ofD HRt.out).1).2.2
  have e0 : ((len : Int) == 0) = false := by rw [beq_eq_false_iff_ne]; omega
  clear hrx
  go_upto_if 22 with fail
  go_cut [1] from 21 (fun x wx => ∃ c : Nat, (c : Int) ≤ 9223372036854775807 ∧ x = .int .i64 (c : Int) ∧ wx = w2)
  case first =>
    clear HB2
    unfold FitI at hwh
    by_cases hc : wh < 0
    · obtain ⟨c, rfl⟩ : ∃ c : Nat, wh = -((c : Int) + 1) := ⟨(-(wh + 1)).toNat, by omega⟩
      have e1 : IntKind.i64.wrap (-((c : Int) + 1) + 1) = -(c : Int) := by rw [IntWalk.i64_in _ (by omega)]; omega
      have e2 : IntKind.i64.wrap (-(-(c : Int))) = (c : Int) := by rw [IntWalk.i64_in _ (by omega)]; omega
      go_wp2
      go_meet
      case rel => exact ⟨c, by omega, by first | rfl | go_num, rfl⟩
    · obtain ⟨c, rfl⟩ : ∃ c : Nat, wh = (c : Int) := ⟨(wh).toNat, by omega⟩
      go_wp2
      go_meet
      case rel => exact ⟨c, by omega, rfl, rfl⟩
  case rest =>
  obtain ⟨c, hc, rfl, hwx⟩ := hcut
  rw [hwx]
  clear hwx wc
  go_upto_if 27 with fail
  go_cut [2] from 26 (fun x wx => ∃ c : Nat, (c : Int) ≤ 9223372036854775807 ∧ x = .int .i64 (c : Int) ∧ wx = w2)
  case first =>
    clear HB2
    unfold FitI at hho
    by_cases hc : ho < 0
    · obtain ⟨c, rfl⟩ : ∃ c : Nat, ho = -((c : Int) + 1) := ⟨(-(ho + 1)).toNat, by omega⟩
      have e1 : IntKind.i64.wrap (-((c : Int) + 1) + 1) = -(c : Int) := by rw [IntWalk.i64_in _ (by omega)]; omega
      have e2 : IntKind.i64.wrap (-(-(c : Int))) = (c : Int) := by rw [IntWalk.i64_in _ (by omega)]; omega
      go_wp2
      go_meet
      case rel => exact ⟨c, by omega, by first | rfl | go_num, rfl⟩
    · obtain ⟨c, rfl⟩ : ∃ c : Nat, ho = (c : Int) := ⟨(ho).toNat, by omega⟩
      go_wp2
      go_meet
      case rel => exact ⟨c, by omega, rfl, rfl⟩
  case rest =>
  obtain ⟨h, hh, rfl, hwx⟩ := hcut
  rw [hwx]
  clear hwx wc d0 d1
  go_upto_region 8 with fail
  go_cut [8] from 31 (fun x8 wx => ∃ (cb : Nat) (a2 : Option Addr) (p2 : Nat), x8 = .pointer (some ⟨cb, 0, none⟩) ∧ Hid (XB w wx g cb ad len cap d a2 p2))
  case first =>
    have hS0 : (fun W : World => DBox w W g ad len cap d) w2.drew := HB2.out.quiet ((Kept.refl _ w2).drewN 1)
    refine wp_region_until (fun W : World => DBox w W g ad len cap d) 7 (by kernel_rfl) ?_
    generalize w2.drew = u0 at hS0 ⊢
    clear HB2
    refine wpAnyU_take (i := 0) (v := (.pointer (some ⟨g, 0, none⟩))) (some 31) rfl rfl (by kernel_rfl) (by kernel_rfl) (by kernel_rfl) (by kernel_rfl) (fun _ _ _ h => h) hS0 (yields_of (by kernel_rfl) (fun w hw => by go_simp)) ?_
    refine wpAnyU_take (i := 1) (v := (.string ⟨nm.toArray⟩)) (some 32) rfl rfl (by kernel_rfl) (by kernel_rfl) (by kernel_rfl) (by kernel_rfl) (fun _ _ _ h => h) hS0 (yields_of (by kernel_rfl) (fun w hw => by obtain ⟨d0, d1⟩ := hw.cells; rw [← hnm.out] at d0; go_simp)) ?_
    refine wpAnyU_take (i := 2) (v := (.pointer (some ⟨g, 1, none⟩))) (some 33) rfl rfl (by kernel_rfl) (by kernel_rfl) (by kernel_rfl) (by kernel_rfl) (fun _ _ _ h => h) hS0 (yields_of (by kernel_rfl) (fun w hw => by go_simp)) ?_
    refine wpAnyU_take (i := 3) (v := (.slice ad len cap)) (some 34) rfl rfl (by kernel_rfl) (by kernel_rfl) (by kernel_rfl) (by kernel_rfl) (fun _ _ _ h => h) hS0 (yields_of (by kernel_rfl) (fun w hw => by obtain ⟨d0, d1⟩ := hw.cells; rw [← hnm.out] at d0; go_simp)) ?_
    have hS0 : DBox w u0 g ad len cap d := hS0
    refine wpAnyU_each [4, 6] (by kernel_rfl) (by simp) fun i hi => ?_
    simp only [List.mem_cons, List.not_mem_nil, or_false] at hi
    rcases hi with rfl | rfl
    · skip
      obtain ⟨a2, p2, u1, xA, hA, kk⟩ := app_copy (W := u0) w.heap.size hS0.df.1 hS0.df.2.1 hS0.kept.size
      have hS1 := hS0.quiet kk
      refine ⟨_, 35, .slice a2 len p2, u1, rfl, rfl, rfl, exec_append (s := .const (.slice none 0 0)) (x := .tmp 34) xA (by rfl) (by rfl) (by kernel_rfl) (by kernel_rfl), hS1, ?_⟩
      refine wpAnyU_take (i := 5) (v := (.agg #[.string ⟨nm.toArray⟩, .slice a2 len p2])) (some 36) rfl rfl (by kernel_rfl) (by kernel_rfl) (by kernel_rfl) (by kernel_rfl) (fun _ _ _ h => h) hS1 (yields_of (by kernel_rfl) (fun w hw => by kernel_rfl)) ?_
      refine wpAnyU_each [6] (by kernel_rfl) (by simp) fun i hi => ?_
      obtain rfl := List.mem_singleton.1 hi
      have kk := (Kept.refl (fun _ => False) u1).alloc (.cells #[.string ⟨#[]⟩, .slice none 0 0] 24)
      have hS2 := hS1.quiet kk
      have hA := owns_kept hA kk
      have hC := Holds.new u1 [.string ⟨#[]⟩, .slice none 0 0] 24
      have hcb : w.heap.size ≤ u1.heap.size := hS1.kept.size
      have hgc : g < u1.heap.size := hS1.box.lt
      refine ⟨_, 8, .pointer (some ⟨u1.heap.size, 0, none⟩), u1.alloc (.cells #[.string ⟨#[]⟩, .slice none 0 0] 24), rfl, rfl, rfl, by kernel_rfl, hS2, ?_⟩
      change Holds (u1.alloc (.cells #[.string ⟨#[]⟩, .slice none 0 0] 24)) _ _ _ at hC
      obtain ⟨cb, hcbe⟩ : ∃ cb, cb = u1.heap.size := ⟨_, rfl⟩
      rw [← hcbe] at hC hcb hgc ⊢
      clear hcbe kk
      generalize u1.alloc (.cells #[.string ⟨#[]⟩, .slice none 0 0] 24) = u2 at hC hS2 hA ⊢
      obtain ⟨hx, ho, hks⟩ := DBox.stored (nm := nm) hS2.kept hC hcb hA HDL.out HFI.out (by omega) hnl
      have hF := hS2.past H0.out.1 hks (by omega) (fun z hz => by omega)
      have r0 := Holds.cell hC 0 _ rfl
      have r1 := Holds.cell hC 1 _ rfl
      have q0 := Holds.free hC 0
      have q1 := Holds.free hC 1
      refine wpAnyU_skip (i := 7) (w' := ((u2.setCell ⟨cb, 0, none⟩ (.string ⟨nm.toArray⟩)).setCell ⟨cb, 1, none⟩ (.slice a2 len p2))) none rfl rfl (by kernel_rfl) (by kernel_rfl) (by simp only [put_lit, List.set_cons_succ, List.set_cons_zero]; go_simp) (fun h => absurd h (by decide)) ?_
      refine wpAnyU_done (by kernel_rfl) ?_ _
      simp only [put_none, put_lit, List.set_cons_succ, List.set_cons_zero]
      have hdd : (nm, d.2) = d := by rw [hnm.out]
      rw [hdd] at hx
      have HFN := Lib.hid (XB.mk hF hx ho hcb)
      clear hF hx hks ho r0 r1 q0 q1
      generalize ((u2.setCell ⟨cb, 0, none⟩ (.string ⟨nm.toArray⟩)).setCell ⟨cb, 1, none⟩ (.slice a2 len p2)) = wf at HFN ⊢
      go_wp2
      go_meet
      case rel => exact ⟨cb, a2, p2, rfl, HFN⟩
    · skip
      have kk := (Kept.refl (fun _ => False) u0).alloc (.cells #[.string ⟨#[]⟩, .slice none 0 0] 24)
      have hS1 := hS0.quiet kk
      have hC := Holds.new u0 [.string ⟨#[]⟩, .slice none 0 0] 24
      have hcb : w.heap.size ≤ u0.heap.size := hS0.kept.size
      have hgc : g < u0.heap.size := hS0.box.lt
      refine ⟨_, 8, .pointer (some ⟨u0.heap.size, 0, none⟩), u0.alloc (.cells #[.string ⟨#[]⟩, .slice none 0 0] 24), rfl, rfl, rfl, by kernel_rfl, hS1, ?_⟩
      change Holds (u0.alloc (.cells #[.string ⟨#[]⟩, .slice none 0 0] 24)) _ _ _ at hC
      obtain ⟨cb, hcbe⟩ : ∃ cb, cb = u0.heap.size := ⟨_, rfl⟩
      rw [← hcbe] at hC hcb hgc ⊢
      clear hcbe kk
      generalize u0.alloc (.cells #[.string ⟨#[]⟩, .slice none 0 0] 24) = u1 at hC hS1 ⊢
      refine wpAnyU_each [4] (by kernel_rfl) (by simp) fun i hi => ?_
      obtain rfl := List.mem_singleton.1 hi
      obtain ⟨a2, p2, u2, xA, hA, kk⟩ := app_copy (W := u1) w.heap.size hS1.df.1 hS1.df.2.1 hS1.kept.size
      have hS2 := hS1.quiet kk
      have hC := holds_kept hC kk
      refine ⟨_, 35, .slice a2 len p2, u2, rfl, rfl, rfl, exec_append (s := .const (.slice none 0 0)) (x := .tmp 34) xA (by rfl) (by rfl) (by kernel_rfl) (by kernel_rfl), hS2, ?_⟩
      refine wpAnyU_take (i := 5) (v := (.agg #[.string ⟨nm.toArray⟩, .slice a2 len p2])) (some 36) rfl rfl (by kernel_rfl) (by kernel_rfl) (by kernel_rfl) (by kernel_rfl) (fun _ _ _ h => h) hS2 (yields_of (by kernel_rfl) (fun w hw => by kernel_rfl)) ?_
      obtain ⟨hx, ho, hks⟩ := DBox.stored (nm := nm) hS2.kept hC hcb hA HDL.out HFI.out (by omega) hnl
      have hF := hS2.past H0.out.1 hks (by omega) (fun z hz => by omega)
      have r0 := Holds.cell hC 0 _ rfl
      have r1 := Holds.cell hC 1 _ rfl
      have q0 := Holds.free hC 0
      have q1 := Holds.free hC 1
      refine wpAnyU_skip (i := 7) (w' := ((u2.setCell ⟨cb, 0, none⟩ (.string ⟨nm.toArray⟩)).setCell ⟨cb, 1, none⟩ (.slice a2 len p2))) none rfl rfl (by kernel_rfl) (by kernel_rfl) (by simp only [put_lit, List.set_cons_succ, List.set_cons_zero]; go_simp) (fun h => absurd h (by decide)) ?_
      refine wpAnyU_done (by kernel_rfl) ?_ _
      simp only [put_none, put_lit, List.set_cons_succ, List.set_cons_zero]
      have hdd : (nm, d.2) = d := by rw [hnm.out]
      rw [hdd] at hx
      have HFN := Lib.hid (XB.mk hF hx ho hcb)
      clear hF hx hks ho r0 r1 q0 q1
      generalize ((u2.setCell ⟨cb, 0, none⟩ (.string ⟨nm.toArray⟩)).setCell ⟨cb, 1, none⟩ (.slice a2 len p2)) = wf at HFN ⊢
      go_wp2
      go_meet
      case rel => exact ⟨cb, a2, p2, rfl, HFN⟩
  case rest =>
  obtain ⟨cb, a2, p2, rfl, HC⟩ := hcut
  clear HB2
  obtain ⟨gg, rfl, hgg, hne, hfr⟩ := HC.out.blk (by omega)
  obtain ⟨m, hm'⟩ : ∃ m, m = c % len := ⟨_, rfl⟩
  have hml : m < len := by rw [hm']; exact Nat.mod_lt _ (by omega)
  have q2 : (c : Int).tmod (len : Int) = (m : Int) := by rw [Int.tmod_eq_emod_of_nonneg (by omega), hm']; rfl
  have hn0 : ¬(len : Int) = 0 := by omega
  have hm1 : (0 : Int) ≤ (m : Int) := by omega
  have hm2 : (m : Int) < (len : Int) := by omega
  clear hm'
  obtain ⟨x0, x1⟩ := HC.out.x.cells
  rw [← hnm.out] at x0
  have hT := HC.out.x.df.1
  have hmT : m < d.2.length := by rw [HDL.out]; exact hml
  obtain ⟨_, _, hge, hlt, s0, s1, hfx⟩ := hT.at m hmT
  cases hge
  rw [Nat.zero_add] at s0 s1
  clear hfx hlt
  generalize d.2[m] = sv at s0 s1
  have f0 := hfr (m * 2)
  have f1 := hfr (m * 2 + 1)
  have b0 := Holds.free HC.out.x.box 0
  have b1 := Holds.free HC.out.x.box 1
  have hov : ¬9223372036854775807 < nm.length + 1 := by omega
  have hmem : ∀ x : StV, x ∈ d.2.set m x := fun x => by
    have h2 : m < (d.2.set m x).length := by rw [List.length_set]; exact hmT
    have h3 := List.getElem_mem (l := d.2.set m x) h2
    rwa [List.getElem_set_self] at h3
  have HM := Lib.hid (And.intro hmem (And.intro hmT hT))
  obtain ⟨k, hk'⟩ : ∃ k, k = h % 6 := ⟨_, rfl⟩
  have q6 : (h : Int).tmod 6 = (k : Int) := by rw [Int.tmod_eq_emod_of_nonneg (by omega), hk']; rfl
  have hk6 : k < 6 := by rw [hk']; exact Nat.mod_lt _ (by decide)
  clear hk' hmem hmT hT hfr
  have HU : k = 0 ∨ k = 1 ∨ k = 2 ∨ k = 3 ∨ k = 4 ∨ k = 5 := by omega
  rcases HU with rfl | rfl | rfl | rfl | rfl | rfl
  · skip
    have HXk : Hid (DBox w (wc.setCell ⟨cb, 0, none⟩ (.string ⟨(nm ++ [95]).toArray⟩)) cb (some ⟨gg, 0, none⟩) len p2 (nm ++ [95], d.2)) := by
      have hks := (Kept.refl (fun z => z = cb) wc).setCell (p := ⟨cb, 0, none⟩) rfl (.string ⟨(nm ++ [95]).toArray⟩)
      exact ⟨HC.out.x.kept.trans hks (fun z hz => .inr (by have := HC.out.far; omega)), Holds.set HC.out.x.box 0 _, steps_keptX HC.out.x.df.1 hks (fun b off sp hb hz => by injection hb with hb; injection hb with hb; omega), HC.out.x.df.2.1, by simp; omega⟩
    have HWr : Hid (rightD (nm ++ [95], d.2) = false) := right_name (name_amiss nm)
    obtain ⟨dd, hdd⟩ : ∃ dd : DefV, dd = (nm ++ [95], d.2) := ⟨_, rfl⟩
    obtain ⟨dn, hdn⟩ : ∃ dn : DTxt, dn = (nm ++ [95], d.2).1 := ⟨_, rfl⟩
    have hdn2 : Hid (dn = dd.1) := by show dn = dd.1; rw [hdd, hdn]
    rw [← hdd] at HXk HWr
    clear HC hdd hdn
    go_upto_region 22 with fail
    generalize (wc.setCell ⟨cb, 0, none⟩ (.string ⟨(nm ++ [95]).toArray⟩)) = wn at HXk ⊢
    clear x0 x1 s0 s1 f0 f1 b0 b1
    obtain ⟨y0, y1⟩ := HXk.out.cells
    rw [← hdn2.out] at y0
    have C3 := K.right wn (some ⟨gg, 0, none⟩) len p2 dd HXk.out.df
    unfold defC at C3
    rw [HWr.out, ← hdn2.out] at C3
    have C3 := Lib.hid C3
    go_wp2_with fail
    refine C3.out.mono ?_
    rintro e w5 ⟨rfl, hk⟩
    have HX5 := Lib.hid (HXk.out.quiet hk)
    clear hk C3 HXk y0 y1
    obtain ⟨y0, y1⟩ := HX5.out.cells
    rw [← hdn2.out] at y0
    have C3 := K.tries w5 (some ⟨gg, 0, none⟩) len p2 dd HX5.out.df
    unfold defC at C3
    rw [tries_wrong HWr.out, ← hdn2.out] at C3
    have C3 := Lib.hid C3
    go_wp2_with fail
    refine C3.out.mono ?_
    rintro e w6 ⟨rfl, hk⟩
    have HK := Lib.hid (HX5.out.quiet hk).kept
    clear hk C3 HX5 y0 y1
    go_wp2
    go_ret
    exact ⟨rfl, HK.out⟩
  · skip
    have HXk : Hid (DBox w (wc.setCell ⟨gg, m * 2, none⟩ (.int .i64 (6))) cb (some ⟨gg, 0, none⟩) len p2 (nm, (d.2.set m (6, (d.2[m]'HM.out.2.1).2)))) := by
      have h3 := HC.out.wrote hgg hne (m * 2) (.int .i64 (6)) (steps_fst HM.out.2.2 m HM.out.2.1 (6) (by unfold FitI; omega))
      rw [← hnm.out] at h3
      exact h3
    have HWr : Hid (rightD (nm, (d.2.set m (6, (d.2[m]'HM.out.2.1).2))) = false) := right_step (s := (6, (d.2[m]'HM.out.2.1).2)) (HM.out.1 _) (by unfold stepOk; rw [decide_eq_false_iff_not]; simp only; omega)
    obtain ⟨dd, hdd⟩ : ∃ dd : DefV, dd = (nm, (d.2.set m (6, (d.2[m]'HM.out.2.1).2))) := ⟨_, rfl⟩
    obtain ⟨dn, hdn⟩ : ∃ dn : DTxt, dn = (nm, (d.2.set m (6, (d.2[m]'HM.out.2.1).2))).1 := ⟨_, rfl⟩
    have hdn2 : Hid (dn = dd.1) := by show dn = dd.1; rw [hdd, hdn]
    rw [← hdd] at HXk HWr
    clear HC hdd hdn
    go_upto_region 22 with fail
    generalize (wc.setCell ⟨gg, m * 2, none⟩ (.int .i64 (6))) = wn at HXk ⊢
    clear x0 x1 s0 s1 f0 f1 b0 b1
    obtain ⟨y0, y1⟩ := HXk.out.cells
    rw [← hdn2.out] at y0
    have C3 := K.right wn (some ⟨gg, 0, none⟩) len p2 dd HXk.out.df
    unfold defC at C3
    rw [HWr.out, ← hdn2.out] at C3
    have C3 := Lib.hid C3
    go_wp2_with fail
    refine C3.out.mono ?_
    rintro e w5 ⟨rfl, hk⟩
    have HX5 := Lib.hid (HXk.out.quiet hk)
    clear hk C3 HXk y0 y1
    obtain ⟨y0, y1⟩ := HX5.out.cells
    rw [← hdn2.out] at y0
    have C3 := K.tries w5 (some ⟨gg, 0, none⟩) len p2 dd HX5.out.df
    unfold defC at C3
    rw [tries_wrong HWr.out, ← hdn2.out] at C3
    have C3 := Lib.hid C3
    go_wp2_with fail
    refine C3.out.mono ?_
    rintro e w6 ⟨rfl, hk⟩
    have HK := Lib.hid (HX5.out.quiet hk).kept
    clear hk C3 HX5 y0 y1
    go_wp2
    go_ret
    exact ⟨rfl, HK.out⟩
  · skip
    have HXk : Hid (DBox w (wc.setCell ⟨gg, m * 2 + 1, none⟩ (.int .i64 (0))) cb (some ⟨gg, 0, none⟩) len p2 (nm, (d.2.set m ((d.2[m]'HM.out.2.1).1, 0)))) := by
      have h3 := HC.out.wrote hgg hne (m * 2 + 1) (.int .i64 (0)) (steps_snd HM.out.2.2 m HM.out.2.1 (0) (by unfold FitI; omega))
      rw [← hnm.out] at h3
      exact h3
    have HWr : Hid (rightD (nm, (d.2.set m ((d.2[m]'HM.out.2.1).1, 0))) = false) := right_step (s := ((d.2[m]'HM.out.2.1).1, 0)) (HM.out.1 _) (by unfold stepOk; rw [decide_eq_false_iff_not]; simp only; omega)
    obtain ⟨dd, hdd⟩ : ∃ dd : DefV, dd = (nm, (d.2.set m ((d.2[m]'HM.out.2.1).1, 0))) := ⟨_, rfl⟩
    obtain ⟨dn, hdn⟩ : ∃ dn : DTxt, dn = (nm, (d.2.set m ((d.2[m]'HM.out.2.1).1, 0))).1 := ⟨_, rfl⟩
    have hdn2 : Hid (dn = dd.1) := by show dn = dd.1; rw [hdd, hdn]
    rw [← hdd] at HXk HWr
    clear HC hdd hdn
    go_upto_region 22 with fail
    generalize (wc.setCell ⟨gg, m * 2 + 1, none⟩ (.int .i64 (0))) = wn at HXk ⊢
    clear x0 x1 s0 s1 f0 f1 b0 b1
    obtain ⟨y0, y1⟩ := HXk.out.cells
    rw [← hdn2.out] at y0
    have C3 := K.right wn (some ⟨gg, 0, none⟩) len p2 dd HXk.out.df
    unfold defC at C3
    rw [HWr.out, ← hdn2.out] at C3
    have C3 := Lib.hid C3
    go_wp2_with fail
    refine C3.out.mono ?_
    rintro e w5 ⟨rfl, hk⟩
    have HX5 := Lib.hid (HXk.out.quiet hk)
    clear hk C3 HXk y0 y1
    obtain ⟨y0, y1⟩ := HX5.out.cells
    rw [← hdn2.out] at y0
    have C3 := K.tries w5 (some ⟨gg, 0, none⟩) len p2 dd HX5.out.df
    unfold defC at C3
    rw [tries_wrong HWr.out, ← hdn2.out] at C3
    have C3 := Lib.hid C3
    go_wp2_with fail
    refine C3.out.mono ?_
    rintro e w6 ⟨rfl, hk⟩
    have HK := Lib.hid (HX5.out.quiet hk).kept
    clear hk C3 HX5 y0 y1
    go_wp2
    go_ret
    exact ⟨rfl, HK.out⟩
  · skip
    have HXk : Hid (DBox w (wc.setCell ⟨gg, m * 2 + 1, none⟩ (.int .i64 (10001))) cb (some ⟨gg, 0, none⟩) len p2 (nm, (d.2.set m ((d.2[m]'HM.out.2.1).1, 10001)))) := by
      have h3 := HC.out.wrote hgg hne (m * 2 + 1) (.int .i64 (10001)) (steps_snd HM.out.2.2 m HM.out.2.1 (10001) (by unfold FitI; omega))
      rw [← hnm.out] at h3
      exact h3
    have HWr : Hid (rightD (nm, (d.2.set m ((d.2[m]'HM.out.2.1).1, 10001))) = false) := right_step (s := ((d.2[m]'HM.out.2.1).1, 10001)) (HM.out.1 _) (by unfold stepOk; rw [decide_eq_false_iff_not]; simp only; omega)
    obtain ⟨dd, hdd⟩ : ∃ dd : DefV, dd = (nm, (d.2.set m ((d.2[m]'HM.out.2.1).1, 10001))) := ⟨_, rfl⟩
    obtain ⟨dn, hdn⟩ : ∃ dn : DTxt, dn = (nm, (d.2.set m ((d.2[m]'HM.out.2.1).1, 10001))).1 := ⟨_, rfl⟩
    have hdn2 : Hid (dn = dd.1) := by show dn = dd.1; rw [hdd, hdn]
    rw [← hdd] at HXk HWr
    clear HC hdd hdn
    go_upto_region 22 with fail
    generalize (wc.setCell ⟨gg, m * 2 + 1, none⟩ (.int .i64 (10001))) = wn at HXk ⊢
    clear x0 x1 s0 s1 f0 f1 b0 b1
    obtain ⟨y0, y1⟩ := HXk.out.cells
    rw [← hdn2.out] at y0
    have C3 := K.right wn (some ⟨gg, 0, none⟩) len p2 dd HXk.out.df
    unfold defC at C3
    rw [HWr.out, ← hdn2.out] at C3
    have C3 := Lib.hid C3
    go_wp2_with fail
    refine C3.out.mono ?_
    rintro e w5 ⟨rfl, hk⟩
    have HX5 := Lib.hid (HXk.out.quiet hk)
    clear hk C3 HXk y0 y1
    obtain ⟨y0, y1⟩ := HX5.out.cells
    rw [← hdn2.out] at y0
    have C3 := K.tries w5 (some ⟨gg, 0, none⟩) len p2 dd HX5.out.df
    unfold defC at C3
    rw [tries_wrong HWr.out, ← hdn2.out] at C3
    have C3 := Lib.hid C3
    go_wp2_with fail
    refine C3.out.mono ?_
    rintro e w6 ⟨rfl, hk⟩
    have HK := Lib.hid (HX5.out.quiet hk).kept
    clear hk C3 HX5 y0 y1
    go_wp2
    go_ret
    exact ⟨rfl, HK.out⟩
  · skip
    have HXk : Hid (DBox w (wc.setCell ⟨cb, 1, none⟩ (.slice none 0 0)) cb none 0 0 (nm, [])) := by
      have hks := (Kept.refl (fun z => z = cb) wc).setCell (p := ⟨cb, 1, none⟩) rfl (.slice none 0 0)
      have hbx := Holds.set HC.out.x.box 1 (.slice none 0 0)
      rw [← hnm.out] at hbx
      exact ⟨HC.out.x.kept.trans hks (fun z hz => .inr (by have := HC.out.far; omega)), hbx, (steps_none _).1, (steps_none wc).2, hnl⟩
    have HWr : Hid (rightD (nm, []) = false) := right_none nm
    obtain ⟨dd, hdd⟩ : ∃ dd : DefV, dd = (nm, []) := ⟨_, rfl⟩
    obtain ⟨dn, hdn⟩ : ∃ dn : DTxt, dn = (nm, []).1 := ⟨_, rfl⟩
    have hdn2 : Hid (dn = dd.1) := by show dn = dd.1; rw [hdd, hdn]
    rw [← hdd] at HXk HWr
    clear HC hdd hdn
    go_upto_region 22 with fail
    generalize (wc.setCell ⟨cb, 1, none⟩ (.slice none 0 0)) = wn at HXk ⊢
    clear x0 x1 s0 s1 f0 f1 b0 b1
    obtain ⟨y0, y1⟩ := HXk.out.cells
    rw [← hdn2.out] at y0
    have C3 := K.right wn none 0 0 dd HXk.out.df
    unfold defC at C3
    rw [HWr.out, ← hdn2.out] at C3
    have C3 := Lib.hid C3
    go_wp2_with fail
    refine C3.out.mono ?_
    rintro e w5 ⟨rfl, hk⟩
    have HX5 := Lib.hid (HXk.out.quiet hk)
    clear hk C3 HXk y0 y1
    obtain ⟨y0, y1⟩ := HX5.out.cells
    rw [← hdn2.out] at y0
    have C3 := K.tries w5 none 0 0 dd HX5.out.df
    unfold defC at C3
    rw [tries_wrong HWr.out, ← hdn2.out] at C3
    have C3 := Lib.hid C3
    go_wp2_with fail
    refine C3.out.mono ?_
    rintro e w6 ⟨rfl, hk⟩
    have HK := Lib.hid (HX5.out.quiet hk).kept
    clear hk C3 HX5 y0 y1
    go_wp2
    go_ret
    exact ⟨rfl, HK.out⟩
  · skip
    have HXk : Hid (DBox w (wc.setCell ⟨gg, m * 2, none⟩ (.int .i64 (-1))) cb (some ⟨gg, 0, none⟩) len p2 (nm, (d.2.set m (-1, (d.2[m]'HM.out.2.1).2)))) := by
      have h3 := HC.out.wrote hgg hne (m * 2) (.int .i64 (-1)) (steps_fst HM.out.2.2 m HM.out.2.1 (-1) (by unfold FitI; omega))
      rw [← hnm.out] at h3
      exact h3
    have HWr : Hid (rightD (nm, (d.2.set m (-1, (d.2[m]'HM.out.2.1).2))) = false) := right_step (s := (-1, (d.2[m]'HM.out.2.1).2)) (HM.out.1 _) (by unfold stepOk; rw [decide_eq_false_iff_not]; simp only; omega)
    obtain ⟨dd, hdd⟩ : ∃ dd : DefV, dd = (nm, (d.2.set m (-1, (d.2[m]'HM.out.2.1).2))) := ⟨_, rfl⟩
    obtain ⟨dn, hdn⟩ : ∃ dn : DTxt, dn = (nm, (d.2.set m (-1, (d.2[m]'HM.out.2.1).2))).1 := ⟨_, rfl⟩
    have hdn2 : Hid (dn = dd.1) := by show dn = dd.1; rw [hdd, hdn]
    rw [← hdd] at HXk HWr
    clear HC hdd hdn
    go_upto_region 22 with fail
    generalize (wc.setCell ⟨gg, m * 2, none⟩ (.int .i64 (-1))) = wn at HXk ⊢
    clear x0 x1 s0 s1 f0 f1 b0 b1
    obtain ⟨y0, y1⟩ := HXk.out.cells
    rw [← hdn2.out] at y0
    have C3 := K.right wn (some ⟨gg, 0, none⟩) len p2 dd HXk.out.df
    unfold defC at C3
    rw [HWr.out, ← hdn2.out] at C3
    have C3 := Lib.hid C3
    go_wp2_with fail
    refine C3.out.mono ?_
    rintro e w5 ⟨rfl, hk⟩
    have HX5 := Lib.hid (HXk.out.quiet hk)
    clear hk C3 HXk y0 y1
    obtain ⟨y0, y1⟩ := HX5.out.cells
    rw [← hdn2.out] at y0
    have C3 := K.tries w5 (some ⟨gg, 0, none⟩) len p2 dd HX5.out.df
    unfold defC at C3
    rw [tries_wrong HWr.out, ← hdn2.out] at C3
    have C3 := Lib.hid C3
    go_wp2_with fail
    refine C3.out.mono ?_
    rintro e w6 ⟨rfl, hk⟩
    have HK := Lib.hid (HX5.out.quiet hk).kept
    clear hk C3 HX5 y0 y1
    go_wp2
    go_ret
    exact ⟨rfl, HK.out⟩

end Go.Proofs.Ytgjblcjoglaldaa
