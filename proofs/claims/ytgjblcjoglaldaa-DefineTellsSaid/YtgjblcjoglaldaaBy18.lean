/- The law DefineBytes (layer 18), walked over the contract of the program's definitions. -/
import Derived.Test.YtgjblcjoglaldaaEx18
import Derived.Test.YtgjblcjoglaldaaEs18
import Derived.Test.YtgjblcjoglaldaaRh18
namespace Go.Proofs.Ytgjblcjoglaldaa
open Go.RowKit Go.Proofs Go.Proofs.Pk
set_option maxRecDepth 10000
attribute [local simp] mk_get wrap64_u8 mk_extract ByteArray.mk_append_mk get_1k

theorem decD_small (b : DTxt) : (decD b).1.2.length ≤ 6 ∧ (decD b).1.1.length ≤ 20 ∧ ∀ s ∈ (decD b).1.2, FitSt s := by
  cases hd : decD b with
  | mk d o =>
    cases o with
    | false =>
      have := decD_no (b := b) (by rw [hd])
      rw [hd] at this
      have := (Prod.mk.inj this).1
      subst this
      exact ⟨by simp [zeroD], by simp [zeroD], by simp [zeroD]⟩
    | true =>
      have hr := (encD_ok (decD_iff.1 hd)).1
      have h := right_ofD hr
      refine ⟨h.2.1.2, (name_ofD h.1).2.2, fun s hs => ?_⟩
      have := step_of (h.2.2 s hs)
      exact ⟨⟨by omega, by omega⟩, ⟨by omega, by omega⟩⟩
theorem step_size : (Try.prog.info? 43).map (·.size) = some 2 := by kernel_rfl

/-- What Decode answers, as the laws take it. -/
theorem DecK18.get {w w' : World} {d : DefV} {o : Bool} {e : Ending} (h : DecK18 w (d, o) e w') : ∃ (ad : Option Addr) (cap : Nat), e = .returned (.tuple #[defC d.1 ad d.2.length cap, if o = true then .nilIface else .iface 49 (.int .i64 3)]) ∧ w'.ownsRow w.heap.size 43 2 (.slice ad d.2.length cap) d.2.length (d.2.flatMap stC) ∧ (∀ s ∈ d.2, FitSt s) ∧ Kept (fun _ => False) w w' := by
  obtain ⟨ad, cap, h1, h2, h3, h4⟩ := h
  refine ⟨ad, cap, ?_, h2, h3, h4⟩
  cases o <;> exact h1
theorem own_df {w : World} {B n cap : Nat} {ad : Option Addr} {nm : DTxt} {T : List StV} (h : w.ownsRow B 43 2 (.slice ad n cap) n (T.flatMap stC)) (hl : T.length = n) (hf : ∀ s ∈ T, FitSt s) (hk : n ≤ 1048577) (hn : nm.length ≤ 1048576) : DefW w ad n cap (nm, T) := by
  obtain ⟨a', c', he, h1, h2, h3, h4⟩ := owns_steps h hl hf
  cases he
  exact ⟨h1, ⟨.inr h3, h2, by omega, h4⟩, by simp only; omega⟩
/-- The definition that came, in its box; its steps may be written. -/
structure YB (wq wr : World) (yb : Nat) (nm : DTxt) (ad : Option Addr) (n cap : Nat) : Prop where
  kept : Kept (fun _ => False) wq wr
  far : wq.heap.size ≤ yb
  box : Holds wr yb [.string ⟨nm.toArray⟩, .slice ad n cap] 24
  own : n = 0 ∨ ∃ g, ad = some ⟨g, 0, none⟩ ∧ wq.heap.size ≤ g ∧ g < yb ∧ wr.there g 0 (n * 2)
theorem YB.of {wq w wr : World} {nm : DTxt} {ad : Option Addr} {n cap : Nat} {T : List StV} (h : wr.ownsRow w.heap.size 43 2 (.slice ad n cap) n (T.flatMap stC)) (hl : T.length = n) (hw : wq.heap.size ≤ w.heap.size) (hk : Kept (fun _ => False) wq wr) :
    YB wq (wr.alloc (.cells #[.string ⟨nm.toArray⟩, .slice ad n cap] 24)) wr.heap.size nm ad n cap := by
  refine ⟨hk.alloc _, hk.size, Holds.new wr _ _, ?_⟩
  by_cases h0 : n = 0
  · exact .inl h0
  · have h' := h.alloc (.cells #[.string ⟨nm.toArray⟩, .slice ad n cap] 24)
    rcases h.2 with ⟨_, h2⟩ | ⟨g, cap', cur, e, hB, h3⟩
    · exact absurd h2 h0
    · have e2 : ad = some ⟨g, 0, none⟩ := by injection e
      subst e2
      have hg := (h.lt g rfl).2
      refine .inr ⟨g, rfl, by omega, hg, fun j hj => ⟨?_, h'.frozenAt (0 + j)⟩⟩
      have hln : ∀ T : List StV, (T.flatMap stC).length = T.length * 2 := fun T => by
        induction T with
        | nil => rfl
        | cons a r ih => rw [List.flatMap_cons, List.length_append, ih, List.length_cons]; show 2 + r.length * 2 = _; omega
      have hlj : j < (T.flatMap stC).length := by rw [hln, hl]; omega
      have := h'.cells rfl j (T.flatMap stC)[j] (List.getElem?_eq_getElem hlj)
      rw [add0] at this
      rw [Nat.zero_add, this]; rfl
theorem YB.quiet {wq wr w' : World} {yb : Nat} {nm : DTxt} {ad : Option Addr} {n cap : Nat} (h : YB wq wr yb nm ad n cap) (hk : Kept (fun _ => False) wr w') : YB wq w' yb nm ad n cap := by
  refine ⟨h.kept.trans hk (fun _ f => f.elim), h.far, h.box.of_block (hk.block yb h.box.lt (fun f => f)), h.own.imp_right ?_⟩
  rintro ⟨g, h1, h2, h3, h4⟩
  have hg : g < wr.heap.size := Nat.lt_trans h3 h.box.lt
  refine ⟨g, h1, h2, h3, fun j hj => ⟨?_, ?_⟩⟩
  · rw [hk.cell (p := ⟨g, 0 + j, none⟩) hg (fun f => f)]; exact (h4 j hj).1
  · rw [hk.frozen (p := ⟨g, 0 + j, none⟩) hg (fun f => f)]; exact (h4 j hj).2
theorem YB.put {wq wr : World} {yb : Nat} {nm : DTxt} {g n cap : Nat} (h : YB wq wr yb nm (some ⟨g, 0, none⟩) n cap) (hn : n ≠ 0) (k : Nat) (vs : List Value) : YB wq (wr.setCells g k vs) yb nm (some ⟨g, 0, none⟩) n cap := by
  rcases h.own with h0 | ⟨g', h1, h2, h3, h4⟩
  · exact absurd h0 hn
  · injection h1 with h1
    injection h1 with h1
    subst h1
    have hk : Kept (fun z => z = g) wr (wr.setCells g k vs) := Kept.setCells (X := fun z => z = g) rfl _ _ _ (Kept.refl _ wr)
    exact ⟨Kept.setCellsN h2 _ _ _ h.kept, h.far, h.box.of_block (hk.block yb h.box.lt (by omega)), .inr ⟨g, rfl, h2, h3, World.there_setCells h4 _ _ _⟩⟩

set_option maxHeartbeats 8000000 in
theorem bytes18 {N : Nat} (hN : 1048576 ≤ N) (K : DfK N) (ad : Option Addr) (len cap : Nat) (d : DefV) (b : DTxt) (w : World) (hs : b.length ≤ 1048576) (h0 : DefW w ad len cap d) :
    Calls Try.prog 4 #[defC d.1 ad len cap, .string ⟨b.toArray⟩] w fun e w' => e = .returned (.bool true) ∧ Kept (fun _ => False) w w' := by
  have HB := Lib.hid (DBox.new (Kept.refl _ w) h0)
  obtain ⟨nm, hnm⟩ : ∃ nm, Hid (nm = d.1) := ⟨_, rfl⟩
  obtain ⟨hsm1, hsm2, hft⟩ := decD_small b
  have CR := Lib.hid (fun W : World => rDec18 W b hs)
  have CP := Lib.hid (fun W : World => K.decode W b (by omega))
  have HFt := Lib.hid hft
  clear hft
  generalize decD b = D at CR CP hsm1 hsm2 HFt
  obtain ⟨wd, fine⟩ := D
  obtain ⟨wn, T⟩ := wd
  simp only at hsm1 hsm2 HFt
  obtain ⟨⟨a, ok⟩, hao⟩ : ∃ r, Hid (r = encD d) := ⟨_, rfl⟩
  obtain ⟨ev, hev⟩ : ∃ ev, Hid (ev = errV 49 (if ok = true then 0 else 1)) := ⟨_, rfl⟩
  unfold defC
  rw [← hnm.out] at HB ⊢
  clear h0
  go_enter Try.func4, Try.ntmps4
  go_upto_region 1 with fail
  obtain ⟨g, hg⟩ : ∃ g, g = w.heap.size := ⟨_, rfl⟩
  rw [← hg] at HB ⊢
  change Code.wp _ _ _ _ (w.alloc (.cells #[.string ⟨nm.toArray⟩, .slice ad len cap] 24))
  generalize w.alloc (.cells #[.string ⟨nm.toArray⟩, .slice ad len cap] 24) = wa at HB ⊢
  clear hg
  have HX := Lib.hid (examples18 K wa)
  go_wp2_with fail
  refine HX.out.mono ?_
  rintro e w1 ⟨rfl, hk⟩
  have HB1 := Lib.hid (HB.out.quiet hk)
  clear hk HX HB
  have C1 := K.encode w1 ad len cap d HB1.out.df
  unfold defC at C1
  rw [← hnm.out, ← hao.out] at C1
  simp only at C1
  rw [← hev.out] at C1
  have C1 := Lib.hid C1
  obtain ⟨d0, d1⟩ := HB1.out.cells
  rw [← hnm.out] at d0
  go_wp2_with fail
  refine C1.out.mono ?_
  rintro e w2 ⟨rfl, hk⟩
  have HB2 := Lib.hid (HB1.out.quiet hk)
  clear hk C1 HB1 d0 d1
  have C1 := rEnc18 w2 ad len cap d HB2.out.df
  unfold defC at C1
  rw [← hnm.out, ← hao.out] at C1
  simp only at C1
  have C1 := Lib.hid C1
  obtain ⟨d0, d1⟩ := HB2.out.cells
  rw [← hnm.out] at d0
  go_wp2_with fail
  refine C1.out.mono ?_
  rintro e w3 ⟨rfl, hk⟩
  have HK3 := Lib.hid (HB2.out.quiet hk).kept
  clear hk C1 HB2 d0 d1 hao
  go_wp2_with fail
  refine (CR.out _).mono ?_
  rintro e w4 ⟨wa', wl, wc, rfl, hwd, hk⟩
  simp only at hwd
  have hwl := hwd.1.1
  simp only at hwl
  have HBw := DBox.new (HK3.out.trans hk (fun _ f => f.elim)) hwd
  simp only at HBw
  have HBw := Lib.hid HBw
  clear hk HK3 CR hwd
  unfold defC
  simp only
  go_upto_region 5 with fail
  obtain ⟨p, hp⟩ : ∃ p, p = w4.heap.size := ⟨_, rfl⟩
  rw [← hp] at HBw ⊢
  change Code.wp _ _ _ _ (w4.alloc (.cells #[.string ⟨wn.toArray⟩, .slice wa' wl wc] 24))
  generalize w4.alloc (.cells #[.string ⟨wn.toArray⟩, .slice wa' wl wc] 24) = w5 at HBw ⊢
  clear hp
  go_wp2
  go_loopw [12] (fun i wr => ∃ j : Nat, j ≤ 2 ∧ i = .int .i64 (j : Int) ∧ Hid (DBox w wr p wa' wl wc (wn, T))) (fun i _ => 2 - (intOf i).toNat)
  case atStart => exact ⟨0, by omega, rfl, HBw⟩
  case round =>
    clear HBw
    obtain ⟨j, hj, rfl, hK⟩ := hrel
    have j0 : (0 : Int) ≤ (j : Int) := by omega
    have hwj : IntKind.i64.wrap ((j : Int) + 1) = (j : Int) + 1 := IntWalk.i64_in _ (by omega)
    by_cases hlt : j < 2
    case neg =>
      have jn : ¬(j : Int) < 2 := by omega
      have HK := Lib.hid hK.out.kept
      clear hK
      cases ok with
      | true =>
        obtain rfl : ev = .nilIface := hev.out
        go_wp2
        go_ret
        exact ⟨rfl, HK.out⟩
      | false =>
        obtain rfl : ev = .iface 49 (.int .i64 1) := hev.out
        have A2 : Hid (∀ W, Calls Try.prog 20 #[.iface 49 (.int .i64 1), .int .i64 1] W fun e w' => e = .returned (.bool true) ∧ W = w') := fun W => is_any 1 1 W
        go_wp2_with fail
        refine (A2.out _).mono ?_
        rintro e w6 ⟨rfl, rfl⟩
        go_wp2
        go_ret
        exact ⟨rfl, HK.out⟩
    have jn : (j : Int) < 2 := by omega
    go_wp2_with fail
    refine (CP.out _).mono ?_
    intro e w6 he
    have hge := he.get
    obtain ⟨fv, hfv⟩ : ∃ fv : Value, Hid (fv = if fine = true then .nilIface else .iface 49 (.int .i64 3)) := ⟨_, rfl⟩
    rw [← hfv.out] at hge
    simp only [hwl] at hge
    obtain ⟨ad2, cap2, rfl, hown, hfs, hk⟩ := hge
    have hyd := own_df (nm := wn) hown hwl hfs (by omega) (by omega)
    have hka := (Kept.refl (fun _ => False) w6).alloc (.cells #[.string ⟨wn.toArray⟩, .slice ad2 wl cap2] 24)
    have HY := Lib.hid (And.intro (YB.of (nm := wn) hown hwl (Nat.le_refl _) hk) (hyd.kept hka))
    have HW := Lib.hid ((hK.out.quiet hk).quiet hka)
    have HBk : Hid (∀ W, Kept (fun _ => False) wr W → DBox w W p wa' wl wc (wn, T)) := fun W h => hK.out.quiet h
    clear he hown hfs hk hyd hka hK
    unfold defC
    go_upto_region 9 with fail
    obtain ⟨yb, hyb⟩ : ∃ yb, yb = w6.heap.size := ⟨_, rfl⟩
    rw [← hyb] at HY ⊢
    change Code.wp _ _ _ _ (w6.alloc (.cells #[.string ⟨wn.toArray⟩, .slice ad2 wl cap2] 24))
    generalize w6.alloc (.cells #[.string ⟨wn.toArray⟩, .slice ad2 wl cap2] 24) = wb at HY HW ⊢
    clear hyb
    obtain ⟨c0, c1⟩ := HW.out.cells
    have y0 := Holds.cell HY.out.1.box 0 _ rfl
    have y1 := Holds.cell HY.out.1.box 1 _ rfl
    have HS := Lib.hid (defsSame wb ad2 wa' wl cap2 wl wc (wn, T) HY.out.2 HW.out.df)
    unfold defC at HS
    go_wp2_with fail
    refine HS.out.mono ?_
    rintro e w7 ⟨rfl, hk7⟩
    have HY7 := Lib.hid (HY.out.1.quiet hk7)
    clear hk7 HY HW HS c0 c1 y0 y1
    have A3 : Hid (∀ W, Calls Try.prog 20 #[.iface 49 (.int .i64 3), .int .i64 3] W fun e w' => e = .returned (.bool true) ∧ W = w') := fun W => is_any 3 3 W
    cases fine
    case' true =>
      obtain rfl : fv = .nilIface := hfv.out
      go_wp2
    case' false =>
      obtain rfl : fv = .iface 49 (.int .i64 3) := hfv.out
      go_wp2_with fail
      refine (A3.out _).mono ?_
      rintro e w8 ⟨rfl, rfl⟩
      go_wp2
    all_goals
      clear A3
      go_loopw [16] (fun i wy => ∃ k : Nat, k ≤ wl ∧ i = .int .i64 (k : Int) ∧ Hid (YB wr wy yb wn ad2 wl cap2)) (fun i _ => wl - (intOf i).toNat)
      case atStart => exact ⟨0, Nat.zero_le _, rfl, HY7⟩
      case round =>
        obtain ⟨k, hkn, rfl, hI⟩ := hrel
        clear HY7
        have k0 : (0 : Int) ≤ (k : Int) := by omega
        have hwk : IntKind.i64.wrap ((k : Int) + 1) = (k : Int) + 1 := IntWalk.i64_in _ (by omega)
        have y1 := Holds.cell hI.out.box 1 _ rfl
        by_cases hlt2 : k < wl
        · have kn : (k : Int) < (wl : Int) := by omega
          rcases hI.out.own with h0 | ⟨gg, rfl, hg, hgy, hth⟩
          · omega
          · rename World => wz
            have hth2 : wz.there gg (k * 2) (stC (-1, 0)).toArray.size := fun i hi => by
              have hi4 : i < 2 := hi
              have := hth (k * 2 + i) (by omega)
              rwa [Nat.zero_add] at this
            have HNx := Lib.hid (hI.out.put (by omega) (k * 2) (stC (-1, 0)))
            clear hth hI hg hgy
            go_wp2_with (refine wpList_store_mid rfl 43 (.tmp 73) (.tmp 72) rfl gg (k * 2) (stC (-1, 0)).toArray rfl rfl hth2 (by rw [step_size]; rfl) (all_oneCell_toArray (step_one _)) ?_)
            go_roundw
            case rel => exact ⟨k + 1, by omega, by first | rfl | go_num, HNx⟩
            case measure => simp [intOf]; omega
        · obtain rfl : k = wl := by omega
          have kn : ¬(k : Int) < (k : Int) := by omega
          have HF2 := Lib.hid (HBk.out _ hI.out.kept)
          clear hI
          go_wp2
          refine ⟨⟨j + 1, by omega, by first | rfl | go_num, HF2⟩, ?_⟩
          simp [intOf]; omega

end Go.Proofs.Ytgjblcjoglaldaa
