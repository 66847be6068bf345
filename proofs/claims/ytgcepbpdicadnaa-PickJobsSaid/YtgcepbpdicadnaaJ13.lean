/- Pt16, Bel16, FinC16. -/
import Derived.Test.YtgcepbpdicadnaaJ11
import Derived.Test.YtgcepbpdicadnaaJ12
import Derived.Test.YtgcepbpdicadnaaJ08

/- The law PickCuts (layer 16), walked over the contract of the program's choice. -/
namespace Go.Proofs.Ytgcepbpdicadnaa
open Go.RowKit Go.Proofs Go.Proofs.Pk
set_option maxRecDepth 10000
attribute [local simp] mk_get wrap64_u8 mk_extract ByteArray.mk_append_mk get_1k

theorem RctE.get {w w' : World} {l : List (List MEnt)} {o : Bool} {e : Ending} (h : RctE w (l, o) e w') : ∃ (ad : Option Addr) (cap : Nat), e = .returned (.tuple #[.slice ad l.length cap, .bool o]) ∧ LsE w' ad l.length l ∧ Kept (fun _ => False) w w' := h
theorem CutE.get {w w' : World} {l : List (List MEnt)} {o : Bool} {e : Ending} (h : CutE w (l, o) e w') : ∃ (ad : Option Addr) (cap : Nat), e = .returned (.tuple #[.slice ad l.length cap, if o = true then .nilIface else .iface 62 (.int .i64 1)]) ∧ PcsW w w' ad l.length l ∧ Kept (fun _ => False) w w' := by
  obtain ⟨ad, cap, h1, h2, h3⟩ := h
  refine ⟨ad, cap, ?_, h2, h3⟩
  cases o <;> exact h1

set_option maxHeartbeats 16000000 in
theorem cuts_go (K : PkK) (ad : Option Addr) (len cap n cap2 : Nat) (k : Int) (T : List MEnt) (w : World) (HE : ExH16 w) (hsl : CutS ad len cap n cap2 200) (hfs : FitN k) (HI : Hid (EntsW w ad n T ∧ n ≤ 200)) :
    Calls Try.prog 4 #[.slice ad len cap, .int .i64 k] w fun e w' => e = .returned (.bool true) ∧ Kept (fun _ => False) w w' := by
  have kn : (0 : Int) ≤ (n : Int) := Int.natCast_nonneg n
  have HQ := Lib.hid hfs
  have hbare : (ad = none → cap2 = 0) ∧ n ≤ cap2 := by
    rcases hsl with ⟨b0, off, rfl, k1, k2, k3, rfl⟩ | ⟨rfl, rfl, rfl, rfl, rfl⟩
    · exact ⟨(fun h => (by cases h)), by omega⟩
    · exact ⟨fun _ => rfl, Nat.le_refl _⟩
  have HBare := Lib.hid hbare
  clear hfs hbare
  go_enter Try.func4, Try.ntmps4
  go_wp2_with fail
  refine HE.out.mono ?_
  clear HE
  rintro e w1 ⟨rfl, hk1⟩
  go_upto_region 2 with fail
  go_cut [0] from 17 (fun s0 wx => s0 = .slice ad n cap2 ∧ wx = w1)
  case first =>
    clear HI HQ HBare
    rcases hsl with ⟨b0, off, rfl, k1, k2, k3, rfl⟩ | ⟨rfl, rfl, rfl, rfl, rfl⟩
    all_goals
      go_wp2
      go_meet
      case rel => exact ⟨rfl, rfl⟩
  case rest =>
  obtain ⟨rfl, hwc⟩ := hcut
  rw [hwc]
  clear hwc hsl
  have HK1 := Lib.hid hk1
  obtain ⟨a2, c2, wv, hcp, hev, hkv, hfr, hnc⟩ := copy_run w1 (ents_keptK HI.out.1 hk1) (by have := HI.out.2; omega) HBare.out.1
  have HKv := Lib.hid (HK1.out.trans hkv (fun _ h => h.elim))
  have HEv := Lib.hid hev
  have HNc := Lib.hid hnc
  clear hk1 hev hkv hfr HK1 hnc
  go_wp2_with (at_builtin; refine wpList_of_run rfl (some 23) rfl (exec_append (s := .const (.slice none 0 0)) (x := .tmp 22) hcp (by rfl) (by rfl) (by rfl) (by rfl)) ?_)
  have C1 := rCut wv ad n cap2 T k (ents_keptK HI.out.1 HKv.out) (by have := HI.out.2; omega) HBare.out.2 HQ.out
  obtain ⟨Ls, O0, hR⟩ : ∃ Ls O0, Hid ((Ls, O0) = cutR T k) := ⟨_, _, rfl⟩
  rw [← hR.out] at C1
  have C1 := Lib.hid C1
  clear hcp
  refine C1.out.mono ?_
  clear C1
  intro e wR h
  obtain ⟨aw, cw, rfl, hW, hkR⟩ := h.get
  have HKR := Lib.hid (HKv.out.trans hkR (fun _ h => h.elim))
  have HOwn := Lib.hid (ents_keptK HEv.out hkR)
  have HL := Lib.hid (ents_keptK HI.out.1 HKR.out)
  have hfl : Ls.flatten.length ≤ 200 := by
    have h1 := hR.out
    have h2 := HI.out.1.1
    have h3 := HI.out.2
    unfold cutR at h1
    split at h1
    · rw [(Prod.mk.inj h1).1, cut_flat]; omega
    · rw [(Prod.mk.inj h1).1]; simp
  have hne : ∀ p ∈ Ls, p ≠ [] := by
    have h1 := hR.out
    unfold cutR at h1
    split at h1
    · rw [(Prod.mk.inj h1).1]; exact fun p hp => cut_ne hp
    · rw [(Prod.mk.inj h1).1]; intro p hp; cases hp
  have hm200 : Ls.length ≤ 200 := by
    have h1 := hR.out
    have h2 := HI.out.1.1
    have h3 := HI.out.2
    unfold cutR at h1
    split at h1
    · rw [(Prod.mk.inj h1).1]; have := cutS_many k.toNat T []; unfold cutP; omega
    · rw [(Prod.mk.inj h1).1]; simp
  have hTn : T.length ≤ 20000 := by have := HI.out.1.1; have := HI.out.2; omega
  have HNe := Lib.hid hne
  have HFl := Lib.hid hfl
  have HM : Hid (∀ W, Kept (fun _ => False) wR W → Calls Try.prog 15 #[.slice a2 n c2, .int .i64 k] W (CutE W (Ls, O0))) := fun W hk => by
    rw [hR.out]; exact K.cut W a2 n c2 T k (ents_keptK HOwn.out hk) (by have := HI.out.2; omega) HNc.out HQ.out
  obtain ⟨m, hm⟩ : ∃ m, Hid (m = Ls.length) := ⟨_, rfl⟩
  rw [← hm.out] at hW hm200 ⊢
  have HW := Lib.hid hW
  have HKK : Hid (Kept (fun _ => False) wR wR) := Kept.refl _ _
  clear h hW hkR hfl hne HKv HEv hR HQ HI
  cases O0
  all_goals
    go_wp2
    go_loopw [9] (fun t wr => ∃ x : Nat, x ≤ 2 ∧ t = .int .i64 (x : Int) ∧ Hid (Kept (fun _ => False) wR wr)) (fun t _ => 2 - (intOf t).toNat)
    case atStart => exact ⟨0, Nat.zero_le _, rfl, HKK⟩
    case round =>
      rename World => wc
      obtain ⟨x, hx, rfl, hK⟩ := hrel
      clear HKK
      have x0 : (0 : Int) ≤ (x : Int) := by omega
      by_cases hlt : x < 2
      case neg =>
        obtain rfl : x = 2 := by omega
        have HKe := Lib.hid (HKR.out.trans hK.out (fun _ h => h.elim))
        have C2 := Lib.hid (ents16 wc a2 ad n c2 n cap2 T T (ents_keptK HOwn.out hK.out) (ents_keptK HL.out hK.out) hTn hTn)
        clear hK
        go_wp2_with fail
        refine C2.out.mono ?_
        clear C2
        rintro e wd ⟨y, rfl, hy, hkd⟩
        obtain rfl : y = true := hy.2 rfl
        have HKd := Lib.hid (HKe.out.trans hkd (fun _ h => h.elim))
        clear hy hkd HKe
        go_wp2
        go_ret
        exact ⟨rfl, HKd.out⟩
      have xn : (x : Int) < 2 := by omega
      have hwx : IntKind.i64.wrap ((x : Int) + 1) = (x : Int) + 1 := IntWalk.i64_in _ (by omega)
      have C1 := Lib.hid (HM.out wc hK.out)
      have hcR : Hid (wR.heap.size ≤ wc.heap.size) := hK.out.size
      go_wp2_with fail
      refine C1.out.mono ?_
      clear C1
      intro e wd h
      obtain ⟨ad3, c3, rfl, hP, hkd⟩ := h.get
      have HKd := Lib.hid (hK.out.trans hkd (fun _ h => h.elim))
      have HP := Lib.hid hP
      rw [← hm.out] at HP ⊢
      have HIs := Lib.hid (fun W : World => is_any16 1 1 W)
      clear h hP hkd hK
      have HZ0 : Hid (∃ g og pl, (m = 0 ∨ ad3 = some ⟨g, og, none⟩) ∧ ZS wR wd g og pl Ls 0) := by
        rcases HP.out.2 with h0 | ⟨g, og, pl, h1, _, _, h4, h5⟩
        · have hno : ∀ j, ¬j < Ls.length := fun j hj => by rw [h0] at hj; simp at hj
          exact ⟨0, 0, fun _ => (0, 0), .inl (by rw [hm.out, h0]; rfl), ⟨HKd.out, fun j h => absurd h (hno j), fun j h => absurd h (hno j), fun j h => absurd h (hno j), fun j h => absurd h (hno j), fun i k h => absurd h (hno i), fun j h => absurd h (hno j)⟩⟩
        · exact ⟨g, og, pl, .inr h1, ZS.of HKd.out hcR.out (fun i h => ⟨by obtain ⟨⟨ci, a1, _⟩, _⟩ := h4 i h; exact ⟨ci, a1⟩, (h4 i h).2⟩) h5⟩
      clear HP
      go_wp2_with (go_at_call 16; refine (HIs.out _).mono ?_; rintro e wz ⟨rfl, rfl⟩)
      obtain ⟨g, og, pl, hg, hZ⟩ := HZ0.out
      have HZ : Hid (ZS wR wd g og pl Ls 0) := hZ
      clear HZ0 hZ HKd
      go_loopw [12] (fun t wr => ∃ i : Nat, i ≤ m ∧ t = .int .i64 (i : Int) ∧ Hid (ZS wR wr g og pl Ls i)) (fun t _ => m - (intOf t).toNat)
      case atStart => exact ⟨0, Nat.zero_le _, rfl, HZ⟩
      case round =>
        rename World => we
        obtain ⟨i, hi, rfl, hY⟩ := hrel
        clear HZ
        have i0 : (0 : Int) ≤ (i : Int) := by omega
        by_cases hlti : i < m
        case neg =>
          obtain rfl : i = m := by omega
          have inn : ¬(i : Int) < (i : Int) := by omega
          have HKf : Hid (Kept (fun _ => False) wR we) := hY.out.kept
          clear hY
          go_wp2
          go_roundw
          case rel => exact ⟨x + 1, hlt, by first | rfl | go_num, HKf⟩
          case measure => simp [intOf]; omega
        have inn : (i : Int) < (m : Int) := by omega
        have hwi : IntKind.i64.wrap ((i : Int) + 1) = (i : Int) + 1 := IntWalk.i64_in _ (by omega)
        have hiL : i < Ls.length := by have := hm.out; omega
        obtain rfl : ad3 = some ⟨g, og, none⟩ := by
          rcases hg with h | h
          · omega
          · exact h
        obtain ⟨cj, hc⟩ := hY.out.spine i hiL
        obtain ⟨g2, og2, ai2, ci2, rfl, hat⟩ := HW.out.at hiL
        obtain ⟨d0, dE⟩ := hat we hY.out.kept
        have hpE := hY.out.intact i hiL (Nat.le_refl _)
        have hpl : (Ls[i]).length ≤ 200 := by have h1 := flat_one hiL; have h2 := HFl.out; omega
        have CE : Hid (∀ W, Kept (fun _ => False) we W → Calls Try.prog 17 #[.slice (some ⟨(pl i).1, (pl i).2, none⟩) (Ls[i]).length cj, .slice ai2 (Ls[i]).length ci2] W (SameP (Ls[i]) (Ls[i]) W)) := fun W hk =>
          ents16 W _ ai2 _ cj _ ci2 _ _ (ents_keptK hpE hk) (ents_keptK dE hk) (by omega) (by omega)
        obtain ⟨lp, hlp⟩ : ∃ lp, Hid (lp = (Ls[i]).length) := ⟨(Ls[i]).length, rfl⟩
        obtain ⟨P, hP⟩ : ∃ P, P = Ls[i] := ⟨_, rfl⟩
        obtain ⟨pb, hpb⟩ : ∃ pb, Hid (pb = (pl i).1) := ⟨_, rfl⟩
        obtain ⟨po, hpo⟩ : ∃ po, Hid (po = (pl i).2) := ⟨_, rfl⟩
        rw [← hlp.out] at hc d0 CE hpl
        rw [← hP] at CE
        rw [← hpb.out, ← hpo.out] at hc CE
        have HYq : Hid (∀ W, Kept (fun _ => False) we W → ZS wR W g og pl Ls (i + 1)) := fun W hk => (hY.out.quiet HNe.out hk).weaken
        have hgl := World.block_lt_of_cell? we _ hc
        have hgl2 := World.block_lt_of_cell? we _ d0
        clear hpE dE hat hP hY
        go_upto_region 14 with fail
        refine wp_region_until (fun W => W.cell? ⟨g, og + i, none⟩ = some (.slice (some ⟨pb, po, none⟩) lp cj) ∧ W.cell? ⟨g2, og2 + i, none⟩ = some (.slice ai2 lp ci2)) 10 (by kernel_rfl) ?_
        have hS : (fun W : World => W.cell? ⟨g, og + i, none⟩ = some (.slice (some ⟨pb, po, none⟩) lp cj) ∧ W.cell? ⟨g2, og2 + i, none⟩ = some (.slice ai2 lp ci2)) we.drew := ⟨hc, d0⟩
        refine wpAnyU_take (i := 0) (v := (.slice (some ⟨g, og, none⟩) m c3)) (some 66) rfl rfl (by kernel_rfl) (by kernel_rfl) (by kernel_rfl) (by kernel_rfl) (fun _ _ _ h => h) hS (yields_of (by kernel_rfl) (fun w ⟨s1, s2⟩ => by go_simp)) ?_
        refine wpAnyU_take (i := 1) (v := (.int .i64 (i : Int))) (some 67) rfl rfl (by kernel_rfl) (by kernel_rfl) (by kernel_rfl) (by kernel_rfl) (fun _ _ _ h => h) hS (yields_of (by kernel_rfl) (fun w ⟨s1, s2⟩ => by go_simp)) ?_
        refine wpAnyU_take (i := 2) (v := (.pointer (some ⟨g, og + i, none⟩))) (some 68) rfl rfl (by kernel_rfl) (by kernel_rfl) (by kernel_rfl) (by kernel_rfl) (fun _ _ _ h => h) hS (yields_of (by kernel_rfl) (fun w ⟨s1, s2⟩ => by go_simp)) ?_
        refine wpAnyU_take (i := 3) (v := (.slice (some ⟨pb, po, none⟩) lp cj)) (some 69) rfl rfl (by kernel_rfl) (by kernel_rfl) (by kernel_rfl) (by kernel_rfl) (fun _ _ _ h => h) hS (yields_of (by kernel_rfl) (fun w ⟨s1, s2⟩ => by go_simp)) ?_
        refine wpAnyU_take (i := 4) (v := (.slice (some ⟨g2, og2, none⟩) m cw)) (some 70) rfl rfl (by kernel_rfl) (by kernel_rfl) (by kernel_rfl) (by kernel_rfl) (fun _ _ _ h => h) hS (yields_of (by kernel_rfl) (fun w ⟨s1, s2⟩ => by go_simp)) ?_
        refine wpAnyU_take (i := 5) (v := (.int .i64 (i : Int))) (some 71) rfl rfl (by kernel_rfl) (by kernel_rfl) (by kernel_rfl) (by kernel_rfl) (fun _ _ _ h => h) hS (yields_of (by kernel_rfl) (fun w ⟨s1, s2⟩ => by go_simp)) ?_
        refine wpAnyU_take (i := 6) (v := (.pointer (some ⟨g2, og2 + i, none⟩))) (some 72) rfl rfl (by kernel_rfl) (by kernel_rfl) (by kernel_rfl) (by kernel_rfl) (fun _ _ _ h => h) hS (yields_of (by kernel_rfl) (fun w ⟨s1, s2⟩ => by go_simp)) ?_
        refine wpAnyU_take (i := 7) (v := (.slice ai2 lp ci2)) (some 73) rfl rfl (by kernel_rfl) (by kernel_rfl) (by kernel_rfl) (by kernel_rfl) (fun _ _ _ h => h) hS (yields_of (by kernel_rfl) (fun w ⟨s1, s2⟩ => by go_simp)) ?_
        refine wpAnyU_call (i := 8) (f := 17) (args := #[.slice (some ⟨pb, po, none⟩) lp cj, .slice ai2 lp ci2]) (some 74) rfl rfl (by kernel_rfl) (by kernel_rfl) (by kernel_rfl) ?_
        refine (CE.out we.drew ((Kept.refl _ we).drewN 1)).mono ?_
        rintro r wv ⟨y, rfl, hy, hkv⟩
        obtain rfl : y = true := hy.2 rfl
        have hkw : Kept (fun _ => False) we wv := ((Kept.refl _ we).drewN 1).trans hkv (fun _ h => h.elim)
        have hSv : wv.cell? ⟨g, og + i, none⟩ = some (.slice (some ⟨pb, po, none⟩) lp cj) ∧ wv.cell? ⟨g2, og2 + i, none⟩ = some (.slice ai2 lp ci2) := ⟨(hkw.cell (p := ⟨g, og + i, none⟩) hgl (fun f => f)).trans hc, (hkw.cell (p := ⟨g2, og2 + i, none⟩) hgl2 (fun f => f)).trans d0⟩
        refine ⟨_, rfl, fun _ => hSv, ?_⟩
        refine wpAnyU_run (i := 9) (v := .bool true) (w' := wv) (some 13) rfl rfl (by kernel_rfl) (by kernel_rfl) (by go_simp) (fun h => by omega) ?_
        refine wpAnyU_done (by kernel_rfl) ?_ _
        simp only [put_lit, List.set_cons_succ, List.set_cons_zero]
        have HZ1 : Hid (ZS wR wv g og pl Ls (i + 1)) := HYq.out wv hkw
        clear hS hSv hkw hkv hy CE HYq hc d0 hgl hgl2
        go_wp2
        go_loopw [14] (fun t wr => ∃ z : Nat, z ≤ lp ∧ t = .int .i64 (z : Int) ∧ Hid (ZS wR wr g og pl Ls (i + 1))) (fun t _ => lp - (intOf t).toNat)
        case atStart => exact ⟨0, Nat.zero_le _, rfl, HZ1⟩
        case round =>
          obtain ⟨z, hz, rfl, hV⟩ := hrel
          clear HZ1
          have z0 : (0 : Int) ≤ (z : Int) := by omega
          obtain ⟨cj2, hc⟩ := hV.out.spine i hiL
          rw [← hlp.out, ← hpb.out, ← hpo.out] at hc
          by_cases hltz : z < lp
          case neg =>
            obtain rfl : z = lp := by omega
            have zn : ¬(z : Int) < (z : Int) := by omega
            have HV2 : Hid (ZS wR wr g og pl Ls (i + 1)) := hV.out
            clear hV
            go_wp2
            go_roundw
            case rel => exact ⟨i + 1, hlti, by first | rfl | go_num, HV2⟩
            case measure => simp [intOf]; omega
          have zn : (z : Int) < (lp : Int) := by omega
          have hwz : IntKind.i64.wrap ((z : Int) + 1) = (z : Int) + 1 := IntWalk.i64_in _ (by omega)
          have hth : ∀ o, o < 4 → ∃ v, wr.cell? ⟨pb, po + z * 4 + o, none⟩ = some v := fun o ho => by
            have h1 := hV.out.there i hiL (z * 4 + o) (by rw [← hlp.out]; omega)
            rw [← hpb.out, ← hpo.out, ← Nat.add_assoc] at h1
            exact h1
          have hfr : ∀ o, wr.frozen? ⟨pb, o, none⟩ = false := fun o => by rw [hpb.out]; exact hV.out.free i hiL o
          obtain ⟨v0, e0⟩ := hth 0 (by omega)
          obtain ⟨v1, e1⟩ := hth 1 (by omega)
          obtain ⟨v2, e2⟩ := hth 2 (by omega)
          obtain ⟨v3, e3⟩ := hth 3 (by omega)
          rw [Nat.add_zero] at e0
          have f0 := hfr (po + z * 4)
          have f1 := hfr (po + z * 4 + 1)
          have f2 := hfr (po + z * 4 + 2)
          have f3 := hfr (po + z * 4 + 3)
          have hst : ∀ (W : World) (o : Nat) (u : Value), o < 4 → ZS wR W g og pl Ls (i + 1) → ZS wR (W.setCell ⟨pb, po + z * 4 + o, none⟩ u) g og pl Ls (i + 1) := fun W o u ho h => by
            have h1 := h.set hiL (z * 4 + o) (by rw [← hlp.out]; omega) u
            rw [← hpb.out, ← hpo.out, ← Nat.add_assoc] at h1
            exact h1
          have HV2 : Hid (ZS wR ((((wr.setCell ⟨pb, po + z * 4, none⟩ (.string ⟨#[]⟩)).setCell ⟨pb, po + z * 4 + 1, none⟩ (.int .i64 0)).setCell ⟨pb, po + z * 4 + 2, none⟩ (.bool false)).setCell ⟨pb, po + z * 4 + 3, none⟩ (.string ⟨#[]⟩)) g og pl Ls (i + 1)) :=
            hst _ 3 _ (by omega) (hst _ 2 _ (by omega) (hst _ 1 _ (by omega) (hst _ 0 _ (by omega) hV.out)))
          clear hV hth hfr hst
          go_wp2
          refine ⟨⟨z + 1, hltz, by first | rfl | go_num, HV2⟩, by simp [intOf]; omega⟩

theorem cuts16 (K : PkK) (ad : Option Addr) (len cap : Nat) (l : List MEnt) (k : Int) (w : World) (h0 : EntsW w ad len l) (hb : FlatE ad ∧ len ≤ cap ∧ (len : Int) * 48 ≤ 140737488351232 ∧ (ad = none → len = 0 ∧ cap = 0)) (hk : FitN k) :
    Calls Try.prog 4 #[.slice ad len cap, .int .i64 k] w fun e w' => e = .returned (.bool true) ∧ Kept (fun _ => False) w w' := by
  obtain ⟨n, cap2, hc, h1, _, h2⟩ := cut_in h0 hb 200
  exact cuts_go K ad len cap n cap2 k (l.take n) w (Lib.hid (examples16 K w)) hc hk (Lib.hid ⟨h2, by omega⟩)

end Go.Proofs.Ytgcepbpdicadnaa

/- What a law's walk leaves, in the rows' form (layer 16). -/
namespace Go.Proofs.Ytgcepbpdicadnaa
open Go.RowKit Go.Proofs Go.Proofs.Pk

theorem below_of16 {e : Ending} {w w' : World} (h : e = .returned (.bool true) ∧ Kept (fun _ => False) w w') : e = .returned (.bool true) ∧ Below w.heap.size w w' := ⟨h.1, h.2.below (Nat.le_refl _) (fun _ f => f.elim)⟩

end Go.Proofs.Ytgcepbpdicadnaa

/- The laws PickPieces and PickCuts, in the rows' form. -/
namespace Go.Proofs.Ytgcepbpdicadnaa
open Go.RowKit Go.Proofs Go.Proofs.Pk

theorem piecesF (K : PkK) (ad : Option Addr) (len cap : Nat) (l : List MEnt) (k : Int) (w : World) (h0 : EntsW w ad len l) (hb : FlatE ad ∧ len ≤ cap ∧ (len : Int) * 48 ≤ 140737488351232 ∧ (ad = none → len = 0 ∧ cap = 0)) (hk : -9223372036854775808 ≤ k ∧ k ≤ 9223372036854775807) :
    Calls Try.prog 7 #[.slice ad len cap, .int .i64 k] w fun e w' => e = .returned (.bool true) ∧ Below w.heap.size w w' :=
  (pieces16 K ad len cap l k w h0 hb hk).mono fun _ _ h => below_of16 h
theorem cutsF (K : PkK) (ad : Option Addr) (len cap : Nat) (l : List MEnt) (k : Int) (w : World) (h0 : EntsW w ad len l) (hb : FlatE ad ∧ len ≤ cap ∧ (len : Int) * 48 ≤ 140737488351232 ∧ (ad = none → len = 0 ∧ cap = 0)) (hk : -9223372036854775808 ≤ k ∧ k ≤ 9223372036854775807) :
    Calls Try.prog 4 #[.slice ad len cap, .int .i64 k] w fun e w' => e = .returned (.bool true) ∧ Below w.heap.size w w' :=
  (cuts16 K ad len cap l k w h0 hb hk).mono fun _ _ h => below_of16 h

end Go.Proofs.Ytgcepbpdicadnaa
