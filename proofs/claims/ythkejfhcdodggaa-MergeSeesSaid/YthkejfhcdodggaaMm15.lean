/- The law MergeMerges (layer 15), walked over the contract of the program's merge: its first loop printed by genow15.py. -/
import Derived.Test.YthkejfhcdodggaaJ13
namespace Go.Proofs.Ythkejfhcdodggaa
open Go.RowKit Go.Proofs Go.Proofs.Pk
set_option maxRecDepth 10000
attribute [local simp] mk_get wrap64_u8 mk_extract ByteArray.mk_append_mk get_1k

set_option maxHeartbeats 20000000 in
theorem merges15 (K : MgK) (ad : Option Addr) (len cap : Nat) (L : List RowE) (w : World) (h0 : RowsE w ad len L) :
    Calls Try.prog 3 #[.slice ad len cap] w fun e w' => e = .returned (.bool true) ∧ Kept (fun _ => False) w w' := by
  obtain ⟨iL, hiL, hlz, hl1, hl2⟩ := info_parts lst_info
  have HE := Lib.hid (examples15 K w)
  have hlen := h0.1
  have H := Lib.hid h0
  clear h0
  go_enter Try.func3, Try.ntmps3
  go_wp2_with fail
  refine HE.out.mono ?_
  clear HE
  rintro e w1 ⟨rfl, hk1⟩
  have HK1 := Lib.hid hk1
  have HI : Hid (OwnL w1 w1 none 0 0 (CutsL L 0 60)) := OwnL.nil (Kept.refl _ _)
  clear hk1
  go_wp2
  go_loopw [4, 5] (fun o i wr => ∃ (j : Nat) (ao : Option Addr) (co : Nat), (j ≤ len ∧ j ≤ 12) ∧ o = .slice ao j co ∧ i = .int .i64 (j : Int) ∧ Hid (OwnL w1 wr ao j co (CutsL L j 60))) (fun _ i _ => 12 - (intOf i).toNat)
  case atStart => exact ⟨0, none, 0, ⟨Nat.zero_le _, Nat.zero_le _⟩, rfl, rfl, HI⟩
  case round =>
    rename World => w9
    obtain ⟨j, ao, co, ⟨hj, hj6⟩, rfl, rfl, hI⟩ := hrel
    clear HI
    have j0 : (0 : Int) ≤ (j : Int) := by omega
    obtain ⟨lt, hltb⟩ : ∃ lt : Bool, (lt = true ↔ (j < len ∧ j < 12)) := by
      by_cases h : j < len ∧ j < 12
      · exact ⟨true, fun _ => h, fun _ => rfl⟩
      · exact ⟨false, fun h' => (by cases h'), fun h' => absurd h' h⟩
    have HLT := Lib.hid hltb
    clear hltb
    go_upto_region 4 with fail
    go_cut [21] from 14 to 38 (fun s21 wx => s21 = .bool lt ∧ wx = w9)
    case first =>
      clear hI
      by_cases h1 : j < len
      · have jn : (j : Int) < (len : Int) := by omega
        by_cases h2 : j < 12
        · obtain rfl : lt = true := HLT.out.2 ⟨h1, h2⟩
          have jn6 : (j : Int) < 12 := by omega
          go_wp2
          go_meet
          case rel => exact ⟨rfl, rfl⟩
        · obtain rfl : lt = false := by rw [Bool.eq_false_iff]; intro h; exact h2 (HLT.out.1 h).2
          have jn6 : decide ((j : Int) < 12) = false := decide_eq_false (by omega)
          have jn7 : decide (j < 12) = false := decide_eq_false h2
          clear h2
          go_wp2
          go_meet
          case rel => exact ⟨rfl, rfl⟩
      · obtain rfl : lt = false := by rw [Bool.eq_false_iff]; intro h; exact h1 (HLT.out.1 h).1
        have jn : ¬(j : Int) < (len : Int) := by omega
        go_wp2
        go_meet
        case rel => exact ⟨rfl, rfl⟩
    case rest =>
    obtain ⟨rfl, hwc⟩ := hcut
    rw [hwc]
    clear hwc
    cases lt with
    | true =>
      obtain ⟨hlt, hlt6⟩ := HLT.out.1 rfl
      clear HLT
      have jn : (j : Int) < (len : Int) := by omega
      have jn6 : (j : Int) < 12 := by omega
      have hwj : IntKind.i64.wrap ((j : Int) + 1) = (j : Int) + 1 := IntWalk.i64_in _ (by omega)
      have hjL : j < L.length := by omega
      obtain ⟨b, off, ai, mi, ci, n, rfl, hn1, hn2, hmc, hmin, hent, hcell, hbare⟩ := H.out.get hjL 60
      have hmin2 : min (mi : Int) 60 = (n : Int) := hmin
      have hsc := fun W => slice_cut ai mi ci n hn2 W
      have hcs := cuts_snoc (m := 60) hjL
      obtain ⟨Lj, hLj⟩ : ∃ Lj, Lj = (L[j]).l.take 60 := ⟨_, rfl⟩
      rw [← hLj] at hent hcs
      have HCell : Hid (∀ W, Kept (fun _ => False) w1 W → W.cell? ⟨b, off + j, none⟩ = some (.slice ai mi ci)) := fun W hk => hcell W (HK1.out.trans hk (fun _ h => h.elim))
      have c0 := HCell.out w9 hI.out.kept
      have HEn := Lib.hid (ents_keptK hent HK1.out)
      have HCS := Lib.hid hcs
      have HBare := Lib.hid hbare
      have HO := Lib.hid hI.out
      clear hmin hcell hcs hent hLj hI hjL hbare
      go_upto_region 6 with fail
      refine wp_region_until (fun W => W.cell? ⟨b, off + j, none⟩ = some (.slice ai mi ci)) 16 (by kernel_rfl) ?_
      have hS : (fun W => W.cell? ⟨b, off + j, none⟩ = some (.slice ai mi ci)) w9.drew := c0
      refine wpAnyU_take (i := 0) (v := (.slice ao j co)) (some 24) rfl rfl (by kernel_rfl) (by kernel_rfl) (by kernel_rfl) (by kernel_rfl) (fun _ _ _ h => h) hS (yields_of (by kernel_rfl) (fun w s1 => by go_simp)) ?_
      refine wpAnyU_take (i := 1) (v := (.slice (some ⟨b, off, none⟩) len cap)) (some 25) rfl rfl (by kernel_rfl) (by kernel_rfl) (by kernel_rfl) (by kernel_rfl) (fun _ _ _ h => h) hS (yields_of (by kernel_rfl) (fun w s1 => by go_simp)) ?_
      refine wpAnyU_take (i := 2) (v := (.int .i64 (j : Int))) (some 26) rfl rfl (by kernel_rfl) (by kernel_rfl) (by kernel_rfl) (by kernel_rfl) (fun _ _ _ h => h) hS (yields_of (by kernel_rfl) (fun w s1 => by go_simp)) ?_
      refine wpAnyU_take (i := 3) (v := (.pointer (some ⟨b, off + j, none⟩))) (some 27) rfl rfl (by kernel_rfl) (by kernel_rfl) (by kernel_rfl) (by kernel_rfl) (fun _ _ _ h => h) hS (yields_of (by kernel_rfl) (fun w s1 => by go_simp)) ?_
      refine wpAnyU_take (i := 4) (v := (.slice ai mi ci)) (some 28) rfl rfl (by kernel_rfl) (by kernel_rfl) (by kernel_rfl) (by kernel_rfl) (fun _ _ _ h => h) hS (yields_of (by kernel_rfl) (fun w s1 => by go_simp)) ?_
      refine wpAnyU_take (i := 5) (v := (.slice (some ⟨b, off, none⟩) len cap)) (some 29) rfl rfl (by kernel_rfl) (by kernel_rfl) (by kernel_rfl) (by kernel_rfl) (fun _ _ _ h => h) hS (yields_of (by kernel_rfl) (fun w s1 => by go_simp)) ?_
      refine wpAnyU_take (i := 6) (v := (.int .i64 (j : Int))) (some 30) rfl rfl (by kernel_rfl) (by kernel_rfl) (by kernel_rfl) (by kernel_rfl) (fun _ _ _ h => h) hS (yields_of (by kernel_rfl) (fun w s1 => by go_simp)) ?_
      refine wpAnyU_take (i := 7) (v := (.pointer (some ⟨b, off + j, none⟩))) (some 31) rfl rfl (by kernel_rfl) (by kernel_rfl) (by kernel_rfl) (by kernel_rfl) (fun _ _ _ h => h) hS (yields_of (by kernel_rfl) (fun w s1 => by go_simp)) ?_
      refine wpAnyU_take (i := 8) (v := (.slice ai mi ci)) (some 32) rfl rfl (by kernel_rfl) (by kernel_rfl) (by kernel_rfl) (by kernel_rfl) (fun _ _ _ h => h) hS (yields_of (by kernel_rfl) (fun w s1 => by go_simp)) ?_
      refine wpAnyU_take (i := 9) (v := (.int .i64 (mi : Int))) (some 33) rfl rfl (by kernel_rfl) (by kernel_rfl) (by kernel_rfl) (by kernel_rfl) (fun _ _ _ h => h) hS (yields_of (by kernel_rfl) (fun w s1 => by go_simp)) ?_
      refine wpAnyU_take (i := 10) (v := (.int .i64 (n : Int))) (some 34) rfl rfl (by kernel_rfl) (by kernel_rfl) (by kernel_rfl) (by kernel_rfl) (fun _ _ _ h => h) hS (yields_of (by kernel_rfl) (fun w s1 => by go_simp)) ?_
      refine wpAnyU_take (i := 11) (v := (.slice ai n ci)) (some 35) rfl rfl (by kernel_rfl) (by kernel_rfl) (by kernel_rfl) (by kernel_rfl) (fun _ _ _ h => h) hS (yields_of (by kernel_rfl) (fun w s1 => by go_simp)) ?_
      have HKw : Kept (fun _ => False) w9 w9.drew := (Kept.refl _ w9).drewN 1
      obtain ⟨a2, c2, wv, hcp, hev, hkv, hfr, hnc⟩ := copy_run w9.drew (ents_keptK HEn.out (HO.out.kept.trans HKw (fun _ h => h.elim))) (by omega) HBare.out
      have HKv : Kept (fun _ => False) w9 wv := HKw.trans hkv (fun _ h => h.elim)
      have hSv := HCell.out wv (HO.out.kept.trans HKv (fun _ h => h.elim))
      refine wpAnyU_run (i := 12) (v := .slice a2 n c2) (w' := wv) (some 36) rfl rfl (by kernel_rfl) (by kernel_rfl) (exec_append (s := .const (.slice none 0 0)) (x := .tmp 35) hcp (by rfl) (by rfl) (by rfl) (by kernel_rfl)) (fun _ => hSv) ?_
      obtain ⟨q, hq⟩ : ∃ q, Hid (q = wv.heap.size) := ⟨_, rfl⟩
      have hbs := run_bsL wv a2 n c2
      have HQ := Holds.new wv [.slice a2 n c2] 24
      have HKd : Kept (fun _ => False) wv (wv.alloc (.cells [Value.slice a2 n c2].toArray 24)) := (Kept.refl _ wv).alloc _
      rw [← hq.out] at hbs HQ
      have HOd := (HO.out.keptK HKv).keptK HKd
      have hqd : Hid (q < (wv.alloc (.cells [Value.slice a2 n c2].toArray 24)).heap.size) := HQ.lt
      change (Instr.buildSlice 22 1 #[(0, .slice a2 n c2)]).run Try.prog wv = .ok (.slice (some ⟨q, 0, none⟩) 1 1) (wv.alloc (.cells [Value.slice a2 n c2].toArray 24)) at hbs
      generalize wv.alloc (.cells [Value.slice a2 n c2].toArray 24) = wd at hbs HQ HKd HOd hqd
      have hSd := HCell.out _ HOd.kept
      refine wpAnyU_run (i := 13) (v := .slice (some ⟨q, 0, none⟩) 1 1) (some 37) rfl rfl (by kernel_rfl) (by kernel_rfl) (exec_buildSlice (x := .tmp 36) hbs (by rfl) (by kernel_rfl)) (fun _ => hSd) ?_
      obtain ⟨C, hC1, hC2⟩ := HOd.row
      obtain ⟨v', we, happ, ho, hgr, hpl⟩ := run_append_at (P := Try.prog) wd w1.heap.size 22 22 24 iL _ 1 24 Try.underlying22 hiL hlz hl1 hl2 (by rfl) (by decide) _ _ C hC1
        ⟨q, 0, none⟩ 1 1 [.slice a2 n c2] (by rfl) (fun j u hj => by rw [add0]; exact HQ.cell j u hj) (by simp [Value.oneCell']) (by unfold maxLen; omega) (by omega) HOd.kept.size (by omega)
      obtain ⟨ad2, cap2, rfl, hON⟩ := HOd.grown hC1 hC2 (Kept.refl _ _) (ents_keptK hev HKd) hnc (fun h0 a ha => by
        intro e
        obtain ⟨C0, hC0, _⟩ := HO.out.row
        have e1 := (hC0.lt _ e).2
        have e2 := hfr a ha
        have e3 := HKw.size
        omega) ho hgr hpl
      have hSe := HCell.out _ hON.kept
      refine wpAnyU_run (i := 14) (v := .slice ad2 (j + 1) cap2) (w' := we) (some 38) rfl rfl (by kernel_rfl) (by kernel_rfl) (exec_append (s := .tmp 24) (x := .tmp 37) happ (by rfl) (by rfl) (by kernel_rfl) (by kernel_rfl)) (fun _ => hSe) ?_
      refine wpAnyU_run (i := 15) (v := .slice ad2 (j + 1) cap2) (w' := we) (some 4) rfl rfl (by kernel_rfl) (by kernel_rfl) (by go_simp) (fun h => by omega) ?_
      refine wpAnyU_done (by kernel_rfl) ?_ _
      simp only [put_lit, List.set_cons_succ, List.set_cons_zero]
      have HN : Hid (OwnL w1 we ad2 (j + 1) cap2 (CutsL L (j + 1) 60)) := by show OwnL _ _ _ _ _ _; rw [HCS.out]; exact hON
      clear hS hbs HQ HKd HOd hSd hC1 hC2 hgr hON happ ho hpl hSe hq hqd HO HEn HCell c0 hsc HCS HKw hcp hev hkv hfr HKv hSv HBare
      go_wp2
      go_roundw
      case rel => exact ⟨j + 1, _, cap2, ⟨hlt, hlt6⟩, rfl, by first | rfl | go_num, HN⟩
      case measure => simp [intOf]; omega
    | false =>
      have h60 : Hid (∀ l ∈ CutsL L j 60, l.length ≤ 60) := fun l hl => by
        unfold CutsL at hl
        obtain ⟨r, _, rfl⟩ := List.mem_map.1 hl
        rw [List.length_take]; omega
      obtain ⟨Ls, hLs⟩ : ∃ Ls, Ls = CutsL L j 60 := ⟨_, rfl⟩
      have hI1 := hI.out
      rw [← hLs] at hI1 h60
      have HO := Lib.hid hI1
      have HK9 : Hid (Kept (fun _ => False) w w9) := HK1.out.trans hI1.kept (fun _ h => h.elim)
      have hlen9 := hI1.len
      have hfe : ∀ l ∈ Ls, l.length ≤ 1000 := fun l hl => by have := h60.out l hl; omega
      have hfl : Ls.flatten.length ≤ 60 * j := by
        rw [← hlen9]
        clear hI1 HO hlen9 hfe hLs
        have h1 := h60.out
        clear h60
        induction Ls with
        | nil => simp
        | cons l r ih =>
          have h2 := h1 l (by simp)
          have h3 := ih (fun l hl => h1 l (by simp [hl]))
          simp only [List.flatten_cons, List.length_append, List.length_cons]
          omega
      have C1 := Lib.hid (rMerge w9 ao j co Ls hI1.lsE (by omega) (by omega))
      have HFe : Hid (∀ l ∈ Ls, l.length ≤ 1000) := hfe
      obtain ⟨W0, O0, hR⟩ : ∃ W0 O0, Hid ((W0, O0) = mergeM Ls) := ⟨_, _, rfl⟩
      rw [← hR.out] at C1
      clear hI hI1 hLs HLT hj H hlen h60 hfe
      go_wp2_with fail
      refine C1.out.mono ?_
      clear C1
      intro e wb h
      obtain ⟨aw, cw, rfl, hW, hkb⟩ := h.get
      have HKb := Lib.hid (HK9.out.trans hkb (fun _ h => h.elim))
      have HOb := Lib.hid (HO.out.keptK hkb)
      have HW := Lib.hid hW
      have hWl : W0.length ≤ 20000 := by
        have h1 := hR.out
        unfold mergeM at h1
        split at h1
        · rw [(Prod.mk.inj h1).1]; have := merge_len Ls; omega
        · rw [(Prod.mk.inj h1).1]; simp
      have HWl := Lib.hid hWl
      have HM : Hid (∀ W, Kept (fun _ => False) wb W → Calls Try.prog 12 #[.slice ao j co] W (NewE W (W0, O0))) := fun W hk => by
        rw [hR.out]; exact K.merge W ao j co Ls (HOb.out.keptK hk).lsE (by omega) HFe.out
      have HKK : Hid (Kept (fun _ => False) wb wb) := Kept.refl _ _
      obtain ⟨m, hm⟩ : ∃ m, Hid (m = W0.length) := ⟨_, rfl⟩
      rw [← hm.out] at HW ⊢
      clear h hkb hW HK9 HO HK1 hWl hR HFe HOb
      cases O0
      all_goals
        go_wp2
        go_loopw [8] (fun t wr => ∃ n : Nat, n ≤ 2 ∧ t = .int .i64 (n : Int) ∧ Hid (Kept (fun _ => False) wb wr)) (fun t _ => 2 - (intOf t).toNat)
        case atStart => exact ⟨0, Nat.zero_le _, rfl, HKK⟩
        case round =>
          rename World => wc
          obtain ⟨n, hn, rfl, hK⟩ := hrel
          clear HKK
          have n0 : (0 : Int) ≤ (n : Int) := by omega
          by_cases hlt : n < 2
          case neg =>
            obtain rfl : n = 2 := by omega
            have HKe := Lib.hid (HKb.out.trans hK.out (fun _ h => h.elim))
            clear hK
            go_wp2
            go_ret
            exact ⟨rfl, HKe.out⟩
          have nn : (n : Int) < 2 := by omega
          have hwn : IntKind.i64.wrap ((n : Int) + 1) = (n : Int) + 1 := IntWalk.i64_in _ (by omega)
          have C1 := Lib.hid (HM.out wc hK.out)
          go_wp2_with fail
          refine C1.out.mono ?_
          clear C1
          intro e wd h
          obtain ⟨ad1, cap1, rfl, hown, hent, hkd⟩ := h.get
          have HKd := Lib.hid (hK.out.trans hkd (fun _ h => h.elim))
          have HOw := Lib.hid hown
          have C2 := Lib.hid (ents15 wd ad1 aw W0.length cap1 m cw W0 W0 hent (ents_keptK HW.out HKd.out) HWl.out HWl.out)
          have HBs : Hid (wb.heap.size ≤ wc.heap.size) := hK.out.size
          rw [← hm.out] at HOw C2 ⊢
          clear h hown hent hkd hK
          go_wp2_with fail
          refine C2.out.mono ?_
          clear C2
          rintro e we ⟨y, rfl, hy, hke⟩
          obtain rfl : y = true := hy.2 rfl
          have HRow : Hid (∃ X, we.ownsRow wc.heap.size 34 4 (.slice ad1 m cap1) m X ∧ Kept (fun _ => False) wb we) := ⟨_, owns_of_block HOw.out fun g hg => hke.block g (HOw.out.lt g hg).2 (fun f => f), HKd.out.trans hke (fun _ h => h.elim)⟩
          have HIs := Lib.hid (fun W : World => is_any 1 1 W)
          clear hy hke HKd HOw
          go_wp2_with (go_at_call 14; refine (HIs.out _).mono ?_; rintro e wz ⟨rfl, rfl⟩)
          go_loopw [12] (fun t wr => ∃ i : Nat, i ≤ m ∧ t = .int .i64 (i : Int) ∧ Hid (∃ X, wr.ownsRow wc.heap.size 34 4 (.slice ad1 m cap1) m X ∧ Kept (fun _ => False) wb wr)) (fun t _ => m - (intOf t).toNat)
          case atStart => exact ⟨0, Nat.zero_le _, rfl, HRow⟩
          case round =>
            obtain ⟨i, hi, rfl, hX⟩ := hrel
            clear HRow
            have i0 : (0 : Int) ≤ (i : Int) := by omega
            by_cases hlti : i < m
            case neg =>
              obtain rfl : i = m := by omega
              have inn : ¬(i : Int) < (i : Int) := by omega
              have HKf : Hid (Kept (fun _ => False) wb wr) := by
                obtain ⟨_, _, h⟩ := hX.out
                exact h
              clear hX
              go_wp2
              go_roundw
              case rel => exact ⟨n + 1, hlt, by first | rfl | go_num, HKf⟩
              case measure => simp [intOf]; omega
            have inn : (i : Int) < (m : Int) := by omega
            have hwi : IntKind.i64.wrap ((i : Int) + 1) = (i : Int) + 1 := IntWalk.i64_in _ (by have := HWl.out; have := hm.out; omega)
            obtain ⟨X, hX1, hX2⟩ := hX.out
            have hXl := hX1.1
            obtain ⟨g, rfl, hgB⟩ : ∃ g, ad1 = some ⟨g, 0, none⟩ ∧ wc.heap.size ≤ g := by
              rcases hX1.2 with ⟨_, h⟩ | ⟨g, _, _, h, hb, _⟩
              · omega
              · cases h; exact ⟨g, rfl, hb⟩
            have hc : ∀ k, k < 4 → ∃ v, wr.cell? ⟨g, i * 4 + k, none⟩ = some v := fun k hk => ⟨_, (hX1.cellAt (i * 4 + k) (by omega)).trans (List.getElem?_eq_getElem (by omega))⟩
            obtain ⟨v0, c0⟩ := hc 0 (by omega)
            obtain ⟨v1, c1⟩ := hc 1 (by omega)
            obtain ⟨v2, c2⟩ := hc 2 (by omega)
            obtain ⟨v3, c3⟩ := hc 3 (by omega)
            rw [Nat.add_zero] at c0
            have f0 := hX1.frozenAt (i * 4)
            have f1 := hX1.frozenAt (i * 4 + 1)
            have f2 := hX1.frozenAt (i * 4 + 2)
            have f3 := hX1.frozenAt (i * 4 + 3)
            have HXX := Lib.hid hX1
            have HXK := Lib.hid hX2
            clear hX hX1 hX2 hc
            have hgb : Hid (wb.heap.size ≤ g) := by have := HBs.out; show wb.heap.size ≤ g; omega
            go_wp2
            refine ⟨⟨i + 1, hlti, by first | rfl | go_num, ?_⟩, by simp [intOf]; omega⟩
            refine ⟨_, ((((HXX.out.stored (i * 4) (.string ⟨#[]⟩)).1.stored (i * 4 + 1) (.int .i64 0)).1.stored (i * 4 + 2) (.bool false)).1.stored (i * 4 + 3) (.string ⟨#[]⟩)).1, ?_⟩
            exact (((HXK.out.setNew (p := ⟨g, i * 4, none⟩) hgb.out _).setNew (p := ⟨g, i * 4 + 1, none⟩) hgb.out _).setNew (p := ⟨g, i * 4 + 2, none⟩) hgb.out _).setNew (p := ⟨g, i * 4 + 3, none⟩) hgb.out _

end Go.Proofs.Ythkejfhcdodggaa
