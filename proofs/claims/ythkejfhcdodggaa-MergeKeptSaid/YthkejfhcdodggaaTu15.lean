/- The law MergeTurned (layer 15), walked over the contract of the program's merge. -/
import Derived.Test.YthkejfhcdodggaaJ13
namespace Go.Proofs.Ythkejfhcdodggaa
open Go.RowKit Go.Proofs Go.Proofs.Pk
set_option maxRecDepth 10000
attribute [local simp] mk_get wrap64_u8 mk_extract ByteArray.mk_append_mk get_1k

set_option maxHeartbeats 20000000 in
theorem turned15 (K : MgK) (ad : Option Addr) (len cap : Nat) (L : List RowE) (w : World) (h0 : RowsE w ad len L) :
    Calls Try.prog 9 #[.slice ad len cap] w fun e w' => e = .returned (.bool true) ∧ Kept (fun _ => False) w w' := by
  obtain ⟨iL, hiL, hlz, hl1, hl2⟩ := info_parts lst_info
  have HE := Lib.hid (examples15 K w)
  have hlen := h0.1
  have H := Lib.hid h0
  clear h0
  go_enter Try.func9, Try.ntmps9
  go_wp2_with fail
  refine HE.out.mono ?_
  clear HE
  rintro e w1 ⟨rfl, hk1⟩
  have HK1 := Lib.hid hk1
  have HI : Hid (OwnL w1 w1 none 0 0 (CutsL L 0 30) ∧ 0 = (CutsL L 0 30).flatten.length) := ⟨OwnL.nil (Kept.refl _ _), rfl⟩
  clear hk1
  go_wp2
  go_loopw [4, 6, 7] (fun o y i wr => ∃ (j c : Nat) (ao : Option Addr) (co : Nat), (j ≤ len ∧ j ≤ 6 ∧ c ≤ 30 * j) ∧ o = .slice ao j co ∧ y = .int .i64 (c : Int) ∧ i = .int .i64 (j : Int) ∧ Hid (OwnL w1 wr ao j co (CutsL L j 30) ∧ c = (CutsL L j 30).flatten.length)) (fun _ _ i _ => 6 - (intOf i).toNat)
  case atStart => exact ⟨0, 0, none, 0, ⟨Nat.zero_le _, Nat.zero_le _, Nat.zero_le _⟩, rfl, rfl, rfl, HI⟩
  case round =>
    rename World => w9
    obtain ⟨j, c, ao, co, ⟨hj, hj6, hc⟩, rfl, rfl, rfl, hI⟩ := hrel
    clear HI
    have j0 : (0 : Int) ≤ (j : Int) := by omega
    obtain ⟨lt, hltb⟩ : ∃ lt : Bool, (lt = true ↔ (j < len ∧ j < 6)) := by
      by_cases h : j < len ∧ j < 6
      · exact ⟨true, fun _ => h, fun _ => rfl⟩
      · exact ⟨false, fun h' => (by cases h'), fun h' => absurd h' h⟩
    have HLT := Lib.hid hltb
    clear hltb
    go_upto_region 6 with fail
    go_cut [27] from 20 to 50 (fun s27 wx => s27 = .bool lt ∧ wx = w9)
    case first =>
      clear hI
      by_cases h1 : j < len
      · have jn : (j : Int) < (len : Int) := by omega
        by_cases h2 : j < 6
        · obtain rfl : lt = true := HLT.out.2 ⟨h1, h2⟩
          have jn6 : (j : Int) < 6 := by omega
          go_wp2
          go_meet
          case rel => exact ⟨rfl, rfl⟩
        · obtain rfl : lt = false := by rw [Bool.eq_false_iff]; intro h; exact h2 (HLT.out.1 h).2
          have jn6 : decide ((j : Int) < 6) = false := decide_eq_false (by omega)
          have jn7 : decide (j < 6) = false := decide_eq_false h2
          clear h2
          go_wp2
          go_meet
          case rel => exact ⟨rfl, rfl⟩
      · obtain rfl : lt = false := by rw [Bool.eq_false_iff]; intro h; exact h1 (HLT.out.1 h).1
        have jn : ¬(j : Int) < (len : Int) := by omega
        go_wp2
        go_meet
        case rel => exact ⟨rfl, rfl⟩
    case rest =>
    obtain ⟨rfl, hwc⟩ := hcut
    rw [hwc]
    clear hwc
    cases lt with
    | true =>
      obtain ⟨hlt, hlt6⟩ := HLT.out.1 rfl
      clear HLT
      have jn : (j : Int) < (len : Int) := by omega
      have jn6 : (j : Int) < 6 := by omega
      have hwj : IntKind.i64.wrap ((j : Int) + 1) = (j : Int) + 1 := IntWalk.i64_in _ (by omega)
      have hjL : j < L.length := by omega
      obtain ⟨b, off, ai, mi, ci, n, rfl, hn1, hn2, hmc, hmin, hent, hcell, hbare⟩ := H.out.get hjL 30
      have hmin2 : min (mi : Int) 30 = (n : Int) := hmin
      have hsc := fun W => slice_cut ai mi ci n hn2 W
      have hcs := cuts_snoc (m := 30) hjL
      obtain ⟨Lj, hLj⟩ : ∃ Lj, Lj = (L[j]).l.take 30 := ⟨_, rfl⟩
      rw [← hLj] at hent hcs
      have HCell : Hid (∀ W, Kept (fun _ => False) w1 W → W.cell? ⟨b, off + j, none⟩ = some (.slice ai mi ci)) := fun W hk => hcell W (HK1.out.trans hk (fun _ h => h.elim))
      have c0 := HCell.out w9 hI.out.1.kept
      have HEn := Lib.hid (ents_keptK hent HK1.out)
      have HNx : Hid (∀ wx ad2 cap2, OwnL w1 wx ad2 (j + 1) cap2 (CutsL L j 30 ++ [Lj]) → OwnL w1 wx ad2 (j + 1) cap2 (CutsL L (j + 1) 30) ∧ c + n = (CutsL L (j + 1) 30).flatten.length ∧ ∀ h : j < (CutsL L (j + 1) 30).length, ((CutsL L (j + 1) 30)[j]'h).length = n) := fun wx ad2 cap2 h => by
        have hl0 := hI.out.1.len
        rw [hcs]
        refine ⟨h, ?_, fun h => ?_⟩
        · rw [List.flatten_append, List.length_append, ← hI.out.2]
          simp [hent.1]
        · rw [List.getElem_append_right (by omega)]
          simp only [hl0, Nat.sub_self, List.getElem_cons_zero]
          exact hent.1
      have HO := Lib.hid hI.out.1
      clear hmin hcell hcs hent hLj hI hjL hbare
      go_upto_region 8 with fail
      refine wp_region_until (fun W => W.cell? ⟨b, off + j, none⟩ = some (.slice ai mi ci)) 15 (by kernel_rfl) ?_
      have hS : (fun W => W.cell? ⟨b, off + j, none⟩ = some (.slice ai mi ci)) w9.drew := c0
      refine wpAnyU_take (i := 0) (v := (.slice ao j co)) (some 30) rfl rfl (by kernel_rfl) (by kernel_rfl) (by kernel_rfl) (by kernel_rfl) (fun _ _ _ h => h) hS (yields_of (by kernel_rfl) (fun w s1 => by go_simp)) ?_
      refine wpAnyU_take (i := 1) (v := (.slice (some ⟨b, off, none⟩) len cap)) (some 31) rfl rfl (by kernel_rfl) (by kernel_rfl) (by kernel_rfl) (by kernel_rfl) (fun _ _ _ h => h) hS (yields_of (by kernel_rfl) (fun w s1 => by go_simp)) ?_
      refine wpAnyU_take (i := 2) (v := (.int .i64 (j : Int))) (some 32) rfl rfl (by kernel_rfl) (by kernel_rfl) (by kernel_rfl) (by kernel_rfl) (fun _ _ _ h => h) hS (yields_of (by kernel_rfl) (fun w s1 => by go_simp)) ?_
      refine wpAnyU_take (i := 3) (v := (.pointer (some ⟨b, off + j, none⟩))) (some 33) rfl rfl (by kernel_rfl) (by kernel_rfl) (by kernel_rfl) (by kernel_rfl) (fun _ _ _ h => h) hS (yields_of (by kernel_rfl) (fun w s1 => by go_simp)) ?_
      refine wpAnyU_take (i := 4) (v := (.slice ai mi ci)) (some 34) rfl rfl (by kernel_rfl) (by kernel_rfl) (by kernel_rfl) (by kernel_rfl) (fun _ _ _ h => h) hS (yields_of (by kernel_rfl) (fun w s1 => by go_simp)) ?_
      refine wpAnyU_take (i := 5) (v := (.slice (some ⟨b, off, none⟩) len cap)) (some 35) rfl rfl (by kernel_rfl) (by kernel_rfl) (by kernel_rfl) (by kernel_rfl) (fun _ _ _ h => h) hS (yields_of (by kernel_rfl) (fun w s1 => by go_simp)) ?_
      refine wpAnyU_take (i := 6) (v := (.int .i64 (j : Int))) (some 36) rfl rfl (by kernel_rfl) (by kernel_rfl) (by kernel_rfl) (by kernel_rfl) (fun _ _ _ h => h) hS (yields_of (by kernel_rfl) (fun w s1 => by go_simp)) ?_
      refine wpAnyU_take (i := 7) (v := (.pointer (some ⟨b, off + j, none⟩))) (some 37) rfl rfl (by kernel_rfl) (by kernel_rfl) (by kernel_rfl) (by kernel_rfl) (fun _ _ _ h => h) hS (yields_of (by kernel_rfl) (fun w s1 => by go_simp)) ?_
      refine wpAnyU_take (i := 8) (v := (.slice ai mi ci)) (some 38) rfl rfl (by kernel_rfl) (by kernel_rfl) (by kernel_rfl) (by kernel_rfl) (fun _ _ _ h => h) hS (yields_of (by kernel_rfl) (fun w s1 => by go_simp)) ?_
      refine wpAnyU_take (i := 9) (v := (.int .i64 (mi : Int))) (some 39) rfl rfl (by kernel_rfl) (by kernel_rfl) (by kernel_rfl) (by kernel_rfl) (fun _ _ _ h => h) hS (yields_of (by kernel_rfl) (fun w s1 => by go_simp)) ?_
      refine wpAnyU_take (i := 10) (v := (.int .i64 (n : Int))) (some 40) rfl rfl (by kernel_rfl) (by kernel_rfl) (by kernel_rfl) (by kernel_rfl) (fun _ _ _ h => h) hS (yields_of (by kernel_rfl) (fun w s1 => by go_simp)) ?_
      refine wpAnyU_take (i := 11) (v := (.slice ai n ci)) (some 41) rfl rfl (by kernel_rfl) (by kernel_rfl) (by kernel_rfl) (by kernel_rfl) (fun _ _ _ h => h) hS (yields_of (by kernel_rfl) (fun w s1 => by go_simp)) ?_
      obtain ⟨q, hq⟩ : ∃ q, Hid (q = w9.drew.heap.size) := ⟨_, rfl⟩
      have hbs := run_bsL w9.drew ai n ci
      have HQ := Holds.new w9.drew [.slice ai n ci] 24
      have HKd : Kept (fun _ => False) w9 (w9.drew.alloc (.cells [Value.slice ai n ci].toArray 24)) := ((Kept.refl _ w9).drewN 1).alloc _
      rw [← hq.out] at hbs HQ
      have HOd := HO.out.keptK HKd
      have hqd : Hid (q < (w9.drew.alloc (.cells [Value.slice ai n ci].toArray 24)).heap.size) := HQ.lt
      change (Instr.buildSlice 22 1 #[(0, .slice ai n ci)]).run Try.prog w9.drew = .ok (.slice (some ⟨q, 0, none⟩) 1 1) (w9.drew.alloc (.cells [Value.slice ai n ci].toArray 24)) at hbs
      generalize w9.drew.alloc (.cells [Value.slice ai n ci].toArray 24) = wd at hbs HQ HKd HOd hqd
      have hSd := HCell.out _ HOd.kept
      refine wpAnyU_run (i := 12) (v := .slice (some ⟨q, 0, none⟩) 1 1) (some 42) rfl rfl (by kernel_rfl) (by kernel_rfl) (exec_buildSlice (x := .tmp 41) hbs (by rfl) (by kernel_rfl)) (fun _ => hSd) ?_
      obtain ⟨C, hC1, hC2⟩ := HOd.row
      obtain ⟨v', we, happ, ho, hgr, hpl⟩ := run_append_at (P := Try.prog) wd w1.heap.size 22 22 24 iL _ 1 24 Try.underlying22 hiL hlz hl1 hl2 (by rfl) (by decide) _ _ C hC1
        ⟨q, 0, none⟩ 1 1 [.slice ai n ci] (by rfl) (fun j u hj => by rw [add0]; exact HQ.cell j u hj) (by simp [Value.oneCell']) (by unfold maxLen; omega) (by omega) HOd.kept.size (by omega)
      obtain ⟨ad2, cap2, rfl, hON⟩ := HOd.grown hC1 hC2 (Kept.refl _ _) (ents_keptK HEn.out HOd.kept) hn2 (fun h0 a ha => by
        intro e
        have e1 := (hC1.lt _ e).1
        have e2 := ents_lt HEn.out h0 a ha
        omega) ho hgr hpl
      have hSe := HCell.out _ hON.kept
      refine wpAnyU_run (i := 13) (v := .slice ad2 (j + 1) cap2) (w' := we) (some 43) rfl rfl (by kernel_rfl) (by kernel_rfl) (exec_append (s := .tmp 30) (x := .tmp 42) happ (by rfl) (by rfl) (by kernel_rfl) (by kernel_rfl)) (fun _ => hSe) ?_
      refine wpAnyU_run (i := 14) (v := .slice ad2 (j + 1) cap2) (w' := we) (some 4) rfl rfl (by kernel_rfl) (by kernel_rfl) (by go_simp) (fun h => by omega) ?_
      refine wpAnyU_done (by kernel_rfl) ?_ _
      simp only [put_lit, List.set_cons_succ, List.set_cons_zero]
      have HN := Lib.hid (HNx.out _ _ _ hON)
      have hjN : j < (CutsL L (j + 1) 30).length := by rw [HN.out.1.len]; omega
      obtain ⟨gj, oj, aj, cj, hgj, hcj⟩ := HN.out.1.lsE.at hjN
      have c1 := (hcj we (Kept.refl _ _)).1
      rw [HN.out.2.2 hjN] at c1
      subst hgj
      have hcn : IntKind.i64.wrap ((c : Int) + (n : Int)) = ((c + n : Nat) : Int) := by rw [IntWalk.i64_in _ (by omega)]; omega
      have hb30 : c + n ≤ 30 * (j + 1) := by omega
      have HN2 : Hid (OwnL w1 we (some ⟨gj, oj, none⟩) (j + 1) cap2 (CutsL L (j + 1) 30) ∧ c + n = (CutsL L (j + 1) 30).flatten.length) := ⟨HN.out.1, HN.out.2.1⟩
      clear hS hbs HQ HKd HOd hSd hC1 hC2 hgr hON happ ho hpl hSe HN hcj hjN hq hqd HO HNx HEn HCell c0 hsc
      go_wp2
      go_roundw
      case rel => exact ⟨j + 1, c + n, _, cap2, ⟨hlt, hlt6, hb30⟩, rfl, rfl, by first | rfl | go_num, HN2⟩
      case measure => simp [intOf]; omega
    | false =>
      have h30 : Hid (∀ l ∈ CutsL L j 30, l.length ≤ 30) := fun l hl => by
        unfold CutsL at hl
        obtain ⟨r, _, rfl⟩ := List.mem_map.1 hl
        rw [List.length_take]; omega
      obtain ⟨Ls, hLs⟩ : ∃ Ls, Ls = CutsL L j 30 := ⟨_, rfl⟩
      have hI1 := hI.out
      rw [← hLs] at hI1 h30
      have HO := Lib.hid hI1.1
      have HT := Lib.hid hI1.2
      have HK9 : Hid (Kept (fun _ => False) w w9) := HK1.out.trans hI1.1.kept (fun _ h => h.elim)
      have hlen9 := hI1.1.len
      clear hI hI1 hLs HLT hj H hlen
      have HI2 : Hid (OwnL w9 w9 none 0 0 (Ls.reverse.take 0)) := OwnL.nil (Kept.refl _ _)
      obtain ⟨iv0, hiv0⟩ : ∃ iv0 : Int, iv0 = (j : Int) - 1 - ((0 : Nat) : Int) := ⟨_, rfl⟩
      have hw0 : IntKind.i64.wrap ((j : Int) - 1) = iv0 := by rw [IntWalk.i64_in _ (by omega), hiv0]; omega
      have HV0 := Lib.hid hiv0
      clear hiv0
      go_wp2
      go_loopw [5, 8] (fun o i wr => ∃ (k : Nat) (ak : Option Addr) (ck : Nat) (iv : Int), k ≤ j ∧ o = .slice ak k ck ∧ i = .int .i64 iv ∧ Hid (iv = (j : Int) - 1 - (k : Int)) ∧ Hid (OwnL w9 wr ak k ck (Ls.reverse.take k))) (fun _ i _ => (intOf i + 1).toNat)
      case atStart => exact ⟨0, none, 0, iv0, Nat.zero_le _, rfl, rfl, HV0, HI2⟩
      case round =>
        rename World => wa
        obtain ⟨k, ak, ck, iv, hk, rfl, rfl, hiv, hJ⟩ := hrel
        clear HI2 HV0 hw0
        by_cases hlt : k < j
        case pos =>
          obtain ⟨x, hx⟩ : ∃ x : Nat, Hid (x = j - 1 - k) := ⟨_, rfl⟩
          obtain rfl : iv = (x : Int) := by have := hiv.out; have := hx.out; omega
          have x0 : (0 : Int) ≤ (x : Int) := by omega
          have xj : (x : Int) < (j : Int) := by have := hx.out; omega
          have hwx : IntKind.i64.wrap ((x : Int) - 1) = (x : Int) - 1 := IntWalk.i64_in _ (by omega)
          have hxL : x < Ls.length := by have := hx.out; omega
          obtain ⟨g, o, ax, cx, rfl, _, hcx, hat⟩ := HO.out.lsE.atC hxL
          obtain ⟨c0, hea⟩ := hat wa hJ.out.kept
          have he9 := (hat w9 (Kept.refl _ _)).2
          have hsn : Ls.reverse.take (k + 1) = Ls.reverse.take k ++ [Ls[x]] := by
            rw [List.take_succ_eq_append_getElem (by rw [List.length_reverse]; omega), List.getElem_reverse]
            congr 3
            have := hx.out; omega
          obtain ⟨lx, hlx⟩ : ∃ lx, Hid (lx = (Ls[x]).length) := ⟨(Ls[x]).length, rfl⟩
          obtain ⟨Lx, hLx⟩ : ∃ Lx, Lx = Ls[x] := ⟨_, rfl⟩
          rw [← hlx.out] at c0 hea he9 hcx
          have HCx := Lib.hid hcx
          rw [← hLx] at hea hsn he9
          have HS := Lib.hid hsn
          have HE := Lib.hid hea
          have HE9 := Lib.hid he9
          obtain ⟨C, hC1, hC2⟩ := hJ.out.row
          have HC1 := Lib.hid hC1
          have HC2 := Lib.hid hC2
          clear hat hsn hLx hea hlx hxL he9 hC1 hC2 hcx
          go_wp2_with (at_builtin; refine wpList_append_at _ rfl (.tmp 58) (.tmp 63) 22 rfl w9.heap.size 24 iL _ 1 24 Try.underlying22 hiL hlz hl1 hl2 (by rfl) (by decide) _ _ C rfl (HC1.out.alloc _) ⟨wa.heap.size, 0, none⟩ 1 1 [.slice ax lx cx] rfl (by rfl) ?d1 (by simp [Value.oneCell']) ?d3 ?d4 ?d5 (by omega) ?_)
          case d1 => intro m u hj; first | exact hj | (rw [add0]; exact (Holds.new wa [Value.slice ax lx cx] _).cell m u hj)
          case d3 => unfold maxLen; omega
          case d4 => omega
          case d5 => have := hJ.out.kept.size; rw [size_al]; omega
          intro v2 wB hown2 hgr2 hpl2
          obtain ⟨ad2, cap2, rfl, hON⟩ := hJ.out.grown HC1.out HC2.out ((Kept.refl _ wa).alloc _) HE.out HCx.out (fun h0 a ha e => by
            have e1 := (HC1.out.lt _ e).1
            have e2 := ents_lt HE9.out h0 a ha
            omega) hown2 hgr2 (by rw [size_al]; exact hpl2)
          have HN : Hid (OwnL w9 wB ad2 (k + 1) cap2 (Ls.reverse.take (k + 1))) := by show OwnL _ _ _ _ _ _; rw [HS.out]; exact hON
          have HV : Hid ((x : Int) - 1 = (j : Int) - 1 - ((k + 1 : Nat) : Int)) := by show _ = _; have := hx.out; omega
          clear hown2 hgr2 hpl2 hON hJ HC1 HC2 HE HE9 HS c0 hiv
          go_wp2
          go_roundw
          case rel => exact ⟨k + 1, ad2, cap2, (x : Int) - 1, hlt, rfl, by first | rfl | go_num, HV, HN⟩
          case measure => simp [intOf]
        obtain rfl : k = j := by omega
        obtain rfl : iv = -1 := by have := hiv.out; omega
        have HR : Hid (OwnL w9 wa ak k ck Ls.reverse) := by
          have h1 := hJ.out
          rwa [List.take_of_length_le (by rw [List.length_reverse]; omega)] at h1
        have HKa : Hid (Kept (fun _ => False) w wa) := HK9.out.trans hJ.out.kept (fun _ h => h.elim)
        have HOa := Lib.hid (HO.out.keptK hJ.out.kept)
        have hfe : ∀ l ∈ Ls, l.length ≤ 1000 := fun l hl => by have := h30.out l hl; omega
        have hfr : ∀ l ∈ Ls.reverse, l.length ≤ 1000 := fun l hl => hfe l (List.mem_reverse.1 hl)
        have C1 := K.merge wa ao k co Ls HOa.out.lsE (by omega) hfe
        have C2 : Hid (∀ W, Kept (fun _ => False) wa W → Calls Try.prog 12 #[.slice ak k ck] W (NewE W (mergeM Ls.reverse))) := fun W hk => K.merge W ak k ck Ls.reverse (HR.out.keptK hk).lsE (by omega) hfr
        have hrall : Ls.reverse.all sortB = Ls.all sortB := List.all_reverse
        clear hJ hiv hlt HO HK1 HR hfe hfr
        by_cases hall : Ls.all sortB = true
        case neg =>
          have e1 : mergeM Ls = ([], false) := by unfold mergeM; rw [if_neg hall]
          have e2 : mergeM Ls.reverse = ([], false) := by unfold mergeM; rw [hrall, if_neg hall]
          rw [e1] at C1
          rw [e2] at C2
          have C1 := Lib.hid C1
          clear e1 e2 hall hrall
          go_wp2_with fail
          refine C1.out.mono ?_
          clear C1
          intro e wb h
          obtain ⟨ad1, cap1, rfl, hk1⟩ := h.bad
          have HKb := Lib.hid (HKa.out.trans hk1 (fun _ h => h.elim))
          have C2' := Lib.hid (C2.out wb hk1)
          clear h hk1 C2 HKa
          go_wp2_with fail
          refine C2'.out.mono ?_
          clear C2'
          intro e wc h
          obtain ⟨ad2, cap2, rfl, hk2⟩ := h.bad
          have HKc := Lib.hid (HKb.out.trans hk2 (fun _ h => h.elim))
          have HIs := Lib.hid (fun W : World => is_any 1 1 W)
          clear h hk2 HKb
          go_wp2_with (go_at_call 14; refine (HIs.out _).mono ?_; rintro e wz ⟨rfl, rfl⟩)
          go_ret
          exact ⟨rfl, HKc.out⟩
        have e1 : mergeM Ls = (mergeG Ls, true) := by unfold mergeM; rw [if_pos hall]
        have e2 : mergeM Ls.reverse = (mergeG Ls.reverse, true) := by unfold mergeM; rw [hrall, if_pos hall]
        rw [e1] at C1
        rw [e2] at C2
        have C1 := Lib.hid C1
        have HAll := Lib.hid hall
        clear e1 e2 hall hrall
        go_wp2_with fail
        refine C1.out.mono ?_
        clear C1
        intro e wb h
        obtain ⟨ad1, cap1, rfl, hA, hk1⟩ := h.ok
        have HKb := Lib.hid (HKa.out.trans hk1 (fun _ h => h.elim))
        have HA := Lib.hid hA
        have HOb := Lib.hid (HOa.out.keptK hk1)
        have C2' := Lib.hid (C2.out wb hk1)
        clear h hk1 hA C2 HKa HOa
        go_wp2_with fail
        refine C2'.out.mono ?_
        clear C2'
        intro e wc h
        obtain ⟨ad2, cap2, rfl, hB, hk2⟩ := h.ok
        have HKc := Lib.hid (HKb.out.trans hk2 (fun _ h => h.elim))
        have HAc := Lib.hid (ents_keptK HA.out hk2)
        have HB := Lib.hid hB
        have HOc := Lib.hid (HOb.out.keptK hk2)
        clear h hk2 hB HKb HA HOb
        have hmem : ∀ x, x ∈ Ls.flatten ↔ x ∈ Ls.reverse.flatten := fun x => by simp [List.mem_flatten]
        have hBl : (mergeG Ls.reverse).length = (mergeG Ls).length := (turn_len hmem).symm
        have HSm : Hid (Ls.flatten.length ≤ (mergeG Ls).length → mergeG Ls = mergeG Ls.reverse) := fun h => turn_same hmem h
        have hAl := merge_len Ls
        rw [← HT.out] at hAl HSm
        rw [hBl] at HB
        rw [hBl]
        obtain ⟨A, hA⟩ : ∃ A, Hid (A = mergeG Ls) := ⟨_, rfl⟩
        obtain ⟨B, hB⟩ : ∃ B, Hid (B = mergeG Ls.reverse) := ⟨_, rfl⟩
        rw [← hA.out] at HSm hAl HAc HB ⊢
        rw [← hB.out] at HSm HB
        obtain ⟨na, hna⟩ : ∃ na, Hid (na = A.length) := ⟨_, rfl⟩
        rw [← hna.out] at HSm hAl HAc HB ⊢
        clear hmem hBl
        have HI3 : Hid (EntsW wc none 0 (mergeG (Ls.take 0)) ∧ Kept (fun _ => False) wc wc ∧ 0 ≤ 0) := ⟨EntsW.empty, Kept.refl _ _, Nat.le_refl _⟩
        go_wp2
        go_loopw [13, 14] (fun o i wr => ∃ (m nc : Nat) (ac : Option Addr) (cc : Nat), m ≤ k ∧ o = .slice ac nc cc ∧ i = .int .i64 (m : Int) ∧ Hid (EntsW wr ac nc (mergeG (Ls.take m)) ∧ Kept (fun _ => False) wc wr ∧ nc ≤ cc)) (fun _ i _ => k - (intOf i).toNat)
        case atStart => exact ⟨0, 0, none, 0, Nat.zero_le _, rfl, rfl, HI3⟩
        case round =>
          rename World => wd
          obtain ⟨m, nc, ac, cc, hm, rfl, rfl, hE⟩ := hrel
          clear HI3
          have m0 : (0 : Int) ≤ (m : Int) := by omega
          by_cases hlt : m < k
          case neg =>
            obtain rfl : m = k := by omega
            have mn : ¬(m : Int) < (m : Int) := by omega
            have hE1 := hE.out.1
            rw [List.take_of_length_le (by omega), ← hA.out] at hE1
            obtain rfl : nc = na := by have h1 := hE1.1; have h2 := hna.out; omega
            have HKd := Lib.hid (HKc.out.trans hE.out.2.1 (fun _ h => h.elim))
            have hA180 : A.length ≤ 20000 := by have := hna.out; omega
            have hB180 : B.length ≤ 20000 := by have := HB.out.1; omega
            have C1 := Lib.hid (ents15 wd ad1 ac nc cap1 nc cc A A (ents_keptK HAc.out hE.out.2.1) hE1 hA180 hA180)
            have C2 : Hid (∀ W, Kept (fun _ => False) wd W → Calls Try.prog 13 #[.slice ad1 nc cap1, .slice ad2 nc cap2] W (SameP A B W)) := fun W hk => ents15 W ad1 ad2 nc cap1 nc cap2 A B (ents_keptK (ents_keptK HAc.out hE.out.2.1) hk) (ents_keptK (ents_keptK HB.out hE.out.2.1) hk) hA180 hB180
            clear hE hE1 hA180 hB180 HAc HB HKc HOc HAll hA hB hna
            go_wp2_with fail
            refine C1.out.mono ?_
            clear C1
            rintro e we ⟨x, rfl, hx, hk1⟩
            obtain rfl : x = true := hx.2 rfl
            have HKe := Lib.hid (HKd.out.trans hk1 (fun _ h => h.elim))
            have C2' := Lib.hid (C2.out we hk1)
            clear hx hk1 HKd C2
            go_wp2_with fail
            refine C2'.out.mono ?_
            clear C2'
            rintro e wf ⟨y, rfl, hy, hk2⟩
            have HKf := Lib.hid (HKe.out.trans hk2 (fun _ h => h.elim))
            clear hk2 HKe
            cases y with
            | true =>
              clear hy
              go_wp2
              go_ret
              exact ⟨rfl, HKf.out⟩
            | false =>
              have hless : (nc : Int) < (c : Int) := by
                have h1 : ¬A = B := fun h => by have := hy.2 h; cases this
                have h2 : ¬c ≤ nc := fun h => h1 (HSm.out h)
                omega
              clear hy HSm
              go_wp2
              go_ret
              exact ⟨rfl, HKf.out⟩
          have mn : (m : Int) < (k : Int) := by omega
          have hwm : IntKind.i64.wrap ((m : Int) + 1) = (m : Int) + 1 := IntWalk.i64_in _ (by omega)
          have hmL : m < Ls.length := by omega
          obtain ⟨g, o, ax, cx, rfl, _, hcx, hat⟩ := HOc.out.lsE.atC hmL
          obtain ⟨c0, hea⟩ := hat wd hE.out.2.1
          have hms : mergeM [mergeG (Ls.take m), Ls[m]] = (mergeG (Ls.take (m + 1)), true) := by
            have h1 : [mergeG (Ls.take m), Ls[m]].all sortB = true := by
              have h3 := List.all_eq_true.1 HAll.out
              have h4 : sortB (mergeG (Ls.take m)) = true := merge_sort (List.all_eq_true.2 fun l hl => h3 l (List.mem_of_mem_take hl))
              simp [h4, h3 Ls[m] (List.getElem_mem hmL)]
            unfold mergeM
            rw [if_pos h1, List.take_succ_eq_append_getElem hmL, merge_snoc]
          have hle1 : (mergeG (Ls.take m)).length ≤ 1000 := by
            have h1 := merge_len (Ls.take m)
            have h2 := flat_take hmL
            have h3 := HT.out
            omega
          have hle2 : (Ls[m]).length ≤ 1000 := by have := h30.out _ (List.getElem_mem hmL); omega
          obtain ⟨lx, hlx⟩ : ∃ lx, Hid (lx = (Ls[m]).length) := ⟨(Ls[m]).length, rfl⟩
          rw [← hlx.out] at c0 hea hcx
          have C1 := K.merge _ _ 2 2 _ (two_lsG wd cc cx hE.out.1 hE.out.2.2 hea hcx) (by omega) (fun l hl => by
            rcases List.mem_cons.1 hl with rfl | hl
            · exact hle1
            · rw [List.mem_singleton] at hl; subst hl; exact hle2)
          rw [hms] at C1
          have C1 := Lib.hid C1
          have HKd := Lib.hid (hE.out.2.1.alloc (.cells #[.slice ac nc cc, .slice ax lx cx] 24))
          clear hms hle1 hle2 hat hea hlx hE hmL hcx
          go_wp2_with fail
          refine C1.out.mono ?_
          clear C1
          intro e we h
          obtain ⟨ad3, cap3, rfl, hG, hk3, hcp3⟩ := h.okC
          have HN : Hid (EntsW we ad3 (mergeG (Ls.take (m + 1))).length (mergeG (Ls.take (m + 1))) ∧ Kept (fun _ => False) wc we ∧ (mergeG (Ls.take (m + 1))).length ≤ cap3) := ⟨hG, HKd.out.trans hk3 (fun _ h => h.elim), hcp3⟩
          clear h hG hk3 HKd c0
          go_wp2
          go_roundw
          case rel => exact ⟨m + 1, _, ad3, cap3, hlt, rfl, by first | rfl | go_num, HN⟩
          case measure => simp [intOf]; omega

end Go.Proofs.Ythkejfhcdodggaa
