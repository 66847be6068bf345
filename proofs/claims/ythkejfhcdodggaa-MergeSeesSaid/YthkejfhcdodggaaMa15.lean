/- The law MergeAll (layer 15), walked over the contracts of the program's merge and blocks: its first loop printed by genow15.py. -/
import Derived.Test.YthkejfhcdodggaaJ13
import Derived.Test.YthkejfhcdodggaaJ08
import Derived.Laws.MakeOwn
namespace Go.Proofs.Ythkejfhcdodggaa
open Go.RowKit Go.Proofs Go.Proofs.Pk
set_option maxRecDepth 10000
attribute [local simp] mk_get wrap64_u8 mk_extract ByteArray.mk_append_mk get_1k

theorem boolL_info : (Try.prog.info? 4).map (fun i => (i.zero, i.size, i.bytes)) = some (some (.bool false), 1, 1) := by kernel_rfl
theorem made_boolsL (v : Value) (n : Nat) : madeCells #[v] n = (List.replicate n v).toArray := by
  apply Array.ext
  · rw [size_madeCells]; simp
  · intro i h1 h2
    simp [madeCells, Nat.mod_one]
theorem run_make_boolsL (m : Nat) (hm : m ≤ 4096) (w : World) : (Instr.makeSlice 42 (.int .i64 (m : Int)) (.int .i64 (m : Int))).run Try.prog w =
    .ok (.slice (some ⟨w.heap.size, 0, none⟩) m m) (w.alloc (.cells ((List.replicate m false).map Value.bool).toArray 4)) := by
  obtain ⟨i, hi, hz, hs, hb⟩ := info_parts boolL_info
  have := run_make (P := Try.prog) w 42 4 i _ Try.underlying42 hi hz .i64 .i64 m m (by omega) (Int.le_refl _) (by rw [hb]; omega) (by omega)
  rw [this, hs]
  simp only [Int.toNat_natCast, Value.cells, Nat.mul_one]
  rw [made_boolsL, List.map_replicate]
/-- Which of a list are met by some others. -/
def metB (P : List MEnt) (y : MEnt) : Bool := P.any fun x => sameM y x
def metS (A P : List MEnt) (x : MEnt) (n : Nat) : List Bool := (A.take n).map (metB (P ++ [x])) ++ (A.drop n).map (metB P)
theorem metB_snoc (P : List MEnt) (x y : MEnt) : metB (P ++ [x]) y = (metB P y || sameM y x) := by unfold metB; simp
theorem metS_zero (A P : List MEnt) (x : MEnt) : metS A P x 0 = A.map (metB P) := by simp [metS]
theorem metS_all (A P : List MEnt) (x : MEnt) : metS A P x A.length = A.map (metB (P ++ [x])) := by simp [metS]
theorem metS_len (A P : List MEnt) (x : MEnt) (n : Nat) : (metS A P x n).length = A.length := by
  unfold metS; rw [List.length_append, List.length_map, List.length_map, ← List.length_append, List.take_append_drop]
theorem metS_step {A : List MEnt} (P : List MEnt) (x : MEnt) {n : Nat} (h : n < A.length) : metS A P x (n + 1) = if sameM A[n] x = true then (metS A P x n).set n true else metS A P x n := by
  have e1 : A.take (n + 1) = A.take n ++ [A[n]] := List.take_succ_eq_append_getElem h
  have e2 : A.drop n = A[n] :: A.drop (n + 1) := List.drop_eq_getElem_cons h
  have hl : ((A.take n).map (metB (P ++ [x]))).length = n := by rw [List.length_map, List.length_take]; omega
  unfold metS
  rw [e1, e2, List.map_append, List.map_cons, List.map_nil, List.map_cons, List.append_assoc, metB_snoc]
  by_cases hs : sameM A[n] x = true
  · rw [if_pos hs, hs, Bool.or_true, List.set_append_right _ _ (by omega), hl, Nat.sub_self]; rfl
  · rw [if_neg hs, Bool.eq_false_iff.2 hs, Bool.or_false]; rfl
theorem met_done {Ls : List (List MEnt)} {y : MEnt} (h : y ∈ mergeG Ls) : metB Ls.flatten y = true := List.any_eq_true.2 ⟨y, merge_from h, same_refl y⟩
theorem any_all {Ls : List (List MEnt)} {x : MEnt} (h : x ∈ Ls.flatten) : (mergeG Ls).any (fun y => sameM y x) = true := by
  obtain ⟨y, hy, hs⟩ := merge_has h
  exact List.any_eq_true.2 ⟨y, hy, hs⟩

set_option maxHeartbeats 20000000 in
theorem all15 (K : MgK) (J : BkJ) (ad : Option Addr) (len cap : Nat) (L : List RowE) (w : World) (h0 : RowsE w ad len L) :
    Calls Try.prog 5 #[.slice ad len cap] w fun e w' => e = .returned (.bool true) ∧ Kept (fun _ => False) w w' := by
  obtain ⟨iL, hiL, hlz, hl1, hl2⟩ := info_parts lst_info
  have HE := Lib.hid (examples15 K w)
  have hlen := h0.1
  have H := Lib.hid h0
  clear h0
  go_enter Try.func5, Try.ntmps5
  go_wp2_with fail
  refine HE.out.mono ?_
  clear HE
  rintro e w1 ⟨rfl, hk1⟩
  have HK1 := Lib.hid hk1
  have HI : Hid (OwnL w1 w1 none 0 0 (CutsL L 0 40)) := OwnL.nil (Kept.refl _ _)
  clear hk1
  go_wp2
  go_loopw [4, 5] (fun o i wr => ∃ (j : Nat) (ao : Option Addr) (co : Nat), (j ≤ len ∧ j ≤ 8) ∧ o = .slice ao j co ∧ i = .int .i64 (j : Int) ∧ Hid (OwnL w1 wr ao j co (CutsL L j 40))) (fun _ i _ => 8 - (intOf i).toNat)
  case atStart => exact ⟨0, none, 0, ⟨Nat.zero_le _, Nat.zero_le _⟩, rfl, rfl, HI⟩
  case round =>
    rename World => w9
    obtain ⟨j, ao, co, ⟨hj, hj6⟩, rfl, rfl, hI⟩ := hrel
    clear HI
    have j0 : (0 : Int) ≤ (j : Int) := by omega
    obtain ⟨lt, hltb⟩ : ∃ lt : Bool, (lt = true ↔ (j < len ∧ j < 8)) := by
      by_cases h : j < len ∧ j < 8
      · exact ⟨true, fun _ => h, fun _ => rfl⟩
      · exact ⟨false, fun h' => (by cases h'), fun h' => absurd h' h⟩
    have HLT := Lib.hid hltb
    clear hltb
    go_upto_region 4 with fail
    go_cut [23] from 16 to 39 (fun s23 wx => s23 = .bool lt ∧ wx = w9)
    case first =>
      clear hI
      by_cases h1 : j < len
      · have jn : (j : Int) < (len : Int) := by omega
        by_cases h2 : j < 8
        · obtain rfl : lt = true := HLT.out.2 ⟨h1, h2⟩
          have jn6 : (j : Int) < 8 := by omega
          go_wp2
          go_meet
          case rel => exact ⟨rfl, rfl⟩
        · obtain rfl : lt = false := by rw [Bool.eq_false_iff]; intro h; exact h2 (HLT.out.1 h).2
          have jn6 : decide ((j : Int) < 8) = false := decide_eq_false (by omega)
          have jn7 : decide (j < 8) = false := decide_eq_false h2
          clear h2
          go_wp2
          go_meet
          case rel => exact ⟨rfl, rfl⟩
      · obtain rfl : lt = false := by rw [Bool.eq_false_iff]; intro h; exact h1 (HLT.out.1 h).1
        have jn : ¬(j : Int) < (len : Int) := by omega
        go_wp2
        go_meet
        case rel => exact ⟨rfl, rfl⟩
    case rest =>
    obtain ⟨rfl, hwc⟩ := hcut
    rw [hwc]
    clear hwc
    cases lt with
    | true =>
      obtain ⟨hlt, hlt6⟩ := HLT.out.1 rfl
      clear HLT
      have jn : (j : Int) < (len : Int) := by omega
      have jn6 : (j : Int) < 8 := by omega
      have hwj : IntKind.i64.wrap ((j : Int) + 1) = (j : Int) + 1 := IntWalk.i64_in _ (by omega)
      have hjL : j < L.length := by omega
      obtain ⟨b, off, ai, mi, ci, n, rfl, hn1, hn2, hmc, hmin, hent, hcell, hbare⟩ := H.out.get hjL 40
      have hmin2 : min (mi : Int) 40 = (n : Int) := hmin
      have hsc := fun W => slice_cut ai mi ci n hn2 W
      have hcs := cuts_snoc (m := 40) hjL
      obtain ⟨Lj, hLj⟩ : ∃ Lj, Lj = (L[j]).l.take 40 := ⟨_, rfl⟩
      rw [← hLj] at hent hcs
      have HCell : Hid (∀ W, Kept (fun _ => False) w1 W → W.cell? ⟨b, off + j, none⟩ = some (.slice ai mi ci)) := fun W hk => hcell W (HK1.out.trans hk (fun _ h => h.elim))
      have c0 := HCell.out w9 hI.out.kept
      have HEn := Lib.hid (ents_keptK hent HK1.out)
      have HCS := Lib.hid hcs
      have HO := Lib.hid hI.out
      clear hmin hcell hcs hent hLj hI hjL hbare
      go_upto_region 6 with fail
      refine wp_region_until (fun W => W.cell? ⟨b, off + j, none⟩ = some (.slice ai mi ci)) 15 (by kernel_rfl) ?_
      have hS : (fun W => W.cell? ⟨b, off + j, none⟩ = some (.slice ai mi ci)) w9.drew := c0
      refine wpAnyU_take (i := 0) (v := (.slice ao j co)) (some 26) rfl rfl (by kernel_rfl) (by kernel_rfl) (by kernel_rfl) (by kernel_rfl) (fun _ _ _ h => h) hS (yields_of (by kernel_rfl) (fun w s1 => by go_simp)) ?_
      refine wpAnyU_take (i := 1) (v := (.slice (some ⟨b, off, none⟩) len cap)) (some 27) rfl rfl (by kernel_rfl) (by kernel_rfl) (by kernel_rfl) (by kernel_rfl) (fun _ _ _ h => h) hS (yields_of (by kernel_rfl) (fun w s1 => by go_simp)) ?_
      refine wpAnyU_take (i := 2) (v := (.int .i64 (j : Int))) (some 28) rfl rfl (by kernel_rfl) (by kernel_rfl) (by kernel_rfl) (by kernel_rfl) (fun _ _ _ h => h) hS (yields_of (by kernel_rfl) (fun w s1 => by go_simp)) ?_
      refine wpAnyU_take (i := 3) (v := (.pointer (some ⟨b, off + j, none⟩))) (some 29) rfl rfl (by kernel_rfl) (by kernel_rfl) (by kernel_rfl) (by kernel_rfl) (fun _ _ _ h => h) hS (yields_of (by kernel_rfl) (fun w s1 => by go_simp)) ?_
      refine wpAnyU_take (i := 4) (v := (.slice ai mi ci)) (some 30) rfl rfl (by kernel_rfl) (by kernel_rfl) (by kernel_rfl) (by kernel_rfl) (fun _ _ _ h => h) hS (yields_of (by kernel_rfl) (fun w s1 => by go_simp)) ?_
      refine wpAnyU_take (i := 5) (v := (.slice (some ⟨b, off, none⟩) len cap)) (some 31) rfl rfl (by kernel_rfl) (by kernel_rfl) (by kernel_rfl) (by kernel_rfl) (fun _ _ _ h => h) hS (yields_of (by kernel_rfl) (fun w s1 => by go_simp)) ?_
      refine wpAnyU_take (i := 6) (v := (.int .i64 (j : Int))) (some 32) rfl rfl (by kernel_rfl) (by kernel_rfl) (by kernel_rfl) (by kernel_rfl) (fun _ _ _ h => h) hS (yields_of (by kernel_rfl) (fun w s1 => by go_simp)) ?_
      refine wpAnyU_take (i := 7) (v := (.pointer (some ⟨b, off + j, none⟩))) (some 33) rfl rfl (by kernel_rfl) (by kernel_rfl) (by kernel_rfl) (by kernel_rfl) (fun _ _ _ h => h) hS (yields_of (by kernel_rfl) (fun w s1 => by go_simp)) ?_
      refine wpAnyU_take (i := 8) (v := (.slice ai mi ci)) (some 34) rfl rfl (by kernel_rfl) (by kernel_rfl) (by kernel_rfl) (by kernel_rfl) (fun _ _ _ h => h) hS (yields_of (by kernel_rfl) (fun w s1 => by go_simp)) ?_
      refine wpAnyU_take (i := 9) (v := (.int .i64 (mi : Int))) (some 35) rfl rfl (by kernel_rfl) (by kernel_rfl) (by kernel_rfl) (by kernel_rfl) (fun _ _ _ h => h) hS (yields_of (by kernel_rfl) (fun w s1 => by go_simp)) ?_
      refine wpAnyU_take (i := 10) (v := (.int .i64 (n : Int))) (some 36) rfl rfl (by kernel_rfl) (by kernel_rfl) (by kernel_rfl) (by kernel_rfl) (fun _ _ _ h => h) hS (yields_of (by kernel_rfl) (fun w s1 => by go_simp)) ?_
      refine wpAnyU_take (i := 11) (v := (.slice ai n ci)) (some 37) rfl rfl (by kernel_rfl) (by kernel_rfl) (by kernel_rfl) (by kernel_rfl) (fun _ _ _ h => h) hS (yields_of (by kernel_rfl) (fun w s1 => by go_simp)) ?_
      obtain ⟨q, hq⟩ : ∃ q, Hid (q = w9.drew.heap.size) := ⟨_, rfl⟩
      have hbs := run_bsL w9.drew ai n ci
      have HQ := Holds.new w9.drew [.slice ai n ci] 24
      have HKd : Kept (fun _ => False) w9 (w9.drew.alloc (.cells [Value.slice ai n ci].toArray 24)) := ((Kept.refl _ w9).drewN 1).alloc _
      rw [← hq.out] at hbs HQ
      have HOd := HO.out.keptK HKd
      have hqd : Hid (q < (w9.drew.alloc (.cells [Value.slice ai n ci].toArray 24)).heap.size) := HQ.lt
      change (Instr.buildSlice 22 1 #[(0, .slice ai n ci)]).run Try.prog w9.drew = .ok (.slice (some ⟨q, 0, none⟩) 1 1) (w9.drew.alloc (.cells [Value.slice ai n ci].toArray 24)) at hbs
      generalize w9.drew.alloc (.cells [Value.slice ai n ci].toArray 24) = wd at hbs HQ HKd HOd hqd
      have hSd := HCell.out _ HOd.kept
      refine wpAnyU_run (i := 12) (v := .slice (some ⟨q, 0, none⟩) 1 1) (some 38) rfl rfl (by kernel_rfl) (by kernel_rfl) (exec_buildSlice (x := .tmp 37) hbs (by rfl) (by kernel_rfl)) (fun _ => hSd) ?_
      obtain ⟨C, hC1, hC2⟩ := HOd.row
      obtain ⟨v', we, happ, ho, hgr, hpl⟩ := run_append_at (P := Try.prog) wd w1.heap.size 22 22 24 iL _ 1 24 Try.underlying22 hiL hlz hl1 hl2 (by rfl) (by decide) _ _ C hC1
        ⟨q, 0, none⟩ 1 1 [.slice ai n ci] (by rfl) (fun j u hj => by rw [add0]; exact HQ.cell j u hj) (by simp [Value.oneCell']) (by unfold maxLen; omega) (by omega) HOd.kept.size (by omega)
      obtain ⟨ad2, cap2, rfl, hON⟩ := HOd.grown hC1 hC2 (Kept.refl _ _) (ents_keptK HEn.out HOd.kept) hn2 (fun h0 a ha => by
        intro e
        have e1 := (hC1.lt _ e).1
        have e2 := ents_lt HEn.out h0 a ha
        omega) ho hgr hpl
      have hSe := HCell.out _ hON.kept
      refine wpAnyU_run (i := 13) (v := .slice ad2 (j + 1) cap2) (w' := we) (some 39) rfl rfl (by kernel_rfl) (by kernel_rfl) (exec_append (s := .tmp 26) (x := .tmp 38) happ (by rfl) (by rfl) (by kernel_rfl) (by kernel_rfl)) (fun _ => hSe) ?_
      refine wpAnyU_run (i := 14) (v := .slice ad2 (j + 1) cap2) (w' := we) (some 4) rfl rfl (by kernel_rfl) (by kernel_rfl) (by go_simp) (fun h => by omega) ?_
      refine wpAnyU_done (by kernel_rfl) ?_ _
      simp only [put_lit, List.set_cons_succ, List.set_cons_zero]
      have HN : Hid (OwnL w1 we ad2 (j + 1) cap2 (CutsL L (j + 1) 40)) := by show OwnL _ _ _ _ _ _; rw [HCS.out]; exact hON
      clear hS hbs HQ HKd HOd hSd hC1 hC2 hgr hON happ ho hpl hSe hq hqd HO HEn HCell c0 hsc HCS
      go_wp2
      go_roundw
      case rel => exact ⟨j + 1, _, cap2, ⟨hlt, hlt6⟩, rfl, by first | rfl | go_num, HN⟩
      case measure => simp [intOf]; omega
    | false =>
      have h40 : Hid (∀ l ∈ CutsL L j 40, l.length ≤ 40) := fun l hl => by
        unfold CutsL at hl
        obtain ⟨r, _, rfl⟩ := List.mem_map.1 hl
        rw [List.length_take]; omega
      obtain ⟨Ls, hLs⟩ : ∃ Ls, Ls = CutsL L j 40 := ⟨_, rfl⟩
      have hI1 := hI.out
      rw [← hLs] at hI1 h40
      have HO := Lib.hid hI1
      have HK9 : Hid (Kept (fun _ => False) w w9) := HK1.out.trans hI1.kept (fun _ h => h.elim)
      have hlen9 := hI1.len
      have hfe : ∀ l ∈ Ls, l.length ≤ 1000 := fun l hl => by have := h40.out l hl; omega
      have hfl : Ls.flatten.length ≤ 40 * j := by
        rw [← hlen9]
        clear hI1 HO hlen9 hfe hLs
        have h1 := h40.out
        clear h40
        induction Ls with
        | nil => simp
        | cons l r ih =>
          have h2 := h1 l (by simp)
          have h3 := ih (fun l hl => h1 l (by simp [hl]))
          simp only [List.flatten_cons, List.length_append, List.length_cons]
          omega
      have C1 := K.merge w9 ao j co Ls hI1.lsE (by omega) hfe
      clear hI hI1 hLs HLT hj H hlen h40 hfe
      by_cases hall : Ls.all sortB = true
      case neg =>
        have e1 : mergeM Ls = ([], false) := by unfold mergeM; rw [if_neg hall]
        rw [e1] at C1
        have C1 := Lib.hid C1
        clear e1 hall
        go_wp2_with fail
        refine C1.out.mono ?_
        clear C1
        intro e wb h
        obtain ⟨ad1, cap1, rfl, hk1⟩ := h.bad
        have HKb := Lib.hid (HK9.out.trans hk1 (fun _ h => h.elim))
        clear h hk1 HK9
        go_wp2
        go_ret
        exact ⟨rfl, HKb.out⟩
      have e1 : mergeM Ls = (mergeG Ls, true) := by unfold mergeM; rw [if_pos hall]
      rw [e1] at C1
      have C1 := Lib.hid C1
      have HAll := Lib.hid hall
      clear e1 hall
      go_wp2_with fail
      refine C1.out.mono ?_
      clear C1
      intro e wb h
      obtain ⟨ad1, cap1, rfl, hA, hk1⟩ := h.ok
      have HKb := Lib.hid (HK9.out.trans hk1 (fun _ h => h.elim))
      have HOb := Lib.hid (HO.out.keptK hk1)
      have hAl := merge_len Ls
      have HSo : Hid (sortB (mergeG Ls) = true) := merge_sort HAll.out
      have HD1 : Hid (∀ y ∈ mergeG Ls, metB Ls.flatten y = true) := fun y hy => met_done hy
      have HD2 : Hid (∀ x ∈ Ls.flatten, (mergeG Ls).any (fun y => sameM y x) = true) := fun x hx => any_all hx
      obtain ⟨A, hA0⟩ : ∃ A, Hid (A = mergeG Ls) := ⟨_, rfl⟩
      rw [← hA0.out] at hAl hA HSo HD1 HD2 ⊢
      obtain ⟨na, hna⟩ : ∃ na, Hid (na = A.length) := ⟨_, rfl⟩
      rw [← hna.out] at hAl hA ⊢
      have hna4 : na ≤ 400 := by omega
      have HA := Lib.hid hA
      obtain ⟨wm, hwm⟩ : ∃ wm, wm = wb.alloc (.cells ((List.replicate na false).map Value.bool).toArray 4) := ⟨_, rfl⟩
      have hmk := run_make_boolsL na (by omega) wb
      obtain ⟨gm, hgm⟩ : ∃ gm, gm = wb.heap.size := ⟨_, rfl⟩
      have hHm : Holds wm gm ((A.map (metB [])).map Value.bool) 4 := by
        have e2 : A.map (metB []) = List.replicate na false := by
          rw [hna.out]
          exact List.eq_replicate_iff.2 ⟨by simp, fun b hb => by obtain ⟨y, _, rfl⟩ := List.mem_map.1 hb; rfl⟩
        rw [e2, hwm, hgm]
        exact Holds.new wb _ _
      have hHk : Kept (fun _ => False) wb wm := by rw [hwm]; exact (Kept.refl _ wb).alloc _
      rw [← hwm, ← hgm] at hmk
      have HGm : Hid (wb.heap.size ≤ gm) := Nat.le_of_eq hgm.symm
      have HI2 : Hid (Kept (fun _ => False) wb wm ∧ Holds wm gm ((A.map (metB (Ls.take 0).flatten)).map Value.bool) 4) := ⟨hHk, hHm⟩
      clear h hk1 hA HK9 HO hwm hgm hHm hHk HAll
      go_wp2
      clear hmk
      go_loopw [9] (fun i wr => ∃ x : Nat, x ≤ j ∧ i = .int .i64 (x : Int) ∧ Hid (Kept (fun _ => False) wb wr ∧ Holds wr gm ((A.map (metB (Ls.take x).flatten)).map Value.bool) 4)) (fun i _ => j - (intOf i).toNat)
      case atStart => exact ⟨0, Nat.zero_le _, rfl, HI2⟩
      case round =>
        rename World => wc
        obtain ⟨x, hx, rfl, hM⟩ := hrel
        clear HI2
        have x0 : (0 : Int) ≤ (x : Int) := by omega
        by_cases hltx : x < j
        case neg =>
          obtain rfl : x = j := by omega
          have xn : ¬(x : Int) < (x : Int) := by omega
          have HM : Hid (Kept (fun _ => False) wb wc ∧ Holds wc gm ((A.map (metB Ls.flatten)).map Value.bool) 4) := by
            have h1 := hM.out
            rwa [List.take_of_length_le (by omega)] at h1
          clear hM
          go_wp2
          go_loopw [14] (fun i wr => ∃ n : Nat, n ≤ na ∧ i = .int .i64 (n : Int) ∧ wr = wc) (fun i _ => na - (intOf i).toNat)
          case atStart => exact ⟨0, Nat.zero_le _, rfl, rfl⟩
          case round =>
            obtain ⟨n, hn, rfl, hwr⟩ := hrel
            rw [hwr]
            clear hwr
            have n0 : (0 : Int) ≤ (n : Int) := by omega
            by_cases hltn : n < na
            case neg =>
              obtain rfl : n = na := by omega
              have nn : ¬(n : Int) < (n : Int) := by omega
              have C2 := J.sorted wc ad1 n cap1 A (ents_keptK HA.out HM.out.1) (by omega)
              rw [HSo.out] at C2
              have C2 := Lib.hid C2
              have HKc := Lib.hid (HKb.out.trans HM.out.1 (fun _ h => h.elim))
              clear HM HA
              go_wp2_with fail
              refine C2.out.mono ?_
              clear C2
              rintro e wd ⟨rfl, hk⟩
              have HKd := Lib.hid (HKc.out.trans hk (fun _ h => h.elim))
              clear hk HKc
              go_wp2
              go_ret
              exact ⟨rfl, HKd.out⟩
            have nn : (n : Int) < (na : Int) := by omega
            have hwn : IntKind.i64.wrap ((n : Int) + 1) = (n : Int) + 1 := IntWalk.i64_in _ (by omega)
            have hnA : n < A.length := by have := hna.out; omega
            have c0 : wc.cell? ⟨gm, n, none⟩ = some (.bool true) := by
              refine HM.out.2.cell n _ ?_
              rw [List.getElem?_map, List.getElem?_map, List.getElem?_eq_getElem hnA]
              simp only [Option.map_some, HD1.out _ (List.getElem_mem hnA)]
            go_wp2
            go_roundw
            case rel => exact ⟨n + 1, hltn, by first | rfl | go_num, by first | rfl | trivial⟩
            case measure => simp [intOf]; omega
        have xn : (x : Int) < (j : Int) := by omega
        have hwx : IntKind.i64.wrap ((x : Int) + 1) = (x : Int) + 1 := IntWalk.i64_in _ (by omega)
        have hxL : x < Ls.length := by omega
        obtain ⟨g, o, ax, cx, rfl, hat⟩ := HOb.out.lsE.at hxL
        have hft : (Ls.take (x + 1)).flatten = (Ls.take x).flatten ++ Ls[x] := by rw [List.take_succ_eq_append_getElem hxL, List.flatten_append]; simp
        have hin : ∀ z ∈ Ls[x], (A.any fun y => sameM y z) = true := fun z hz => by
          have h1 := HD2.out z (List.mem_flatten.2 ⟨_, List.getElem_mem hxL, hz⟩)
          exact h1
        obtain ⟨lx, hlx⟩ : ∃ lx, Hid (lx = (Ls[x]).length) := ⟨(Ls[x]).length, rfl⟩
        rw [← hlx.out] at hat
        have hl40 : lx ≤ 400 := by
          have h1 := flat_take hxL
          rw [hlx.out]; omega
        obtain ⟨X, hX⟩ : ∃ X, X = Ls[x] := ⟨_, rfl⟩
        rw [← hX] at hat hft hin hlx
        obtain ⟨P, hP⟩ : ∃ P, P = (Ls.take x).flatten := ⟨_, rfl⟩
        have hM1 := hM.out
        rw [← hP] at hft hM1
        have HAT := Lib.hid hat
        have HFT := Lib.hid hft
        have HIn := Lib.hid hin
        have HM0 : Hid (Kept (fun _ => False) wb wc ∧ Holds wc gm ((A.map (metB (P ++ X.take 0))).map Value.bool) 4) := by
          show _ ∧ _
          rw [List.take_zero, List.append_nil]; exact hM1
        clear hat hft hin hX hP hM hM1 hxL
        go_wp2
        go_loopw [10] (fun i wr => ∃ k : Nat, k ≤ lx ∧ i = .int .i64 (k : Int) ∧ Hid (Kept (fun _ => False) wb wr ∧ Holds wr gm ((A.map (metB (P ++ X.take k))).map Value.bool) 4)) (fun i _ => lx - (intOf i).toNat)
        case atStart => exact ⟨0, Nat.zero_le _, rfl, HM0⟩
        case round =>
          rename World => wd
          obtain ⟨k, hk, rfl, hN⟩ := hrel
          clear HM0
          have k0 : (0 : Int) ≤ (k : Int) := by omega
          obtain ⟨c0, hea⟩ := HAT.out wd hN.out.1
          by_cases hltk : k < lx
          case neg =>
            obtain rfl : k = lx := by omega
            have kn : ¬(k : Int) < (k : Int) := by omega
            have HM2 : Hid (Kept (fun _ => False) wb wd ∧ Holds wd gm ((A.map (metB (Ls.take (x + 1)).flatten)).map Value.bool) 4) := by
              have h1 := hN.out
              rw [List.take_of_length_le (by have := hlx.out; omega)] at h1
              rw [HFT.out]; exact h1
            clear hN hea
            go_wp2
            go_roundw
            case rel => exact ⟨x + 1, hltx, by first | rfl | go_num, HM2⟩
            case measure => simp [intOf]; omega
          have kn : (k : Int) < (lx : Int) := by omega
          have hwk : IntKind.i64.wrap ((k : Int) + 1) = (k : Int) + 1 := IntWalk.i64_in _ (by omega)
          have hkX : k < X.length := by have := hlx.out; omega
          obtain ⟨b2, off2, rfl, _, x0', x1', x2', x3'⟩ := hea.atS k hkX
          have htk : P ++ X.take (k + 1) = (P ++ X.take k) ++ [X[k]] := by rw [List.take_succ_eq_append_getElem hkX, List.append_assoc]
          have hany := HIn.out _ (List.getElem_mem hkX)
          obtain ⟨z, hz⟩ : ∃ z, z = X[k] := ⟨_, rfl⟩
          rw [← hz] at x0' x1' x2' x3' htk hany
          obtain ⟨Q, hQ⟩ : ∃ Q, Q = P ++ X.take k := ⟨_, rfl⟩
          have hN1 := hN.out
          rw [← hQ] at htk hN1
          have HTK := Lib.hid htk
          have HAny := Lib.hid hany
          obtain ⟨eb, heb⟩ : ∃ eb, eb = wd.heap.size := ⟨_, rfl⟩
          obtain ⟨we, hwe⟩ : ∃ we, we = wd.alloc (.cells (entC z).toArray 34) := ⟨_, rfl⟩
          have hebm : Hid (gm ≠ eb) := by
            have := hN1.2.lt
            show gm ≠ eb
            omega
          have HE0 : Hid (Kept (fun _ => False) wb we ∧ Holds we gm ((metS A Q z 0).map Value.bool) 4 ∧ Holds we eb (entC z) 34 ∧ false = (A.take 0).any fun y => sameM y z) := by
            refine ⟨by rw [hwe]; exact hN1.1.alloc _, by rw [metS_zero, hwe]; exact hN1.2.alloc _, by rw [hwe, heb]; exact Holds.new wd _ _, by simp⟩
          have hwe2 : we = wd.alloc (.cells #[.string ⟨z.1.toArray⟩, .int .i64 z.2.1, .bool z.2.2.1, .string ⟨z.2.2.2.toArray⟩] 34) := hwe
          clear htk hany hz hQ hN hN1 hea hwe hkX
          go_wp2
          rw [← hwe2, ← heb]
          clear hwe2 heb x0' x1' x2' x3' c0
          go_loopw [12, 13] (fun t i wr => ∃ (n : Nat) (tb : Bool), n ≤ na ∧ t = .bool tb ∧ i = .int .i64 (n : Int) ∧ Hid (Kept (fun _ => False) wb wr ∧ Holds wr gm ((metS A Q z n).map Value.bool) 4 ∧ Holds wr eb (entC z) 34 ∧ tb = (A.take n).any fun y => sameM y z)) (fun _ i _ => na - (intOf i).toNat)
          case atStart => exact ⟨0, false, Nat.zero_le _, rfl, rfl, HE0⟩
          case round =>
            obtain ⟨n, tb, hn, rfl, rfl, hR⟩ := hrel
            clear HE0
            have n0 : (0 : Int) ≤ (n : Int) := by omega
            by_cases hltn : n < na
            case neg =>
              obtain rfl : n = na := by omega
              have nn : ¬(n : Int) < (n : Int) := by omega
              obtain rfl : tb = true := by
                rw [hR.out.2.2.2, List.take_of_length_le (by have := hna.out; omega)]; exact HAny.out
              have HN2 : Hid (Kept (fun _ => False) wb wr ∧ Holds wr gm ((A.map (metB (P ++ X.take (k + 1)))).map Value.bool) 4) := by
                have h1 := hR.out
                rw [show n = A.length from hna.out, metS_all, ← HTK.out] at h1
                exact ⟨h1.1, h1.2.1⟩
              clear hR
              go_wp2
              go_roundw
              case rel => exact ⟨k + 1, hltk, by first | rfl | go_num, HN2⟩
              case measure => simp [intOf]; omega
            have nn : (n : Int) < (na : Int) := by omega
            have hwn : IntKind.i64.wrap ((n : Int) + 1) = (n : Int) + 1 := IntWalk.i64_in _ (by omega)
            have hnA : n < A.length := by have := hna.out; omega
            obtain ⟨b3, off3, rfl, _, y0, y1, y2, y3⟩ := (ents_keptK HA.out hR.out.1).atS n hnA
            have hst := metS_step (A := A) Q z hnA
            have han : ((A.take (n + 1)).any fun y => sameM y z) = (((A.take n).any fun y => sameM y z) || sameM A[n] z) := by rw [List.take_succ_eq_append_getElem hnA, List.any_append]; simp
            obtain ⟨y, hy⟩ : ∃ y, y = A[n] := ⟨_, rfl⟩
            rw [← hy] at y0 y1 hst han
            rw [← hR.out.2.2.2] at han
            have e0 : wr.cell? ⟨eb, 0, none⟩ = some (.string ⟨z.1.toArray⟩) := hR.out.2.2.1.cell 0 _ rfl
            have e1 : wr.cell? ⟨eb, 1, none⟩ = some (.int .i64 z.2.1) := hR.out.2.2.1.cell 1 _ rfl
            have HST := Lib.hid hst
            have HAn := Lib.hid han
            clear hst han hy y2 y3 hnA
            by_cases hkk : y.1 = z.1
            · by_cases hqq : y.2.1 = z.2.1
              · rw [hkk] at y0
                rw [hqq] at y1
                have hsm : sameM y z = true := same_iff.2 ⟨hkk, hqq⟩
                obtain ⟨bz, hbz⟩ : ∃ bz, (metS A Q z n)[n]? = some bz := ⟨_, List.getElem?_eq_getElem (by rw [metS_len]; have := hna.out; omega)⟩
                have m0 : wr.cell? ⟨gm, n, none⟩ = some (.bool bz) := hR.out.2.1.cell n _ (by rw [List.getElem?_map, hbz]; rfl)
                have fm := hR.out.2.1.free n
                have HR2 : Hid (∀ q, Kept (fun _ => False) wb ((wr.drewN q).setCell ⟨gm, n, none⟩ (.bool true)) ∧ Holds ((wr.drewN q).setCell ⟨gm, n, none⟩ (.bool true)) gm ((metS A Q z (n + 1)).map Value.bool) 4 ∧ Holds ((wr.drewN q).setCell ⟨gm, n, none⟩ (.bool true)) eb (entC z) 34 ∧ true = (A.take (n + 1)).any fun y => sameM y z) := fun q => by
                  refine ⟨(hR.out.1.drewN q).setNew (p := ⟨gm, n, none⟩) HGm.out _, ?_, ?_, by rw [HAn.out, hsm, Bool.or_true]⟩
                  · rw [HST.out, if_pos hsm, List.map_set]
                    have h1 : Holds (wr.drewN q) gm ((metS A Q z n).map Value.bool) 4 := hR.out.2.1
                    exact h1.set n _
                  · have h1 : Holds (wr.drewN q) eb (entC z) 34 := hR.out.2.2.1
                    exact h1.ne (fun h => hebm.out h.symm) n _
                clear hR HST HAn hsm hbz hkk hqq
                go_wp2
                go_quiet (fail)
                go_wp2
                go_roundw
                case rel => exact ⟨n + 1, true, hltn, rfl, by first | rfl | go_num, HR2.out _⟩
                case measure => simp [intOf]; omega
              · have hqb : (y.2.1 == z.2.1) = false := by simpa using hqq
                have hsm : ¬sameM y z = true := fun h => hqq (same_iff.1 h).2
                rw [hkk] at y0
                have HR2 : Hid (∀ q, Kept (fun _ => False) wb (wr.drewN q) ∧ Holds (wr.drewN q) gm ((metS A Q z (n + 1)).map Value.bool) 4 ∧ Holds (wr.drewN q) eb (entC z) 34 ∧ tb = (A.take (n + 1)).any fun y => sameM y z) := fun q => by
                  refine ⟨hR.out.1.drewN q, ?_, hR.out.2.2.1, by rw [HAn.out, Bool.eq_false_iff.2 hsm, Bool.or_false]⟩
                  rw [HST.out, if_neg hsm]
                  exact hR.out.2.1
                clear hR HST HAn hsm hkk
                go_wp2
                go_quiet (fail)
                go_wp2
                go_roundw
                case rel => exact ⟨n + 1, tb, hltn, rfl, by first | rfl | go_num, HR2.out _⟩
                case measure => simp [intOf]; omega
            · have hkb : (y.1 == z.1) = false := by simpa using hkk
              have hsm : ¬sameM y z = true := fun h => hkk (same_iff.1 h).1
              have HR2 : Hid (∀ q, Kept (fun _ => False) wb (wr.drewN q) ∧ Holds (wr.drewN q) gm ((metS A Q z (n + 1)).map Value.bool) 4 ∧ Holds (wr.drewN q) eb (entC z) 34 ∧ tb = (A.take (n + 1)).any fun y => sameM y z) := fun q => by
                refine ⟨hR.out.1.drewN q, ?_, hR.out.2.2.1, by rw [HAn.out, Bool.eq_false_iff.2 hsm, Bool.or_false]⟩
                rw [HST.out, if_neg hsm]
                exact hR.out.2.1
              clear hR HST HAn hsm
              go_wp2
              go_quiet (fail)
              go_wp2
              go_roundw
              case rel => exact ⟨n + 1, tb, hltn, rfl, by first | rfl | go_num, HR2.out _⟩
              case measure => simp [intOf]; omega

end Go.Proofs.Ythkejfhcdodggaa
