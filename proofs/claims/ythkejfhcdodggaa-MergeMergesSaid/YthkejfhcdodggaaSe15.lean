/- The program of layer 15: See. -/
import Derived.Test.YthkejfhcdodggaaJ16
import Derived.Test.YthkejfhcdodggaaJ05
import Derived.Test.YthkejfhcdodggaaJ08
import Derived.Test.YthkejfhcdodggaaJ09
import Derived.Sort.CutIn
namespace Go.Proofs.Ythkejfhcdodggaa
open Go.RowKit Go.Shelf Go.Proofs Go.Proofs.Pk
set_option maxRecDepth 10000
attribute [local simp] mk_get wrap64_u8 mk_extract ByteArray.mk_append_mk

/-- What the rounds so far have seen. -/
def seenF (l : List MEnt) (s : Int) {len : Nat} (pre : List (RunP len)) : List MEnt := pre.flatMap fun x => seeK (cutR l x.1) (l.getD x.1.1 default).1 s
theorem seeK_get (l : List MEnt) (k : Txt) (s : Int) : seeK l k s = if (getM l k s).2 = true ∧ (getM l k s).1.2.2.1 = false then [(getM l k s).1] else [] := by
  unfold seeK getM
  cases findM l k s with
  | none => simp
  | some e => cases h : e.2.2.1 <;> simp [h]
theorem seenF_len (l : List MEnt) (s : Int) {len : Nat} : ∀ pre : List (RunP len), (seenF l s pre).length ≤ pre.length
  | [] => Nat.le_refl _
  | x :: r => by
    have ih := seenF_len l s r
    unfold seenF at ih ⊢
    rw [List.flatMap_cons, List.length_append, seeK_get]
    split <;> simp only [List.length_cons, List.length_nil] <;> omega
theorem seenF_snoc (l : List MEnt) (s : Int) {len : Nat} (pre : List (RunP len)) (x : RunP len) : seenF l s (pre ++ [x]) = seenF l s pre ++ seeK (cutR l x.1) (l.getD x.1.1 default).1 s := by unfold seenF; simp
/-- What a round reads: the run's key, the number. -/
def SeeS (b o sb : Nat) (K : Txt) (s : Int) (W : World) : Prop := W.cell? ⟨b, o, none⟩ = some (.string ⟨K.toArray⟩) ∧ W.cell? ⟨sb, 0, none⟩ = some (.int .i64 s)
theorem seenF_all {l : List MEnt} (h : sortB l = true) (s : Int) {len : Nat} {ys : List (RunP len)} (hy : ys.map (·.1) = runsM l) : seenF l s ys = seeM l s := by
  rw [← see_runs h s, ← hy, List.flatMap_map]; rfl

attribute [local go_sem] Oper.semAt_some
set_option maxHeartbeats 8000000 in
theorem pSee (J : BkJ) (w : World) (ad : Option Addr) (len cap : Nat) (l : List MEnt) (s : Int) (h : EntsW w ad len l) (hlm : len ≤ 1000) (hc : len ≤ cap) (hs : FitN s) :
    Calls Try.prog 17 #[.slice ad len cap, .int .i64 s] w (OutE w (seeR l s)) := by
  have hlen := h.1
  obtain ⟨i0, hi0, hz0, hz1, hz2⟩ := info_parts ent_info
  obtain ⟨w1, hw1⟩ : ∃ w1, Hid (w1 = w.alloc (.cells #[.int .i64 s] 3)) := ⟨_, rfl⟩
  have hk1 : Kept (fun _ => False) w w1 := by rw [hw1.out]; exact (Kept.refl _ w).alloc _
  have HS := Lib.hid (J.sorted w1 ad len cap l (ents_keptK h hk1) (by omega))
  obtain ⟨sb, hsb⟩ : ∃ sb, sb = w.heap.size := ⟨_, rfl⟩
  have HB1 : Hid (Holds w1 sb [.int .i64 s] 3) := by show Holds _ _ _ _; rw [hw1.out, hsb]; exact Holds.new w [.int .i64 s] _
  by_cases hso : sortB l = true
  case neg =>
    have hsf := Bool.eq_false_iff.2 hso
    rw [hsf] at HS
    have HV : Hid (seeR l s = ([], false)) := by show seeR l s = _; unfold seeR; rw [if_neg hso]
    rw [HV.out]
    clear h HB1
    go_enter Try.func17, Try.ntmps17
    go_wp2_with (go_at_call 19; rw [← hw1.out]; refine HS.out.mono ?_; clear HS; rintro e w2 ⟨rfl, hk2⟩)
    have HK : Hid (Kept (fun _ => False) w w2) := hk1.trans hk2 (fun _ f => f.elim)
    clear hk1 hk2 hw1
    go_wp2
    go_ret2
    exact ⟨none, 0, rfl, EntsW.empty, HK.out, Nat.le_refl _⟩
  rw [hso] at HS
  have HV : Hid (seeR l s = (seeM l s, true)) := by show seeR l s = _; unfold seeR; rw [if_pos hso]
  rw [HV.out]
  have HW1 := Lib.hid hw1.out
  have HBk := Lib.hid (fun W : World => pByKey ad len cap W)
  refine (callsIn_wide (n := 8)).1 ?_
  refine callsIn_of_wp_marks Try.func17 rfl trivial ?_ rfl
  simp only [Try.ntmps17, List.size_toArray, List.length_cons, List.length_nil, Nat.reduceAdd, Nat.reduceSub, Array.replicate_succ, Array.replicate_zero, List.push_toArray, List.append_toArray, List.nil_append, List.cons_append]
  gi_wp2_with (refine ⟨trivial, ?_⟩; gi_at_call 19; rw [← hw1.out]; refine (callsIn_wide.2 HS.out).mono ?_; clear HS; rintro e w2 ⟨rfl, hk2⟩)
  obtain ⟨ob, hob⟩ : ∃ ob, ob = w2.heap.size := ⟨_, rfl⟩
  obtain ⟨w3, hw3⟩ : ∃ w3, w3 = w2.alloc (.cells #[.slice none 0 0] 24) := ⟨_, rfl⟩
  refine ⟨trivial, ?_⟩
  rw [← hw3]
  refine (callsIn_wide.2 (HBk.out _)).mono ?_
  rintro e w4 ⟨rfl, hw4⟩
  rw [← hob, ← hsb]
  obtain ⟨Bn, hBn⟩ : ∃ Bn, Bn = w3.heap.size := ⟨_, rfl⟩
  rw [← hBn]
  have hk3 : Kept (fun _ => False) w2 w3 := by rw [hw3]; exact (Kept.refl _ w2).alloc _
  have hk4 : Kept (fun _ => False) w3 w4 := by rw [hw4]; exact (Kept.refl _ w3).alloc _
  have hk24 : Kept (fun _ => False) w2 w4 := hk3.trans hk4 (fun _ f => f.elim)
  have hk14 : Kept (fun _ => False) w1 w4 := hk2.trans hk24 (fun _ f => f.elim)
  have hkw : Kept (fun _ => False) w w4 := hk1.trans hk14 (fun _ f => f.elim)
  have hS4 : Holds w4 sb [.int .i64 s] 3 := HB1.out.of_block (hk14.block sb HB1.out.lt (fun f => f))
  have hO3 : Holds w3 ob [.slice none 0 0] 24 := by rw [hw3, hob]; exact Holds.new w2 [.slice none 0 0] _
  have hO4 : Holds w4 ob [.slice none 0 0] 24 := hO3.of_block (hk4.block ob hO3.lt (fun f => f))
  have hN4 : Holds w4 Bn [.slice ad len cap] 24 := by rw [hw4, hBn]; exact Holds.new w3 [.slice ad len cap] _
  have hsz1 : w1.heap.size = w.heap.size + 1 := by rw [hw1.out]; exact size_al _ _
  have hlt1 : sb < ob := by have := hk2.size; omega
  have hlt2 : ob < Bn := by have := hO3.lt; omega
  have hbw : ∀ a, ad = some a → l ≠ [] → a.block < w.heap.size := fun a ha h0 => ents_lt h h0 a ha
  have hF : KeyF w4 Bn ad len cap l := ⟨hN4.cell 0 _ rfl, ents_keptK h hkw⟩
  have hT : ∀ k, KeyT Bn ad l k → k < w4.heap.size ∧ k ≠ ob := fun k hk => ⟨hF.lt hN4.lt k hk, by
    rcases hk with rfl | ⟨h0, a, ha, rfl⟩
    · omega
    · have := hbw a ha h0; omega⟩
  have H4 := Lib.hid (And.intro hS4 (And.intro hO4 (And.intro hF (And.intro hT (And.intro hkw (And.intro hlt1 hlt2))))))
  have hob4 := hO4.lt
  have HFN := Lib.hid hs
  have HSO := Lib.hid hso
  clear hk1 hk2 hw1 hw3 hw4 hob hBn hk3 hk4 hk24 hk14 hkw hS4 hO3 hO4 hN4 hsz1 hlt1 hlt2 hF hT hs hso HB1 HW1 hbw
  gi_wp2_with (fail)
  refine wpIn_rangeFunc_ownF rfl (by decide) (gf := 42) (lb := #[.pointer (some ⟨Bn, 0, none⟩)]) rfl trivial (enters_of Try.func42 (by kernel_rfl) rfl)
    (key_stops 7 (by decide) Bn ad len cap l (sort_up HSO.out) hc (by omega) w4 H4.out.2.2.1 (by have := H4.out.2.2.2.1 Bn (.inl rfl); exact this.1)) KpT.trans (KpT.putObj (fun k hk => (H4.out.2.2.2.1 k hk).1)) (Below.refl _ _) (fun _ => rfl)
    (fun pre W => SeeI w4 ob (seenF l s pre) W) (fun _ _ _ => False) (seeI_own _) (fun _ _ _ _ _ hs _ _ => hs) (SeeI.start H4.out.2.1) ?a1 ?assign ?body ?done ?stop
  case assign =>
    intro y x W K hK
    gi_wp2
    exact hK
  case body =>
    rintro y pre ⟨⟨a, e⟩, hae, hel⟩ W hI hlt
    simp only at hae hel
    have haL : a < l.length := by omega
    obtain ⟨b, off, rfl⟩ : ∃ b off, ad = some ⟨b, off, none⟩ := by
      rcases h.2 with h0 | ⟨b, off, h1, _⟩
      · rw [h0] at haL; simp at haL
      · exact ⟨b, off, h1⟩
    have hE : EntsW W (some ⟨b, off, none⟩) len l := hI.ents H4.out.2.2.1.ents (fun h0 a' ha => by
      have := ents_lt h h0 a' ha
      have := H4.out.2.2.2.2.2
      omega)
    have hRe := run_ents hE hae hel
    have hsn := seenF_snoc l s pre ⟨(a, e), hae, hel⟩
    simp only at hsn
    rw [List.getD_eq_getElem?_getD, List.getElem?_eq_getElem haL, Option.getD_some] at hsn
    have hlenF := seenF_len l s pre
    obtain ⟨b', off', hbe, hbl, x0, _, _, _⟩ := hE.atS a haL
    cases hbe
    obtain ⟨K, hK⟩ : ∃ K : Txt, K = l[a].1 := ⟨_, rfl⟩
    rw [← hK] at x0 hsn
    have hKl : K.length ≤ 80 := by
      have := (sort_iff.1 HSO.out).2 l[a] (List.getElem_mem haL)
      unfold rightM at this
      have := (of_decide_eq_true this).2.1
      rw [hK]; exact this
    have HI0 := hI.box H4.out.1 (by have := H4.out.2.2.2.2.2; omega)
    have s0 := (hI.box H4.out.1 (by have := H4.out.2.2.2.2.2; omega)).cell 0 _ rfl
    have HFi := Lib.hid (fun (W' : World) (hk : Kept (fun _ => False) W W') => J.find W' (some ⟨b, off + a * 4, none⟩) (e - a) (cap - a) (cutR l (a, e)) K s (ents_keptK hRe hk) (by omega) (by have := hKl; omega) HFN.out)
    rw [seeK_get] at hsn
    have hfitG : (getM (cutR l (a, e)) K s).2 = true → FitN (getM (cutR l (a, e)) K s).1.2.1 := fun h2 => by
      unfold getM at h2 ⊢
      cases hf : findM (cutR l (a, e)) K s with
      | none => rw [hf] at h2; cases h2
      | some g => exact ents_fit hRe g (find_key hf).1
    obtain ⟨⟨g, ok⟩, hg⟩ : ∃ r, r = getM (cutR l (a, e)) K s := ⟨_, rfl⟩
    rw [← hg] at HFi hsn hfitG
    simp only at hsn hfitG
    have HSn := Lib.hid hsn
    rw [hsb] at s0
    have HSF : Hid (∀ W', Kept (fun _ => False) W W' → SeeS b (off + a * 4) w.heap.size K s W') := fun W' hk => ⟨(hk.cell (p := ⟨b, off + a * 4, none⟩) hbl (fun f => f)).trans x0, (hk.cell (p := ⟨w.heap.size, 0, none⟩) (by have := HI0.lt; show w.heap.size < _; omega) (fun f => f)).trans s0⟩
    have hea : 0 < e - a := by omega
    have heaI : (0 : Int) < ((e - a : Nat) : Int) := by omega
    have HFG := Lib.hid hfitG
    have HI := Lib.hid hI
    clear hsn hfitG hI hE hRe hg hK hKl HI0 s0 x0
    simp only [runV, Option.map_some, addN]
    gi_wp2_with (fail)
    gi_cut [8, 9] from 17 (fun s8 s9 wx => ∃ eb : Nat, s8 = .pointer (some ⟨eb, 0, none⟩) ∧ s9 = .bool ok ∧ Hid (Kept (fun _ => False) W wx ∧ Holds wx eb (entC g) 34))
    case first =>
      rename_i hJ hK'
      have HKA : Hid (Kept (fun _ => False) W W.drew) := (Kept.refl _ W).drewN 1
      have hS := HSF.out _ HKA.out
      refine region_round_until (SeeS b (off + a * 4) w.heap.size K s) 13 (by kernel_rfl) (by kernel_rfl) ?_
      refine wpAnyU_take (i := 0) (v := (.slice (some ⟨b, off + a * 4, none⟩) (e - a) (cap - a))) (some 18) rfl rfl (by kernel_rfl) (by kernel_rfl) (by kernel_rfl) (by kernel_rfl) (fun _ _ _ h => h) hS (yields_of (by kernel_rfl) (fun w ⟨h0, h1⟩ => by go_simp)) ?_
      refine wpAnyU_take (i := 1) (v := (.slice (some ⟨b, off + a * 4, none⟩) (e - a) (cap - a))) (some 19) rfl rfl (by kernel_rfl) (by kernel_rfl) (by kernel_rfl) (by kernel_rfl) (fun _ _ _ h => h) hS (yields_of (by kernel_rfl) (fun w ⟨h0, h1⟩ => by go_simp)) ?_
      refine wpAnyU_take (i := 2) (v := (.pointer (some ⟨b, off + a * 4, none⟩))) (some 20) rfl rfl (by kernel_rfl) (by kernel_rfl) (by kernel_rfl) (by kernel_rfl) (fun _ _ _ h => h) hS (yields_of (by kernel_rfl) (fun w ⟨h0, h1⟩ => by go_simp)) ?_
      refine wpAnyU_take (i := 3) (v := (.pointer (some ⟨b, off + a * 4, none⟩))) (some 21) rfl rfl (by kernel_rfl) (by kernel_rfl) (by kernel_rfl) (by kernel_rfl) (fun _ _ _ h => h) hS (yields_of (by kernel_rfl) (fun w ⟨h0, h1⟩ => by go_simp)) ?_
      refine wpAnyU_take (i := 4) (v := (.string ⟨K.toArray⟩)) (some 22) rfl rfl (by kernel_rfl) (by kernel_rfl) (by kernel_rfl) (by kernel_rfl) (fun _ _ _ h => h) hS (yields_of (by kernel_rfl) (fun w ⟨h0, h1⟩ => by go_simp)) ?_
      refine wpAnyU_take (i := 5) (v := (.int .i64 s)) (some 23) rfl rfl (by kernel_rfl) (by kernel_rfl) (by kernel_rfl) (by kernel_rfl) (fun _ _ _ h => h) hS (yields_of (by kernel_rfl) (fun w ⟨h0, h1⟩ => by go_simp)) ?_
      refine wpAnyU_two (i := 6) (j := 10) (by kernel_rfl) ?_ ?_
      · refine wpOp_call (f := 20) (args := #[(.slice (some ⟨b, off + a * 4, none⟩) (e - a) (cap - a)), .string ⟨K.toArray⟩, .int .i64 s]) (some 24) rfl rfl (by kernel_rfl) (by kernel_rfl) ?_
        refine (HFi.out _ HKA.out).mono ?_
        rintro r wc ⟨rfl, hkc⟩
        have HKC := Lib.hid (HKA.out.trans hkc (fun _ hf => hf.elim))
        clear hkc
        have hSc := HSF.out _ HKC.out
        refine ⟨_, rfl, fun _ => hSc, ?_⟩
        refine wpAnyU_take (i := 7) (v := (.tuple #[.agg (entC g).toArray, .bool ok])) (some 17) rfl rfl (by kernel_rfl) (by kernel_rfl) (by kernel_rfl) (by kernel_rfl) (fun _ _ _ h => h) hSc (yields_of (by kernel_rfl) (fun w ⟨h0, h1⟩ => by go_simp)) ?_
        refine wpAnyU_take (i := 8) (v := (.agg (entC g).toArray)) (some 25) rfl rfl (by kernel_rfl) (by kernel_rfl) (by kernel_rfl) (by kernel_rfl) (fun _ _ _ h => h) hSc (yields_of (by kernel_rfl) (fun w ⟨h0, h1⟩ => by go_simp)) ?_
        refine wpAnyU_take (i := 9) (v := (.bool ok)) (some 26) rfl rfl (by kernel_rfl) (by kernel_rfl) (by kernel_rfl) (by kernel_rfl) (fun _ _ _ h => h) hSc (yields_of (by kernel_rfl) (fun w ⟨h0, h1⟩ => by go_simp)) ?_
        have HKZ0 := Lib.hid (HKC.out.alloc (.cells (entC zeroM).toArray 34))
        have HNZ0 := Holds.new wc (entC zeroM) 34
        have hSz := HSF.out _ HKZ0.out
        have hebw : Hid (W.heap.size ≤ wc.heap.size) := HKC.out.size
        obtain ⟨eb, heb⟩ : ∃ eb, Hid (eb = wc.heap.size) := ⟨_, rfl⟩
        refine wpAnyU_run (i := 10) (v := .pointer (some ⟨wc.heap.size, 0, none⟩)) (w' := wc.alloc (.cells (entC zeroM).toArray 34)) (some 8) rfl rfl (by kernel_rfl) (by kernel_rfl) (exec_alloc 34 rfl i0 (entC zeroM) hi0 hz0) (fun _ => hSz) ?_
        rw [← heb.out] at HNZ0 hebw ⊢
        generalize wc.alloc (.cells (entC zeroM).toArray 34) = wz at HNZ0 HKZ0 hSz ⊢
        have HKZ : Hid (Kept (fun _ => False) W (wz.setCells eb 0 (entC g))) := Kept.setCellsN hebw.out (entC g) 0 wz HKZ0.out
        have HNZ := HNZ0.setCells (entC g) 0 wz (entC zeroM) (Nat.le_refl _)
        rw [lay_all (entC zeroM) (entC g) rfl] at HNZ
        have hSw := HSF.out _ HKZ.out
        refine wpAnyU_skip (i := 11) (w' := wz.setCells eb 0 (entC g)) none rfl rfl (by kernel_rfl) (by kernel_rfl) (exec_store_mid 34 (.tmp 8) (.tmp 25) rfl eb 0 (entC g).toArray (by kernel_rfl) (by kernel_rfl) (HNZ0.there 0 _ (Nat.le_refl _)) (by rw [ent_size]; rfl) (all_oneCell_toArray (entC_one _))) (fun _ => hSw) ?_
        generalize wz.setCells eb 0 (entC g) = wv at HKZ HNZ hSw ⊢
        refine wpAnyU_take (i := 12) (v := (.bool ok)) (some 9) rfl rfl (by kernel_rfl) (by kernel_rfl) (by kernel_rfl) (by kernel_rfl) (fun _ _ _ h => h) hSw (yields_of (by kernel_rfl) (fun w ⟨h0, h1⟩ => by go_simp)) ?_
        refine wpAnyU_done (by kernel_rfl) ?_ _
        simp only [put_none, put_lit, List.set_cons_succ, List.set_cons_zero]
        have HNZ := Lib.hid HNZ
        clear hSw hSz HNZ0 HKZ0 hebw heb
        refine hK' _ _ (Met.intro (hJ _ _ ?_))
        repeat apply Exists.intro
        refine ⟨⟨eb, rfl, rfl, HKZ.out, HNZ.out⟩, rfl⟩
      · have HKZ1 := Lib.hid (HKA.out.alloc (.cells (entC zeroM).toArray 34))
        have HNZ1 := Holds.new W.drew (entC zeroM) 34
        have hSz := HSF.out _ HKZ1.out
        have hebw : Hid (W.heap.size ≤ W.drew.heap.size) := HKA.out.size
        obtain ⟨eb, heb⟩ : ∃ eb, Hid (eb = W.drew.heap.size) := ⟨_, rfl⟩
        refine wpOp_run (v := .pointer (some ⟨W.drew.heap.size, 0, none⟩)) (w' := W.drew.alloc (.cells (entC zeroM).toArray 34)) (some 8) rfl rfl (by kernel_rfl) (exec_alloc 34 rfl i0 (entC zeroM) hi0 hz0) ⟨fun _ => hSz, ?_⟩
        rw [← heb.out] at HNZ1 hebw ⊢
        generalize W.drew.alloc (.cells (entC zeroM).toArray 34) = wy at HNZ1 HKZ1 hSz ⊢
        refine wpAnyU_call (i := 6) (f := 20) (args := #[(.slice (some ⟨b, off + a * 4, none⟩) (e - a) (cap - a)), .string ⟨K.toArray⟩, .int .i64 s]) (some 24) rfl rfl (by kernel_rfl) (by kernel_rfl) (by kernel_rfl) ?_
        refine (HFi.out _ HKZ1.out).mono ?_
        rintro r wz ⟨rfl, hkc⟩
        have HKZ0 := Lib.hid (HKZ1.out.trans hkc (fun _ hf => hf.elim))
        have HNZ0 := HNZ1.of_block (hkc.block eb HNZ1.lt (fun hf => hf))
        clear hkc HNZ1 HKZ1 hSz
        have hSz := HSF.out _ HKZ0.out
        refine ⟨_, rfl, fun _ => hSz, ?_⟩
        refine wpAnyU_take (i := 7) (v := (.tuple #[.agg (entC g).toArray, .bool ok])) (some 17) rfl rfl (by kernel_rfl) (by kernel_rfl) (by kernel_rfl) (by kernel_rfl) (fun _ _ _ h => h) hSz (yields_of (by kernel_rfl) (fun w ⟨h0, h1⟩ => by go_simp)) ?_
        refine wpAnyU_take (i := 8) (v := (.agg (entC g).toArray)) (some 25) rfl rfl (by kernel_rfl) (by kernel_rfl) (by kernel_rfl) (by kernel_rfl) (fun _ _ _ h => h) hSz (yields_of (by kernel_rfl) (fun w ⟨h0, h1⟩ => by go_simp)) ?_
        refine wpAnyU_take (i := 9) (v := (.bool ok)) (some 26) rfl rfl (by kernel_rfl) (by kernel_rfl) (by kernel_rfl) (by kernel_rfl) (fun _ _ _ h => h) hSz (yields_of (by kernel_rfl) (fun w ⟨h0, h1⟩ => by go_simp)) ?_
        have HKZ : Hid (Kept (fun _ => False) W (wz.setCells eb 0 (entC g))) := Kept.setCellsN hebw.out (entC g) 0 wz HKZ0.out
        have HNZ := HNZ0.setCells (entC g) 0 wz (entC zeroM) (Nat.le_refl _)
        rw [lay_all (entC zeroM) (entC g) rfl] at HNZ
        have hSw := HSF.out _ HKZ.out
        refine wpAnyU_skip (i := 11) (w' := wz.setCells eb 0 (entC g)) none rfl rfl (by kernel_rfl) (by kernel_rfl) (exec_store_mid 34 (.tmp 8) (.tmp 25) rfl eb 0 (entC g).toArray (by kernel_rfl) (by kernel_rfl) (HNZ0.there 0 _ (Nat.le_refl _)) (by rw [ent_size]; rfl) (all_oneCell_toArray (entC_one _))) (fun _ => hSw) ?_
        generalize wz.setCells eb 0 (entC g) = wv at HKZ HNZ hSw ⊢
        refine wpAnyU_take (i := 12) (v := (.bool ok)) (some 9) rfl rfl (by kernel_rfl) (by kernel_rfl) (by kernel_rfl) (by kernel_rfl) (fun _ _ _ h => h) hSw (yields_of (by kernel_rfl) (fun w ⟨h0, h1⟩ => by go_simp)) ?_
        refine wpAnyU_done (by kernel_rfl) ?_ _
        simp only [put_none, put_lit, List.set_cons_succ, List.set_cons_zero]
        have HNZ := Lib.hid HNZ
        clear hSw hSz HNZ0 HKZ0 hebw heb
        refine hK' _ _ (Met.intro (hJ _ _ ?_))
        repeat apply Exists.intro
        refine ⟨⟨eb, rfl, rfl, HKZ.out, HNZ.out⟩, rfl⟩
    case rest =>
      rename World => wx
      obtain ⟨eb, rfl, rfl, hW⟩ := hcut
      obtain ⟨gk, gs, d, gv⟩ := g
      have e0 := hW.out.2.cell 0 _ rfl
      have e1 := hW.out.2.cell 1 _ rfl
      have e2 := hW.out.2.cell 2 _ rfl
      have e3 := hW.out.2.cell 3 _ rfl
      simp only at e0 e1 e2 e3
      have hno : ¬(ok = true ∧ d = false) → KeepsOthers W wx ∧ KpT (KeyT Bn (some ⟨b, off, none⟩) l) W wx ∧ SeeI w4 ob (seenF l s (pre ++ [⟨(a, e), hae, hel⟩])) wx := fun hn => by
        have hS2 := HI.out.kept hW.out.1
        refine ⟨keeps_kept hW.out.1 (fun _ f => f.elim), HI.out.kp hS2 H4.out.2.2.2.1, ?_⟩
        rw [HSn.out, if_neg hn, List.append_nil]
        exact hS2
      have HNo := Lib.hid hno
      clear hno
      cases ok with
      | false =>
        have HN := Lib.hid (HNo.out (by simp))
        clear HNo HSF HFi
        gi_wp2
        exact HN.out
      | true =>
        cases d with
        | true =>
          have HN := Lib.hid (HNo.out (by simp))
          clear HNo HSF HFi
          gi_wp2
          exact HN.out
        | false =>
          obtain ⟨hk0, ao, n, co, hO, hH⟩ := HI.out
          have hOx : OutG w4.heap.size wx ao n co (seenF l s pre) := hO.of_block (fun g' hg' => hW.out.1.block g' (by obtain ⟨_, cur, hc'⟩ := hO.cells g' hg'; exact (Array.getElem?_eq_some_iff.1 hc').1) (fun f => f))
          have hHx := hH.of_block (hW.out.1.block ob hH.lt (fun f => f))
          have hkx := hk0.trans hW.out.1 (fun _ f => f.elim)
          have hy : Kept (fun _ => False) wx (wx.alloc (.cells #[.string ⟨gk.toArray⟩, .int .i64 gs, .bool false, .string ⟨gv.toArray⟩] 34)) := (Kept.refl _ wx).alloc _
          have hOy := hOx.of_block (fun g' hg' => hy.block g' (by obtain ⟨_, cur, hc'⟩ := hOx.cells g' hg'; exact (Array.getElem?_eq_some_iff.1 hc').1) (fun f => f))
          obtain ⟨ad2, co2, wB, hrun, hO2, hgr, _⟩ := app_row (cx := 1) hOy (one_ents wx (gk, gs, false, gv) (HFG.out rfl)) (by have := hkx.size; have := hy.size; omega) (by have := hO.len; omega) 24
          have hHB : Holds wB ob [.slice ao n co] 24 := (hHx.alloc _).of_block (hgr.block ob (hHx.alloc _).lt (fun e => by have := (hO.cells ob e.symm).1; omega))
          have hfin := SeeI.put hob4 hkx hOx hHx hy hO2 hgr
          have HN : Hid (KeepsOthers W (wB.setCell ⟨ob, 0, none⟩ (.slice ad2 (n + 1) co2)) ∧ KpT (KeyT Bn (some ⟨b, off, none⟩) l) W (wB.setCell ⟨ob, 0, none⟩ (.slice ad2 (n + 1) co2)) ∧ SeeI w4 ob (seenF l s (pre ++ [⟨(a, e), hae, hel⟩])) (wB.setCell ⟨ob, 0, none⟩ (.slice ad2 (n + 1) co2))) := by
            refine ⟨(keeps_kept hW.out.1 (fun _ f => f.elim)).trans hfin.2, HI.out.kp hfin.1 H4.out.2.2.2.1, ?_⟩
            rw [HSn.out, if_pos ⟨rfl, rfl⟩]
            exact hfin.1
          have o0 := hHx.cell 0 _ rfl
          have b0 := hHB.cell 0 _ rfl
          have b1 := hHB.free 0
          clear HNo HSF HFi hfin hgr hO2 hOy hy hkx hHx hOx hO hH hk0 hHB
          gi_wp2_with (gi_at_builtin; refine wpListIn_run_append rfl (.tmp 33) (.tmp 35) 24 24 rfl rfl rfl rfl hrun ?_)
          exact HN.out
  case done =>
    rintro D ys W hD hys hI hK
    have HR : Hid (SeeI w4 ob (seeM l s) W) := by rw [← seenF_all HSO.out s hys]; exact hI
    clear hI
    obtain ⟨_, ao, n, co, hO, hH⟩ := HR.out
    have o0 := hH.cell 0 _ rfl
    gi_wp2
    refine ⟨by simp, .inl ⟨_, _, rfl, run_takeDeferred hK, ?_⟩⟩
    obtain rfl : (seeM l s).length = n := hO.len
    have hgD := grownBy_putObj' W D (.deferred none)
    have hO2 : OutG w4.heap.size (W.putObj D (.deferred none)) ao (seeM l s).length co (seeM l s) := hO.of_block fun g hg => World.putObj_heap_other (fun e => by
      obtain ⟨_, cur, hc⟩ := hO.cells g hg
      rw [e, hK] at hc; cases hc)
    have hkk : Kept (fun _ => False) w (W.putObj D (.deferred none)) := kept_grown (H4.out.2.2.2.2.1.trans HR.out.1 (fun k hk => .inr (by have := H4.out.2.2.2.2.2; omega))) hgD (fun b e => by cases e; exact .inr (by have := H4.out.2.2.2.2.1.size; omega))
    refine ⟨.tuple #[.slice ao (seeM l s).length co, .nilIface], ?_, ⟨ao, co, rfl, hO2.ents, hkk, hO2.few.1⟩⟩
    simp [results, Try.f17, go_sem]
  case stop =>
    rintro D c pre W _ _ h _
    exact h.elim

end Go.Proofs.Ythkejfhcdodggaa
