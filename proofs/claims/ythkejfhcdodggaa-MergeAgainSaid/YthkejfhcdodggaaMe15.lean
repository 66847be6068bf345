/- The program of layer 15: Merge. -/
import Derived.Test.YthkejfhcdodggaaJ16
import Derived.Test.YthkejfhcdodggaaJ17
import Derived.Test.YthkejfhcdodggaaJ05
import Derived.Test.YthkejfhcdodggaaJ09
import Derived.Sort.CutIn
namespace Go.Proofs.Ythkejfhcdodggaa
open Go.RowKit Go.Shelf Go.Proofs Go.Proofs.Pk
set_option maxRecDepth 10000
attribute [local simp] mk_get wrap64_u8 mk_extract ByteArray.mk_append_mk

/-- The marks that the loops over the function leave. -/
def marksM (Ds : List Nat) : List Deferred := Ds.map fun D => { target := .collected D, args := #[] }
theorem leave_marksM {n : Nat} {P : Program} {fn : Func} {tmps : Array Value} {R : Ending → World → Prop} (Inv : World → Prop) (B : Nat) (hInv : ∀ (W : World) (D : Nat), Inv W → W.heap[D]? = some (.deferred (some [])) → B ≤ D → Inv (W.putObj D (.deferred none))) (hR : ∀ W, Inv W → LeavesIn Fence.wide n P fn tmps R [] .returning W) :
    ∀ (Ds : List Nat) (W : World), Inv W → Ds.Nodup → (∀ D ∈ Ds, B ≤ D ∧ W.heap[D]? = some (.deferred (some []))) → LeavesInM Fence.wide n P fn tmps R (marksM Ds) .returning W
  | [], W, hk, _, _ => hR W hk
  | D :: Ds, W, hk, hn, hD => by
    obtain ⟨h1, h2⟩ := hD D (by simp)
    rw [List.nodup_cons] at hn
    refine ⟨by simp, .inl ⟨D, _, rfl, run_takeDeferred h2, ?_⟩⟩
    refine leave_marksM Inv B hInv hR Ds _ (hInv W D hk h2 h1) hn.2 (fun E hE => ⟨(hD E (by simp [hE])).1, ?_⟩)
    exact (World.putObj_heap_other (fun e => hn.1 (by first | (rw [e]; exact hE) | (rw [← e]; exact hE)))).trans (hD E (by simp [hE])).2

/-- What holds between two rounds: the lists, fewer and fewer, merge to the same; the marks' blocks. -/
structure RndI (w : World) (ls : List (List MEnt)) (ad : Option Addr) (n cap : Nat) (LS : List (List MEnt)) (Ds : List Nat) (W : World) : Prop where
  kept : Kept (fun _ => False) w W
  lists : LsE W ad n LS
  small : n ≤ 16
  sorted : LS.all sortB = true
  same : mergeG LS = mergeG ls
  total : LS.flatten.length ≤ 16000
  nodup : Ds.Nodup
  marks : ∀ D ∈ Ds, w.heap.size ≤ D ∧ W.heap[D]? = some (.deferred (some []))

attribute [local go_sem] Oper.semAt_some
set_option maxHeartbeats 8000000 in
theorem pMerge (J : BkJ) (w : World) (ad : Option Addr) (len cap : Nat) (ls : List (List MEnt)) (h : LsE w ad len ls) (hlm : len ≤ 16) (hls : ∀ l ∈ ls, l.length ≤ 1000) :
    Calls Try.prog 12 #[.slice ad len cap] w (NewE w (mergeM ls)) := by
  have hlen := h.1
  have HCt := Lib.hid (pContains J w ad len cap ls h (by omega) (fun l hl => by have := hls l hl; omega))
  obtain ⟨i1, hi1, hl0, hl1, hl2⟩ := info_parts lst_info
  by_cases hso : ls.all sortB = true
  case neg =>
    have hsf := Bool.eq_false_iff.2 hso
    rw [hsf] at HCt
    have HV : Hid (mergeM ls = ([], false)) := by show mergeM ls = _; unfold mergeM; rw [if_neg hso]
    rw [HV.out]
    clear h
    go_enter Try.func12, Try.ntmps12
    go_wp2_with fail
    refine HCt.out.mono ?_
    clear HCt
    rintro e w2 ⟨rfl, hk2⟩
    have HK := Lib.hid hk2
    clear hk2
    go_wp2
    go_ret2
    exact ⟨none, 0, rfl, World.ownsRow_nil _ _ _ _, fun _ h => (by cases h), HK.out⟩
  rw [hso] at HCt
  have HV : Hid (mergeM ls = (mergeG ls, true)) := by show mergeM ls = _; unfold mergeM; rw [if_pos hso]
  rw [HV.out]
  have htot : ls.flatten.length ≤ 16000 := by
    have h1 : ∀ (ls : List (List MEnt)), (∀ l ∈ ls, l.length ≤ 1000) → ls.flatten.length ≤ ls.length * 1000 := by
      intro ls
      induction ls with
      | nil => intro _; simp
      | cons a r ih =>
        intro h
        have h2 := ih fun l hl => h l (by simp [hl])
        have h3 := h a (by simp)
        rw [List.flatten_cons, List.length_append, List.length_cons]; omega
    have := h1 ls hls
    omega
  refine (callsIn_wide (n := 8)).1 ?_
  refine callsIn_of_wp_marks Try.func12 rfl trivial ?_ rfl
  simp only [Try.ntmps12, List.size_toArray, List.length_cons, List.length_nil, Nat.reduceAdd, Nat.reduceSub, Array.replicate_succ, Array.replicate_zero, List.push_toArray, List.append_toArray, List.nil_append, List.cons_append]
  gi_wp2_with (refine ⟨trivial, ?_⟩; gi_at_call 23; refine (callsIn_wide.2 HCt.out).mono ?_; clear HCt; rintro e w2 ⟨rfl, hk2⟩)
  have HI : Hid (RndI w ls ad len cap ls [] w2) := ⟨hk2, h.kept hk2, hlm, hso, rfl, htot, List.nodup_nil, fun _ h => (by cases h)⟩
  clear h hk2 htot hls HV
  refine wpIn_loop (fun a W => ∃ (aL : Option Addr) (nL cL : Nat) (LS : List (List MEnt)) (Ds : List Nat) (u4 u10 u11 u12 u13 u14 u23 : Value), Hid (RndI w ls aL nL cL LS Ds W) ∧ a = { tmps := #[.slice aL nL cL, undef, .slice none 0 0, .nilIface, u4, undef, undef, .slice ad len cap, .bool false, undef, u10, u11, u12, u13, u14, undef, undef, undef, undef, undef, undef, undef, undef, u23, undef, undef], defers := marksM Ds }) (fun a _ => lenS (a.tmps.getD 0 undef)) ?start ?round
  case start =>
    refine ⟨ad, len, cap, ls, [], ?_⟩
    repeat apply Exists.intro
    refine ⟨HI, rfl⟩
  case round =>
    rintro a wr ⟨aL, nL, cL, LS, Ds, u4, u10, u11, u12, u13, u14, u23, hI, rfl⟩
    clear HI
    have hLl := hI.out.lists.1
    by_cases hgt : 1 < nL
    case neg =>
      have sn : ¬(1 : Int) < (nL : Int) := by omega
      have hflat : LS.flatten = mergeG ls := (flat_one hI.out.sorted (by omega)).trans hI.out.same
      have HCc := Lib.hid (pConcat wr aL nL cL LS hI.out.lists (by have := hI.out.small; omega) (by have := hI.out.total; omega))
      rw [hflat] at HCc
      have HR := Lib.hid (And.intro hI.out.kept (And.intro hI.out.nodup hI.out.marks))
      clear hI hflat hLl
      gi_wp2_with (refine ⟨trivial, ?_⟩; gi_at_call 27; refine (callsIn_wide.2 HCc.out).mono ?_; clear HCc; rintro e wc ⟨ac, nc, cc, rfl, hO⟩)
      obtain ⟨hk, hnd, hmk⟩ := HR.out
      have hkw : Kept (fun _ => False) w wc := hk.trans hO.2.2.1 (fun _ f => f.elim)
      have hmk2 : ∀ D ∈ Ds, w.heap.size ≤ D ∧ wc.heap[D]? = some (.deferred (some [])) := fun D hD => by
        obtain ⟨h1, h2⟩ := hmk D hD
        exact ⟨h1, (hO.2.2.1.block D (Array.getElem?_eq_some_iff.1 h2).1 (fun f => f)).trans h2⟩
      have hnc : (mergeG ls).length = nc := hO.1
      subst hnc
      refine leave_marksM (fun W => W.ownsRow w.heap.size 34 4 (.slice ac (mergeG ls).length cc) (mergeG ls).length (cellsM (mergeG ls)) ∧ Kept (fun _ => False) w W) w.heap.size ?_ ?_ Ds wc ⟨owns_base hO.2.1 hk.size, hkw⟩ hnd hmk2
      · rintro W D ⟨h1, h2⟩ hD hB
        refine ⟨owns_of_block h1 fun g hg => World.putObj_heap_other (fun e => ?_), kept_grown h2 (grownBy_putObj' W D (.deferred none)) (fun b e => by cases e; exact .inr hB)⟩
        have hG : OutG w.heap.size W ac (mergeG ls).length cc (mergeG ls) := ⟨rfl, h1, hO.2.2.2⟩
        obtain ⟨_, cur, hc⟩ := hG.cells g hg
        rw [e, hD] at hc; cases hc
      · rintro W ⟨h1, h2⟩
        refine ⟨.tuple #[.slice ac (mergeG ls).length cc, .nilIface], ?_, ⟨ac, cc, rfl, h1, hO.2.2.2, h2⟩⟩
        simp [results, Try.f12, go_sem]
    have sn : (1 : Int) < (nL : Int) := by omega
    gi_wp2_with (refine ⟨trivial, ?_⟩; gi_at_call 25; refine (callsIn_wide.2 (pPairs aL nL cL _)).mono ?_; rintro e w4 ⟨rfl, rfl⟩)
    have hk3 : Kept (fun _ => False) wr (wr.alloc (.cells #[.slice none 0 0] 22)) := (Kept.refl _ wr).alloc _
    obtain ⟨fb, hfb⟩ : ∃ fb, fb = wr.heap.size := ⟨_, rfl⟩
    have hO3 : Holds (wr.alloc (.cells #[.slice none 0 0] 22)) fb [.slice none 0 0] 22 := by rw [hfb]; exact Holds.new wr [.slice none 0 0] _
    have hsz3 : (wr.alloc (.cells #[.slice none 0 0] 22)).heap.size = fb + 1 := by rw [size_al, hfb]
    obtain ⟨w3, hw3⟩ : ∃ w3, w3 = wr.alloc (.cells #[.slice none 0 0] 22) := ⟨_, rfl⟩
    rw [← hw3, ← hfb]
    rw [← hw3] at hk3 hO3 hsz3
    have hk4 : Kept (fun _ => False) w3 (w3.alloc (.cells #[.slice aL nL cL] 22)) := (Kept.refl _ w3).alloc _
    have hN4 : Holds (w3.alloc (.cells #[.slice aL nL cL] 22)) (fb + 1) [.slice aL nL cL] 22 := by rw [← hsz3]; exact Holds.new w3 [.slice aL nL cL] _
    have hO4 := hO3.of_block (hk4.block fb hO3.lt (fun f => f))
    obtain ⟨w4, hw4⟩ : ∃ w4, w4 = w3.alloc (.cells #[.slice aL nL cL] 22) := ⟨_, rfl⟩
    rw [← hw4] at hk4 hN4 hO4 ⊢
    obtain ⟨Bn, hBn⟩ : ∃ Bn, Bn = fb + 1 := ⟨_, rfl⟩
    rw [← hBn] at hN4 ⊢
    have hkr4 : Kept (fun _ => False) wr w4 := hk3.trans hk4 (fun _ f => f.elim)
    obtain ⟨bL, oL, haL, hbL, hcl⟩ : ∃ bL oL, aL = some ⟨bL, oL, none⟩ ∧ bL < wr.heap.size ∧ ∀ i (hi : i < LS.length), ∃ ai ci, wr.cell? ⟨bL, oL + i, none⟩ = some (.slice ai LS[i].length ci) ∧ EntsW wr ai LS[i].length LS[i] ∧ LS[i].length ≤ ci := by
      rcases hI.out.lists.2 with h0 | ⟨b, off, h1, h2, h3⟩
      · rw [h0] at hLl; simp at hLl; omega
      · exact ⟨b, off, h1, h2, h3⟩
    obtain ⟨hv, hhv⟩ : ∃ hv : Nat → Value, ∀ i, hv i = (wr.cell? ⟨bL, oL + i, none⟩).getD undef := ⟨_, fun _ => rfl⟩
    have hheads : ∀ i (hi : i < LS.length), ∃ ai ci, wr.cell? ⟨bL, oL + i, none⟩ = some (hv i) ∧ hv i = .slice ai LS[i].length ci ∧ LS[i].length ≤ ci ∧ EntsW w4 ai LS[i].length LS[i] ∧ (LS[i] ≠ [] → ∀ a, ai = some a → a.block ≠ fb) := fun i hi => by
      obtain ⟨ai, ci, h1, h2, h3⟩ := hcl i hi
      have h4 : hv i = .slice ai LS[i].length ci := by rw [hhv, h1]; rfl
      exact ⟨ai, ci, by rw [h4]; exact h1, h4, h3, ents_keptK h2 hkr4, fun h0 a ha => by have := ents_lt h2 h0 a ha; omega⟩
    have hF : TwoF w4 Bn aL nL cL hv := ⟨hN4.cell 0 _ rfl, fun _ => ⟨bL, oL, haL, Nat.lt_of_lt_of_le hbL hkr4.size, fun i hi => by
      obtain ⟨ai, ci, h1, _⟩ := hheads i (by omega)
      exact (hkr4.cell (p := ⟨bL, oL + i, none⟩) hbL (fun f => f)).trans h1⟩⟩
    have hT : ∀ k, TwoT Bn aL nL k → k < w4.heap.size ∧ k ≠ fb := fun k hk => ⟨hF.lt hN4.lt k hk, by
      rcases hk with rfl | ⟨_, a, ha, rfl⟩
      · omega
      · rw [haL] at ha; cases ha; show bL ≠ fb; omega⟩
    have H4 := Lib.hid (And.intro hO4 (And.intro hF (And.intro hT (And.intro hkr4 hN4.lt))))
    have HH := Lib.hid hheads
    have hfb4 := hO4.lt
    have hfbr : Hid (fb = wr.heap.size) := hfb
    clear hk3 hO3 hsz3 hw3 hk4 hN4 hO4 hw4 hBn hkr4 hcl hhv hheads hF hT hfb hbL haL
    refine wpIn_rangeFunc_ownF rfl (by decide) (gf := 38) (lb := #[.pointer (some ⟨Bn, 0, none⟩)]) rfl trivial (enters_of Try.func38 (by kernel_rfl) rfl)
      (two_stops 7 (by decide) Bn aL nL cL hv (by have := hI.out.small; omega) w4 H4.out.2.1 H4.out.2.2.2.2) KpT.trans (KpT.putObj (fun k hk => (H4.out.2.2.1 k hk).1)) (Below.refl _ _) (fun _ => rfl)
      (fun pre W => MrgI w4 fb (pairF LS pre) W) (fun _ _ _ => False) (mrgI_own _) (fun _ _ _ _ _ hs _ _ => hs) (MrgI.start H4.out.1) ?a1 ?assign ?body ?done ?stop
    case assign =>
      intro y x W K hK
      gi_wp2
      exact hK
    case stop =>
      rintro D c pre W _ _ h _
      exact h.elim
    case done =>
      rintro D ys W hD hys hIW hK
      rw [pairF_all hLl hys] at hIW
      obtain ⟨hk0, ao, n, co, hO, hH⟩ := hIW
      have hls := hO.lsE
      have hnl : n = (nL + 1) / 2 := by rw [← hO.len, pair_len, hLl]
      have hkr := H4.out.2.2.2.1
      have hsz := hkr.size
      have hfbe := hfbr.out
      have hEb : ∀ E, E < wr.heap.size → W.heap[E]? = wr.heap[E]? := fun E hE => (hk0.block E (by omega) (by show E ≠ fb; omega)).trans (hkr.block E hE (fun f => f))
      have hDs : ∀ E ∈ Ds, E < wr.heap.size := fun E hE => (Array.getElem?_eq_some_iff.1 (hI.out.marks E hE).2).1
      have HN : Hid (RndI w ls ao n co (pairM LS) (D :: Ds) W) := by
        refine ⟨(hI.out.kept.trans hkr (fun _ f => f.elim)).trans hk0 (fun k hk => .inr (by have h1 : k = fb := hk; have := hI.out.kept.size; omega)), hls.1, by have := hI.out.small; omega, pair_sort LS hI.out.sorted, (pair_merge hI.out.sorted).trans hI.out.same, Nat.le_trans (pair_flat_len LS hI.out.sorted) hI.out.total, List.nodup_cons.2 ⟨fun hE => by have := hDs D hE; omega, hI.out.nodup⟩, ?_⟩
        intro E hE
        rcases List.mem_cons.1 hE with rfl | hE
        · exact ⟨by have := hI.out.kept.size; omega, hK⟩
        · obtain ⟨h1, h2⟩ := hI.out.marks E hE
          exact ⟨h1, (hEb E (hDs E hE)).trans h2⟩
      have f0 := hH.cell 0 _ rfl
      have hlt : n < nL := by omega
      clear hk0 hO hH hls hnl hkr hsz hfbe hEb hDs hK hI
      gi_wp2_with (fail)
      refine ⟨⟨ao, n, co, pairM LS, D :: Ds, ?_⟩, ?_⟩
      · repeat apply Exists.intro
        exact ⟨HN, rfl⟩
      · show lenS (.slice ao n co) < lenS (.slice aL nL cL)
        exact hlt
    case body =>
      rintro y pre ⟨k, hk⟩ W hIW hlt
      have hkL : 2 * k < LS.length := by omega
      obtain ⟨a1, c1, _, hv1, hc1, hE1, hb1⟩ := HH.out (2 * k) hkL
      have hA := hIW.ents hE1 hb1
      have hg1 : LS.getD (2 * k) [] = LS[2 * k] := by rw [List.getD_eq_getElem?_getD, List.getElem?_eq_getElem hkL, Option.getD_some]
      have hel : ∀ l ∈ LS, l.length ≤ 16000 := fun l hl => by
        have h1 := hI.out.total
        have h2 := (List.sublist_flatten_of_mem hl).length_le
        omega
      have hn1 := hel _ (List.getElem_mem hkL)
      obtain ⟨a2, n2, c2, B2, hv2, hB, hg2, hn2⟩ : ∃ (a2 : Option Addr) (n2 c2 : Nat) (B2 : List MEnt), twoB hv nL k = .slice a2 n2 c2 ∧ EntsW W a2 n2 B2 ∧ LS.getD (2 * k + 1) [] = B2 ∧ n2 ≤ 16000 := by
        by_cases h2 : 2 * k + 1 < nL
        · have h2L : 2 * k + 1 < LS.length := by omega
          obtain ⟨a2, c2, _, hv2, _, hE2, hb2⟩ := HH.out (2 * k + 1) h2L
          exact ⟨a2, _, c2, _, by unfold twoB; rw [if_pos h2, hv2], hIW.ents hE2 hb2, by rw [List.getD_eq_getElem?_getD, List.getElem?_eq_getElem h2L, Option.getD_some], hel _ (List.getElem_mem h2L)⟩
        · exact ⟨none, 0, 0, [], by unfold twoB; rw [if_neg h2], EntsW.empty, by rw [List.getD_eq_getElem?_getD, List.getElem?_eq_none (by omega)]; rfl, by omega⟩
      obtain ⟨A1, hA1⟩ : ∃ A1, A1 = LS[2 * k] := ⟨_, rfl⟩
      rw [← hA1] at hv1 hc1 hA hg1 hn1
      obtain ⟨n1, hn1d⟩ : ∃ n1, n1 = A1.length := ⟨_, rfl⟩
      rw [← hn1d] at hv1 hc1 hA hn1
      have hPF : pairF LS (pre ++ [(⟨k, hk⟩ : TwoP nL)]) = pairF LS pre ++ [uniM A1 B2] := by
        unfold pairF
        rw [List.map_append, List.map_singleton]
        simp only [hg1, hg2]
      have HPF := Lib.hid hPF
      have HU := Lib.hid (fun (W' : World) (hk' : Kept (fun _ => False) W W') => pUnion W' a1 a2 n1 c1 n2 c2 A1 B2 (ents_keptK hA hk') (ents_keptK hB hk') hc1 (by omega))
      obtain ⟨hk0, ao, n, co, hO, hH⟩ := hIW
      have hlp : n = pre.length := by rw [← hO.len]; unfold pairF; rw [List.length_map]
      have HIW : Hid (MrgI w4 fb (pairF LS pre) W) := ⟨hk0, ao, n, co, hO, hH⟩
      have hn16 : n ≤ 16 := by have := hI.out.small; omega
      have f0 := hH.cell 0 _ rfl
      have f1 := hH.free 0
      simp only [hv1, hv2]
      clear hA1 hn1d hg1 hg2 hPF hE1 hb1 hA hB hel hn1 hn2
      gi_wp2_with (fail)
      have hS : (fun w' : World => w'.cell? ⟨fb, 0, none⟩ = some (.slice ao n co) ∧ w'.frozen? ⟨fb, 0, none⟩ = false) W.drew := ⟨f0, f1⟩
      refine region_round_until (fun w' : World => w'.cell? ⟨fb, 0, none⟩ = some (.slice ao n co) ∧ w'.frozen? ⟨fb, 0, none⟩ = false) 6 (by kernel_rfl) (by kernel_rfl) ?_
      refine wpAnyU_take (i := 0) (v := .slice ao n co) (some 17) rfl rfl (by kernel_rfl) (by kernel_rfl) (by kernel_rfl) (by kernel_rfl) (fun _ _ _ h => h) hS (yields_of (by kernel_rfl) (fun w ⟨h0, h1⟩ => by go_simp)) ?_
      refine wpAnyU_take (i := 1) (v := .slice a1 n1 c1) (some 18) rfl rfl (by kernel_rfl) (by kernel_rfl) (by kernel_rfl) (by kernel_rfl) (fun _ _ _ h => h) hS (yields_of (by kernel_rfl) (fun w ⟨h0, h1⟩ => by go_simp)) ?_
      refine wpAnyU_take (i := 2) (v := .slice a2 n2 c2) (some 19) rfl rfl (by kernel_rfl) (by kernel_rfl) (by kernel_rfl) (by kernel_rfl) (fun _ _ _ h => h) hS (yields_of (by kernel_rfl) (fun w ⟨h0, h1⟩ => by go_simp)) ?_
      refine wpAnyU_call (i := 3) (f := 26) (args := #[.slice a1 n1 c1, .slice a2 n2 c2]) (some 20) rfl rfl (by kernel_rfl) (by kernel_rfl) (by kernel_rfl) ?_
      refine (HU.out _ ((Kept.refl _ W).drewN 1)).mono ?_
      rintro r wu ⟨au, nu, cu, rfl, hOu⟩
      have hku : Kept (fun _ => False) W wu := ((Kept.refl _ W).drewN 1).trans hOu.2.2.1 (fun _ f => f.elim)
      have hHu := hH.of_block (hku.block fb hH.lt (fun f => f))
      have hSu : (fun w' : World => w'.cell? ⟨fb, 0, none⟩ = some (.slice ao n co) ∧ w'.frozen? ⟨fb, 0, none⟩ = false) wu := ⟨hHu.cell 0 _ rfl, hHu.free 0⟩
      refine ⟨_, rfl, fun _ => hSu, ?_⟩
      have hbs := run_bsL wu au nu cu
      have hky : Kept (fun _ => False) wu (wu.alloc (.cells #[.slice au nu cu] 24)) := (Kept.refl _ wu).alloc _
      have hHy := hHu.alloc (.cells #[.slice au nu cu] 24)
      refine wpAnyU_run (i := 4) (some 21) rfl rfl (by kernel_rfl) (by kernel_rfl) (exec_buildSlice hbs rfl rfl) (fun _ => ⟨hHy.cell 0 _ rfl, hHy.free 0⟩) ?_
      have hOw := hO.of (w' := wu) (fun g _ hg => hku.block g hg (fun f => f))
      obtain ⟨hlen4, ⟨C, hr, hcc⟩⟩ := hOw
      have hnew : Holds (wu.alloc (.cells #[.slice au nu cu] 24)) wu.heap.size [.slice au nu cu] 24 := Holds.new wu [.slice au nu cu] _
      obtain ⟨v', wB, hrun, hrow, hgr, hpl⟩ := run_append_at (P := Try.prog) (wu.alloc (.cells #[.slice au nu cu] 24)) w4.heap.size 22 22 24 i1 _ 1 24 Try.underlying22 hi1 hl0 hl1 hl2 rfl (by decide) (.slice ao n co) n C (hr.alloc _) ⟨wu.heap.size, 0, none⟩ 1 1 [.slice au nu cu] rfl (fun j u hj => by rw [addN, Nat.zero_add]; exact hnew.cell j u hj) (fun u hu => by simp at hu; subst hu; rfl) (by unfold maxLen; omega) (by omega) (by have := hk0.size; have := hku.size; have := hky.size; omega) (by omega)
      have hOuG : nu ≤ cu := hOu.few
      obtain ⟨ad2, cap2, rfl, hON⟩ := OwnB.grown hlen4 hr hcc hky hOu.ents hOuG (fun _ a ha => by
        have hg := hOu.2.1.lt a.block (by rw [ha]; rfl)
        refine ⟨by have := hk0.size; have : (W.drewN 1).heap.size = W.heap.size := rfl; omega, fun e => ?_⟩
        have h1 := (hO.ge a.block e).2
        obtain ⟨cur, h2⟩ := h1
        have h3 := (Array.getElem?_eq_some_iff.1 h2).1
        have : (W.drewN 1).heap.size = W.heap.size := rfl
        omega) hrow hgr hpl
      have hHB : Holds wB fb [.slice ao n co] 22 := hHy.of_block (hgr.block fb hHy.lt (fun e => by have := (hO.ge fb e.symm).1; omega))
      have q0 := hHB.cell 0 _ rfl
      have q1 := hHB.free 0
      refine wpAnyU_run (i := 5) (some 22) rfl rfl (by kernel_rfl) (by kernel_rfl) (exec_append hrun rfl rfl rfl rfl) (fun _ => ⟨q0, q1⟩) ?_
      refine wpAnyU_skip (i := 6) (w' := wB.setCell ⟨fb, 0, none⟩ (.slice ad2 (n + 1) cap2)) none rfl rfl (by kernel_rfl) (by kernel_rfl) (by go_simp) (fun h => by omega) ?_
      refine wpAnyU_done (by kernel_rfl) ?_ _
      have hMI : MrgI w4 fb (pairF LS pre ++ [uniM A1 B2]) (wB.setCell ⟨fb, 0, none⟩ (.slice ad2 (n + 1) cap2)) := by
        refine ⟨?_, ad2, n + 1, cap2, hON.of (fun g hg _ => Below.heap_setCell _ _ _ _ (by show g ≠ fb; omega)), ?_⟩
        · exact (kept_grown ((hk0.trans hku (fun _ f => f.elim)).trans hky (fun _ f => f.elim)) hgr (fun b hb => .inr (hO.ge b hb).1)).setCell (p := ⟨fb, 0, none⟩) rfl _
        · simpa using hHB.set 0 (.slice ad2 (n + 1) cap2)
      show _ ∧ _ ∧ MrgI w4 fb (pairF LS (pre ++ [(⟨k, hk⟩ : TwoP nL)])) _
      rw [HPF.out]
      refine ⟨((keeps_kept (hku.trans hky (fun _ f => f.elim)) (fun _ f => f.elim)).trans (KeepsOthers.of_grownBy hgr fun j o hj ho => ?_)).trans (KeepsOthers.setCell _ _ _), HIW.out.kp hMI H4.out.2.2.1, hMI⟩
      obtain ⟨_, cur, hc'⟩ := hO.ge j hj
      have hj1 := (Array.getElem?_eq_some_iff.1 hc').1
      rw [hky.block j (Nat.lt_of_lt_of_le hj1 hku.size) (fun f => f), hku.block j hj1 (fun f => f), hc'] at ho
      cases ho; rfl

end Go.Proofs.Ythkejfhcdodggaa
