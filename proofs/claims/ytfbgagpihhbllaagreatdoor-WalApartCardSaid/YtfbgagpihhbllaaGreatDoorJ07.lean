/- SlfC, Asc, SpcO. -/
import Derived.Test.YtfbgagpihhbllaaGreatDoorJ05
import Derived.Test.YtfbgagpihhbllaaGreatDoorJ06
import Derived.BigQuiet
import Derived.SliceStrings

/- slices.Clone and slices.SortFunc at runs (package space), in words of layer 5: the shelf's contracts laid at this program, and its closure walked. -/
namespace Go.Proofs.YtfbgagpihhbllaaGreatDoor
open Go.RowKit Go.Proofs Go.Proofs.Pk
set_option maxRecDepth 10000

/-- Where a slice lies, if anywhere: in a block of cells. -/
def Flat (ad : Option Addr) : Prop := ad = none ∨ ∃ b off, ad = some ⟨b, off, none⟩

theorem flatV_length : ∀ l : List (Int × Int), (l.flatMap runV).length = l.length * 2
  | [] => rfl
  | x :: l => by have := flatV_length l; simp only [List.flatMap_cons, List.length_append, List.length_cons, runV, List.length_nil] at *; omega
theorem flatV_at : ∀ (l : List (Int × Int)) (j : Nat) (u : Value), (l.flatMap runV)[j]? = some u → ∃ (i t : Nat) (hi : i < l.length), j = i * 2 + t ∧ t < 2 ∧ (runV l[i])[t]? = some u
  | [], j, u, h => by simp at h
  | x :: l, 0, u, h => ⟨0, 0, by simp, rfl, by omega, by simpa [runV] using h⟩
  | x :: l, 1, u, h => ⟨0, 1, by simp, rfl, by omega, by simpa [runV] using h⟩
  | x :: l, j + 2, u, h => by
    obtain ⟨i, t, hi, h1, h2, h3⟩ := flatV_at l j u (by simpa [runV] using h)
    exact ⟨i + 1, t, by simpa using hi, by omega, h2, by simpa using h3⟩
theorem flatV_get : ∀ (l : List (Int × Int)) (i t : Nat) (hi : i < l.length), t < 2 → (l.flatMap runV)[i * 2 + t]? = (runV l[i])[t]?
  | x :: l, 0, 0, _, _ => rfl
  | x :: l, 0, 1, _, _ => rfl
  | x :: l, i + 1, t, hi, ht => by
    rw [show (i + 1) * 2 + t = (i * 2 + t) + 2 from by omega]
    have := flatV_get l i t (by simpa using hi) ht
    simpa [runV] using this

theorem cloneRuns (ad : Option Addr) (len cap : Nat) (l : List (Int × Int)) (w : World) (h : Runs w ad len l) (hp : Flat ad) (hlen : len ≤ 200) :
    Calls Tryz.prog 92 #[.slice ad len cap] w fun e w' => ∃ ad' cap', e = .returned (.slice ad' len cap') ∧ Flat ad' ∧ w'.ownsRow w.heap.size 132 2 (.slice ad' len cap') len (l.flatMap runV) ∧ Below w.heap.size w w' := by
  obtain ⟨iR, hiR, hzR, hsR, hbR⟩ := info_parts run_info
  have hl := h.1
  rcases hp with rfl | ⟨b, off, rfl⟩
  · have hnil : l = [] := by
      rcases h.2 with h0 | ⟨b, off, h0, _⟩
      · exact h0
      · cases h0
    subst hnil
    obtain rfl : len = 0 := by simpa using hl.symm
    refine Calls.mono (AnyE.slices_Clone_nil Tryz.cloneRun 0 cap w) ?_
    rintro e w' ⟨rfl, rfl⟩
    exact ⟨none, 0, rfl, .inl rfl, World.ownsRow_nil _ _ _ _, Below.refl _ _⟩
  · refine Calls.mono (AnyE.slices_Clone Tryz.cloneRun iR _ 2 16 hiR hzR hsR hbR rfl (by omega) Tryz.sizeOf132 b off len cap (l.flatMap runV) w (by rw [flatV_length, hl]) (by unfold maxLen; omega) (by omega) ?_ ?_) ?_
    · intro j u hj
      obtain ⟨i, t, hi, rfl, ht, hu⟩ := flatV_at l j u hj
      rcases h.2 with h0 | ⟨b', off', h0, _, h3⟩
      · rw [h0] at hi; simp at hi
      · cases h0
        have := (h3 i hi).1 t u hu
        rwa [Nat.add_assoc] at this
    · intro u hu
      obtain ⟨x, _, hx⟩ := List.mem_flatMap.1 hu
      simp only [runV, List.mem_cons, List.not_mem_nil, or_false] at hx
      rcases hx with rfl | rfl <;> rfl
    · rintro e w' ⟨v, rfl, ho, _, hb⟩
      rcases ho.2 with ⟨rfl, h0⟩ | ⟨g, c, cur, rfl, h1⟩
      · exact ⟨none, 0, by rw [h0], .inl rfl, by rw [h0] at ho ⊢; exact ho, hb⟩
      · exact ⟨_, c, rfl, .inr ⟨_, _, rfl⟩, ho, hb⟩

/-- How the closure orders two runs. -/
def cmpR (x y : Int × Int) : Int := Lib.compareInt x.1 y.1
theorem cmpR_lt (x y : Int × Int) : ltOf cmpR x y = decide (x.1 < y.1) := by
  unfold ltOf cmpR Lib.compareInt
  by_cases h1 : x.1 < y.1
  · simp [h1]
  · by_cases h2 : y.1 < x.1 <;> simp [h1, h2]
theorem cmpR_swo : Go.Sort.SWO (ltOf cmpR) where
  irrefl x := by rw [cmpR_lt]; simp
  trans x y z h1 h2 := by rw [cmpR_lt] at *; simp at *; omega
  ntrans x y z h1 h2 := by rw [cmpR_lt] at *; simp at *; omega

set_option maxHeartbeats 1000000 in
theorem closureP (x y : Int × Int) (W : World) : Calls Tryz.prog 94 #[.agg #[.int .i64 x.1, .int .i64 x.2], .agg #[.int .i64 y.1, .int .i64 y.2]] W fun e w' => e = .returned (.int .i64 (cmpR x y)) ∧ ∃ q os', w' = Go.Sort.grow (W.drewN q) os' := by
  have hcon : ∀ W', Calls Tryz.prog 95 #[.int .i64 x.1, .int .i64 y.1] W' fun e w' => e = .returned (.int .i64 (cmpR x y)) ∧ w' = W' := fun W' => AnyG.cmp_Compare_int Tryz.cmpInt x.1 y.1 W'
  generalize cmpR x y = r at hcon ⊢
  go_enter Tryz.func94, Tryz.ntmps94
  go_wp2_with (go_at_call 95; refine (hcon _).mono ?_; rintro e w' ⟨rfl, rfl⟩)
  go_ret
  exact ⟨rfl, 0, _, by rw [Go.Sort.alloc_eq_grow, Go.Sort.alloc_eq_grow, Go.Sort.grow_grow]; rfl⟩

theorem sortRuns (B : Nat) (ad : Option Addr) (len cap : Nat) (l : List (Int × Int)) (w : World) (h : w.ownsRow B 132 2 (.slice ad len cap) len (l.flatMap runV)) (hp : Flat ad) (hl : l.length = len) (hf : ∀ r ∈ l, Fit r.1 ∧ Fit r.2) (hlen : len ≤ 200) :
    Calls Tryz.prog 93 #[.slice ad len cap, .func (.func 94) #[] #[]] w fun e w' =>
      e = .returned (.tuple #[]) ∧ ∃ L : List (Int × Int), L.Perm l ∧ L.Pairwise (fun r s => r.1 ≤ s.1) ∧ Runs w' ad len L ∧ Below B w w' := by
  by_cases h0 : len = 0
  · subst h0
    have hnil : l = [] := List.length_eq_zero_iff.1 hl
    subst hnil
    refine Calls.mono (AnyF.slices_SortFunc_none Tryz.sortRun ad cap _ w) ?_
    rintro e w' ⟨rfl, rfl⟩
    exact ⟨rfl, [], List.Perm.refl _, List.Pairwise.nil, ⟨rfl, .inl rfl⟩, Below.refl _ _⟩
  · obtain ⟨g, c, hv, hgB, _⟩ := h.form (by omega)
    injection hv with hv1 hv2 hv3
    subst hv1
    subst hv3
    have hgl : g < w.heap.size := by
      rcases h.2 with ⟨h1, _⟩ | ⟨g', c', cur, h1, _, h2, _⟩
      · cases h1
      · cases h1; exact (Array.getElem?_eq_some_iff.1 h2).1
    have hsz : l.toArray.size = len := by simpa using hl
    have hH : Go.Sort.HoldsK runV 2 w g 0 l.toArray := by
      intro j hj
      rw [Go.Sort.size_flatK, hsz] at hj
      refine ⟨?_, by have := h.frozenAt (0 + j); simpa using this⟩
      rw [Nat.zero_add, h.cellAt _ (by omega)]
      have hi : j / 2 < l.length := by omega
      have h1 := flatV_get l (j / 2) (j % 2) hi (by omega)
      rw [show j / 2 * 2 + j % 2 = j from by omega] at h1
      rw [h1, id, Go.Sort.get_flatK _ _ _ _ (by rw [hsz]; exact hj)]
      have h2 : l.toArray[j / 2]! = l[j / 2] := by rw [getElem!_pos _ _ (by rw [hsz]; omega)]; simp
      rw [h2]
      have h3 : j % 2 = 0 ∨ j % 2 = 1 := by omega
      rcases h3 with h3 | h3 <;> rw [h3] <;> rfl
    have hcmp : CmpLays Tryz.prog 94 #[] runV 2 cmpR g 0 l.toArray.size w := fun _ _ _ _ x y => closureP x y _
    have eg : ∀ args w, (callFunc 94 args).run Tryz.prog w = .ok (.enter 94 args) w := enters_of Tryz.func94 (by kernel_rfl) rfl
    have HC := AnyQ.slices_SortFunc Tryz.sortRun 2 Tryz.isAgg132 Tryz.sizeOf132 runV (fun _ => rfl) (fun x v hv => by simp [runV] at hv; rcases hv with rfl | rfl <;> rfl) cmpR cmpR_swo 94 #[] g 0 cap l.toArray w eg hcmp hH hgl (by omega)
    rw [hsz] at HC
    refine Calls.mono HC ?_
    rintro e w' ⟨rfl, d, n, os, ⟨hd1, _, hd3⟩, hs, rfl⟩
    rw [hsz] at hd1
    have hdl : d.toList.length = len := by simpa using hd1
    have hperm : d.toList.Perm l := by
      have e1 : d.extract 0 len = d := by rw [← hd1]; exact Array.extract_size
      have e2 : l.toArray.extract 0 len = l.toArray := by rw [← hsz]; exact Array.extract_size
      rw [e1, e2] at hd3
      simpa using hd3
    have hHK := holdsK_sortWorldK_c runV 2 w g 0 l.toArray d n os hH hgl (by rw [hsz]; exact hd1)
    refine ⟨rfl, d.toList, hperm, ?_, ⟨hdl, .inr ⟨g, 0, rfl, ?_, fun i hi => ⟨fun t u hu => ?_, hf _ (hperm.mem_iff.1 (List.getElem_mem hi))⟩⟩⟩, ?_⟩
    · rw [List.pairwise_iff_getElem]
      intro i j hi hj hij
      have := hs i j (Nat.zero_le _) hij (by omega)
      rw [cmpR_lt, getElem!_pos d i (by omega), getElem!_pos d j (by omega)] at this
      simp at this
      simpa using this
    · exact Nat.lt_of_lt_of_le hgl (size_sortWorldK_c runV 2 w g 0 n d os)
    · have ht : t < 2 := by
        rcases Nat.lt_or_ge t 2 with h | h
        · exact h
        · rw [List.getElem?_eq_none (by simpa [runV] using h)] at hu; cases hu
      have h1 := (hHK.cell (i := i) (c := t) (by omega) ht).1
      rw [h1, getElem!_pos d i (by omega)]
      have h3 : t = 0 ∨ t = 1 := by omega
      rcases h3 with rfl | rfl
      · simpa [runV] using hu
      · simpa [runV] using hu
    · refine ⟨rfl, rfl, rfl, size_sortWorldK_c runV 2 w g 0 n d os, fun k hk => ?_⟩
      show (w.heap.modify g _ ++ os)[k]? = _
      rw [Array.getElem?_append_left (by simp; omega), Array.getElem?_modify, if_neg (by omega)]

end Go.Proofs.YtfbgagpihhbllaaGreatDoor

/- Package space: ascending, Right. -/
namespace Go.Proofs.YtfbgagpihhbllaaGreatDoor
open Go.RowKit Go.Proofs Go.Proofs.Pk
set_option maxRecDepth 10000
attribute [local simp] mk_get wrap64_u8 mk_extract ByteArray.mk_append_mk get_1k

/-- What ascending answers: the runs sorted, if they are right. -/
def AS (w : World) (N : Nat) (l : List (Int × Int)) (o : Option (List Bool)) (e : Ending) (w' : World) : Prop :=
  Below w.heap.size w w' ∧ match o with
    | none => e = .returned (.tuple #[.slice none 0 0, .bool false])
    | some t => ∃ (L : List (Nat × Nat)) (ad : Option Addr) (cap : Nat), e = .returned (.tuple #[.slice ad L.length cap, .bool true]) ∧ Sorted' 0 N L ∧ t = rowOf 0 N L ∧ L.Perm (l.map natR) ∧ Runs w' ad L.length (L.map intR) ∧ L.length ≤ cap

theorem own_cap {w : World} {B : Nat} {e : TypeId} {ad : Option Addr} {n cap : Nat} {xs : List Value} (h : w.ownsRow B e 2 (.slice ad n cap) n xs) : n ≤ cap := by
  rcases h.2 with ⟨h0, h1⟩ | ⟨g, c, cur, h0, _, _, h1, _⟩
  · omega
  · cases h0; exact h1
theorem Runs.fit {w : World} {ad : Option Addr} {len : Nat} {l : List (Int × Int)} (h : Runs w ad len l) : ∀ r ∈ l, Fit r.1 ∧ Fit r.2 := by
  intro r hr
  rcases h.2 with h0 | ⟨b, off, _, _, h3⟩
  · rw [h0] at hr; simp at hr
  · obtain ⟨i, hi, rfl⟩ := List.getElem_of_mem hr
    exact (h3 i hi).2

set_option maxHeartbeats 1000000 in
theorem ascP (total : Int) (ad : Option Addr) (len cap : Nat) (l : List (Int × Int)) (w : World) (ht : Fit total) (h : Runs w ad len l) (hp : Flat ad) :
    Calls Tryz.prog 81 #[.int .i64 total, .slice ad len cap] w (AS w total.toNat l (takenO total l)) := by
  by_cases hbad : total < 0 ∨ 4000 < total ∨ 200 < l.length
  · have HT : Hid (takenO total l = none) := by show takenO total l = none; unfold takenO; rw [if_pos hbad]
    have hl := h.1
    unfold AS
    rw [HT.out]
    clear h ht hp
    by_cases h0 : total < 0
    · have e0 : decide (total < 0) = true := by simpa using h0
      clear hbad hl
      go_enter Tryz.func81, Tryz.ntmps81
      go_wp2
      all_goals
        go_ret2
        exact ⟨Below.refl _ _, rfl⟩
    · have e0 : decide (total < 0) = false := by simpa using h0
      by_cases h1 : 4000 < total
      · have e1 : decide (4000 < total) = true := by simpa using h1
        clear hbad hl h0
        go_enter Tryz.func81, Tryz.ntmps81
        go_wp2
        all_goals
          go_ret2
          exact ⟨Below.refl _ _, rfl⟩
      · have e1 : decide (4000 < total) = false := by simpa using h1
        have h2 : 200 < (len : Int) := by omega
        clear hbad hl h0 h1
        go_enter Tryz.func81, Tryz.ntmps81
        go_wp2
        all_goals
          go_ret2
          exact ⟨Below.refl _ _, rfl⟩
  · obtain ⟨iR, hiR, hzR, hsR, hbR⟩ := info_parts run_info
    have hl := h.1
    obtain ⟨N, rfl⟩ := Int.eq_ofNat_of_zero_le (show 0 ≤ total by omega)
    have hN : (N : Int) ≤ 4000 := by omega
    have hlen : (len : Int) ≤ 200 := by omega
    have HT : Hid (∀ L : List (Int × Int), L.Perm l → L.Pairwise (fun r s => r.1 ≤ s.1) → takenO (N : Int) l = if okR N 0 L then some (rowOf 0 N (L.map natR)) else none) := by
      intro L h1 h2
      unfold takenO
      rw [if_neg hbad, Int.toNat_natCast]
      exact taken_sorted l L N h1 h2
    have e0 : decide ((N : Int) < 0) = false := by rw [decide_eq_false_iff_not]; omega
    have HC := Lib.hid (cloneRuns ad len cap l w h hp (by omega))
    have HL : Hid (l.length = len) := hl
    have HF := Lib.hid h.fit
    clear h hp hbad ht hl
    go_enter Tryz.func81, Tryz.ntmps81
    go_wp2_with fail
    refine HC.out.mono ?_
    rintro e w1 ⟨ad1, cap1, rfl, hp1, ho1, hb1⟩
    have HCAP := Lib.hid (own_cap ho1)
    have HS := Lib.hid (sortRuns w.heap.size ad1 len cap1 l w1 ho1 hp1 HL.out HF.out (by omega))
    have HB1 := Lib.hid hb1
    clear HC ho1 hp1 hb1
    go_wp2_with fail
    refine HS.out.mono ?_
    rintro e w2 ⟨rfl, L, hP, hW, hR, hb2⟩
    have HB := Lib.hid (HB1.out.trans hb2)
    have HTA := Lib.hid (HT.out L hP hW)
    have HR := Lib.hid hR
    have HP := Lib.hid hP
    have hLl : L.length = len := by rw [HP.out.length_eq, HL.out]
    have HLl := Lib.hid hLl
    clear HS hb2 HT HB1 hR hW hP hLl HL HF
    go_wp2
    obtain ⟨wv, hwv⟩ : ∃ wv, wv = w2 := ⟨_, rfl⟩
    have HB2 : Hid (Below w.heap.size w wv) := by rw [hwv]; exact HB
    have HR2 : Hid (Runs wv ad1 len L) := by rw [hwv]; exact HR
    have H0 : Hid (okR N 0 L = okR N ((0 : Nat) : Int) (L.drop 0)) := rfl
    rw [← hwv]
    clear hwv HB HR
    clear w2
    go_loopw [7, 27] (fun p i wr => ∃ (j q : Nat), j ≤ len ∧ q ≤ N ∧ i = .int .i64 j ∧ p = .int .i64 q ∧ Hid (okR N 0 L = okR N q (L.drop j)) ∧ Hid (Runs wr ad1 len L) ∧ Hid (Below w.heap.size w wr)) (fun _ i _ => len - (intOf i).toNat)
    case atStart => exact ⟨0, 0, Nat.zero_le _, Nat.zero_le _, rfl, rfl, H0, HR2, HB2⟩
    case round =>
      obtain ⟨j, q, hj, hq, rfl, rfl, hok, hr, hb⟩ := hrel
      by_cases hlt : (j : Int) < len
      · have hjl : j < len := by omega
        obtain ⟨b, off, rfl, hbl, hrow, hf1, hf2⟩ := runs_at hr.out j hjl
        obtain ⟨r, hrr⟩ : ∃ r, r = L[j]'(by have := HLl.out; omega) := ⟨_, rfl⟩
        rw [← hrr] at hrow hf1 hf2
        have hdrop : L.drop j = r :: L.drop (j + 1) := by rw [List.drop_eq_getElem_cons (by have := HLl.out; omega), ← hrr]
        have hok2 := hok.out
        rw [hdrop] at hok2
        obtain ⟨a, n⟩ := r
        simp only at hf1 hf2
        have hj0 : (0 : Int) ≤ (j : Int) := Int.natCast_nonneg _
        obtain ⟨g, hg⟩ : ∃ g, Hid (g = wr.heap.size) := ⟨_, rfl⟩
        have hw2 : IntKind.i64.wrap ((j : Int) + 1) = ((j + 1 : Nat) : Int) := by rw [IntWalk.i64_in _ (by omega)]; omega
        have HOK := Lib.hid hok2
        clear hrr hdrop hok hok2
        go_upto_region 8 with (fail)
        refine wp_region_lit ?_
        iterate 1
          refine wpList_plain rfl fun K hK => ?_
          go_simp
          refine hK _ _ ?_
          clear hK K
        refine wpList_load_mid rfl 132 (.tmp 29) rfl b (off + j * 2) rfl (runV (a, n)) _ hrow Tryz.underlying132 rfl (by kernel_rfl) ?_
        refine wpList_alloc_row rfl 132 rfl iR [.int .i64 0, .int .i64 0] hiR hzR ?_
        rw [← hg.out]
        have HN := Holds.new wr [.int .i64 0, .int .i64 0] 132
        have hR1 := Runs.below hr.out ((Below.refl _ _).alloc (Nat.le_refl _) (.cells [.int .i64 0, .int .i64 0].toArray 132))
        have hb1 := hb.out.alloc hb.out.size (.cells [.int .i64 0, .int .i64 0].toArray 132)
        have hk0 : Kept (fun _ => False) wr (wr.alloc (.cells [.int .i64 0, .int .i64 0].toArray 132)) := (Kept.refl _ _).alloc _
        rw [← hg.out] at HN
        generalize wr.alloc (.cells [.int .i64 0, .int .i64 0].toArray 132) = wx at HN hR1 hb1 hk0 ⊢
        refine wpList_store_mid rfl 132 (.tmp 9) (.tmp 30) rfl g 0 (runV (a, n)).toArray rfl rfl (HN.there 0 _ (by simp [runV])) (by kernel_rfl) (by simp [runV, Value.oneCell']) ?_
        have HN2 := Holds.setCells (runV (a, n)) 0 wx _ HN (by simp [runV])
        rw [lay_all _ _ (by simp [runV])] at HN2
        have hk1 : Kept (fun _ => False) wr (wx.setCells g 0 (runV (a, n))) := Kept.setCellsN (Nat.le_of_eq hg.out.symm) _ _ _ hk0
        refine wpList_nil ?_
        change Exit.then _ _ _ _ (wx.setCells g 0 (runV (a, n)))
        generalize wx.setCells g 0 (runV (a, n)) = wy at HN2 hk1 ⊢
        have hbR := hk1.below (Nat.le_refl _) (fun _ hf => hf.elim)
        have HRY := Lib.hid (Runs.below hr.out hbR)
        have HBY := Lib.hid (hb.out.trans (hbR.mono hb.out.size))
        have d0 := HN2.cell 0 (.int .i64 a) rfl
        have d1 := HN2.cell 1 (.int .i64 n) rfl
        clear HN hR1 hb1 hk0 hk1 HN2 hrow hbR hr hb
        by_cases hg1 : n < 1 ∨ a < q ∨ (N : Int) - a < n
        · have HF : Hid (takenO (N : Int) l = none) := by
            show takenO (N : Int) l = none
            rw [HTA.out, HOK.out, okR]
            have : (!(decide ((a, n).2 < 1) || decide ((a, n).1 < (q : Int)) || decide ((N : Int) - (a, n).1 < (a, n).2))) = false := by
              rcases hg1 with h | h | h <;> simp [h]
            rw [this, Bool.false_and]; rfl
          clear HTA HOK HRY HP
          by_cases k1 : n < 1
          · clear hg1 hf1 hf2
            go_wp2
            all_goals
              go_ret2
              unfold AS
              rw [HF.out]
              exact ⟨HBY.out, rfl⟩
          · by_cases k2 : a < q
            · clear hg1 hf1 hf2
              go_wp2
              all_goals
                go_ret2
                unfold AS
                rw [HF.out]
                exact ⟨HBY.out, rfl⟩
            · have k4 : (N : Int) - a < n := by omega
              have hw5 : IntKind.i64.wrap ((N : Int) - a) = (N : Int) - a := IntWalk.i64_in _ (by have := hf1.2; omega)
              clear hg1 hf1 hf2
              go_wp2
              all_goals
                go_ret2
                unfold AS
                rw [HF.out]
                exact ⟨HBY.out, rfl⟩
        · obtain ⟨A, rfl⟩ := Int.eq_ofNat_of_zero_le (show 0 ≤ a by omega)
          obtain ⟨M, rfl⟩ := Int.eq_ofNat_of_zero_le (show 0 ≤ n by omega)
          have k1 : ¬(M : Int) < 1 := by omega
          have k2 : ¬(A : Int) < (q : Int) := by omega
          have k3 : ¬(N : Int) - (A : Int) < (M : Int) := by omega
          have hw5 : IntKind.i64.wrap ((N : Int) - (A : Int)) = (N : Int) - (A : Int) := IntWalk.i64_in _ (by omega)
          have hw6 : IntKind.i64.wrap ((A : Int) + (M : Int)) = ((A + M : Nat) : Int) := by rw [IntWalk.i64_in _ (by omega)]; omega
          have hAM : A + M ≤ N := by omega
          have HOK2 : Hid (okR N 0 L = okR N ((A + M : Nat) : Int) (L.drop (j + 1))) := by
            show _ = _
            rw [HOK.out, okR]
            have : (!(decide (((A : Int), (M : Int)).2 < 1) || decide (((A : Int), (M : Int)).1 < (q : Int)) || decide ((N : Int) - ((A : Int), (M : Int)).1 < ((A : Int), (M : Int)).2))) = true := by
              simp [k1, k2, k3]
            rw [this, Bool.true_and]; congr 1
          clear hg1 hf1 hf2 HOK
          go_wp2
          go_roundw
          case rel => exact ⟨j + 1, A + M, by omega, hAM, by go_num, by go_num, HOK2, HRY, HBY⟩
          case measure => simp [intOf]; omega
      · obtain rfl : j = len := by omega
        have hd : L.drop j = [] := List.drop_eq_nil_of_le (by have := HLl.out; omega)
        have HF : Hid (takenO (N : Int) l = some (rowOf 0 N (L.map natR)) ∧ Sorted' 0 N (L.map natR) ∧ Runs wr ad1 (L.map natR).length ((L.map natR).map intR)) := by
          have e : okR N 0 L = true := by rw [hok.out, hd]; rfl
          have e2 := (okR_iff L 0 N (Nat.zero_le _)).1 e
          refine ⟨by rw [HTA.out, if_pos e], e2.2, ?_⟩
          rw [map_intR e2.1, List.length_map, HLl.out]
          exact hr.out
        have HLn : Hid ((L.map natR).length = j) := by show _ = _; rw [List.length_map]; exact HLl.out
        clear hok HTA hr
        go_wp2
        go_ret2
        obtain ⟨f1, f2, f3⟩ := HF.out
        unfold AS
        rw [f1]
        refine ⟨hb.out, L.map natR, ad1, cap1, ?_, f2, rfl, HP.out.map natR, f3, ?_⟩
        · rw [HLn.out]
          rfl
        · rw [HLn.out]; exact HCAP.out

/-- Right: are the runs right? -/
theorem rightP (total : Int) (ad : Option Addr) (len cap : Nat) (l : List (Int × Int)) (w : World) (ht : Fit total) (h : Runs w ad len l) (hp : Flat ad) :
    Calls Tryz.prog 90 #[.int .i64 total, .slice ad len cap] w fun e w' => e = .returned (.bool (takenO total l).isSome) ∧ Below w.heap.size w w' := by
  have HA := Lib.hid (ascP total ad len cap l w ht h hp)
  clear h hp ht
  generalize takenO total l = o at *
  go_enter Tryz.func90, Tryz.ntmps90
  go_wp2_with fail
  refine HA.out.mono ?_
  rintro e w2 ⟨hb, h2⟩
  clear HA
  cases o with
  | none =>
    simp only at h2
    subst h2
    go_wp2
    go_ret
    exact ⟨rfl, hb⟩
  | some t =>
    obtain ⟨L, ad2, cap2, rfl, _⟩ := h2
    go_wp2
    go_ret
    exact ⟨rfl, hb⟩

end Go.Proofs.YtfbgagpihhbllaaGreatDoor

/- Owned slices of runs, and what of the model's steps is asked besides (layer 5 and those above it). -/
namespace Go.Proofs.YtfbgagpihhbllaaGreatDoor
open Go.RowKit Go.Proofs Go.Proofs.Pk
set_option maxRecDepth 10000

theorem own_runs {w : World} {B : Nat} {v : Value} {n : Nat} {L : List (Int × Int)} (h : w.ownsRow B 132 2 v n (L.flatMap runV)) (hf : ∀ r ∈ L, Fit r.1 ∧ Fit r.2) :
    L.length = n ∧ ∃ ad cap, v = .slice ad n cap ∧ Flat ad ∧ n ≤ cap ∧ Runs w ad n L := by
  have hl : L.length = n := by have := h.1; rw [flatV_length] at this; omega
  refine ⟨hl, ?_⟩
  rcases h.2 with ⟨rfl, h0⟩ | ⟨g, cap, cur, rfl, _, h2, h3, _⟩
  · refine ⟨none, 0, by rw [h0], .inl rfl, by omega, hl, .inl (List.length_eq_zero_iff.1 (by omega))⟩
  · refine ⟨_, cap, rfl, .inr ⟨_, _, rfl⟩, h3, hl, .inr ⟨g, 0, rfl, (Array.getElem?_eq_some_iff.1 h2).1, fun i hi => ⟨fun t u hu => ?_, hf _ (List.getElem_mem hi)⟩⟩⟩
    have ht : t < 2 := by
      rcases Nat.lt_or_ge t 2 with h | h
      · exact h
      · rw [List.getElem?_eq_none (by simpa [runV] using h)] at hu; cases hu
    rw [show 0 + i * 2 + t = i * 2 + t from by omega, h.cellAt _ (by omega), flatV_get L i t hi ht]
    exact hu

theorem own_below {w w' : World} {B : Nat} {e : TypeId} {size : Nat} {v : Value} {n : Nat} {xs : List Value} (h : w.ownsRow B e size v n xs) (hb : Below w.heap.size w w') : w'.ownsRow B e size v n xs := by
  refine owns_of_block h fun g hg => hb.block g ?_
  rcases h.2 with ⟨rfl, _⟩ | ⟨g', cap, cur, rfl, _, h2, _⟩
  · cases hg
  · have := Option.some.inj hg
    simp only at this
    subst this
    exact (Array.getElem?_eq_some_iff.1 h2).1

theorem own_nil {w : World} {B : Nat} {e : TypeId} {ad : Option Addr} {n m cap size : Nat} {xs : List Value} (h : w.ownsRow B e size (.slice ad n cap) m xs) (h0 : ad = none) : cap = 0 := by
  subst h0
  rcases h.2 with ⟨h1, _⟩ | ⟨g, c, cur, h1, _⟩
  · injection h1
  · cases h1
theorem own_base {w : World} {B : Nat} {e : TypeId} {ad : Option Addr} {n m cap size : Nat} {xs : List Value} (h : w.ownsRow B e size (.slice ad n cap) m xs) (b off : Nat) (h0 : ad = some ⟨b, off, none⟩) : B ≤ b := by
  subst h0
  rcases h.2 with ⟨h1, _⟩ | ⟨g, c, cur, h1, h2, _⟩
  · cases h1
  · cases h1; exact h2
theorem Runs.kept {w w' : World} {ad : Option Addr} {len : Nat} {l : List (Int × Int)} {X : Nat → Prop} (h : Runs w ad len l) (hk : Kept X w w') (hx : ∀ b off, ad = some ⟨b, off, none⟩ → ¬X b) : Runs w' ad len l := by
  refine ⟨h.1, ?_⟩
  rcases h.2 with h0 | ⟨b, off, h1, h2, h3⟩
  · exact .inl h0
  · exact .inr ⟨b, off, h1, Nat.lt_of_lt_of_le h2 hk.size, fun i hi => ⟨fun j v hv => by rw [hk.cell (p := ⟨b, off + i * 2 + j, none⟩) h2 (hx b off h1)]; exact (h3 i hi).1 j v hv, (h3 i hi).2⟩⟩
/-- An operation whose guard is met. -/
theorem wpList_unguard {P : Program} {ops : Array Oper} {rest : List Oper} {o : Oper} {a : Act} {w : World} {Q : Exit → Act → World → Prop} (hw : Region.wanted o (yielded ops a.tmps) = true)
    (h : wpList P ops Q ({ o with guard := none } :: rest) a w) : wpList P ops Q (o :: rest) a w := by
  unfold wpList at h ⊢
  rw [if_pos hw]
  rw [if_pos (by simp [Region.wanted])] at h
  exact h

/-- append of runs that a slice holds to runs of one's own. -/
theorem wpList_append_runs (w : World) {ops : Array Oper} {rest : List Oper} {o : Oper} {a : Act} {Q : Exit → Act → World → Prop} (hgd : o.guard = none) (s x : Operand)
    (ho : o.op = .call { callee := .builtin .append, args := #[s, x], argTypes := #[106, 106] })
    (base : Nat) (v : Value) (n : Nat) (L l : List (Int × Int)) (hs : a.eval s = v) (hown : w.ownsRow base 132 2 v n (L.flatMap runV))
    (ad : Option Addr) (m c : Nat) (hx : a.eval x = .slice ad m c) (hr : Runs w ad m l) (hf : Flat ad) (hc : ad = none → c = 0)
    (h63 : n + m ≤ maxLen) (hbytes : (n + m) * 16 ≤ 140737488355328) (hbase : base ≤ w.heap.size)
    (h : ∀ v' w', w'.ownsRow base 132 2 v' (n + m) ((L ++ l).flatMap runV) → w.grownBy w' v.ownBlock → wpList Tryz.prog ops Q rest (a.put o.dst v') w') : wpList Tryz.prog ops Q (o :: rest) a w := by
  obtain ⟨iR, hiR, hzR, hsR, hbR⟩ := info_parts run_info
  have hl := hr.1
  rcases hf with rfl | ⟨b, off, rfl⟩
  · obtain rfl := hc rfl
    have hnil : l = [] := by
      rcases hr.2 with h0 | ⟨b, off, h0, _⟩
      · exact h0
      · cases h0
    subst hnil
    obtain rfl : m = 0 := by simpa using hl.symm
    refine wpList_plain hgd fun K hK => ?_
    have hrun := run_append_owned_none (P := Tryz.prog) w base 106 o.type 132 iR 2 Tryz.underlying106 hiR v n _ hown
    unfold Oper.wp execOp
    simp only [ho, resolve, invoke, builtin, Sem.run_bind, Sem.run_pure, Result.andThen_ok, List.map_toArray, List.map_cons, List.map_nil, hs, hx, hrun]
    exact hK _ _ (h v w (by simpa using hown) ⟨rfl, rfl, rfl, Nat.le_refl _, fun _ _ _ => rfl⟩)
  · refine wpList_append_own w hgd s x 106 ho base 132 iR _ 2 16 Tryz.underlying106 hiR hzR hsR hbR rfl (by omega) v n _ hs hown ⟨b, off, none⟩ m c (l.flatMap runV) hx (by rw [flatV_length, hl]) ?_ ?_ h63 hbytes hbase ?_
    · intro j u hj
      obtain ⟨i, t, hi, rfl, ht, hu⟩ := flatV_at l j u hj
      rcases hr.2 with h0 | ⟨b', off', h0, _, h3⟩
      · rw [h0] at hi; simp at hi
      · cases h0
        have := (h3 i hi).1 t u hu
        rw [Nat.add_assoc] at this
        rw [Addr.add_mid]; exact this
    · intro u hu
      obtain ⟨x, _, hx⟩ := List.mem_flatMap.1 hu
      simp only [runV, List.mem_cons, List.not_mem_nil, or_false] at hx
      rcases hx with rfl | rfl <;> rfl
    · intro v' w' h2 h3 _
      refine h v' w' ?_ h3
      rw [List.flatMap_append]; exact h2

theorem takenO_some {T : Int} {l : List (Int × Int)} {t : List Bool} (h : takenO T l = some t) : ∃ N : Nat, T = (N : Int) ∧ N ≤ 4000 ∧ l.length ≤ 200 ∧ takeAll N l (List.replicate N false) = some t ∧ t.length = N := by
  unfold takenO at h
  split at h
  · cases h
  · rename_i hb
    obtain ⟨N, rfl⟩ := Int.eq_ofNat_of_zero_le (show 0 ≤ T by omega)
    rw [Int.toNat_natCast] at h
    exact ⟨N, rfl, by omega, by omega, h, (takeAll_some _ _ _ _ (by simp) h).2.2.2.1⟩
theorem takenO_nat {N : Nat} {l : List (Int × Int)} (h1 : N ≤ 4000) (h2 : l.length ≤ 200) : takenO (N : Int) l = takeAll N l (List.replicate N false) := by
  unfold takenO
  rw [if_neg (by omega), Int.toNat_natCast]

end Go.Proofs.YtfbgagpihhbllaaGreatDoor
