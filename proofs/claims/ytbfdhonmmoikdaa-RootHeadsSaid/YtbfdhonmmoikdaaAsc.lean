/- Package space: ascending, Right. -/
import Derived.Test.YtbfdhonmmoikdaaSlfC
namespace Go.Proofs.Ytbfdhonmmoikdaa
open Go.RowKit Go.Proofs Go.Proofs.Pk
set_option maxRecDepth 10000
attribute [local simp] mk_get wrap64_u8 mk_extract ByteArray.mk_append_mk get_1k

/-- What ascending answers: the runs sorted, if they are right. -/
def AS (w : World) (N : Nat) (l : List (Int × Int)) (o : Option (List Bool)) (e : Ending) (w' : World) : Prop :=
  Below w.heap.size w w' ∧ match o with
    | none => e = .returned (.tuple #[.slice none 0 0, .bool false])
    | some t => ∃ (L : List (Nat × Nat)) (ad : Option Addr) (cap : Nat), e = .returned (.tuple #[.slice ad L.length cap, .bool true]) ∧ Sorted' 0 N L ∧ t = rowOf 0 N L ∧ L.Perm (l.map natR) ∧ Runs w' ad L.length (L.map intR) ∧ L.length ≤ cap

theorem own_cap {w : World} {B : Nat} {e : TypeId} {ad : Option Addr} {n cap : Nat} {xs : List Value} (h : w.ownsRow B e 2 (.slice ad n cap) n xs) : n ≤ cap := by
  rcases h.2 with ⟨h0, h1⟩ | ⟨g, c, cur, h0, _, _, h1, _⟩
  · omega
  · cases h0; exact h1
theorem Runs.fit {w : World} {ad : Option Addr} {len : Nat} {l : List (Int × Int)} (h : Runs w ad len l) : ∀ r ∈ l, Fit r.1 ∧ Fit r.2 := by
  intro r hr
  rcases h.2 with h0 | ⟨b, off, _, _, h3⟩
  · rw [h0] at hr; simp at hr
  · obtain ⟨i, hi, rfl⟩ := List.getElem_of_mem hr
    exact (h3 i hi).2

set_option maxHeartbeats 1000000 in
theorem ascP (total : Int) (ad : Option Addr) (len cap : Nat) (l : List (Int × Int)) (w : World) (ht : Fit total) (h : Runs w ad len l) (hp : Flat ad) :
    Calls Try.prog 35 #[.int .i64 total, .slice ad len cap] w (AS w total.toNat l (takenO total l)) := by
  by_cases hbad : total < 0 ∨ 4000 < total ∨ 200 < l.length
  · have HT : Hid (takenO total l = none) := by show takenO total l = none; unfold takenO; rw [if_pos hbad]
    have hl := h.1
    unfold AS
    rw [HT.out]
    clear h ht hp
    by_cases h0 : total < 0
    · have e0 : decide (total < 0) = true := by simpa using h0
      clear hbad hl
      go_enter Try.func35, Try.ntmps35
      go_wp2
      all_goals
        go_ret2
        exact ⟨Below.refl _ _, rfl⟩
    · have e0 : decide (total < 0) = false := by simpa using h0
      by_cases h1 : 4000 < total
      · have e1 : decide (4000 < total) = true := by simpa using h1
        clear hbad hl h0
        go_enter Try.func35, Try.ntmps35
        go_wp2
        all_goals
          go_ret2
          exact ⟨Below.refl _ _, rfl⟩
      · have e1 : decide (4000 < total) = false := by simpa using h1
        have h2 : 200 < (len : Int) := by omega
        clear hbad hl h0 h1
        go_enter Try.func35, Try.ntmps35
        go_wp2
        all_goals
          go_ret2
          exact ⟨Below.refl _ _, rfl⟩
  · obtain ⟨iR, hiR, hzR, hsR, hbR⟩ := info_parts run_info
    have hl := h.1
    obtain ⟨N, rfl⟩ := Int.eq_ofNat_of_zero_le (show 0 ≤ total by omega)
    have hN : (N : Int) ≤ 4000 := by omega
    have hlen : (len : Int) ≤ 200 := by omega
    have HT : Hid (∀ L : List (Int × Int), L.Perm l → L.Pairwise (fun r s => r.1 ≤ s.1) → takenO (N : Int) l = if okR N 0 L then some (rowOf 0 N (L.map natR)) else none) := by
      intro L h1 h2
      unfold takenO
      rw [if_neg hbad, Int.toNat_natCast]
      exact taken_sorted l L N h1 h2
    have e0 : decide ((N : Int) < 0) = false := by rw [decide_eq_false_iff_not]; omega
    have HC := Lib.hid (cloneRuns ad len cap l w h hp (by omega))
    have HL : Hid (l.length = len) := hl
    have HF := Lib.hid h.fit
    clear h hp hbad ht hl
    go_enter Try.func35, Try.ntmps35
    go_wp2_with fail
    refine HC.out.mono ?_
    rintro e w1 ⟨ad1, cap1, rfl, hp1, ho1, hb1⟩
    have HCAP := Lib.hid (own_cap ho1)
    have HS := Lib.hid (sortRuns w.heap.size ad1 len cap1 l w1 ho1 hp1 HL.out HF.out (by omega))
    have HB1 := Lib.hid hb1
    clear HC ho1 hp1 hb1
    go_wp2_with fail
    refine HS.out.mono ?_
    rintro e w2 ⟨rfl, L, hP, hW, hR, hb2⟩
    have HB := Lib.hid (HB1.out.trans hb2)
    have HTA := Lib.hid (HT.out L hP hW)
    have HR := Lib.hid hR
    have HP := Lib.hid hP
    have hLl : L.length = len := by rw [HP.out.length_eq, HL.out]
    have HLl := Lib.hid hLl
    clear HS hb2 HT HB1 hR hW hP hLl HL HF
    go_wp2
    obtain ⟨wv, hwv⟩ : ∃ wv, wv = w2 := ⟨_, rfl⟩
    have HB2 : Hid (Below w.heap.size w wv) := by rw [hwv]; exact HB
    have HR2 : Hid (Runs wv ad1 len L) := by rw [hwv]; exact HR
    have H0 : Hid (okR N 0 L = okR N ((0 : Nat) : Int) (L.drop 0)) := rfl
    rw [← hwv]
    clear hwv HB HR
    clear w2
    go_loopw [7, 27] (fun p i wr => ∃ (j q : Nat), j ≤ len ∧ q ≤ N ∧ i = .int .i64 j ∧ p = .int .i64 q ∧ Hid (okR N 0 L = okR N q (L.drop j)) ∧ Hid (Runs wr ad1 len L) ∧ Hid (Below w.heap.size w wr)) (fun _ i _ => len - (intOf i).toNat)
    case atStart => exact ⟨0, 0, Nat.zero_le _, Nat.zero_le _, rfl, rfl, H0, HR2, HB2⟩
    case round =>
      obtain ⟨j, q, hj, hq, rfl, rfl, hok, hr, hb⟩ := hrel
      by_cases hlt : (j : Int) < len
      · have hjl : j < len := by omega
        obtain ⟨b, off, rfl, hbl, hrow, hf1, hf2⟩ := runs_at hr.out j hjl
        obtain ⟨r, hrr⟩ : ∃ r, r = L[j]'(by have := HLl.out; omega) := ⟨_, rfl⟩
        rw [← hrr] at hrow hf1 hf2
        have hdrop : L.drop j = r :: L.drop (j + 1) := by rw [List.drop_eq_getElem_cons (by have := HLl.out; omega), ← hrr]
        have hok2 := hok.out
        rw [hdrop] at hok2
        obtain ⟨a, n⟩ := r
        simp only at hf1 hf2
        have hj0 : (0 : Int) ≤ (j : Int) := Int.natCast_nonneg _
        obtain ⟨g, hg⟩ : ∃ g, Hid (g = wr.heap.size) := ⟨_, rfl⟩
        have hw2 : IntKind.i64.wrap ((j : Int) + 1) = ((j + 1 : Nat) : Int) := by rw [IntWalk.i64_in _ (by omega)]; omega
        have HOK := Lib.hid hok2
        clear hrr hdrop hok hok2
        go_upto_region 8 with (fail)
        refine wp_region_lit ?_
        iterate 1
          refine wpList_plain rfl fun K hK => ?_
          go_simp
          refine hK _ _ ?_
          clear hK K
        refine wpList_load_mid rfl 68 (.tmp 29) rfl b (off + j * 2) rfl (runV (a, n)) _ hrow Try.underlying68 rfl (by kernel_rfl) ?_
        refine wpList_alloc_row rfl 68 rfl iR [.int .i64 0, .int .i64 0] hiR hzR ?_
        rw [← hg.out]
        have HN := Holds.new wr [.int .i64 0, .int .i64 0] 68
        have hR1 := Runs.below hr.out ((Below.refl _ _).alloc (Nat.le_refl _) (.cells [.int .i64 0, .int .i64 0].toArray 68))
        have hb1 := hb.out.alloc hb.out.size (.cells [.int .i64 0, .int .i64 0].toArray 68)
        have hk0 : Kept (fun _ => False) wr (wr.alloc (.cells [.int .i64 0, .int .i64 0].toArray 68)) := (Kept.refl _ _).alloc _
        rw [← hg.out] at HN
        generalize wr.alloc (.cells [.int .i64 0, .int .i64 0].toArray 68) = wx at HN hR1 hb1 hk0 ⊢
        refine wpList_store_mid rfl 68 (.tmp 9) (.tmp 30) rfl g 0 (runV (a, n)).toArray rfl rfl (HN.there 0 _ (by simp [runV])) (by kernel_rfl) (by simp [runV, Value.oneCell']) ?_
        have HN2 := Holds.setCells (runV (a, n)) 0 wx _ HN (by simp [runV])
        rw [lay_all _ _ (by simp [runV])] at HN2
        have hk1 : Kept (fun _ => False) wr (wx.setCells g 0 (runV (a, n))) := Kept.setCellsN (Nat.le_of_eq hg.out.symm) _ _ _ hk0
        refine wpList_nil ?_
        change Exit.then _ _ _ _ (wx.setCells g 0 (runV (a, n)))
        generalize wx.setCells g 0 (runV (a, n)) = wy at HN2 hk1 ⊢
        have hbR := hk1.below (Nat.le_refl _) (fun _ hf => hf.elim)
        have HRY := Lib.hid (Runs.below hr.out hbR)
        have HBY := Lib.hid (hb.out.trans (hbR.mono hb.out.size))
        have d0 := HN2.cell 0 (.int .i64 a) rfl
        have d1 := HN2.cell 1 (.int .i64 n) rfl
        clear HN hR1 hb1 hk0 hk1 HN2 hrow hbR hr hb
        by_cases hg1 : n < 1 ∨ a < q ∨ (N : Int) - a < n
        · have HF : Hid (takenO (N : Int) l = none) := by
            show takenO (N : Int) l = none
            rw [HTA.out, HOK.out, okR]
            have : (!(decide ((a, n).2 < 1) || decide ((a, n).1 < (q : Int)) || decide ((N : Int) - (a, n).1 < (a, n).2))) = false := by
              rcases hg1 with h | h | h <;> simp [h]
            rw [this, Bool.false_and]; rfl
          clear HTA HOK HRY HP
          by_cases k1 : n < 1
          · clear hg1 hf1 hf2
            go_wp2
            all_goals
              go_ret2
              unfold AS
              rw [HF.out]
              exact ⟨HBY.out, rfl⟩
          · by_cases k2 : a < q
            · clear hg1 hf1 hf2
              go_wp2
              all_goals
                go_ret2
                unfold AS
                rw [HF.out]
                exact ⟨HBY.out, rfl⟩
            · have k4 : (N : Int) - a < n := by omega
              have hw5 : IntKind.i64.wrap ((N : Int) - a) = (N : Int) - a := IntWalk.i64_in _ (by have := hf1.2; omega)
              clear hg1 hf1 hf2
              go_wp2
              all_goals
                go_ret2
                unfold AS
                rw [HF.out]
                exact ⟨HBY.out, rfl⟩
        · obtain ⟨A, rfl⟩ := Int.eq_ofNat_of_zero_le (show 0 ≤ a by omega)
          obtain ⟨M, rfl⟩ := Int.eq_ofNat_of_zero_le (show 0 ≤ n by omega)
          have k1 : ¬(M : Int) < 1 := by omega
          have k2 : ¬(A : Int) < (q : Int) := by omega
          have k3 : ¬(N : Int) - (A : Int) < (M : Int) := by omega
          have hw5 : IntKind.i64.wrap ((N : Int) - (A : Int)) = (N : Int) - (A : Int) := IntWalk.i64_in _ (by omega)
          have hw6 : IntKind.i64.wrap ((A : Int) + (M : Int)) = ((A + M : Nat) : Int) := by rw [IntWalk.i64_in _ (by omega)]; omega
          have hAM : A + M ≤ N := by omega
          have HOK2 : Hid (okR N 0 L = okR N ((A + M : Nat) : Int) (L.drop (j + 1))) := by
            show _ = _
            rw [HOK.out, okR]
            have : (!(decide (((A : Int), (M : Int)).2 < 1) || decide (((A : Int), (M : Int)).1 < (q : Int)) || decide ((N : Int) - ((A : Int), (M : Int)).1 < ((A : Int), (M : Int)).2))) = true := by
              simp [k1, k2, k3]
            rw [this, Bool.true_and]; congr 1
          clear hg1 hf1 hf2 HOK
          go_wp2
          go_roundw
          case rel => exact ⟨j + 1, A + M, by omega, hAM, by go_num, by go_num, HOK2, HRY, HBY⟩
          case measure => simp [intOf]; omega
      · obtain rfl : j = len := by omega
        have hd : L.drop j = [] := List.drop_eq_nil_of_le (by have := HLl.out; omega)
        have HF : Hid (takenO (N : Int) l = some (rowOf 0 N (L.map natR)) ∧ Sorted' 0 N (L.map natR) ∧ Runs wr ad1 (L.map natR).length ((L.map natR).map intR)) := by
          have e : okR N 0 L = true := by rw [hok.out, hd]; rfl
          have e2 := (okR_iff L 0 N (Nat.zero_le _)).1 e
          refine ⟨by rw [HTA.out, if_pos e], e2.2, ?_⟩
          rw [map_intR e2.1, List.length_map, HLl.out]
          exact hr.out
        have HLn : Hid ((L.map natR).length = j) := by show _ = _; rw [List.length_map]; exact HLl.out
        clear hok HTA hr
        go_wp2
        go_ret2
        obtain ⟨f1, f2, f3⟩ := HF.out
        unfold AS
        rw [f1]
        refine ⟨hb.out, L.map natR, ad1, cap1, ?_, f2, rfl, HP.out.map natR, f3, ?_⟩
        · rw [HLn.out]
          rfl
        · rw [HLn.out]; exact HCAP.out

/-- Right: are the runs right? -/
theorem rightP (total : Int) (ad : Option Addr) (len cap : Nat) (l : List (Int × Int)) (w : World) (ht : Fit total) (h : Runs w ad len l) (hp : Flat ad) :
    Calls Try.prog 27 #[.int .i64 total, .slice ad len cap] w fun e w' => e = .returned (.bool (takenO total l).isSome) ∧ Below w.heap.size w w' := by
  have HA := Lib.hid (ascP total ad len cap l w ht h hp)
  clear h hp ht
  generalize takenO total l = o at *
  go_enter Try.func27, Try.ntmps27
  go_wp2_with fail
  refine HA.out.mono ?_
  rintro e w2 ⟨hb, h2⟩
  clear HA
  cases o with
  | none =>
    simp only at h2
    subst h2
    go_wp2
    go_ret
    exact ⟨rfl, hb⟩
  | some t =>
    obtain ⟨L, ad2, cap2, rfl, _⟩ := h2
    go_wp2
    go_ret
    exact ⟨rfl, hb⟩

end Go.Proofs.Ytbfdhonmmoikdaa
