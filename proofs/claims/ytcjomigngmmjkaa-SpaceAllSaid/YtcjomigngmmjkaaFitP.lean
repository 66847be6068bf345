/- Package space: Fit and Room. -/
import Derived.Test.YtcjomigngmmjkaaFreP
import Derived.Test.YtcjomigngmmjkaaSpcG
namespace Go.Proofs.Ytcjomigngmmjkaa
open Go.RowKit Go.Proofs Go.Proofs.Pk
set_option maxRecDepth 10000
attribute [local simp] mk_get wrap64_u8 mk_extract ByteArray.mk_append_mk get_1k

theorem own_row {w : World} {B : Nat} {e : TypeId} {v : Value} {F : List (Nat × Nat)} (h : w.ownsRow B e 2 v F.length (flatR F)) :
    ∃ ad cap, v = .slice ad F.length cap ∧ Flat ad ∧ ∀ k (hk : k < F.length), ∃ g, ad = some ⟨g, 0, none⟩ ∧ g < w.heap.size ∧ B ≤ g ∧ w.rangeAt g (0 + k * 2) (runN F[k]) := by
  have hf : ∀ k (hk : k < F.length) (j : Nat) (u : Value), (runN F[k])[j]? = some u → (flatR F)[k * 2 + j]? = some u := by
    intro k hk j u hu
    have h2 := flatR_get F k hk
    match j with
    | 0 => simp only [runN, List.getElem?_cons_zero] at hu; rw [← hu]; exact h2.1
    | 1 => simp only [runN, List.getElem?_cons_succ, List.getElem?_cons_zero] at hu; rw [← hu]; exact h2.2
    | j + 2 => simp [runN] at hu
  by_cases h0 : 0 < F.length
  · obtain ⟨g, cap, rfl, hgB, _⟩ := h.form h0
    have hlt : g < w.heap.size := by
      rcases h.2 with ⟨h1, _⟩ | ⟨g', c', cur, h1, _, h2, _⟩
      · cases h1
      · cases h1; exact (Array.getElem?_eq_some_iff.1 h2).1
    refine ⟨_, _, rfl, .inr ⟨_, _, rfl⟩, fun k hk => ⟨g, rfl, hlt, hgB, fun j u hu => ?_⟩⟩
    have h3 := hf k hk j u hu
    have h4 : k * 2 + j < (flatR F).length := by
      rcases Nat.lt_or_ge (k * 2 + j) (flatR F).length with h | h
      · exact h
      · rw [List.getElem?_eq_none h] at h3; cases h3
    rw [Nat.zero_add, h.cellAt _ (by rw [flatR_length] at h4; omega)]
    exact h3
  · rcases h.2 with ⟨rfl, hz⟩ | ⟨g, cap, cur, rfl, _⟩
    · exact ⟨none, 0, by rw [hz], .inl rfl, fun k hk => by omega⟩
    · exact ⟨_, _, rfl, .inr ⟨_, _, rfl⟩, fun k hk => by omega⟩

set_option maxHeartbeats 1000000 in
theorem fitP (total : Int) (ad : Option Addr) (len cap : Nat) (l : List (Int × Int)) (many : Int) (w : World) (ht : Fit total) (h : Runs w ad len l) (hp : Flat ad) :
    Calls Try.prog 11 #[.int .i64 total, .slice ad len cap, .int .i64 many] w (fun e w' => Below w.heap.size w w' ∧ e = .returned (.tuple #[.int .i64 (fitO ((takenO total l).map freeL) many).1, errV 47 (fitO ((takenO total l).map freeL) many).2.toNat])) := by
  obtain ⟨iR, hiR, hzR, hsR, hbR⟩ := info_parts run_info
  have HT := Lib.hid (freeP total ad len cap l w ht h hp)
  have hlen : ∀ F, (takenO total l).map freeL = some F → F.length ≤ 4000 := by
    intro F h
    obtain ⟨t, h1, rfl⟩ := Option.map_eq_some_iff.1 h
    unfold takenO at h1
    split at h1
    · cases h1
    · have := (takeAll_some l total.toNat _ t (by simp) h1).2.2.2.1
      have := freeL_length t
      omega
  clear ht h hp
  generalize (takenO total l).map freeL = o at *
  cases o with
  | none =>
    clear hlen
    go_enter Try.func11, Try.ntmps11
    go_wp2_with fail
    refine HT.out.mono ?_
    rintro e w2 ⟨hb, rfl⟩
    rw [show errV 47 1 = .iface 47 (.int .i64 1) from rfl]
    go_wp2
    go_ret2
    exact ⟨hb, rfl⟩
  | some F =>
    have hF4 := hlen F rfl
    clear hlen
    by_cases hm : many < 1
    · have HZ : Hid (fitO (some F) many = (0, 1)) := by show fitO _ _ = _; unfold fitO; simp only; rw [if_pos hm]
      rw [HZ.out]
      go_enter Try.func11, Try.ntmps11
      go_wp2_with fail
      refine HT.out.mono ?_
      rintro e w2 ⟨hb, v, rfl, ho⟩
      clear HT
      go_wp2
      go_ret2
      exact ⟨hb, rfl⟩
    · have HZ : Hid (fitO (some F) many = fitL F many) := by show fitO _ _ = _; unfold fitO; simp only; rw [if_neg hm]
      rw [HZ.out]
      go_enter Try.func11, Try.ntmps11
      go_wp2_with fail
      refine HT.out.mono ?_
      rintro e w2 ⟨hb, v, rfl, ho⟩
      obtain ⟨ad2, cap2, rfl, _, hat⟩ := own_row ho
      have HAT := Lib.hid hat
      have HB := Lib.hid hb
      clear HT ho hat hb
      obtain ⟨n, hn⟩ : ∃ n, Hid (n = F.length) := ⟨_, rfl⟩
      rw [← hn.out] at hF4 ⊢
      go_wp2
      obtain ⟨wq, hwq⟩ : ∃ wq, wq = w2 := ⟨_, rfl⟩
      have HS : Hid (Below w2.heap.size w2 wq) := by rw [hwq]; exact Below.refl _ _
      rw [← hwq]
      clear hwq
      go_loopw [26] (fun i wr => ∃ k : Nat, k ≤ n ∧ i = .int .i64 k ∧ Hid (fitL F many = fitL (F.drop k) many) ∧ Hid (Below w2.heap.size w2 wr)) (fun i _ => n - (intOf i).toNat)
      case atStart => exact ⟨0, Nat.zero_le _, rfl, rfl, HS⟩
      case round =>
        obtain ⟨k, hk, rfl, hr, hbw⟩ := hrel
        by_cases hlt : (k : Int) < n
        · have hkF : k < F.length := by have := hn.out; omega
          have hk0 : (0 : Int) ≤ (k : Int) := Int.natCast_nonneg _
          obtain ⟨b, rfl, hbl, _, hrow2⟩ := HAT.out k hkF
          have hd : F.drop k = F[k] :: F.drop (k + 1) := List.drop_eq_getElem_cons hkF
          have HR : Hid (fitL F many = if many ≤ ((F[k].2 : Nat) : Int) then ((F[k].1 : Int), 0) else fitL (F.drop (k + 1)) many) := by show _ = _; rw [hr.out, hd]; rfl
          have hrow : wr.rangeAt b (0 + k * 2) (runN F[k]) := fun j u hu => by rw [hbw.out.cell (p := ⟨b, 0 + k * 2 + j, none⟩) hbl]; exact hrow2 j u hu
          clear hr hd hrow2
          generalize F[k] = x at *
          obtain ⟨a, m⟩ := x
          simp only at HR
          obtain ⟨g, hg⟩ : ∃ g, Hid (g = wr.heap.size) := ⟨_, rfl⟩
          go_upto_region 8 with (fail)
          refine wp_region_lit ?_
          iterate 1
            refine wpList_plain rfl fun K hK => ?_
            go_simp
            refine hK _ _ ?_
            clear hK K
          refine wpList_load_mid rfl 32 (.tmp 28) rfl b (0 + k * 2) (by simp; rfl) (runN (a, m)) _ hrow Try.underlying32 rfl (by kernel_rfl) ?_
          refine wpList_alloc_row rfl 32 rfl iR [.int .i64 0, .int .i64 0] hiR hzR ?_
          rw [← hg.out]
          have HN := Holds.new wr [.int .i64 0, .int .i64 0] 32
          have hk0' : Kept (fun _ => False) wr (wr.alloc (.cells [.int .i64 0, .int .i64 0].toArray 32)) := (Kept.refl _ _).alloc _
          rw [← hg.out] at HN
          generalize wr.alloc (.cells [.int .i64 0, .int .i64 0].toArray 32) = wx at HN hk0' ⊢
          refine wpList_store_mid rfl 32 (.tmp 11) (.tmp 29) rfl g 0 (runN (a, m)).toArray rfl rfl (HN.there 0 _ (by simp [runN])) (by kernel_rfl) (by simp [runN, Value.oneCell']) ?_
          have HN2 := Holds.setCells (runN (a, m)) 0 wx _ HN (by simp [runN])
          rw [lay_all _ _ (by simp [runN])] at HN2
          have hk1 : Kept (fun _ => False) wr (wx.setCells g 0 (runN (a, m))) := Kept.setCellsN (Nat.le_of_eq hg.out.symm) _ _ _ hk0'
          refine wpList_nil ?_
          change Exit.then _ _ _ _ (wx.setCells g 0 (runN (a, m)))
          generalize wx.setCells g 0 (runN (a, m)) = wy at HN2 hk1 ⊢
          have hbR := hk1.below (Nat.le_refl _) (fun _ hf => hf.elim)
          have HBY := Lib.hid (hbw.out.trans (hbR.mono hbw.out.size))
          have d0 := HN2.cell 0 (.int .i64 (a : Int)) rfl
          have d1 := HN2.cell 1 (.int .i64 (m : Int)) rfl
          clear HN hk0' hk1 HN2 hrow hbR hbw
          by_cases hx : many ≤ (m : Int)
          · have HRR : Hid (fitL F many = ((a : Int), 0)) := by show _ = _; rw [HR.out, if_pos hx]
            clear HR
            go_wp2
            go_ret2
            rw [HRR.out]
            exact ⟨HB.out.trans (HBY.out.mono HB.out.size), rfl⟩
          · have HRR : Hid (fitL F many = fitL (F.drop (k + 1)) many) := by show _ = _; rw [HR.out, if_neg hx]
            clear HR
            go_wp2
            go_roundw
            case rel => exact ⟨k + 1, by omega, by go_num, HRR, HBY⟩
            case measure => simp [intOf]; omega
        · have HRR : Hid (fitL F many = (0, 7)) := by show _ = _; rw [hr.out, List.drop_eq_nil_of_le (by have := hn.out; omega)]; rfl
          clear hr
          go_wp2
          go_ret2
          rw [HRR.out]
          exact ⟨HB.out.trans (hbw.out.mono HB.out.size), rfl⟩

theorem sumN_take (l : List (Int × Int)) (k : Nat) (hk : k < l.length) : (((l.take (k + 1)).map natR).map (·.2)).sum = (((l.take k).map natR).map (·.2)).sum + l[k].2.toNat := by
  rw [List.take_succ_eq_append_getElem hk]
  simp only [List.map_append, List.sum_append, List.map_cons, List.map_nil, List.sum_cons, List.sum_nil, natR, Nat.add_zero]
theorem sumN_le (l : List (Int × Int)) (k : Nat) : (((l.take k).map natR).map (·.2)).sum ≤ ((l.map natR).map (·.2)).sum := by
  have : l = l.take k ++ l.drop k := by rw [List.take_append_drop]
  conv => rhs; rw [this]
  rw [List.map_append, List.map_append, List.sum_append]; omega

/-- What Room answers. -/
def roomV (o : Option (List Bool)) : Array Value :=
  match o with
  | none => #[.int .i64 0, errV 47 1]
  | some t => #[.int .i64 (roomL (freeL t) : Int), errV 47 0]

set_option maxHeartbeats 1000000 in
theorem roomP (total : Int) (ad : Option Addr) (len cap : Nat) (l : List (Int × Int)) (w : World) (ht : Fit total) (h : Runs w ad len l) (hp : Flat ad) :
    Calls Try.prog 13 #[.int .i64 total, .slice ad len cap] w (fun e w' => Below w.heap.size w w' ∧ e = .returned (.tuple (roomV (takenO total l)))) := by
  obtain ⟨iR, hiR, hzR, hsR, hbR⟩ := info_parts run_info
  have HT := Lib.hid (rightP total ad len cap l w ht h hp)
  have hall : ∀ t, takenO total l = some t → total = (total.toNat : Int) ∧ total ≤ 4000 ∧ len ≤ 200 ∧ roomL (freeL t) + ((l.map natR).map (·.2)).sum = total.toNat ∧ ∀ r ∈ l, Go.Proofs.Pk.Good total.toNat r := by
    intro t h1
    unfold takenO at h1
    split at h1
    · cases h1
    · rename_i hb
      have h2 := takeAll_count l total.toNat _ t (by simp) h1
      have h3 := takeAll_some l total.toNat _ t (by simp) h1
      have h4 := freeL_sum t
      have h5 := h.1
      rw [List.count_replicate_self] at h2
      unfold roomL
      exact ⟨by omega, by omega, by omega, by omega, h3.1⟩
  have HR := Lib.hid h
  clear ht h hp
  generalize takenO total l = o at *
  cases o with
  | none =>
    clear hall
    go_enter Try.func13, Try.ntmps13
    go_wp2_with fail
    refine HT.out.mono ?_
    rintro e w2 ⟨rfl, hb⟩
    go_wp2
    go_ret2
    exact ⟨hb, rfl⟩
  | some t =>
    obtain ⟨h1, h2, h3, h4, h5⟩ := hall t rfl
    clear hall
    obtain ⟨N, hN⟩ : ∃ N, N = total.toNat := ⟨_, rfl⟩
    rw [← hN] at h1 h4 h5
    subst h1
    clear hN
    have HG := Lib.hid h5
    have HV : Hid (roomV (some t) = #[.int .i64 (roomL (freeL t) : Int), .nilIface]) := rfl
    rw [HV.out]
    obtain ⟨Z, hZ⟩ : ∃ Z, Hid (Z = ((l.map natR).map (·.2)).sum) := ⟨_, rfl⟩
    rw [← hZ.out] at h4
    obtain ⟨R, hR⟩ : ∃ R, roomL (freeL t) = R := ⟨_, rfl⟩
    rw [hR] at h4 ⊢
    clear hR h5 HV
    go_enter Try.func13, Try.ntmps13
    go_wp2_with fail
    refine HT.out.mono ?_
    rintro e w2 ⟨rfl, hb⟩
    have HB := Lib.hid hb
    clear HT hb
    go_wp2
    obtain ⟨wq, hwq⟩ : ∃ wq, wq = w2 := ⟨_, rfl⟩
    have HS : Hid (Below w.heap.size w wq) := by rw [hwq]; exact HB
    rw [← hwq]
    clear hwq
    go_loopw [6, 17] (fun s i wr => ∃ (k S : Nat), k ≤ len ∧ s = .int .i64 (S : Int) ∧ i = .int .i64 k ∧ Hid (S + (((l.take k).map natR).map (·.2)).sum = N) ∧ Hid (Below w.heap.size w wr)) (fun _ i _ => len - (intOf i).toNat)
    case atStart => exact ⟨0, N, Nat.zero_le _, rfl, rfl, by show _ = _; simp, HS⟩
    case round =>
      obtain ⟨k, S, hk, rfl, rfl, hsum, hbw⟩ := hrel
      by_cases hlt : (k : Int) < len
      · have hkl : k < len := by omega
        have hkL : k < l.length := by have := HR.out.1; omega
        have hk0 : (0 : Int) ≤ (k : Int) := Int.natCast_nonneg _
        obtain ⟨b, off, rfl, hbl, hrow, hf1, hf2⟩ := runs_at (HR.out.below hbw.out) k hkl
        have hgd := HG.out l[k] (List.getElem_mem hkL)
        have hst := sumN_take l k hkL
        have hle := sumN_le l (k + 1)
        have hsm := hsum.out
        have hzz := hZ.out
        generalize l[k]'(by omega) = x at *
        obtain ⟨a, m⟩ := x
        simp only at hf1 hf2 hst
        have hgd2 := hgd.nat
        simp only [natR] at hgd2
        have hm0 : 0 ≤ m := by unfold Go.Proofs.Pk.Good at hgd; simp only at hgd; omega
        obtain ⟨m, rfl⟩ := Int.eq_ofNat_of_zero_le hm0
        rw [Int.toNat_natCast] at hst
        obtain ⟨S2, hS2⟩ : ∃ S2, S2 = S - m := ⟨_, rfl⟩
        have hw7 : IntKind.i64.wrap ((S : Int) - (m : Int)) = (S2 : Int) := by rw [IntWalk.i64_in _ (by omega)]; omega
        have HS2 : Hid (S2 + (((l.take (k + 1)).map natR).map (·.2)).sum = N) := by show _ = _; omega
        obtain ⟨g, hg⟩ : ∃ g, Hid (g = wr.heap.size) := ⟨_, rfl⟩
        clear hgd hst hle hsm hzz hgd2 hm0 hsum hS2 hf1 hf2 hkL
        go_upto_region 6 with (fail)
        refine wp_region_lit ?_
        iterate 1
          refine wpList_plain rfl fun K hK => ?_
          go_simp
          refine hK _ _ ?_
          clear hK K
        refine wpList_load_mid rfl 32 (.tmp 19) rfl b (off + k * 2) rfl (runV (a, (m : Int))) _ hrow Try.underlying32 rfl (by kernel_rfl) ?_
        refine wpList_alloc_row rfl 32 rfl iR [.int .i64 0, .int .i64 0] hiR hzR ?_
        rw [← hg.out]
        have HN := Holds.new wr [.int .i64 0, .int .i64 0] 32
        have hk0' : Kept (fun _ => False) wr (wr.alloc (.cells [.int .i64 0, .int .i64 0].toArray 32)) := (Kept.refl _ _).alloc _
        rw [← hg.out] at HN
        generalize wr.alloc (.cells [.int .i64 0, .int .i64 0].toArray 32) = wx at HN hk0' ⊢
        refine wpList_store_mid rfl 32 (.tmp 8) (.tmp 20) rfl g 0 (runV (a, (m : Int))).toArray rfl rfl (HN.there 0 _ (by simp [runV])) (by kernel_rfl) (by simp [runV, Value.oneCell']) ?_
        have HN2 := Holds.setCells (runV (a, (m : Int))) 0 wx _ HN (by simp [runV])
        rw [lay_all _ _ (by simp [runV])] at HN2
        have hk1 : Kept (fun _ => False) wr (wx.setCells g 0 (runV (a, (m : Int)))) := Kept.setCellsN (Nat.le_of_eq hg.out.symm) _ _ _ hk0'
        refine wpList_nil ?_
        change Exit.then _ _ _ _ (wx.setCells g 0 (runV (a, (m : Int))))
        generalize wx.setCells g 0 (runV (a, (m : Int))) = wy at HN2 hk1 ⊢
        have hbR := hk1.below (Nat.le_refl _) (fun _ hf => hf.elim)
        have HBY := Lib.hid (hbw.out.trans (hbR.mono hbw.out.size))
        have d0 := HN2.cell 0 (.int .i64 a) rfl
        have d1 := HN2.cell 1 (.int .i64 (m : Int)) rfl
        clear HN hk0' hk1 HN2 hrow hbR hbw
        go_wp2
        go_roundw
        case rel => exact ⟨k + 1, S2, by omega, by go_num, by go_num, HS2, HBY⟩
        case measure => simp [intOf]; omega
      · obtain rfl : k = len := by omega
        have hSR : S = R := by
          have h6 := hsum.out
          rw [List.take_of_length_le (by have := HR.out.1; omega), ← hZ.out] at h6
          omega
        subst hSR
        clear hsum
        go_wp2
        go_ret2
        exact ⟨hbw.out, rfl⟩

end Go.Proofs.Ytcjomigngmmjkaa
