/- FreP, FitP. -/
import Derived.Test.YtfbgagpihhbllaaGreatDoorJ07
import Derived.WalkMore
import Derived.BigQuiet
import Derived.Test.YtfbgagpihhbllaaGreatDoorJ11

/- Package space: Free. -/
namespace Go.Proofs.YtfbgagpihhbllaaGreatDoor
open Go.RowKit Go.Proofs Go.Proofs.Pk
set_option maxRecDepth 10000
attribute [local simp] mk_get wrap64_u8 mk_extract ByteArray.mk_append_mk get_1k

theorem Runs.pop {w : World} {ad : Option Addr} {n : Nat} {x : Int × Int} {l : List (Int × Int)} (h : Runs w ad (n + 1) (x :: l)) :
    ∃ b off, ad = some ⟨b, off, none⟩ ∧ b < w.heap.size ∧ w.cell? ⟨b, off, none⟩ = some (.int .i64 x.1) ∧ w.cell? ⟨b, off + 1, none⟩ = some (.int .i64 x.2) ∧ Runs w (some ⟨b, off + 2, none⟩) n l := by
  have hl := h.1
  rcases h.2 with h0 | ⟨b, off, h1, h2, h3⟩
  · cases h0
  · have h4 := h3 0 (by simp)
    refine ⟨b, off, h1, h2, ?_, ?_, by simpa using hl, .inr ⟨b, off + 2, rfl, h2, fun i hi => ?_⟩⟩
    · have := h4.1 0 (.int .i64 x.1) rfl; simpa using this
    · have := h4.1 1 (.int .i64 x.2) rfl; simpa using this
    · have := h3 (i + 1) (by simpa using hi)
      rw [show off + 2 + i * 2 = off + (i + 1) * 2 from by omega]
      simpa using this

/-- What the program's Free answers. -/
def FP (w : World) (o : Option (List (Nat × Nat))) (e : Ending) (w' : World) : Prop :=
  Below w.heap.size w w' ∧ match o with
    | none => e = .returned (.tuple #[.slice none 0 0, errV 33 1])
    | some l => ∃ v, e = .returned (.tuple #[v, .nilIface]) ∧ w'.ownsRow w.heap.size 132 2 v l.length (flatR l)

set_option maxHeartbeats 1000000 in
theorem freeP (total : Int) (ad : Option Addr) (len cap : Nat) (l : List (Int × Int)) (w : World) (ht : Fit total) (h : Runs w ad len l) (hp : Flat ad) :
    Calls Tryz.prog 69 #[.int .i64 total, .slice ad len cap] w (FP w ((takenO total l).map freeL)) := by
  obtain ⟨iR, hiR, hzR, hsR, hbR⟩ := info_parts run_info
  have HT := Lib.hid (ascP total ad len cap l w ht h hp)
  have hlen : ∀ t, takenO total l = some t → total = (total.toNat : Int) ∧ total ≤ 4000 ∧ t.length = total.toNat := by
    intro t h
    unfold takenO at h
    split at h
    · cases h
    · rename_i hb
      have := (takeAll_some l total.toNat _ t (by simp) h).2.2.2.1
      omega
  clear ht h hp
  generalize takenO total l = o at *
  cases o with
  | none =>
    clear hlen
    go_enter Tryz.func69, Tryz.ntmps69
    go_wp2
    go_step3
    go_wp2_with fail
    refine HT.out.mono ?_
    rintro e w2 ⟨hb, rfl⟩
    go_wp2
    rw [Exit.noGoto_ret]
    go_ret2
    exact ⟨hb, rfl⟩
  | some t =>
    obtain ⟨htl, ht4, htt⟩ := hlen t rfl
    clear hlen
    obtain ⟨N, hN⟩ : ∃ N, N = total.toNat := ⟨_, rfl⟩
    rw [← hN] at HT htl htt
    subst htl
    clear hN
    go_enter Tryz.func69, Tryz.ntmps69
    go_wp2
    go_step3
    go_wp2_with fail
    refine HT.out.mono ?_
    rintro e w2 ⟨hb, L, ad2, cap2, rfl, hS, hrow, hperm, hR, hcap⟩
    have HG : Hid (freeL t = gaps 0 N L) := by show _ = _; rw [hrow]; exact freeL_gaps L N hS
    have HGl : Hid ((gaps 0 N L).length ≤ 4000) := by
      show _ ≤ _
      rw [← HG.out]
      have := freeL_length t
      omega
    have HSo := Lib.hid hS
    have HBB := Lib.hid hb
    have HR := Lib.hid hR
    obtain ⟨M, hM⟩ : ∃ M, Hid (M = L.length) := ⟨_, rfl⟩
    rw [← hM.out] at hcap ⊢
    have HR0 : Hid (Runs w2 ad2 (M - 0) ((L.drop 0).map intR)) := by show Runs _ _ _ _; rw [hM.out]; exact HR.out
    clear HT hS hb hR hrow hperm htt HR
    go_wp2
    go_step3
    go_wp2
    obtain ⟨wq, hwq⟩ : ∃ wq, wq = w2 := ⟨_, rfl⟩
    have HS : Hid (Below w2.heap.size w2 wq) := by rw [hwq]; exact Below.refl _ _
    rw [← hwq]
    clear hwq
    go_loopw [6, 8, 9] (fun r f a wr => ∃ (j pos : Nat) (ad' : Option Addr) (c : Nat), j ≤ M ∧ M - j ≤ c ∧ r = .slice ad' ((M - j : Nat)) c ∧ a = .int .i64 pos ∧ Hid (∃ F, F ++ gaps pos N (L.drop j) = gaps 0 N L ∧ wr.ownsRow w2.heap.size 132 2 f F.length (flatR F)) ∧ Hid (Sorted' pos N (L.drop j)) ∧ Hid (Runs w2 ad' (M - j) ((L.drop j).map intR)) ∧ Hid (Below w2.heap.size w2 wr)) (fun _ _ a _ => N - (intOf a).toNat)
    case atStart => exact ⟨0, 0, ad2, cap2, Nat.zero_le _, by omega, by rfl, by rfl, ⟨[], rfl, World.ownsRow_nil _ _ _ _⟩, HSo, HR0, HS⟩
    case round =>
      obtain ⟨j, pos, ad3, c3, hj, hc, rfl, rfl, hF, hSo, hRn, hb⟩ := hrel
      have hpN : pos ≤ N := by
        have := hSo.out
        cases hd : L.drop j with
        | nil => rw [hd] at this; exact this
        | cons x l => rw [hd] at this; obtain ⟨h1, h2, h3, _⟩ := this; omega
      by_cases hlt : (pos : Int) < N
      · have hlt' : pos < N := by omega
        by_cases hjM : j < M
        · obtain ⟨m, hm⟩ : ∃ m, M - j = m + 1 := ⟨M - j - 1, by omega⟩
          have hjL : j < L.length := by have := hM.out; omega
          obtain ⟨x, hx⟩ : ∃ x, x = L[j] := ⟨_, rfl⟩
          have hdrop : L.drop j = x :: L.drop (j + 1) := by rw [List.drop_eq_getElem_cons hjL, ← hx]
          have hSo2 := hSo.out
          have hRn2 := hRn.out
          obtain ⟨F, hFg, hFo⟩ := hF.out
          rw [hdrop] at hSo2 hRn2 hFg
          rw [hm] at hRn2 hc ⊢
          obtain ⟨A, Q⟩ := x
          obtain ⟨h1, h2, h3, h4⟩ := hSo2
          simp only at h1 h2 h3 h4
          rw [List.map_cons] at hRn2
          obtain ⟨b, off, rfl, hbs, hc0, hc1, hR3⟩ := hRn2.pop
          simp only [intR] at hc0 hc1
          have d0 : wr.cell? ⟨b, off, none⟩ = some (.int .i64 (A : Int)) := by rw [hb.out.cell (p := ⟨b, off, none⟩) hbs]; exact hc0
          have d1 : wr.cell? ⟨b, off + 1, none⟩ = some (.int .i64 (Q : Int)) := by rw [hb.out.cell (p := ⟨b, off + 1, none⟩) hbs]; exact hc1
          have hFl : F.length ≤ 4000 := by
            have := HGl.out
            have h5 := congrArg List.length hFg
            rw [List.length_append] at h5
            omega
          have hw6 : IntKind.i64.wrap ((A : Int) + (Q : Int)) = ((A + Q : Nat) : Int) := by rw [IntWalk.i64_in _ (by omega)]; omega
          have HS4 := Lib.hid h4
          have HR3 : Hid (Runs w2 (some ⟨b, off + 2, none⟩) (M - (j + 1)) ((L.drop (j + 1)).map intR)) := by
            show Runs _ _ _ _
            rw [show M - (j + 1) = m from by omega]; exact hR3
          have hm2 : M - (j + 1) = m := by omega
          obtain ⟨k, hk⟩ : ∃ k, k = m + 1 := ⟨_, rfl⟩
          rw [← hk] at hc ⊢
          have hz0 : ¬k = 0 := by omega
          have hz : ¬(k : Int) = 0 := by omega
          have hz1 : (0 : Int) < (k : Int) := by omega
          have hz2 : (1 : Int) ≤ (k : Int) := by omega
          have hz3 : (k : Int) ≤ (c3 : Int) := by omega
          have HFo := Lib.hid hFo
          have HR4 : Hid (Runs w2 (if c3 = 1 then some ⟨b, off, none⟩ else some ⟨b, off + 2, none⟩) (M - (j + 1)) ((L.drop (j + 1)).map intR)) := by
            show Runs _ _ _ _
            split
            · have h0 : L.drop (j + 1) = [] := List.drop_eq_nil_of_le (by have := hM.out; omega)
              rw [h0]
              exact ⟨by rw [hm2]; simp; omega, .inl rfl⟩
            · exact HR3.out
          by_cases hgap : pos < A
          · have hFg2 : (F ++ [(pos, A - pos)]) ++ gaps (A + Q) N (L.drop (j + 1)) = gaps 0 N L := by
              rw [← hFg, gaps]; simp [hgap]
            have HFg := Lib.hid hFg2
            clear hdrop hSo hRn hF hRn2 hFg hFg2 hx h4 hR3 hFo
            obtain ⟨G, hG⟩ : ∃ G, A - pos = G := ⟨_, rfl⟩
            have hw7 : IntKind.i64.wrap ((A : Int) - (pos : Int)) = (G : Int) := by rw [IntWalk.i64_in _ (by omega)]; omega
            rw [hG] at HFg
            have hgap2 : (pos : Int) < (A : Int) := by omega
            go_upto_region 10 with (fail)
            refine wp_region_lit ?_
            iterate 9
              refine wpList_plain rfl fun K hK => ?_
              go_simp
              refine hK _ _ ?_
              clear hK K
            have HQ := Holds.new wr (runN (pos, G)) 132
            have HBd := hb.out.alloc hb.out.size (.cells (runN (pos, G)).toArray 132)
            have HOw := HFo.out.alloc (.cells (runN (pos, G)).toArray 132)
            have hcx := hb.out.cell (p := ⟨b, off, none⟩) hbs
            obtain ⟨q, hq⟩ : ∃ q, Hid (q = wr.heap.size) := ⟨_, rfl⟩
            refine wpList_buildSlice_row rfl 106 132 (.tmp 49) rfl iR _ (runN (pos, G)) Tryz.underlying106 hiR hzR (by rw [hsR]; rfl) (by simp [runN]) (by simp [runN]) (by rfl) ?_
            rw [← hq.out] at HQ ⊢
            generalize wr.alloc (.cells (runN (pos, G)).toArray 132) = wd at HQ HBd HOw ⊢
            refine wpList_append_at wd rfl (.tmp 41) (.tmp 50) 106 rfl w2.heap.size 132 iR _ 2 16 Tryz.underlying106 hiR hzR hsR hbR (by rfl) (by omega) _ F.length (flatR F) (by rfl) HOw
              ⟨q, 0, none⟩ 1 1 (runN (pos, G)) (by rfl) (by simp [runN]) (fun j u hj => by rw [add0]; exact HQ.cell j u hj) (by simp [runN, Value.oneCell']) (by unfold maxLen; omega) (by omega) HBd.size (by omega) ?_
            intro v' we ho2 hgr _
            have HB2 : Hid (Below w2.heap.size w2 we) := HBd.grown hgr HBd.size (own_low HOw)
            have HO2 : Hid (we.ownsRow w2.heap.size 132 2 v' (F ++ [(pos, G)]).length (flatR (F ++ [(pos, G)]))) := by
              show World.ownsRow _ _ _ _ _ _ _
              exact owns_len ho2 (by simp) (by simp [flatR])
            have d0 : we.cell? ⟨b, off, none⟩ = some (.int .i64 (A : Int)) := by rw [HB2.out.cell (p := ⟨b, off, none⟩) hbs]; exact hc0
            have d1 : we.cell? ⟨b, off + 1, none⟩ = some (.int .i64 (Q : Int)) := by rw [HB2.out.cell (p := ⟨b, off + 1, none⟩) hbs]; exact hc1
            clear ho2 hgr HQ HBd HOw hb hcx HFo
            go_wp2
            go_quiet (fail)
            go_wp2
            refine ⟨⟨j + 1, A + Q, _, c3 - 1, by omega, by omega, by rw [hm2], by go_num, ⟨_, HFg.out, owns_drewN HO2.out⟩, HS4, HR4, belowN HB2.out nq⟩, by simp [intOf]; omega⟩
          · have hAp : pos = A := by omega
            have hFg2 : F ++ gaps (A + Q) N (L.drop (j + 1)) = gaps 0 N L := by
              rw [← hFg, gaps]; simp [hgap]
            have HFg := Lib.hid hFg2
            have hng : ¬(pos : Int) < (A : Int) := by omega
            clear hdrop hSo hRn hF hRn2 hFg hFg2 hx h4 hR3 hc0 hc1 hFo
            go_wp2
            go_quiet (fail)
            go_wp2
            refine ⟨⟨j + 1, A + Q, _, c3 - 1, by omega, by omega, by rw [hm2], by go_num, ⟨F, HFg.out, owns_drewN HFo.out⟩, HS4, HR4, belowN hb.out nq⟩, by simp [intOf]; omega⟩
        · have hj : j = M := by omega
          have hk0 : M - j = 0 := by omega
          obtain ⟨F, hFg, hFo⟩ := hF.out
          have hd : L.drop j = [] := List.drop_eq_nil_of_le (by have := hM.out; omega)
          have hFg2 : F ++ [(pos, N - pos)] = freeL t := by
            rw [HG.out, ← hFg, hd, gaps, if_pos hlt']
          have hFl : F.length ≤ 4000 := by
            have := HGl.out
            have h5 := congrArg List.length hFg2
            rw [HG.out] at h5
            rw [List.length_append] at h5
            omega
          obtain ⟨G, hG⟩ : ∃ G, N - pos = G := ⟨_, rfl⟩
          have hw7 : IntKind.i64.wrap ((N : Int) - (pos : Int)) = (G : Int) := by rw [IntWalk.i64_in _ (by omega)]; omega
          rw [hG] at hFg2
          have HFg := Lib.hid hFg2
          have HFo := Lib.hid hFo
          rw [hk0]
          clear hF hSo hRn hd hFg hFg2 hFo hj hk0 hc
          go_upto_region 8 with (fail)
          refine wp_region_lit ?_
          iterate 6
            refine wpList_plain rfl fun K hK => ?_
            go_simp
            refine hK _ _ ?_
            clear hK K
          have HQ := Holds.new wr (runN (pos, G)) 132
          have HBd := hb.out.alloc hb.out.size (.cells (runN (pos, G)).toArray 132)
          have HOw := HFo.out.alloc (.cells (runN (pos, G)).toArray 132)
          obtain ⟨q, hq⟩ : ∃ q, Hid (q = wr.heap.size) := ⟨_, rfl⟩
          refine wpList_buildSlice_row rfl 106 132 (.tmp 31) rfl iR _ (runN (pos, G)) Tryz.underlying106 hiR hzR (by rw [hsR]; rfl) (by simp [runN]) (by simp [runN]) (by rfl) ?_
          rw [← hq.out] at HQ ⊢
          generalize wr.alloc (.cells (runN (pos, G)).toArray 132) = wd at HQ HBd HOw ⊢
          refine wpList_append_at wd rfl (.tmp 26) (.tmp 32) 106 rfl w2.heap.size 132 iR _ 2 16 Tryz.underlying106 hiR hzR hsR hbR (by rfl) (by omega) _ F.length (flatR F) (by rfl) HOw
            ⟨q, 0, none⟩ 1 1 (runN (pos, G)) (by rfl) (by simp [runN]) (fun j u hj => by rw [add0]; exact HQ.cell j u hj) (by simp [runN, Value.oneCell']) (by unfold maxLen; omega) (by omega) HBd.size (by omega) ?_
          intro v' we ho2 hgr _
          have HB2 : Hid (Below w2.heap.size w2 we) := HBd.grown hgr HBd.size (own_low HOw)
          have HO2 : Hid (we.ownsRow w2.heap.size 132 2 v' (F ++ [(pos, G)]).length (flatR (F ++ [(pos, G)]))) := by
            show World.ownsRow _ _ _ _ _ _ _
            exact owns_len ho2 (by simp) (by simp [flatR])
          clear ho2 hgr HQ HBd HOw HFo
          go_wp2
          go_ret2
          refine ⟨HBB.out.trans (HB2.out.mono HBB.out.size), _, by rfl, ?_⟩
          have := HO2.out
          rw [HFg.out] at this
          exact owns_base this HBB.out.size
      · have hp : pos = N := by omega
        subst hp
        have hd : L.drop j = [] := gaps_end _ _ hSo.out
        have HE : Hid (∃ F, F = freeL t ∧ wr.ownsRow w2.heap.size 132 2 u8 F.length (flatR F)) := by
          obtain ⟨F, h1, h2⟩ := hF.out
          refine ⟨F, ?_, h2⟩
          rw [hd, gaps, if_neg (by omega), List.append_nil] at h1
          rw [h1, HG.out]
        clear hF hSo hRn
        go_wp2
        go_ret2
        obtain ⟨F, rfl, h2⟩ := HE.out
        exact ⟨HBB.out.trans (hb.out.mono HBB.out.size), _, by rfl, owns_base h2 HBB.out.size⟩

end Go.Proofs.YtfbgagpihhbllaaGreatDoor

/- Package space: Fit and Room. -/
namespace Go.Proofs.YtfbgagpihhbllaaGreatDoor
open Go.RowKit Go.Proofs Go.Proofs.Pk
set_option maxRecDepth 10000
attribute [local simp] mk_get wrap64_u8 mk_extract ByteArray.mk_append_mk get_1k

theorem own_row {w : World} {B : Nat} {e : TypeId} {v : Value} {F : List (Nat × Nat)} (h : w.ownsRow B e 2 v F.length (flatR F)) :
    ∃ ad cap, v = .slice ad F.length cap ∧ Flat ad ∧ ∀ k (hk : k < F.length), ∃ g, ad = some ⟨g, 0, none⟩ ∧ g < w.heap.size ∧ B ≤ g ∧ w.rangeAt g (0 + k * 2) (runN F[k]) := by
  have hf : ∀ k (hk : k < F.length) (j : Nat) (u : Value), (runN F[k])[j]? = some u → (flatR F)[k * 2 + j]? = some u := by
    intro k hk j u hu
    have h2 := flatR_get F k hk
    match j with
    | 0 => simp only [runN, List.getElem?_cons_zero] at hu; rw [← hu]; exact h2.1
    | 1 => simp only [runN, List.getElem?_cons_succ, List.getElem?_cons_zero] at hu; rw [← hu]; exact h2.2
    | j + 2 => simp [runN] at hu
  by_cases h0 : 0 < F.length
  · obtain ⟨g, cap, rfl, hgB, _⟩ := h.form h0
    have hlt : g < w.heap.size := by
      rcases h.2 with ⟨h1, _⟩ | ⟨g', c', cur, h1, _, h2, _⟩
      · cases h1
      · cases h1; exact (Array.getElem?_eq_some_iff.1 h2).1
    refine ⟨_, _, rfl, .inr ⟨_, _, rfl⟩, fun k hk => ⟨g, rfl, hlt, hgB, fun j u hu => ?_⟩⟩
    have h3 := hf k hk j u hu
    have h4 : k * 2 + j < (flatR F).length := by
      rcases Nat.lt_or_ge (k * 2 + j) (flatR F).length with h | h
      · exact h
      · rw [List.getElem?_eq_none h] at h3; cases h3
    rw [Nat.zero_add, h.cellAt _ (by rw [flatR_length] at h4; omega)]
    exact h3
  · rcases h.2 with ⟨rfl, hz⟩ | ⟨g, cap, cur, rfl, _⟩
    · exact ⟨none, 0, by rw [hz], .inl rfl, fun k hk => by omega⟩
    · exact ⟨_, _, rfl, .inr ⟨_, _, rfl⟩, fun k hk => by omega⟩
set_option maxHeartbeats 1000000 in
theorem fitP (total : Int) (ad : Option Addr) (len cap : Nat) (l : List (Int × Int)) (many : Int) (w : World) (ht : Fit total) (h : Runs w ad len l) (hp : Flat ad) :
    Calls Tryz.prog 46 #[.int .i64 total, .slice ad len cap, .int .i64 many] w (fun e w' => Below w.heap.size w w' ∧ e = .returned (.tuple #[.int .i64 (fitO ((takenO total l).map freeL) many).1, errV 33 (fitO ((takenO total l).map freeL) many).2.toNat])) := by
  obtain ⟨iR, hiR, hzR, hsR, hbR⟩ := info_parts run_info
  have HT := Lib.hid (freeP total ad len cap l w ht h hp)
  have hlen : ∀ F, (takenO total l).map freeL = some F → F.length ≤ 4000 := by
    intro F h
    obtain ⟨t, h1, rfl⟩ := Option.map_eq_some_iff.1 h
    unfold takenO at h1
    split at h1
    · cases h1
    · have := (takeAll_some l total.toNat _ t (by simp) h1).2.2.2.1
      have := freeL_length t
      omega
  clear ht h hp
  generalize (takenO total l).map freeL = o at *
  cases o with
  | none =>
    clear hlen
    go_enter Tryz.func46, Tryz.ntmps46
    go_wp2_with fail
    refine HT.out.mono ?_
    rintro e w2 ⟨hb, rfl⟩
    rw [show errV 33 1 = .iface 33 (.int .i64 1) from rfl]
    go_wp2
    go_ret2
    exact ⟨hb, rfl⟩
  | some F =>
    have hF4 := hlen F rfl
    clear hlen
    by_cases hm : many < 1
    · have HZ : Hid (fitO (some F) many = (0, 1)) := by show fitO _ _ = _; unfold fitO; simp only; rw [if_pos hm]
      rw [HZ.out]
      go_enter Tryz.func46, Tryz.ntmps46
      go_wp2_with fail
      refine HT.out.mono ?_
      rintro e w2 ⟨hb, v, rfl, ho⟩
      clear HT
      go_wp2
      go_ret2
      exact ⟨hb, rfl⟩
    · have HZ : Hid (fitO (some F) many = fitL F many) := by show fitO _ _ = _; unfold fitO; simp only; rw [if_neg hm]
      rw [HZ.out]
      go_enter Tryz.func46, Tryz.ntmps46
      go_wp2_with fail
      refine HT.out.mono ?_
      rintro e w2 ⟨hb, v, rfl, ho⟩
      obtain ⟨ad2, cap2, rfl, _, hat⟩ := own_row ho
      have HAT := Lib.hid hat
      have HB := Lib.hid hb
      clear HT ho hat hb
      obtain ⟨n, hn⟩ : ∃ n, Hid (n = F.length) := ⟨_, rfl⟩
      rw [← hn.out] at hF4 ⊢
      go_wp2
      obtain ⟨wq, hwq⟩ : ∃ wq, wq = w2 := ⟨_, rfl⟩
      have HS : Hid (Below w2.heap.size w2 wq) := by rw [hwq]; exact Below.refl _ _
      rw [← hwq]
      clear hwq
      go_loopw [26] (fun i wr => ∃ k : Nat, k ≤ n ∧ i = .int .i64 k ∧ Hid (fitL F many = fitL (F.drop k) many) ∧ Hid (Below w2.heap.size w2 wr)) (fun i _ => n - (intOf i).toNat)
      case atStart => exact ⟨0, Nat.zero_le _, rfl, rfl, HS⟩
      case round =>
        obtain ⟨k, hk, rfl, hr, hbw⟩ := hrel
        by_cases hlt : (k : Int) < n
        · have hkF : k < F.length := by have := hn.out; omega
          have hk0 : (0 : Int) ≤ (k : Int) := Int.natCast_nonneg _
          obtain ⟨b, rfl, hbl, _, hrow2⟩ := HAT.out k hkF
          have hd : F.drop k = F[k] :: F.drop (k + 1) := List.drop_eq_getElem_cons hkF
          have HR : Hid (fitL F many = if many ≤ ((F[k].2 : Nat) : Int) then ((F[k].1 : Int), 0) else fitL (F.drop (k + 1)) many) := by show _ = _; rw [hr.out, hd]; rfl
          have hrow : wr.rangeAt b (0 + k * 2) (runN F[k]) := fun j u hu => by rw [hbw.out.cell (p := ⟨b, 0 + k * 2 + j, none⟩) hbl]; exact hrow2 j u hu
          clear hr hd hrow2
          generalize F[k] = x at *
          obtain ⟨a, m⟩ := x
          simp only at HR
          obtain ⟨g, hg⟩ : ∃ g, Hid (g = wr.heap.size) := ⟨_, rfl⟩
          go_upto_region 8 with (fail)
          refine wp_region_lit ?_
          iterate 1
            refine wpList_plain rfl fun K hK => ?_
            go_simp
            refine hK _ _ ?_
            clear hK K
          refine wpList_load_mid rfl 132 (.tmp 28) rfl b (0 + k * 2) (by simp; rfl) (runN (a, m)) _ hrow Tryz.underlying132 rfl (by kernel_rfl) ?_
          refine wpList_alloc_row rfl 132 rfl iR [.int .i64 0, .int .i64 0] hiR hzR ?_
          rw [← hg.out]
          have HN := Holds.new wr [.int .i64 0, .int .i64 0] 132
          have hk0' : Kept (fun _ => False) wr (wr.alloc (.cells [.int .i64 0, .int .i64 0].toArray 132)) := (Kept.refl _ _).alloc _
          rw [← hg.out] at HN
          generalize wr.alloc (.cells [.int .i64 0, .int .i64 0].toArray 132) = wx at HN hk0' ⊢
          refine wpList_store_mid rfl 132 (.tmp 11) (.tmp 29) rfl g 0 (runN (a, m)).toArray rfl rfl (HN.there 0 _ (by simp [runN])) (by kernel_rfl) (by simp [runN, Value.oneCell']) ?_
          have HN2 := Holds.setCells (runN (a, m)) 0 wx _ HN (by simp [runN])
          rw [lay_all _ _ (by simp [runN])] at HN2
          have hk1 : Kept (fun _ => False) wr (wx.setCells g 0 (runN (a, m))) := Kept.setCellsN (Nat.le_of_eq hg.out.symm) _ _ _ hk0'
          refine wpList_nil ?_
          change Exit.then _ _ _ _ (wx.setCells g 0 (runN (a, m)))
          generalize wx.setCells g 0 (runN (a, m)) = wy at HN2 hk1 ⊢
          have hbR := hk1.below (Nat.le_refl _) (fun _ hf => hf.elim)
          have HBY := Lib.hid (hbw.out.trans (hbR.mono hbw.out.size))
          have d0 := HN2.cell 0 (.int .i64 (a : Int)) rfl
          have d1 := HN2.cell 1 (.int .i64 (m : Int)) rfl
          clear HN hk0' hk1 HN2 hrow hbR hbw
          by_cases hx : many ≤ (m : Int)
          · have HRR : Hid (fitL F many = ((a : Int), 0)) := by show _ = _; rw [HR.out, if_pos hx]
            clear HR
            go_wp2
            go_ret2
            rw [HRR.out]
            exact ⟨HB.out.trans (HBY.out.mono HB.out.size), rfl⟩
          · have HRR : Hid (fitL F many = fitL (F.drop (k + 1)) many) := by show _ = _; rw [HR.out, if_neg hx]
            clear HR
            go_wp2
            go_roundw
            case rel => exact ⟨k + 1, by omega, by go_num, HRR, HBY⟩
            case measure => simp [intOf]; omega
        · have HRR : Hid (fitL F many = (0, 7)) := by show _ = _; rw [hr.out, List.drop_eq_nil_of_le (by have := hn.out; omega)]; rfl
          clear hr
          go_wp2
          go_ret2
          rw [HRR.out]
          exact ⟨HB.out.trans (hbw.out.mono HB.out.size), rfl⟩

end Go.Proofs.YtfbgagpihhbllaaGreatDoor
