/- Package space: Free. -/
import Derived.Test.YtcjomigngmmjkaaAsc
import Derived.WalkMore
import Derived.BigQuiet
namespace Go.Proofs.Ytcjomigngmmjkaa
open Go.RowKit Go.Proofs Go.Proofs.Pk
set_option maxRecDepth 10000
attribute [local simp] mk_get wrap64_u8 mk_extract ByteArray.mk_append_mk get_1k

theorem Runs.pop {w : World} {ad : Option Addr} {n : Nat} {x : Int × Int} {l : List (Int × Int)} (h : Runs w ad (n + 1) (x :: l)) :
    ∃ b off, ad = some ⟨b, off, none⟩ ∧ b < w.heap.size ∧ w.cell? ⟨b, off, none⟩ = some (.int .i64 x.1) ∧ w.cell? ⟨b, off + 1, none⟩ = some (.int .i64 x.2) ∧ Runs w (some ⟨b, off + 2, none⟩) n l := by
  have hl := h.1
  rcases h.2 with h0 | ⟨b, off, h1, h2, h3⟩
  · cases h0
  · have h4 := h3 0 (by simp)
    refine ⟨b, off, h1, h2, ?_, ?_, by simpa using hl, .inr ⟨b, off + 2, rfl, h2, fun i hi => ?_⟩⟩
    · have := h4.1 0 (.int .i64 x.1) rfl; simpa using this
    · have := h4.1 1 (.int .i64 x.2) rfl; simpa using this
    · have := h3 (i + 1) (by simpa using hi)
      rw [show off + 2 + i * 2 = off + (i + 1) * 2 from by omega]
      simpa using this

theorem owns_drewN {w : World} {B n : Nat} {e : TypeId} {size : Nat} {v : Value} {m : Nat} {xs : List Value} (h : w.ownsRow B e size v m xs) : (w.drewN n).ownsRow B e size v m xs :=
  owns_of_block h fun _ _ => by simp

/-- What the program's Free answers. -/
def FP (w : World) (o : Option (List (Nat × Nat))) (e : Ending) (w' : World) : Prop :=
  Below w.heap.size w w' ∧ match o with
    | none => e = .returned (.tuple #[.slice none 0 0, errV 47 1])
    | some l => ∃ v, e = .returned (.tuple #[v, .nilIface]) ∧ w'.ownsRow w.heap.size 32 2 v l.length (flatR l)

set_option maxHeartbeats 1000000 in
theorem freeP (total : Int) (ad : Option Addr) (len cap : Nat) (l : List (Int × Int)) (w : World) (ht : Fit total) (h : Runs w ad len l) (hp : Flat ad) :
    Calls Try.prog 9 #[.int .i64 total, .slice ad len cap] w (FP w ((takenO total l).map freeL)) := by
  obtain ⟨iR, hiR, hzR, hsR, hbR⟩ := info_parts run_info
  have HT := Lib.hid (ascP total ad len cap l w ht h hp)
  have hlen : ∀ t, takenO total l = some t → total = (total.toNat : Int) ∧ total ≤ 4000 ∧ t.length = total.toNat := by
    intro t h
    unfold takenO at h
    split at h
    · cases h
    · rename_i hb
      have := (takeAll_some l total.toNat _ t (by simp) h).2.2.2.1
      omega
  clear ht h hp
  generalize takenO total l = o at *
  cases o with
  | none =>
    clear hlen
    go_enter Try.func9, Try.ntmps9
    go_wp2
    go_step3
    go_wp2_with fail
    refine HT.out.mono ?_
    rintro e w2 ⟨hb, rfl⟩
    go_wp2
    rw [Exit.noGoto_ret]
    go_ret2
    exact ⟨hb, rfl⟩
  | some t =>
    obtain ⟨htl, ht4, htt⟩ := hlen t rfl
    clear hlen
    obtain ⟨N, hN⟩ : ∃ N, N = total.toNat := ⟨_, rfl⟩
    rw [← hN] at HT htl htt
    subst htl
    clear hN
    go_enter Try.func9, Try.ntmps9
    go_wp2
    go_step3
    go_wp2_with fail
    refine HT.out.mono ?_
    rintro e w2 ⟨hb, L, ad2, cap2, rfl, hS, hrow, hperm, hR, hcap⟩
    have HG : Hid (freeL t = gaps 0 N L) := by show _ = _; rw [hrow]; exact freeL_gaps L N hS
    have HGl : Hid ((gaps 0 N L).length ≤ 4000) := by
      show _ ≤ _
      rw [← HG.out]
      have := freeL_length t
      omega
    have HSo := Lib.hid hS
    have HBB := Lib.hid hb
    have HR := Lib.hid hR
    obtain ⟨M, hM⟩ : ∃ M, Hid (M = L.length) := ⟨_, rfl⟩
    rw [← hM.out] at hcap ⊢
    have HR0 : Hid (Runs w2 ad2 (M - 0) ((L.drop 0).map intR)) := by show Runs _ _ _ _; rw [hM.out]; exact HR.out
    clear HT hS hb hR hrow hperm htt HR
    go_wp2
    go_step3
    go_wp2
    obtain ⟨wq, hwq⟩ : ∃ wq, wq = w2 := ⟨_, rfl⟩
    have HS : Hid (Below w2.heap.size w2 wq) := by rw [hwq]; exact Below.refl _ _
    rw [← hwq]
    clear hwq
    go_loopw [6, 8, 9] (fun r f a wr => ∃ (j pos : Nat) (ad' : Option Addr) (c : Nat), j ≤ M ∧ M - j ≤ c ∧ r = .slice ad' ((M - j : Nat)) c ∧ a = .int .i64 pos ∧ Hid (∃ F, F ++ gaps pos N (L.drop j) = gaps 0 N L ∧ wr.ownsRow w2.heap.size 32 2 f F.length (flatR F)) ∧ Hid (Sorted' pos N (L.drop j)) ∧ Hid (Runs w2 ad' (M - j) ((L.drop j).map intR)) ∧ Hid (Below w2.heap.size w2 wr)) (fun _ _ a _ => N - (intOf a).toNat)
    case atStart => exact ⟨0, 0, ad2, cap2, Nat.zero_le _, by omega, by rfl, by rfl, ⟨[], rfl, World.ownsRow_nil _ _ _ _⟩, HSo, HR0, HS⟩
    case round =>
      obtain ⟨j, pos, ad3, c3, hj, hc, rfl, rfl, hF, hSo, hRn, hb⟩ := hrel
      have hpN : pos ≤ N := by
        have := hSo.out
        cases hd : L.drop j with
        | nil => rw [hd] at this; exact this
        | cons x l => rw [hd] at this; obtain ⟨h1, h2, h3, _⟩ := this; omega
      by_cases hlt : (pos : Int) < N
      · have hlt' : pos < N := by omega
        by_cases hjM : j < M
        · obtain ⟨m, hm⟩ : ∃ m, M - j = m + 1 := ⟨M - j - 1, by omega⟩
          have hjL : j < L.length := by have := hM.out; omega
          obtain ⟨x, hx⟩ : ∃ x, x = L[j] := ⟨_, rfl⟩
          have hdrop : L.drop j = x :: L.drop (j + 1) := by rw [List.drop_eq_getElem_cons hjL, ← hx]
          have hSo2 := hSo.out
          have hRn2 := hRn.out
          obtain ⟨F, hFg, hFo⟩ := hF.out
          rw [hdrop] at hSo2 hRn2 hFg
          rw [hm] at hRn2 hc ⊢
          obtain ⟨A, Q⟩ := x
          obtain ⟨h1, h2, h3, h4⟩ := hSo2
          simp only at h1 h2 h3 h4
          rw [List.map_cons] at hRn2
          obtain ⟨b, off, rfl, hbs, hc0, hc1, hR3⟩ := hRn2.pop
          simp only [intR] at hc0 hc1
          have d0 : wr.cell? ⟨b, off, none⟩ = some (.int .i64 (A : Int)) := by rw [hb.out.cell (p := ⟨b, off, none⟩) hbs]; exact hc0
          have d1 : wr.cell? ⟨b, off + 1, none⟩ = some (.int .i64 (Q : Int)) := by rw [hb.out.cell (p := ⟨b, off + 1, none⟩) hbs]; exact hc1
          have hFl : F.length ≤ 4000 := by
            have := HGl.out
            have h5 := congrArg List.length hFg
            rw [List.length_append] at h5
            omega
          have hw6 : IntKind.i64.wrap ((A : Int) + (Q : Int)) = ((A + Q : Nat) : Int) := by rw [IntWalk.i64_in _ (by omega)]; omega
          have HS4 := Lib.hid h4
          have HR3 : Hid (Runs w2 (some ⟨b, off + 2, none⟩) (M - (j + 1)) ((L.drop (j + 1)).map intR)) := by
            show Runs _ _ _ _
            rw [show M - (j + 1) = m from by omega]; exact hR3
          have hm2 : M - (j + 1) = m := by omega
          obtain ⟨k, hk⟩ : ∃ k, k = m + 1 := ⟨_, rfl⟩
          rw [← hk] at hc ⊢
          have hz0 : ¬k = 0 := by omega
          have hz : ¬(k : Int) = 0 := by omega
          have hz1 : (0 : Int) < (k : Int) := by omega
          have hz2 : (1 : Int) ≤ (k : Int) := by omega
          have hz3 : (k : Int) ≤ (c3 : Int) := by omega
          have HFo := Lib.hid hFo
          have HR4 : Hid (Runs w2 (if c3 = 1 then some ⟨b, off, none⟩ else some ⟨b, off + 2, none⟩) (M - (j + 1)) ((L.drop (j + 1)).map intR)) := by
            show Runs _ _ _ _
            split
            · have h0 : L.drop (j + 1) = [] := List.drop_eq_nil_of_le (by have := hM.out; omega)
              rw [h0]
              exact ⟨by rw [hm2]; simp; omega, .inl rfl⟩
            · exact HR3.out
          by_cases hgap : pos < A
          · have hFg2 : (F ++ [(pos, A - pos)]) ++ gaps (A + Q) N (L.drop (j + 1)) = gaps 0 N L := by
              rw [← hFg, gaps]; simp [hgap]
            have HFg := Lib.hid hFg2
            clear hdrop hSo hRn hF hRn2 hFg hFg2 hx h4 hR3 hFo
            obtain ⟨G, hG⟩ : ∃ G, A - pos = G := ⟨_, rfl⟩
            have hw7 : IntKind.i64.wrap ((A : Int) - (pos : Int)) = (G : Int) := by rw [IntWalk.i64_in _ (by omega)]; omega
            rw [hG] at HFg
            have hgap2 : (pos : Int) < (A : Int) := by omega
            go_upto_region 10 with (fail)
            refine wp_region_lit ?_
            iterate 9
              refine wpList_plain rfl fun K hK => ?_
              go_simp
              refine hK _ _ ?_
              clear hK K
            have HQ := Holds.new wr (runN (pos, G)) 32
            have HBd := hb.out.alloc hb.out.size (.cells (runN (pos, G)).toArray 32)
            have HOw := HFo.out.alloc (.cells (runN (pos, G)).toArray 32)
            have hcx := hb.out.cell (p := ⟨b, off, none⟩) hbs
            obtain ⟨q, hq⟩ : ∃ q, Hid (q = wr.heap.size) := ⟨_, rfl⟩
            refine wpList_buildSlice_row rfl 22 32 (.tmp 49) rfl iR _ (runN (pos, G)) Try.underlying22 hiR hzR (by rw [hsR]; rfl) (by simp [runN]) (by simp [runN]) (by rfl) ?_
            rw [← hq.out] at HQ ⊢
            generalize wr.alloc (.cells (runN (pos, G)).toArray 32) = wd at HQ HBd HOw ⊢
            refine wpList_append_at wd rfl (.tmp 41) (.tmp 50) 22 rfl w2.heap.size 32 iR _ 2 16 Try.underlying22 hiR hzR hsR hbR (by rfl) (by omega) _ F.length (flatR F) (by rfl) HOw
              ⟨q, 0, none⟩ 1 1 (runN (pos, G)) (by rfl) (by simp [runN]) (fun j u hj => by rw [add0]; exact HQ.cell j u hj) (by simp [runN, Value.oneCell']) (by unfold maxLen; omega) (by omega) HBd.size (by omega) ?_
            intro v' we ho2 hgr _
            have HB2 : Hid (Below w2.heap.size w2 we) := HBd.grown hgr HBd.size (own_low HOw)
            have HO2 : Hid (we.ownsRow w2.heap.size 32 2 v' (F ++ [(pos, G)]).length (flatR (F ++ [(pos, G)]))) := by
              show World.ownsRow _ _ _ _ _ _ _
              exact owns_len ho2 (by simp) (by simp [flatR])
            have d0 : we.cell? ⟨b, off, none⟩ = some (.int .i64 (A : Int)) := by rw [HB2.out.cell (p := ⟨b, off, none⟩) hbs]; exact hc0
            have d1 : we.cell? ⟨b, off + 1, none⟩ = some (.int .i64 (Q : Int)) := by rw [HB2.out.cell (p := ⟨b, off + 1, none⟩) hbs]; exact hc1
            clear ho2 hgr HQ HBd HOw hb hcx HFo
            go_wp2
            go_quiet (fail)
            go_wp2
            refine ⟨⟨j + 1, A + Q, _, c3 - 1, by omega, by omega, by rw [hm2], by go_num, ⟨_, HFg.out, owns_drewN HO2.out⟩, HS4, HR4, belowN HB2.out nq⟩, by simp [intOf]; omega⟩
          · have hAp : pos = A := by omega
            have hFg2 : F ++ gaps (A + Q) N (L.drop (j + 1)) = gaps 0 N L := by
              rw [← hFg, gaps]; simp [hgap]
            have HFg := Lib.hid hFg2
            have hng : ¬(pos : Int) < (A : Int) := by omega
            clear hdrop hSo hRn hF hRn2 hFg hFg2 hx h4 hR3 hc0 hc1 hFo
            go_wp2
            go_quiet (fail)
            go_wp2
            refine ⟨⟨j + 1, A + Q, _, c3 - 1, by omega, by omega, by rw [hm2], by go_num, ⟨F, HFg.out, owns_drewN HFo.out⟩, HS4, HR4, belowN hb.out nq⟩, by simp [intOf]; omega⟩
        · have hj : j = M := by omega
          have hk0 : M - j = 0 := by omega
          obtain ⟨F, hFg, hFo⟩ := hF.out
          have hd : L.drop j = [] := List.drop_eq_nil_of_le (by have := hM.out; omega)
          have hFg2 : F ++ [(pos, N - pos)] = freeL t := by
            rw [HG.out, ← hFg, hd, gaps, if_pos hlt']
          have hFl : F.length ≤ 4000 := by
            have := HGl.out
            have h5 := congrArg List.length hFg2
            rw [HG.out] at h5
            rw [List.length_append] at h5
            omega
          obtain ⟨G, hG⟩ : ∃ G, N - pos = G := ⟨_, rfl⟩
          have hw7 : IntKind.i64.wrap ((N : Int) - (pos : Int)) = (G : Int) := by rw [IntWalk.i64_in _ (by omega)]; omega
          rw [hG] at hFg2
          have HFg := Lib.hid hFg2
          have HFo := Lib.hid hFo
          rw [hk0]
          clear hF hSo hRn hd hFg hFg2 hFo hj hk0 hc
          go_upto_region 8 with (fail)
          refine wp_region_lit ?_
          iterate 6
            refine wpList_plain rfl fun K hK => ?_
            go_simp
            refine hK _ _ ?_
            clear hK K
          have HQ := Holds.new wr (runN (pos, G)) 32
          have HBd := hb.out.alloc hb.out.size (.cells (runN (pos, G)).toArray 32)
          have HOw := HFo.out.alloc (.cells (runN (pos, G)).toArray 32)
          obtain ⟨q, hq⟩ : ∃ q, Hid (q = wr.heap.size) := ⟨_, rfl⟩
          refine wpList_buildSlice_row rfl 22 32 (.tmp 31) rfl iR _ (runN (pos, G)) Try.underlying22 hiR hzR (by rw [hsR]; rfl) (by simp [runN]) (by simp [runN]) (by rfl) ?_
          rw [← hq.out] at HQ ⊢
          generalize wr.alloc (.cells (runN (pos, G)).toArray 32) = wd at HQ HBd HOw ⊢
          refine wpList_append_at wd rfl (.tmp 26) (.tmp 32) 22 rfl w2.heap.size 32 iR _ 2 16 Try.underlying22 hiR hzR hsR hbR (by rfl) (by omega) _ F.length (flatR F) (by rfl) HOw
            ⟨q, 0, none⟩ 1 1 (runN (pos, G)) (by rfl) (by simp [runN]) (fun j u hj => by rw [add0]; exact HQ.cell j u hj) (by simp [runN, Value.oneCell']) (by unfold maxLen; omega) (by omega) HBd.size (by omega) ?_
          intro v' we ho2 hgr _
          have HB2 : Hid (Below w2.heap.size w2 we) := HBd.grown hgr HBd.size (own_low HOw)
          have HO2 : Hid (we.ownsRow w2.heap.size 32 2 v' (F ++ [(pos, G)]).length (flatR (F ++ [(pos, G)]))) := by
            show World.ownsRow _ _ _ _ _ _ _
            exact owns_len ho2 (by simp) (by simp [flatR])
          clear ho2 hgr HQ HBd HOw HFo
          go_wp2
          go_ret2
          refine ⟨HBB.out.trans (HB2.out.mono HBB.out.size), _, by rfl, ?_⟩
          have := HO2.out
          rw [HFg.out] at this
          exact owns_base this HBB.out.size
      · have hp : pos = N := by omega
        subst hp
        have hd : L.drop j = [] := gaps_end _ _ hSo.out
        have HE : Hid (∃ F, F = freeL t ∧ wr.ownsRow w2.heap.size 32 2 u8 F.length (flatR F)) := by
          obtain ⟨F, h1, h2⟩ := hF.out
          refine ⟨F, ?_, h2⟩
          rw [hd, gaps, if_neg (by omega), List.append_nil] at h1
          rw [h1, HG.out]
        clear hF hSo hRn
        go_wp2
        go_ret2
        obtain ⟨F, rfl, h2⟩ := HE.out
        exact ⟨HBB.out.trans (hb.out.mono HBB.out.size), _, by rfl, owns_base h2 HBB.out.size⟩

end Go.Proofs.Ytcjomigngmmjkaa
