/- SpaceBack walked: what is given back is free again; the order of runs plays no part. -/
import Derived.Test.YtcjomigngmmjkaaSpcW
namespace Go.Proofs.Ytcjomigngmmjkaa
open Go.RowKit Go.Proofs Go.Proofs.Pk
set_option maxRecDepth 10000
attribute [local simp] mk_get wrap64_u8 mk_extract ByteArray.mk_append_mk get_1k

set_option maxHeartbeats 2000000 in
theorem sBack (T : Int) (ad : Option Addr) (len cap : Nat) (l : List (Int × Int)) (many : Int) (W : World) (hT : -9223372036854775808 ≤ T ∧ T ≤ 9223372036854775807) (hR : Runs W ad len l) (hF : Flat ad ∧ len ≤ cap ∧ (len : Int) * 16 ≤ 140737488351232) (hM : -9223372036854775808 ≤ many ∧ many ≤ 9223372036854775807) :
    Calls Try.prog 6 #[.int .i64 T, .slice ad len cap, .int .i64 many] W fun e w' => e = .returned (.bool true) ∧ Below W.heap.size W w' := by
  obtain ⟨iR, hiR, hzR, hsR, hbR⟩ := info_parts run_info
  have HX := Lib.hid (examples_any W)
  by_cases h0 : T < 0
  · have e0 : decide (T < 0) = true := by simpa using h0
    clear hR hF hM hT
    go_enter Try.func6, Try.ntmps6
    go_wp2_with fail
    refine HX.out.mono ?_
    rintro e w1 ⟨rfl, hb⟩
    go_wp2
    go_ret
    exact ⟨rfl, hb⟩
  · have e0 : decide (T < 0) = false := by simpa using h0
    by_cases h1 : 300 < T
    · have e1 : decide (300 < T) = true := by simpa using h1
      clear hR hF hM hT
      go_enter Try.func6, Try.ntmps6
      go_wp2_with fail
      refine HX.out.mono ?_
      rintro e w1 ⟨rfl, hb⟩
      go_wp2
      go_ret
      exact ⟨rfl, hb⟩
    · have e1 : decide (300 < T) = false := by simpa using h1
      have HR := Lib.hid hR
      have HF := Lib.hid hF
      obtain ⟨o, ho⟩ : ∃ o, Hid (o = takenO T l) := ⟨_, rfl⟩
      have HRt : Hid (∀ w, Below W.heap.size W w → Calls Try.prog 15 #[.int .i64 T, .slice ad len cap] w fun e w' => e = .returned (.bool o.isSome) ∧ Below w.heap.size w w') :=
        fun w hb => by rw [ho.out]; exact rightP T ad len cap l w hT (hR.below hb) hF.1
      clear hR hF
      cases o with
      | none =>
        go_enter Try.func6, Try.ntmps6
        go_wp2_with fail
        refine HX.out.mono ?_
        rintro e w1 ⟨rfl, hb⟩
        go_wp2_with fail
        refine (HRt.out w1 hb).mono ?_
        rintro e w2 ⟨rfl, hb2⟩
        go_wp2
        go_ret
        exact ⟨rfl, hb.trans (hb2.mono hb.size)⟩
      | some t =>
        by_cases hl0 : len = 0
        · subst hl0
          go_enter Try.func6, Try.ntmps6
          go_wp2_with fail
          refine HX.out.mono ?_
          rintro e w1 ⟨rfl, hb⟩
          go_wp2_with fail
          refine (HRt.out w1 hb).mono ?_
          rintro e w2 ⟨rfl, hb2⟩
          go_wp2
          go_ret
          exact ⟨rfl, hb.trans (hb2.mono hb.size)⟩
        · have hl0i : ¬(len : Int) = 0 := by omega
          obtain ⟨x, l', hxl⟩ := runs_sub HR.out hl0
          have hl200 : l.length ≤ 200 := by obtain ⟨N, _, _, h, _⟩ := takenO_some ho.out.symm; exact h
          have HXL := Lib.hid hxl
          clear hxl
          have hlen : len ≤ 200 := by have := HR.out.1; omega
          go_enter Try.func6, Try.ntmps6
          go_wp2_with fail
          refine HX.out.mono ?_
          rintro e w1 ⟨rfl, hb⟩
          have hdl : ((len : Int) == 0) = false := by simpa using hl0
          have HB := Lib.hid hb
          clear hb HX
          go_wp2_with fail
          refine (HRt.out w1 HB.out).mono ?_
          rintro e w2 ⟨rfl, hb2⟩
          have HB2 := Lib.hid (HB.out.trans (hb2.mono HB.out.size))
          clear hb2 HB HRt
          have hwl : IntKind.i64.wrap ((len : Int) - 1) = (len : Int) - 1 := IntWalk.i64_in _ (by omega)
          have HTT := Lib.hid hT
          have HMM := Lib.hid hM
          clear hT hM
          go_wp2
          obtain ⟨wq, hwq⟩ : ∃ wq, wq = w2 := ⟨_, rfl⟩
          have HS : Hid (Below W.heap.size W wq) := by rw [hwq]; exact HB2.out
          rw [← hwq]
          clear hwq HB2
          go_loopw [8, 9] (fun v i wr => ∃ j : Nat, j ≤ len ∧ i = .int .i64 ((j : Int) - 1) ∧ Hid (wr.ownsRow W.heap.size 32 2 v (len - j) ((l.reverse.take (len - j)).flatMap runV)) ∧ Hid (Below W.heap.size W wr)) (fun _ i _ => (intOf i + 1).toNat)
          case atStart => exact ⟨len, Nat.le_refl _, rfl, by show World.ownsRow _ _ _ _ _ _ _; rw [Nat.sub_self]; exact World.ownsRow_nil _ _ _ _, HS⟩
          case round =>
            obtain ⟨j, hj, rfl, ho2, hb⟩ := hrel
            by_cases hj0 : j = 0
            · subst hj0
              have hrev : ∀ r ∈ l.reverse, Fit r.1 ∧ Fit r.2 := fun r hr => HR.out.fit r (List.mem_reverse.1 hr)
              have ho4 : wr.ownsRow W.heap.size 32 2 u8 len (l.reverse.flatMap runV) := by
                have := ho2.out
                rw [Nat.sub_zero, List.take_of_length_le (by rw [List.length_reverse]; have := HR.out.1; omega)] at this
                exact this
              obtain ⟨_, ad2, cap2, rfl, hf2, _, hR2⟩ := own_runs ho4 hrev
              have HR2 := Lib.hid hR2
              have HF2 := Lib.hid hf2
              clear ho4 ho2 hf2 hR2 hrev
              obtain ⟨N, hTN, hN4, _, htk, _⟩ := takenO_some ho.out.symm
              have hx2 := HXL.out
              have hlx := HR.out.1
              rw [hx2] at htk hlx
              obtain ⟨t', ht'⟩ := takeAll_tail N x l' t htk
              have ht2 : takenO T l' = some t' := by rw [hTN, takenO_nat hN4 (by simp at hlx; omega)]; exact ht'
              have hs1 := room_sum ho.out.symm
              have hs2 := room_sum ht2
              have hg := (takeAll_some _ _ _ _ (by simp) htk).1 x (by simp)
              have hgn := hg.nat
              have hx0 : x.2 = ((natR x).2 : Int) := by unfold Go.Proofs.Pk.Good at hg; simp only [natR]; omega
              rw [hx2, List.map_cons, List.map_cons, List.sum_cons] at hs1
              have hsum : (roomL (freeL t') : Int) = (roomL (freeL t) : Int) + x.2 := by omega
              have hrl : (roomL (freeL t) : Int) ≤ T ∧ T ≤ 4000 ∧ x.2 ≤ T ∧ 0 ≤ x.2 ∧ 0 ≤ (roomL (freeL t') : Int) := by omega
              clear hs1 hs2 hg hgn hx0 ht' htk hTN hN4
              have hpop := HR.out
              rw [hx2] at hpop
              obtain ⟨hlp, b, off, rfl, hbl, c0, c1, hR3⟩ := hpop.pop'
              have hlc : len ≤ cap := HF.out.2.1
              have HR4 : Hid (Runs W (if cap = 1 then some ⟨b, off, none⟩ else some ⟨b, off + 2, none⟩) (len - 1) l') := by
                show Runs _ _ _ _
                split
                · have h5 := hR3.1
                  have h6 : l' = [] := List.length_eq_zero_iff.1 (by omega)
                  rw [h6]
                  exact ⟨by simp; omega, .inl rfl⟩
                · exact hR3
              have HFL : Hid (Flat (if cap = 1 then some ⟨b, off, none⟩ else some ⟨b, off + 2, none⟩)) := by
                show Flat _
                split <;> exact .inr ⟨_, _, rfl⟩
              obtain ⟨z, hz⟩ : ∃ z, Hid (z = fitO ((takenO T l).map freeL) many) := ⟨_, rfl⟩
              have HFT : Hid (∀ (w : World) (ad : Option Addr) (cap : Nat) (L : List (Int × Int)), Runs w ad len L → Flat ad → L.Perm l →
                  Calls Try.prog 11 #[.int .i64 T, .slice ad len cap, .int .i64 many] w fun e w' => Below w.heap.size w w' ∧ e = .returned (.tuple #[.int .i64 z.1, errV 47 z.2.toNat])) := by
                intro w ad cap L h1 h2 h3
                have := fitP T ad len cap L many w HTT.out h1 h2
                rw [takenO_perm h3, ← hz.out] at this
                exact this
              have HRM : Hid (∀ (w : World) (ad : Option Addr) (n cap : Nat), Runs w ad n l' → Flat ad → Calls Try.prog 13 #[.int .i64 T, .slice ad n cap] w fun e w' => Below w.heap.size w w' ∧ e = .returned (.tuple #[.int .i64 (roomL (freeL t') : Int), .nilIface])) := by
                intro w ad n cap h1 h2
                have := roomP T ad n cap l' w HTT.out h1 h2
                rw [ht2] at this
                exact this
              have HRL : Hid (∀ (w : World) (ad : Option Addr) (n cap : Nat), Runs w ad n l → Flat ad → Calls Try.prog 13 #[.int .i64 T, .slice ad n cap] w fun e w' => Below w.heap.size w w' ∧ e = .returned (.tuple #[.int .i64 (roomL (freeL t) : Int), .nilIface])) := by
                intro w ad n cap h1 h2
                have := roomP T ad n cap l w HTT.out h1 h2
                rw [← ho.out] at this
                exact this
              have hev := errV_form z.2.toNat
              generalize errV 47 z.2.toNat = ev at HFT hev
              generalize z.1 = z1 at HFT
              generalize (roomL (freeL t') : Int) = rm1 at *
              generalize (roomL (freeL t) : Int) = rm0 at *
              obtain ⟨x1, x2⟩ := x
              simp only at c0 c1 hsum hrl
              have HC1 := Lib.hid c1
              have HBL := Lib.hid hbl
              have hw5 : IntKind.i64.wrap (rm0 + x2) = rm1 := by rw [IntWalk.i64_in _ (by omega)]; omega
              clear hz ho ht2 hsum hrl hR3 hpop c0 c1 hbl hlx hx2
              go_wp2_with fail
              refine (HFT.out wr _ cap l (HR.out.below hb.out) (.inr ⟨_, _, rfl⟩) (List.Perm.refl _)).mono ?_
              rintro e w3 ⟨hb3, rfl⟩
              have HB3 := Lib.hid (hb.out.trans (hb3.mono hb.out.size))
              have HR3 := Lib.hid (HR2.out.below hb3)
              clear hb3 hb HR2
              go_wp2_with fail
              refine (HFT.out w3 _ cap2 l.reverse HR3.out HF2.out (List.reverse_perm l)).mono ?_
              rintro e w4 ⟨hb4, rfl⟩
              have HB4 := Lib.hid (HB3.out.trans (hb4.mono HB3.out.size))
              clear hb4 HB3 HR3
              by_cases hc1 : cap = 1
              all_goals
                go_wp2_with fail
                refine (HRM.out w4 _ _ _ (by have := HR4.out.below HB4.out; simpa [hc1] using this) (by have := HFL.out; simpa [hc1] using this)).mono ?_
                rintro e w5 ⟨hb5, rfl⟩
                have HB5 := Lib.hid (HB4.out.trans (hb5.mono HB4.out.size))
                clear hb5 HB4
                go_wp2_with fail
                refine (HRL.out w5 _ _ _ (HR.out.below HB5.out) (.inr ⟨_, _, rfl⟩)).mono ?_
                rintro e w6 ⟨hb6, rfl⟩
                have HB6 := Lib.hid (HB5.out.trans (hb6.mono HB5.out.size))
                have d1 : w6.cell? ⟨b, off + 1, none⟩ = some (.int .i64 x2) := by rw [HB6.out.cell (p := ⟨b, off + 1, none⟩) HBL.out]; exact HC1.out
                clear hb6 HB5
                rcases hev with rfl | ⟨c, rfl⟩
                all_goals
                  go_wp2
                  go_quiet (fail)
                  go_wp2
                  go_ret
                  exact ⟨rfl, belowN HB6.out _⟩
            · obtain ⟨m, rfl⟩ : ∃ m, j = m + 1 := ⟨j - 1, by omega⟩
              rw [show ((m + 1 : Nat) : Int) - 1 = (m : Int) from by omega]
              have hml : m < len := by omega
              obtain ⟨b, off, rfl, hbl, hrow, _, _⟩ := runs_at (HR.out.below hb.out) m hml
              have hm0 : (0 : Int) ≤ (m : Int) := Int.natCast_nonneg _
              have hmi : (m : Int) < (len : Int) := by omega
              have hll := HR.out.1
              have hmL : m < l.length := by omega
              obtain ⟨y, hy⟩ : ∃ y, y = l[m] := ⟨_, rfl⟩
              rw [← hy] at hrow
              have HTK : Hid (l.reverse.take (len - m) = l.reverse.take (len - (m + 1)) ++ [y]) := by
                show _ = _
                rw [show len - m = (len - (m + 1)) + 1 from by omega, List.take_succ_eq_append_getElem (by rw [List.length_reverse]; omega), List.getElem_reverse, hy]
                congr 3
                omega
              have hw9 : IntKind.i64.wrap ((m : Int) - 1) = (m : Int) - 1 := IntWalk.i64_in _ (by omega)
              obtain ⟨F, hF⟩ : ∃ F, Hid (F = l.reverse.take (len - (m + 1))) := ⟨_, rfl⟩
              rw [← hF.out] at ho2 HTK
              obtain ⟨k, hk⟩ : ∃ k, k = len - (m + 1) := ⟨_, rfl⟩
              have hk2 : len - m = k + 1 := by omega
              rw [← hk] at ho2
              have hk200 : k ≤ 200 := by omega
              clear hF hk hy hmL hll
              obtain ⟨y1, y2⟩ := y
              go_upto_region 8 with (fail)
              refine wp_region_lit ?_
              iterate 4
                refine wpList_plain rfl fun K hK => ?_
                go_simp
                refine hK _ _ ?_
                clear hK K
              refine wpList_load_mid rfl 32 (.tmp 47) rfl b (off + m * 2) rfl (runV (y1, y2)) _ hrow Try.underlying32 rfl (by kernel_rfl) ?_
              have HQ := Holds.new wr (runV (y1, y2)) 32
              have HBd := hb.out.alloc hb.out.size (.cells (runV (y1, y2)).toArray 32)
              have HOw := ho2.out.alloc (.cells (runV (y1, y2)).toArray 32)
              obtain ⟨q, hq⟩ : ∃ q, Hid (q = wr.heap.size) := ⟨_, rfl⟩
              refine wpList_buildSlice_row rfl 22 32 (.tmp 48) rfl iR _ (runV (y1, y2)) Try.underlying22 hiR hzR (by rw [hsR]; rfl) (by simp [runV]) (by simp [runV]) (by rfl) ?_
              rw [← hq.out] at HQ ⊢
              generalize wr.alloc (.cells (runV (y1, y2)).toArray 32) = wd at HQ HBd HOw ⊢
              refine wpList_append_at wd rfl (.tmp 44) (.tmp 49) 22 rfl W.heap.size 32 iR _ 2 16 Try.underlying22 hiR hzR hsR hbR (by rfl) (by omega) _ k (F.flatMap runV) (by rfl) HOw
                ⟨q, 0, none⟩ 1 1 (runV (y1, y2)) (by rfl) (by simp [runV]) (fun j u hj => by rw [add0]; exact HQ.cell j u hj) (by simp [runV, Value.oneCell']) (by unfold maxLen; omega) (by omega) HBd.size (by omega) ?_
              intro v' we ho3 hgr _
              have HB3 : Hid (Below W.heap.size W we) := HBd.grown hgr HBd.size (own_low HOw)
              have HO3 : Hid (we.ownsRow W.heap.size 32 2 v' (len - m) ((l.reverse.take (len - m)).flatMap runV)) := by
                show World.ownsRow _ _ _ _ _ _ _
                rw [HTK.out, hk2]; exact owns_len ho3 rfl (by simp)
              clear ho3 hgr HQ HBd HOw ho2 hrow HTK
              go_wp2
              go_roundw
              case rel => exact ⟨m, by omega, by go_num, HO3, HB3⟩
              case measure => simp [intOf]

end Go.Proofs.Ytcjomigngmmjkaa
