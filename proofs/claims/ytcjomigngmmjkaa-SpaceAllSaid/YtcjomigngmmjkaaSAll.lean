/- SpaceAll walked: what is free and what is used are all sectors, each once. -/
import Derived.Test.YtcjomigngmmjkaaSpcW
namespace Go.Proofs.Ytcjomigngmmjkaa
open Go.RowKit Go.Proofs Go.Proofs.Pk
set_option maxRecDepth 10000
attribute [local simp] mk_get wrap64_u8 mk_extract ByteArray.mk_append_mk get_1k

theorem int_infoA : (Try.prog.info? 3).map (fun i => (i.zero, i.size, i.bytes)) = some (some (.int .i64 0), 1, 8) := by kernel_rfl
theorem run_make_ints (m : Nat) (hm : m ≤ 4096) (w : World) : (Instr.makeSlice 42 (.int .i64 (m : Int)) (.int .i64 (m : Int))).run Try.prog w =
    .ok (.slice (some ⟨w.heap.size, 0, none⟩) m m) (w.alloc (.cells (List.replicate m (Value.int .i64 0)).toArray 3)) := by
  obtain ⟨i, hi, hz, hs, hb⟩ := info_parts int_infoA
  have := run_make (P := Try.prog) w 42 3 i _ Try.underlying42 hi hz .i64 .i64 m m (by omega) (Int.le_refl _) (by rw [hb]; omega) (by omega)
  rw [this, hs]
  simp only [Int.toNat_natCast, Value.cells, Nat.mul_one]
  rw [made_bools]
/-- How often each sector was seen. -/
def tally (u : List Bool) : List Value := u.map fun b => .int .i64 (if b then 1 else 0)
theorem tally_zero (N : Nat) : tally (List.replicate N false) = List.replicate N (.int .i64 0) := by unfold tally; rw [List.map_replicate]; rfl
theorem tally_at (u : List Bool) (k : Nat) (b : Bool) (h : u[k]? = some b) : (tally u)[k]? = some (.int .i64 (if b then 1 else 0)) := by unfold tally; rw [List.getElem?_map, h]; rfl
theorem tally_set (u : List Bool) (k : Nat) : (tally u).set k (.int .i64 1) = tally (u.set k true) := by unfold tally; rw [List.map_set]; rfl
theorem fit_intR {t : List Bool} (h : t.length ≤ 4000) : ∀ r ∈ (freeL t).map intR, Fit r.1 ∧ Fit r.2 := by
  intro r hr
  obtain ⟨x, hx, rfl⟩ := List.mem_map.1 hr
  have := freeL_in t x hx
  exact ⟨⟨by simp only [intR]; omega, by simp only [intR]; omega⟩, ⟨by simp only [intR]; omega, by simp only [intR]; omega⟩⟩
theorem flatR_intR (F : List (Nat × Nat)) : flatR F = (F.map intR).flatMap runV := by unfold flatR; rw [List.flatMap_map]; rfl

theorem fitL_cases (n : Int) : ∀ l : List (Nat × Nat), (∃ r ∈ l, n ≤ (r.2 : Int) ∧ fitL l n = ((r.1 : Int), 0)) ∨ fitL l n = (0, 7)
  | [] => .inr rfl
  | r :: l => by
    unfold fitL
    by_cases h : n ≤ (r.2 : Int)
    · rw [if_pos h]; exact .inl ⟨r, by simp, h, rfl⟩
    · rw [if_neg h]
      rcases fitL_cases n l with ⟨x, hx, h1, h2⟩ | h1
      · exact .inl ⟨x, by simp [hx], h1, h2⟩
      · exact .inr h1
theorem fitO_cases (F : List (Nat × Nat)) (many : Int) : (∃ r ∈ F, ∃ n : Nat, many = (n : Int) ∧ 1 ≤ n ∧ n ≤ r.2 ∧ fitO (some F) many = ((r.1 : Int), 0)) ∨ (∃ c : Nat, fitO (some F) many = (0, (c : Int)) ∧ errV 47 c = .iface 47 (.int .i64 (c : Int))) := by
  unfold fitO
  simp only
  by_cases h : many < 1
  · rw [if_pos h]; exact .inr ⟨1, rfl, rfl⟩
  · rw [if_neg h]
    rcases fitL_cases many F with ⟨r, hr, h1, h2⟩ | h1
    · obtain ⟨n, rfl⟩ := Int.eq_ofNat_of_zero_le (show 0 ≤ many by omega)
      exact .inl ⟨r, hr, n, rfl, by omega, by omega, h2⟩
    · exact .inr ⟨7, h1, rfl⟩

set_option maxHeartbeats 1000000 in
theorem sAll (T : Int) (ad : Option Addr) (len cap : Nat) (l : List (Int × Int)) (many : Int) (W : World) (hT : -9223372036854775808 ≤ T ∧ T ≤ 9223372036854775807) (hR : Runs W ad len l) (hF : Flat ad ∧ len ≤ cap ∧ (len : Int) * 16 ≤ 140737488351232 ∧ (ad = none → cap = 0)) (hM : -9223372036854775808 ≤ many ∧ many ≤ 9223372036854775807) :
    Calls Try.prog 4 #[.int .i64 T, .slice ad len cap, .int .i64 many] W fun e w' => e = .returned (.bool true) ∧ Below W.heap.size W w' := by
  have HX := Lib.hid (examples_any W)
  by_cases h0 : T < 0
  · have e0 : decide (T < 0) = true := by simpa using h0
    clear hR hF hM hT
    go_enter Try.func4, Try.ntmps4
    go_wp2_with fail
    refine HX.out.mono ?_
    rintro e w1 ⟨rfl, hb⟩
    go_wp2
    go_ret
    exact ⟨rfl, hb⟩
  · have e0 : decide (T < 0) = false := by simpa using h0
    by_cases h1 : 200 < T
    · have e1 : decide (200 < T) = true := by simpa using h1
      clear hR hF hM hT
      go_enter Try.func4, Try.ntmps4
      go_wp2_with fail
      refine HX.out.mono ?_
      rintro e w1 ⟨rfl, hb⟩
      go_wp2
      go_ret
      exact ⟨rfl, hb⟩
    · have e1 : decide (200 < T) = false := by simpa using h1
      have HR := Lib.hid hR
      have HF := Lib.hid hF
      obtain ⟨o, ho⟩ : ∃ o, Hid (o = takenO T l) := ⟨_, rfl⟩
      have HRt : Hid (∀ w, Below W.heap.size W w → Calls Try.prog 15 #[.int .i64 T, .slice ad len cap] w fun e w' => e = .returned (.bool o.isSome) ∧ Below w.heap.size w w') :=
        fun w hb => by rw [ho.out]; exact rightP T ad len cap l w hT (hR.below hb) hF.1
      clear hR hF
      cases o with
      | none =>
        go_enter Try.func4, Try.ntmps4
        go_wp2_with fail
        refine HX.out.mono ?_
        rintro e w1 ⟨rfl, hb⟩
        go_wp2_with fail
        refine (HRt.out w1 hb).mono ?_
        rintro e w2 ⟨rfl, hb2⟩
        go_wp2
        go_ret
        exact ⟨rfl, hb.trans (hb2.mono hb.size)⟩
      | some t =>
        obtain ⟨N, rfl⟩ := Int.eq_ofNat_of_zero_le (show 0 ≤ T by omega)
        have hN : N ≤ 200 := by omega
        have hl200 : l.length ≤ 200 := by obtain ⟨N, _, _, h, _⟩ := takenO_some ho.out.symm; exact h
        have htk : takeAll N l (List.replicate N false) = some t := by rw [← takenO_nat (by omega) hl200]; exact ho.out.symm
        have htl : t.length = N := (takeAll_some _ _ _ _ (by simp) htk).2.2.2.1
        have HTK := Lib.hid htk
        have HTL := Lib.hid htl
        have hmn := taken_many N l t htk
        have hFlen := freeL_length t
        have hlen : len ≤ 200 := by have := HR.out.1; omega
        have HALL : Hid (takeAll N (l ++ (freeL t).map intR) (List.replicate N false) = some (List.replicate N true)) := by
          show _ = _
          rw [takeAll_append, htk, Option.bind_some]
          have := take_free t
          rwa [htl] at this
        have HTT := Lib.hid hT
        have HMM := Lib.hid hM
        have hF200 : (freeL t).length ≤ 200 := by omega
        clear htk htl hmn hFlen hT hM
        go_enter Try.func4, Try.ntmps4
        go_wp2_with fail
        refine HX.out.mono ?_
        rintro e w1 ⟨rfl, hb⟩
        have HB := Lib.hid hb
        clear hb HX
        go_wp2_with fail
        refine (HRt.out w1 HB.out).mono ?_
        rintro e w2 ⟨rfl, hb2⟩
        have hmk := run_make_ints N (by omega) w2
        have HS0 := Holds.new w2 (List.replicate N (Value.int .i64 0)) 3
        have hb3 := (HB.out.trans (hb2.mono HB.out.size)).alloc (HB.out.trans (hb2.mono HB.out.size)).size (.cells (List.replicate N (Value.int .i64 0)).toArray 3)
        obtain ⟨gs, hgs⟩ : ∃ gs, Hid (gs = w2.heap.size) := ⟨_, rfl⟩
        have hgW : W.heap.size ≤ gs := by rw [hgs.out]; exact (HB.out.trans (hb2.mono HB.out.size)).size
        rw [← hgs.out] at hmk HS0
        have hgl : gs < (w2.alloc (.cells (List.replicate N (Value.int .i64 0)).toArray 3)).heap.size := HS0.lt
        generalize w2.alloc (.cells (List.replicate N (Value.int .i64 0)).toArray 3) = w3 at hmk HS0 hb3 hgl
        rw [← tally_zero] at HS0
        have HS3 := Lib.hid HS0
        have HB3 := Lib.hid hb3
        have HGW := Lib.hid hgW
        have HGL := Lib.hid hgl
        clear HS0 hb3 hgW hgl hb2 HB HRt
        go_wp2_with fail
        have hfr := freeP (N : Int) ad len cap l w3 HTT.out (HR.out.below HB3.out) HF.out.1
        rw [← ho.out] at hfr
        refine hfr.mono ?_
        rintro e w4 ⟨hb4, v, rfl, hv⟩
        rw [flatR_intR] at hv
        obtain ⟨_, adf, capf, rfl, hff, _, hRf⟩ := own_runs hv (fit_intR (by have := HTL.out; omega))
        have hnf := own_nil hv
        have HB4 := Lib.hid (HB3.out.trans (hb4.mono HB3.out.size))
        have HS4 := Lib.hid (HS3.out.of_block (hb4.block gs HGL.out))
        have HG4 : Hid (gs < w4.heap.size) := Nat.lt_of_lt_of_le HGL.out hb4.size
        have HRF := Lib.hid hRf
        have HFF := Lib.hid hff
        have HNF := Lib.hid hnf
        clear hfr hb4 hv hff hnf hRf HB3 HS3 HGL hmk
        obtain ⟨n, hn⟩ : ∃ n, Hid (n = (freeL t).length) := ⟨_, rfl⟩
        rw [← hn.out] at HRF hF200 ⊢
        go_upto_region 6 with (fail)
        refine wp_region_lit ?_
        refine wpList_plain rfl fun K hK => ?_
        go_simp
        refine hK _ _ ?_
        clear hK K
        refine wpList_append_runs w4 rfl (.const (.slice none 0 0)) (.tmp 39) rfl w4.heap.size _ 0 [] l (by rfl) (World.ownsRow_nil _ _ _ _) ad len cap (by rfl) (HR.out.below HB4.out) HF.out.1 HF.out.2.2.2 (by unfold maxLen; omega) (by omega) (Nat.le_refl _) ?_
        intro v5 w5 ho5 hgr5
        rw [List.nil_append, Nat.zero_add] at ho5
        have hb5 : Below w4.heap.size w4 w5 := (Below.refl _ _).grown hgr5 (Nat.le_refl _) (fun k hk => by cases hk)
        refine wpList_plain rfl fun K hK => ?_
        go_simp
        refine hK _ _ ?_
        clear hK K
        refine wpList_append_runs w5 rfl (.tmp 40) (.tmp 41) rfl w4.heap.size _ len l ((freeL t).map intR) (by rfl) ho5 adf n capf (by rfl) (HRF.out.below hb5) HFF.out HNF.out (by unfold maxLen; omega) (by omega) hb5.size ?_
        intro v6 w6 ho6 hgr6
        have hb6 : Below w4.heap.size w4 w6 := hb5.grown hgr6 hb5.size (own_low ho5)
        obtain ⟨L, hL⟩ : ∃ L, Hid (L = l ++ (freeL t).map intR) := ⟨_, rfl⟩
        rw [← hL.out] at ho6 HALL
        have hLf : ∀ r ∈ L, Fit r.1 ∧ Fit r.2 := by
          intro r hr
          rw [hL.out] at hr
          rcases List.mem_append.1 hr with hr | hr
          · exact HR.out.fit r hr
          · exact fit_intR (by have := HTL.out; omega) r hr
        obtain ⟨hLl, ad6, cap6, rfl, _, _, hR6⟩ := own_runs ho6 hLf
        have hbase := own_base ho6
        obtain ⟨M, hM⟩ : ∃ M, len + n = M := ⟨_, rfl⟩
        rw [hM] at hR6 hLl
        rw [hM]
        have hM400 : M ≤ 400 := by omega
        have HR6 : Hid (∀ w', Kept (fun k => k = gs) w6 w' → Runs w' ad6 M L) := fun w' h => hR6.kept h (fun b off h1 h2 => by have h3 := hbase b off h1; have h4 := HG4.out; omega)
        have HBK : Hid (∀ w', Kept (fun k => k = gs) w6 w' → Below W.heap.size W w') := fun w' h =>
          (HB4.out.trans (hb6.mono HB4.out.size)).trans (h.below (Nat.le_trans HB4.out.size hb6.size) (fun k hk => by rw [hk]; exact HGW.out))
        have HS6 := Lib.hid (HS4.out.of_block (hb6.block gs HG4.out))
        have HLl := Lib.hid hLl
        clear ho6 hgr6 hb6 ho5 hgr5 hb5 hLf hLl hR6 hbase hM HS4
        go_wp2
        obtain ⟨wq, hwq⟩ : ∃ wq, wq = w6 := ⟨_, rfl⟩
        have HK0 : Hid (Kept (fun k => k = gs) w6 wq) := by rw [hwq]; exact Kept.refl _ _
        have HS7 : Hid (∃ u : List Bool, Holds wq gs (tally u) 3 ∧ u.length = N ∧ takeAll N (L.drop 0) u = some (List.replicate N true)) := by
          rw [hwq]; exact ⟨_, HS6.out, by simp, HALL.out⟩
        rw [← hwq]
        clear hwq HS6
        go_loopw [12] (fun i wr => ∃ j : Nat, j ≤ M ∧ i = .int .i64 j ∧ Hid (∃ u : List Bool, Holds wr gs (tally u) 3 ∧ u.length = N ∧ takeAll N (L.drop j) u = some (List.replicate N true)) ∧ Hid (Kept (fun k => k = gs) w6 wr)) (fun i _ => M - (intOf i).toNat)
        case atStart => exact ⟨0, Nat.zero_le _, rfl, HS7, HK0⟩
        case round =>
          obtain ⟨j, hj, rfl, hu, hk⟩ := hrel
          by_cases hlt : (j : Int) < M
          · have hjM : j < M := by omega
            obtain ⟨b, off, rfl, hbl, hrow, hfx⟩ := runs_at (HR6.out _ hk.out) j hjM
            clear hfx hbl
            have hjL : j < L.length := by have := HLl.out; omega
            have hdrop : L.drop j = L[j] :: L.drop (j + 1) := List.drop_eq_getElem_cons hjL
            obtain ⟨u, hH, hul, hut⟩ := hu.out
            rw [hdrop, takeAll] at hut
            generalize L[j] = x at hrow hut
            obtain ⟨a, m⟩ := x
            split at hut
            · rename_i hg
              obtain ⟨u1, hmu, htu⟩ := Option.bind_eq_some_iff.1 hut
              have hgn := hg.nat
              unfold Go.Proofs.Pk.Good at hg
              simp only at hg
              obtain ⟨A, rfl⟩ := Int.eq_ofNat_of_zero_le (show 0 ≤ a by omega)
              obtain ⟨Q, rfl⟩ := Int.eq_ofNat_of_zero_le (show 0 ≤ m by omega)
              simp only [natR, Int.toNat_natCast] at hmu hgn
              obtain ⟨_, hu1l, _⟩ := mark_some _ _ _ _ (by omega) hmu
              have HU1 : Hid (u1.length = N ∧ takeAll N (L.drop (j + 1)) u1 = some (List.replicate N true)) := ⟨by omega, htu⟩
              have d0 : wr.cell? ⟨b, off + j * 2, none⟩ = some (.int .i64 (A : Int)) := hrow 0 _ rfl
              have HV0 : Hid (∃ u' : List Bool, Holds wr gs (tally u') 3 ∧ u'.length = N ∧ Go.Proofs.Pk.mark u' (A + 0) (Q - 0) = some u1) := ⟨u, hH, hul, by simpa using hmu⟩
              have HCL : Hid (∀ w', Kept (fun k => k = gs) w6 w' → w'.cell? ⟨b, off + j * 2, none⟩ = some (.int .i64 (A : Int)) ∧ w'.cell? ⟨b, off + j * 2 + 1, none⟩ = some (.int .i64 (Q : Int))) := by
                intro w' hk'
                obtain ⟨b', off', he, _, hr', _⟩ := runs_at (HR6.out _ hk') j hjM
                cases he
                have hLj : L[j] = ((A : Int), (Q : Int)) := by
                  have h1 := hrow 0 (.int .i64 (A : Int)) rfl
                  have h2 := hrow 1 (.int .i64 (Q : Int)) rfl
                  obtain ⟨b'', off'', he, _, hr'', _⟩ := runs_at (HR6.out _ hk.out) j hjM
                  cases he
                  have h3 := hr'' 0 _ rfl
                  have h4 := hr'' 1 _ rfl
                  rw [h1] at h3
                  rw [h2] at h4
                  injection h3 with h3
                  injection h4 with h4
                  injection h3 with _ h3
                  injection h4 with _ h4
                  rw [h3, h4]
                rw [hLj] at hr'
                exact ⟨hr' 0 _ rfl, hr' 1 _ rfl⟩
              have hj0 : (0 : Int) ≤ (j : Int) := Int.natCast_nonneg _
              have hwj : IntKind.i64.wrap ((j : Int) + 1) = ((j + 1 : Nat) : Int) := by rw [IntWalk.i64_in _ (by omega)]; omega
              have hwAQ : IntKind.i64.wrap ((A : Int) + (Q : Int)) = (A : Int) + (Q : Int) := IntWalk.i64_in _ (by omega)
              have hAQ : A + Q ≤ N := by omega
              clear hg hgn hmu htu hu1l hut hH hul hu hdrop hrow hjL
              go_wp2
              have HKO := hk
              obtain ⟨wo, hwo⟩ : ∃ wo, wo = wr := ⟨_, rfl⟩
              rw [← hwo] at HKO HV0 ⊢
              clear hk d0 hwo
              clear wr
              go_loopw [13] (fun k wr => ∃ m : Nat, m ≤ Q ∧ k = .int .i64 ((A + m : Nat) : Int) ∧ Hid (∃ u' : List Bool, Holds wr gs (tally u') 3 ∧ u'.length = N ∧ Go.Proofs.Pk.mark u' (A + m) (Q - m) = some u1) ∧ Hid (Kept (fun k => k = gs) w6 wr)) (fun k _ => A + Q - (intOf k).toNat)
              case atStart => exact ⟨0, Nat.zero_le _, rfl, HV0, HKO⟩
              case round =>
                obtain ⟨m, hm, rfl, hv, hk⟩ := hrel
                obtain ⟨d0, d1⟩ := HCL.out _ hk.out
                obtain ⟨u', hH, hul, hmu⟩ := hv.out
                by_cases hlt2 : ((A + m : Nat) : Int) < (A : Int) + (Q : Int)
                · have hmQ : m < Q := by omega
                  obtain ⟨b0, hb0⟩ : ∃ b0, u'[A + m]? = some b0 := ⟨u'[A + m]'(by omega), List.getElem?_eq_getElem (by omega)⟩
                  have hgd : u'.getD (A + m) false = b0 := by rw [List.getD, hb0]; rfl
                  rw [show Q - m = (Q - (m + 1)) + 1 from by omega, Go.Proofs.Pk.mark, hgd] at hmu
                  cases b0 with
                  | true => rw [if_pos rfl] at hmu; cases hmu
                  | false =>
                    rw [if_neg (by decide)] at hmu
                    have c0 : wr.cell? ⟨gs, A + m, none⟩ = some (.int .i64 0) := hH.cell (A + m) _ (tally_at u' (A + m) false hb0)
                    have f0 := hH.free (A + m)
                    have hNN : ((A + m : Nat) : Int) < (N : Int) := by omega
                    have hNN2 : ¬((N : Int) ≤ ((A + m : Nat) : Int)) := by omega
                    have hK0 : (0 : Int) ≤ ((A + m : Nat) : Int) := Int.natCast_nonneg _
                    have hw7 : IntKind.i64.wrap (((A + m : Nat) : Int) + 1) = ((A + (m + 1) : Nat) : Int) := by rw [IntWalk.i64_in _ (by omega)]; omega
                    have HH := Lib.hid hH
                    have HUL := Lib.hid hul
                    have HMU := Lib.hid hmu
                    clear hH hul hmu hb0 hgd hv
                    generalize hKK : A + m = K at *
                    go_upto_region 11 with (fail)
                    go_quiet (fail)
                    go_wp2
                    refine ⟨⟨m + 1, by omega, by first | go_num | (congr 1; omega), ⟨u'.set K true, ?_, by rw [List.length_set]; exact HUL.out, by rw [← Nat.add_assoc, hKK]; exact HMU.out⟩, (hk.out.drewN nq).setCell (p := ⟨gs, K, none⟩) rfl _⟩, by simp [intOf]; omega⟩
                    have h5 := (HH.out.of_block (w' := wr.drewN nq) (by simp)).set K (.int .i64 1)
                    rw [tally_set] at h5
                    exact h5
                · obtain rfl : m = Q := by omega
                  have HE : Hid (u' = u1) := by rw [Nat.sub_self, Go.Proofs.Pk.mark] at hmu; exact Option.some.inj hmu
                  have HH := Lib.hid hH
                  clear hH hmu hul hv
                  go_upto_region 11 with (fail)
                  go_quiet (fail)
                  go_wp2
                  refine ⟨⟨j + 1, by omega, by go_num, ⟨u1, ?_, HU1.out.1, HU1.out.2⟩, hk.out.drewN nq⟩, by simp [intOf]; omega⟩
                  rw [← HE.out]
                  exact HH.out.of_block (by simp)
            · cases hut
          · have hjM : j = M := by omega
            obtain ⟨u, hH, _, hut⟩ := hu.out
            rw [List.drop_eq_nil_of_le (by have := HLl.out; omega), takeAll] at hut
            obtain rfl := Option.some.inj hut
            have HH := Lib.hid hH
            have HBE := Lib.hid (HBK.out _ hk.out)
            clear hH hut hu hk HR6 HBK HLl HALL HRF HFF HNF HB4 HG4 hL
            clear HS7 HK0
            go_wp2
            obtain ⟨wx, hwx⟩ : ∃ wx, wx = wr := ⟨_, rfl⟩
            rw [← hwx] at HH HBE ⊢
            clear hwx
            clear wr
            go_loopw [14] (fun i wr => ∃ q : Nat, q ≤ N ∧ i = .int .i64 q ∧ Hid (wr = wx)) (fun i _ => N - (intOf i).toNat)
            case atStart => exact ⟨0, Nat.zero_le _, rfl, rfl⟩
            case round =>
              obtain ⟨q, hq, rfl, hww⟩ := hrel
              obtain rfl := hww.out
              clear hww
              by_cases hqN : (q : Int) < N
              · have c0 : wr.cell? ⟨gs, q, none⟩ = some (.int .i64 1) := HH.out.cell q _ (tally_at _ q true (by rw [List.getElem?_replicate, if_pos (by omega)]))
                have hq0 : (0 : Int) ≤ (q : Int) := Int.natCast_nonneg _
                have hwq : IntKind.i64.wrap ((q : Int) + 1) = ((q + 1 : Nat) : Int) := by rw [IntWalk.i64_in _ (by omega)]; omega
                go_wp2
                go_roundw
                case rel => exact ⟨q + 1, by omega, by go_num, (by first | exact rfl | exact Lib.hid trivial)⟩
                case measure => simp [intOf]; omega
              · have hft := fitP (N : Int) ad len cap l many wr HTT.out (HR.out.below HBE.out) HF.out.1
                rw [← ho.out, Option.map_some] at hft
                rcases fitO_cases (freeL t) many with ⟨r, hr, n2, rfl, hn1, hn2, hz⟩ | ⟨c, hz, hc⟩
                · rw [hz] at hft
                  simp only [show errV 47 ((0 : Int).toNat) = .nilIface from rfl] at hft
                  obtain ⟨t', ht'⟩ := take_chosen N l t HTK.out r hr n2 hn1 hn2
                  have hin := freeL_in t r hr
                  have hcnt := taken_many N l t HTK.out
                  have hpos : 0 < t.count false := by
                    have h1 := freeL_holds t r.1 ⟨r, hr, Nat.le_refl _, by omega⟩
                    exact List.count_pos_iff.2 (List.mem_of_getElem? h1)
                  have hlr := HR.out.1
                  have HT2 : Hid (takenO (N : Int) (l ++ [((r.1 : Int), (n2 : Int))]) = some t') := by
                    show _ = _
                    rw [takenO_nat (by omega) (by simp; omega)]; exact ht'
                  have HFI : Hid (∀ x ∈ l ++ [((r.1 : Int), (n2 : Int))], Fit x.1 ∧ Fit x.2) := by
                    intro x hx
                    rcases List.mem_append.1 hx with hx | hx
                    · exact HR.out.fit x hx
                    · rw [List.mem_singleton.1 hx]
                      have := HTL.out
                      constructor
                      · show Fit (r.1 : Int); exact ⟨by omega, by omega⟩
                      · show Fit (n2 : Int); exact ⟨by omega, by omega⟩
                  generalize r.1 = r1 at *
                  clear hz hin hcnt hpos ht' hr hlr hn2
                  go_wp2_with fail
                  refine hft.mono ?_
                  rintro e w9 ⟨hb9, rfl⟩
                  have HB9 := Lib.hid (HBE.out.trans (hb9.mono HBE.out.size))
                  clear hft hb9 HBE HH
                  obtain ⟨iR, hiR, hzR, hsR, hbR⟩ := info_parts run_info
                  go_upto_region 24 with (fail)
                  refine wp_region_lit ?_
                  iterate 8
                    refine wpList_unguard rfl ?_
                    refine wpList_plain rfl fun K hK => ?_
                    go_simp
                    refine hK _ _ ?_
                    clear hK K
                  refine wpList_unguard rfl ?_
                  refine wpList_append_runs w9 rfl (.const (.slice none 0 0)) (.tmp 113) rfl w9.heap.size _ 0 [] l (by rfl) (World.ownsRow_nil _ _ _ _) ad len cap (by rfl) (HR.out.below HB9.out) HF.out.1 HF.out.2.2.2 (by unfold maxLen; omega) (by omega) (Nat.le_refl _) ?_
                  intro va wa hoa hgra
                  rw [List.nil_append, Nat.zero_add] at hoa
                  have hba : Below w9.heap.size w9 wa := (Below.refl _ _).grown hgra (Nat.le_refl _) (fun k hk => by cases hk)
                  iterate 3
                    refine wpList_unguard rfl ?_
                    refine wpList_plain rfl fun K hK => ?_
                    go_simp
                    refine hK _ _ ?_
                    clear hK K
                  have HQ := Holds.new wa (runV ((r1 : Int), (n2 : Int))) 32
                  have HBd := hba.alloc hba.size (.cells (runV ((r1 : Int), (n2 : Int))).toArray 32)
                  have HOw := hoa.alloc (.cells (runV ((r1 : Int), (n2 : Int))).toArray 32)
                  obtain ⟨g, hg⟩ : ∃ g, Hid (g = wa.heap.size) := ⟨_, rfl⟩
                  refine wpList_unguard rfl ?_
                  refine wpList_buildSlice_row rfl 22 32 (.tmp 117) rfl iR _ (runV ((r1 : Int), (n2 : Int))) Try.underlying22 hiR hzR (by rw [hsR]; rfl) (by simp [runV]) (by simp [runV]) (by rfl) ?_
                  rw [← hg.out] at HQ ⊢
                  generalize wa.alloc (.cells (runV ((r1 : Int), (n2 : Int))).toArray 32) = wd at HQ HBd HOw ⊢
                  refine wpList_unguard rfl ?_
                  refine wpList_append_at wd rfl (.tmp 114) (.tmp 118) 22 rfl w9.heap.size 32 iR _ 2 16 Try.underlying22 hiR hzR hsR hbR (by rfl) (by omega) _ len (l.flatMap runV) (by rfl) HOw
                    ⟨g, 0, none⟩ 1 1 (runV ((r1 : Int), (n2 : Int))) (by rfl) (by simp [runV]) (fun j u hj => by rw [add0]; exact HQ.cell j u hj) (by simp [runV, Value.oneCell']) (by unfold maxLen; omega) (by omega) HBd.size (by omega) ?_
                  intro vb we hob hgrb _
                  have hbe : Below w9.heap.size w9 we := HBd.grown hgrb HBd.size (own_low HOw)
                  have hoc : we.ownsRow w9.heap.size 32 2 vb (len + 1) ((l ++ [((r1 : Int), (n2 : Int))]).flatMap runV) := owns_len hob rfl (by simp)
                  obtain ⟨_, ade, cape, rfl, hfe, _, hRe⟩ := own_runs hoc HFI.out
                  have HBE2 := Lib.hid (HB9.out.trans (hbe.mono HB9.out.size))
                  have HRE := Lib.hid hRe
                  have HFE := Lib.hid hfe
                  clear hob hgrb hoc hfe hRe hbe HQ HBd HOw hoa hgra hba
                  go_wp2_with fail
                  have hri := rightP (N : Int) ade (len + 1) cape _ we HTT.out HRE.out HFE.out
                  rw [HT2.out] at hri
                  refine hri.mono ?_
                  rintro e wz ⟨rfl, hbz⟩
                  go_wp2
                  go_ret
                  exact ⟨rfl, HBE2.out.trans (hbz.mono HBE2.out.size)⟩
                · rw [hz] at hft
                  simp only [Int.toNat_natCast, hc] at hft
                  clear hz
                  go_wp2_with fail
                  refine hft.mono ?_
                  rintro e w9 ⟨hb9, rfl⟩
                  have HB9 := Lib.hid (HBE.out.trans (hb9.mono HBE.out.size))
                  clear hft
                  go_wp2
                  go_ret
                  exact ⟨rfl, HB9.out⟩

end Go.Proofs.Ytcjomigngmmjkaa
