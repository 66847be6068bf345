/- The reference of layer 5: which sectors are taken. -/
import Derived.Test.YtbfdhonmmoikdaaSpcT
import Derived.Test.YtbfdhonmmoikdaaMid
import Derived.Test.YtbfdhonmmoikdaaProg
import Derived.Laws.MakeOwn
import Derived.Deep.Cut
namespace Go.Proofs.Ytbfdhonmmoikdaa
open Go.RowKit Go.Proofs Go.Proofs.Pk
set_option maxRecDepth 10000
attribute [local simp] mk_get wrap64_u8 mk_extract ByteArray.mk_append_mk get_1k

def runV (r : Int × Int) : List Value := [.int .i64 r.1, .int .i64 r.2]
def Fit (n : Int) : Prop := -9223372036854775808 ≤ n ∧ n ≤ 9223372036854775807
/-- Runs that a slice holds. -/
def Runs (w : World) (ad : Option Addr) (len : Nat) (l : List (Int × Int)) : Prop :=
  l.length = len ∧ (l = [] ∨ ∃ b off, ad = some ⟨b, off, none⟩ ∧ b < w.heap.size ∧ ∀ i (h : i < l.length), w.rangeAt b (off + i * 2) (runV l[i]) ∧ Fit l[i].1 ∧ Fit l[i].2)
theorem Runs.below {w w' : World} {ad : Option Addr} {len : Nat} {l : List (Int × Int)} (h : Runs w ad len l) (hb : Below w.heap.size w w') : Runs w' ad len l := by
  refine ⟨h.1, ?_⟩
  rcases h.2 with h | ⟨b, off, h1, h2, h3⟩
  · exact .inl h
  · exact .inr ⟨b, off, h1, Nat.lt_of_lt_of_le h2 hb.size, fun i hi => ⟨fun j v hv => by rw [hb.cell (p := ⟨b, off + i * 2 + j, none⟩) h2]; exact (h3 i hi).1 j v hv, (h3 i hi).2⟩⟩
theorem runs_at {w : World} {ad : Option Addr} {len : Nat} {l : List (Int × Int)} (h : Runs w ad len l) (j : Nat) (hj : j < len) :
    ∃ b off, ad = some ⟨b, off, none⟩ ∧ b < w.heap.size ∧ w.rangeAt b (off + j * 2) (runV (l[j]'(by rw [h.1]; exact hj))) ∧ Fit (l[j]'(by rw [h.1]; exact hj)).1 ∧ Fit (l[j]'(by rw [h.1]; exact hj)).2 := by
  have hl := h.1
  rcases h.2 with h | ⟨b, off, h1, h2, h3⟩
  · rw [h] at hl; simp at hl; omega
  · exact ⟨b, off, h1, h2, h3 j (by omega)⟩

theorem bool_info : (Try.prog.info? 4).map (fun i => (i.zero, i.size, i.bytes)) = some (some (.bool false), 1, 1) := by kernel_rfl
theorem run_info : (Try.prog.info? 68).map (fun i => (i.zero, i.size, i.bytes)) = some (some (.agg #[.int .i64 0, .int .i64 0]), 2, 16) := by kernel_rfl
theorem made_bools (v : Value) (n : Nat) : madeCells #[v] n = (List.replicate n v).toArray := by
  apply Array.ext
  · rw [size_madeCells]; simp
  · intro i h1 h2
    simp [madeCells, Nat.mod_one]
theorem run_make_bools (m : Nat) (hm : m ≤ 4096) (w : World) : (Instr.makeSlice 84 (.int .i64 (m : Int)) (.int .i64 (m : Int))).run Try.prog w =
    .ok (.slice (some ⟨w.heap.size, 0, none⟩) m m) (w.alloc (.cells ((List.replicate m false).map Value.bool).toArray 4)) := by
  obtain ⟨i, hi, hz, hs, hb⟩ := info_parts bool_info
  have := run_make (P := Try.prog) w 84 4 i _ Try.underlying84 hi hz .i64 .i64 m m (by omega) (Int.le_refl _) (by rw [hb]; omega) (by omega)
  rw [this, hs]
  simp only [Int.toNat_natCast, Value.cells, Nat.mul_one]
  rw [made_bools, List.map_replicate]

/-- Which sectors are taken, or none if the arguments are not right. -/
def takenO (total : Int) (l : List (Int × Int)) : Option (List Bool) :=
  if total < 0 ∨ 4000 < total ∨ 200 < l.length then none else takeAll total.toNat l (List.replicate total.toNat false)
def TK (w : World) (o : Option (List Bool)) (e : Ending) (w' : World) : Prop :=
  Below w.heap.size w w' ∧ match o with
    | none => e = .returned (.tuple #[.slice none 0 0, .bool false])
    | some t => ∃ g, e = .returned (.tuple #[.slice (some ⟨g, 0, none⟩) t.length t.length, .bool true]) ∧ Holds w' g (t.map Value.bool) 4 ∧ w.heap.size ≤ g

set_option maxHeartbeats 1000000 in
theorem rTaken (total : Int) (ad : Option Addr) (len cap : Nat) (l : List (Int × Int)) (w : World) (ht : Fit total) (h : Runs w ad len l) :
    Calls Try.prog 36 #[.int .i64 total, .slice ad len cap] w (TK w (takenO total l)) := by
  by_cases hbad : total < 0 ∨ 4000 < total ∨ 200 < l.length
  · have HT : Hid (takenO total l = none) := by show takenO total l = none; unfold takenO; rw [if_pos hbad]
    have hl := h.1
    rw [HT.out]
    clear h ht
    by_cases h0 : total < 0
    · have e0 : decide (total < 0) = true := by simpa using h0
      clear hbad hl
      go_enter Try.func36, Try.ntmps36
      go_wp2
      all_goals
        go_ret2
        exact ⟨Below.refl _ _, rfl⟩
    · have e0 : decide (total < 0) = false := by simpa using h0
      by_cases h1 : 4000 < total
      · have e1 : decide (4000 < total) = true := by simpa using h1
        clear hbad hl h0
        go_enter Try.func36, Try.ntmps36
        go_wp2
        all_goals
          go_ret2
          exact ⟨Below.refl _ _, rfl⟩
      · have e1 : decide (4000 < total) = false := by simpa using h1
        have h2 : 200 < (len : Int) := by omega
        clear hbad hl h0 h1
        go_enter Try.func36, Try.ntmps36
        go_wp2
        all_goals
          go_ret2
          exact ⟨Below.refl _ _, rfl⟩
  · obtain ⟨iR, hiR, hzR, hsR, hbR⟩ := info_parts run_info
    have hl := h.1
    obtain ⟨N, rfl⟩ := Int.eq_ofNat_of_zero_le (show 0 ≤ total by omega)
    have HT : Hid (takenO (N : Int) l = takeAll N l (List.replicate N false)) := by show takenO (N : Int) l = _; unfold takenO; rw [if_neg hbad, Int.toNat_natCast]
    have hN : (N : Int) ≤ 4000 := by omega
    have hlen : (len : Int) ≤ 200 := by omega
    have e0 : decide ((N : Int) < 0) = false := by rw [decide_eq_false_iff_not]; omega
    have hmk := run_make_bools N (by omega) w
    have HH := Holds.new w ((List.replicate N false).map Value.bool) 4
    have hb0 : Below w.heap.size w (w.alloc (.cells ((List.replicate N false).map Value.bool).toArray 4)) := (Below.refl _ _).alloc (Nat.le_refl _) _
    obtain ⟨g, hg⟩ : ∃ g, Hid (g = w.heap.size) := ⟨_, rfl⟩
    rw [← hg.out] at hmk HH
    generalize w.alloc (.cells ((List.replicate N false).map Value.bool).toArray 4) = wa at hmk HH hb0
    have HR := Lib.hid h
    have H0 : Hid (∃ t : List Bool, Holds wa g (t.map Value.bool) 4 ∧ t.length = N ∧ takeAll N l (List.replicate N false) = takeAll N (l.drop 0) t) := ⟨_, HH, by simp, by simp⟩
    have HB0 := Lib.hid hb0
    clear HH hb0 hbad ht h
    go_enter Try.func36, Try.ntmps36
    go_wp2
    clear hmk
    go_loopw [7] (fun i wr => ∃ j : Nat, j ≤ len ∧ i = .int .i64 j ∧ Hid (∃ t : List Bool, Holds wr g (t.map Value.bool) 4 ∧ t.length = N ∧ takeAll N l (List.replicate N false) = takeAll N (l.drop j) t) ∧ Hid (Below w.heap.size w wr)) (fun i _ => len - (intOf i).toNat)
    case atStart => exact ⟨0, Nat.zero_le _, rfl, H0, HB0⟩
    case round =>
      obtain ⟨j, hj, rfl, hr, hb⟩ := hrel
      obtain ⟨t, hH, htl, hta⟩ := hr.out
      by_cases hlt : (j : Int) < len
      · have hjl : j < len := by omega
        obtain ⟨b, off, rfl, hbl, hrow, hf1, hf2⟩ := runs_at (HR.out.below hb.out) j hjl
        obtain ⟨r, hrr⟩ : ∃ r, r = l[j]'(by omega) := ⟨_, rfl⟩
        rw [← hrr] at hrow hf1 hf2
        have hdrop : l.drop j = r :: l.drop (j + 1) := by rw [List.drop_eq_getElem_cons (by omega), ← hrr]
        rw [hdrop] at hta
        have HTA := Lib.hid hta
        obtain ⟨a, n⟩ := r
        simp only at hf1 hf2
        have hj0 : (0 : Int) ≤ (j : Int) := Int.natCast_nonneg _
        obtain ⟨q, hq⟩ : ∃ q, Hid (q = wr.heap.size) := ⟨_, rfl⟩
        have hgq : g < q := by have := hH.lt; have := hq.out; omega
        have hw2 : IntKind.i64.wrap ((j : Int) + 1) = ((j + 1 : Nat) : Int) := by rw [IntWalk.i64_in _ (by omega)]; omega
        clear hta hrr hdrop hr
        go_upto_region 7 with (fail)
        refine wp_region_lit ?_
        iterate 3
          refine wpList_plain rfl fun K hK => ?_
          go_simp
          refine hK _ _ ?_
          clear hK K
        refine wpList_load_mid rfl 68 (.tmp 31) rfl b (off + j * 2) rfl (runV (a, n)) _ hrow Try.underlying68 rfl (by kernel_rfl) ?_
        refine wpList_alloc_row rfl 68 rfl iR [.int .i64 0, .int .i64 0] hiR hzR ?_
        rw [← hq.out]
        have HN := Holds.new wr [.int .i64 0, .int .i64 0] 68
        have hH1 := hH.alloc (.cells [.int .i64 0, .int .i64 0].toArray 68)
        have hb1 := hb.out.alloc hb.out.size (.cells [.int .i64 0, .int .i64 0].toArray 68)
        rw [← hq.out] at HN
        generalize wr.alloc (.cells [.int .i64 0, .int .i64 0].toArray 68) = wx at HN hH1 hb1 ⊢
        refine wpList_store_mid rfl 68 (.tmp 8) (.tmp 32) rfl q 0 (runV (a, n)).toArray rfl rfl (HN.there 0 _ (by simp [runV])) (by kernel_rfl) (by simp [runV, Value.oneCell']) ?_
        have HN2 := Holds.setCells (runV (a, n)) 0 wx _ HN (by simp [runV])
        rw [lay_all _ _ (by simp [runV])] at HN2
        have hH2 := hH1.setOther (g := q) (o := 0) (vs := runV (a, n)) (by omega)
        have hk1 : Kept (fun _ => False) w wx := Kept.of_below _ hb1
        have hb2 : Kept (fun _ => False) w (wx.setCells q 0 (runV (a, n))) := Kept.setCellsN (by have := hb.out.size; have := hq.out; omega) _ _ _ hk1
        refine wpList_nil ?_
        change Exit.then _ _ _ _ (wx.setCells q 0 (runV (a, n)))
        generalize wx.setCells q 0 (runV (a, n)) = wy at HN2 hH2 hb2 ⊢
        have hbY : Below w.heap.size w wy := hb2.below (Nat.le_refl _) (fun _ hf => hf.elim)
        have d0 := HN2.cell 0 (.int .i64 a) rfl
        have d1 := HN2.cell 1 (.int .i64 n) rfl
        have HBY := Lib.hid hbY
        have HH2 := Lib.hid hH2
        have HN2h := Lib.hid HN2
        have htN : Hid (t.length = N) := htl
        clear HN hH1 hb1 hk1 hb2 hH hH2 HN2 hrow hbY htl hb
        by_cases hg : Go.Proofs.Pk.Good N (a, n)
        · have hgg := hg
          unfold Go.Proofs.Pk.Good at hgg
          have hA : 0 ≤ a := by omega
          have hM : 0 ≤ n := by omega
          obtain ⟨A, rfl⟩ := Int.eq_ofNat_of_zero_le hA
          obtain ⟨M, rfl⟩ := Int.eq_ofNat_of_zero_le hM
          have g1 : ¬(M : Int) < 1 := by omega
          have g2 : ¬(A : Int) < 0 := by omega
          have g3 : ¬(N : Int) < (A : Int) := by omega
          have g4 : ¬(N : Int) - (A : Int) < (M : Int) := by omega
          have hAM : A + M ≤ N := by omega
          have hw5 : IntKind.i64.wrap ((N : Int) - (A : Int)) = (N : Int) - (A : Int) := IntWalk.i64_in _ (by omega)
          have hw6 : IntKind.i64.wrap ((A : Int) + (M : Int)) = (A : Int) + (M : Int) := IntWalk.i64_in _ (by omega)
          have HT2 : Hid (takeAll N l (List.replicate N false) = (Go.Proofs.Pk.mark t A M).bind (takeAll N (l.drop (j + 1)))) := by
            show _ = _
            rw [HTA.out, takeAll, if_pos hg]; rfl
          clear hgg hg hf1 hf2 HTA hA hM
          go_wp2
          obtain ⟨wv, hwv⟩ : ∃ wv, wv = wy := ⟨_, rfl⟩
          rw [← hwv] at HBY HH2 HN2h ⊢
          clear hwv d0 d1
          go_loopw [9] (fun k wr => ∃ m : Nat, m ≤ M ∧ k = .int .i64 ((A + m : Nat) : Int) ∧ Hid (∃ u : List Bool, Holds wr g (u.map Value.bool) 4 ∧ u.length = N ∧ Go.Proofs.Pk.mark t A M = Go.Proofs.Pk.mark u (A + m) (M - m)) ∧ Hid (Holds wr q [.int .i64 (A : Int), .int .i64 (M : Int)] 68) ∧ Hid (Below w.heap.size w wr)) (fun k _ => A + M - (intOf k).toNat)
          case atStart => exact ⟨0, Nat.zero_le _, rfl, ⟨t, HH2.out, htN.out, rfl⟩, HN2h, HBY⟩
          case round =>
            obtain ⟨m, hm, rfl, hr, hq2, hb⟩ := hrel
            obtain ⟨u, hH, hul, hum⟩ := hr.out
            have d0 := hq2.out.cell 0 (.int .i64 (A : Int)) rfl
            have d1 := hq2.out.cell 1 (.int .i64 (M : Int)) rfl
            by_cases hlt : ((A + m : Nat) : Int) < (A : Int) + (M : Int)
            · have hmM : m < M := by omega
              have hAmN : A + m < N := by omega
              obtain ⟨b0, hb0⟩ : ∃ b0, b0 = u[A + m]'(by omega) := ⟨_, rfl⟩
              have hgu : u[A + m]? = some b0 := by rw [List.getElem?_eq_getElem (by omega), hb0]
              have hgd : u.getD (A + m) false = b0 := by rw [List.getD, hgu]; rfl
              have hck : wr.cell? ⟨g, A + m, none⟩ = some (.bool b0) := hH.cell (A + m) _ (by rw [List.getElem?_map, hgu]; rfl)
              have hfro := hH.free (A + m)
              have hMm : M - m = (M - (m + 1)) + 1 := by omega
              have hNN : ((A + m : Nat) : Int) < (N : Int) := by omega
              have hK0 : (0 : Int) ≤ ((A + m : Nat) : Int) := Int.natCast_nonneg _
              have hw7 : IntKind.i64.wrap (((A + m : Nat) : Int) + 1) = ((A + (m + 1) : Nat) : Int) := by rw [IntWalk.i64_in _ (by omega)]; omega
              rw [hMm, Go.Proofs.Pk.mark, hgd] at hum
              have HUM := Lib.hid hum
              have HHH := Lib.hid hH
              have HUL := Lib.hid hul
              clear hum hH hul hb0 hgu hgd hMm hr
              generalize hKK : A + m = K at *
              cases b0 with
              | true =>
                have HF : Hid (takenO (N : Int) l = none) := by
                  show takenO (N : Int) l = none
                  rw [HT.out, HT2.out, HUM.out, if_pos rfl]; rfl
                go_wp2
                go_ret2
                rw [HF.out]
                exact ⟨hb.out, rfl⟩
              | false =>
                have HN3 : Hid (Holds (wr.setCell ⟨g, K, none⟩ (.bool true)) g ((u.set K true).map Value.bool) 4) := by
                  have := HHH.out.set K (.bool true)
                  rw [List.map_set]; exact this
                have HQ3 : Hid (Holds (wr.setCell ⟨g, K, none⟩ (.bool true)) q [.int .i64 (A : Int), .int .i64 (M : Int)] 68) := hq2.out.ne (by omega) K _
                have HB3 : Hid (Below w.heap.size w (wr.setCell ⟨g, K, none⟩ (.bool true))) := hb.out.setCell (p := ⟨g, K, none⟩) (Nat.le_of_eq hg.out.symm) _
                clear hq2 hb
                go_wp2
                go_roundw
                case rel => exact ⟨m + 1, by omega, by go_num, ⟨_, HN3.out, by rw [List.length_set]; exact HUL.out, by rw [HUM.out, if_neg (by decide), ← Nat.add_assoc, hKK]⟩, HQ3, HB3⟩
                case measure => simp [intOf]; omega
            · obtain rfl : m = M := by omega
              have HT3 : Hid (takeAll N l (List.replicate N false) = takeAll N (l.drop (j + 1)) u) := by
                show _ = _
                rw [HT2.out, hum, Nat.sub_self, Go.Proofs.Pk.mark]; rfl
              have HHH := Lib.hid hH
              have HUL := Lib.hid hul
              clear hum hH hul hr
              go_wp2
              go_roundw
              case rel => exact ⟨j + 1, by omega, by go_num, ⟨_, HHH.out, HUL.out, HT3.out⟩, hb⟩
              case measure => simp [intOf]; omega
        · have HF : Hid (takenO (N : Int) l = none) := by
            show takenO (N : Int) l = none
            rw [HT.out, HTA.out, takeAll, if_neg hg]
          have hgg := hg
          unfold Go.Proofs.Pk.Good at hgg
          clear hg HTA HH2 HN2h hf1 hf2
          by_cases k1 : n < 1
          · clear hgg
            go_wp2
            all_goals
              go_ret2
              rw [HF.out]
              exact ⟨HBY.out, rfl⟩
          · by_cases k2 : a < 0
            · clear hgg
              go_wp2
              all_goals
                go_ret2
                rw [HF.out]
                exact ⟨HBY.out, rfl⟩
            · by_cases k3 : (N : Int) < a
              · clear hgg
                go_wp2
                all_goals
                  go_ret2
                  rw [HF.out]
                  exact ⟨HBY.out, rfl⟩
              · have k4 : (N : Int) - a < n := by omega
                have hw5 : IntKind.i64.wrap ((N : Int) - a) = (N : Int) - a := IntWalk.i64_in _ (by omega)
                clear hgg
                go_wp2
                all_goals
                  go_ret2
                  rw [HF.out]
                  exact ⟨HBY.out, rfl⟩
      · obtain rfl : j = len := by omega
        have HF : Hid (takenO (N : Int) l = some t) := by
          show takenO (N : Int) l = some t
          rw [HT.out, hta, List.drop_eq_nil_of_le (by omega)]; rfl
        have HHo := Lib.hid hH
        have hg2 : w.heap.size ≤ g := Nat.le_of_eq hg.out.symm
        have HG := Lib.hid hg2
        have HL := Lib.hid htl
        clear hH hta hr htl hg2
        go_wp2
        go_ret2
        rw [HF.out]
        exact ⟨hb.out, g, by rw [HL.out]; rfl, HHo.out, HG.out⟩

end Go.Proofs.Ytbfdhonmmoikdaa
