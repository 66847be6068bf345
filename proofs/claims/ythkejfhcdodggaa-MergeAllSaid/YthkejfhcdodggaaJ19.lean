/- Sp12, Fd12, BkI. -/
import Derived.Test.YthkejfhcdodggaaJ08
import Derived.Test.YthkejfhcdodggaaJ15
import Derived.Test.YthkejfhcdodggaaJ09
import Derived.Laws.ResultCell

/- (practice) Package block: Sorted (printed by gensp12.py). -/
namespace Go.Proofs.Ythkejfhcdodggaa
open Go.RowKit Go.Proofs Go.Proofs.Pk
set_option maxRecDepth 10000
attribute [local simp] mk_get wrap64_u8 mk_extract ByteArray.mk_append_mk get_1k

theorem sort_moreP {l : List MEnt} {j : Nat} (hj : j < l.length) (h : sortB (l.take j) = true) (hr : rightM l[j] = true) (hb : j = 0 ∨ befM (l[j - 1]'(by omega)) l[j] = true) : sortB (l.take (j + 1)) = true := by
  have e : l.take (j + 1) = l.take j ++ [l[j]] := List.take_succ_eq_append_getElem hj
  rcases hb with rfl | hb
  · rw [e, List.take_zero, List.nil_append, sort_one]; exact hr
  · by_cases h0 : j = 0
    · subst h0; rw [e, List.take_zero, List.nil_append, sort_one]; exact hr
    · have hl : (l.take (j + 1)).length = j + 1 := by rw [List.length_take]; omega
      have h1 : (l.take (j + 1)).take j = l.take j := by rw [List.take_take]; congr 1; omega
      have h2 : (l.take (j + 1)).drop j = [l[j]] := by rw [List.drop_eq_getElem_cons (by omega), List.getElem_take, List.drop_eq_nil_of_le (by omega)]
      rw [sort_join (n := j) (by omega) (by omega) (by rw [h1]; exact h) (by rw [h2, sort_one]; exact hr), List.getElem_take, List.getElem_take]
      exact hb
theorem sort_no_rightP {l : List MEnt} {j : Nat} (hj : j < l.length) (h : rightM l[j] = false) : sortB l = false := by
  rw [Bool.eq_false_iff]
  intro hs
  rw [sort_mem l none hs _ (List.getElem_mem hj)] at h
  cases h
theorem sort_no_befP {l : List MEnt} {j : Nat} (hj : j < l.length) (h0 : 0 < j) (h : befM (l[j - 1]'(by omega)) l[j] = false) : sortB l = false := by
  rw [Bool.eq_false_iff]
  intro hs
  rw [sort_join h0 hj (sort_take j hs) (sort_drop j hs), h] at hs
  cases hs
/-- An entry's row at a place. -/
theorem ents_rowP {w : World} {b off len : Nat} {T : List MEnt} (h : EntsW w (some ⟨b, off, none⟩) len T) {j : Nat} (hj : j < T.length) : w.rangeAt b (off + j * 4) (entC T[j]) := by
  rcases h.2 with h0 | ⟨b', off', h1, h2, h3⟩
  · rw [h0] at hj; simp at hj
  · injection h1 with h1
    injection h1 with e1 e2
    subst e1; subst e2
    exact (h3 j hj).row

set_option maxHeartbeats 8000000 in
theorem pSorted (w : World) (ad : Option Addr) (len cap : Nat) (l : List MEnt) (h : EntsW w ad len l) (hl : (len : Int) ≤ 140737488351232) :
    Calls Try.prog 19 #[.slice ad len cap] w fun e w' => e = .returned (.bool (sortB l)) ∧ Kept (fun _ => False) w w' := by
  have H := Lib.hid h
  have hlen := h.1
  clear h
  have HI : Hid (Kept (fun _ => False) w w ∧ sortB (l.take 0) = true) := ⟨Kept.refl _ _, rfl⟩
  obtain ⟨wq, hwq⟩ : ∃ wq, wq = w := ⟨_, rfl⟩
  have HI2 : Hid (Kept (fun _ => False) w wq ∧ sortB (l.take 0) = true) := by rw [hwq]; exact HI.out
  clear HI
  go_enter Try.func19, Try.ntmps19
  go_wp2
  rw [← hwq]
  clear hwq
  go_loopw [7] (fun i wr => ∃ j : Nat, j ≤ len ∧ i = .int .i64 (j : Int) ∧ Hid (Kept (fun _ => False) w wr ∧ sortB (l.take j) = true)) (fun i _ => len - (intOf i).toNat)
  case atStart => exact ⟨0, Nat.zero_le _, rfl, HI2⟩
  case round =>
    obtain ⟨j, hj, rfl, hI⟩ := hrel
    clear HI2
    have j0 : (0 : Int) ≤ (j : Int) := by omega
    have hwj : IntKind.i64.wrap ((j : Int) + 1) = (j : Int) + 1 := IntWalk.i64_in _ (by omega)
    by_cases hlt : j < len
    · have hjl : j < l.length := by omega
      have jN : (j : Int) < (len : Int) := by omega
      have hE := ents_keptK H.out hI.out.1
      obtain ⟨b, off, rfl, hb, d0, d1, d2, d3⟩ := hE.atS j hjl
      have hrow := ents_rowP hE hjl
      obtain ⟨x, hx⟩ : ∃ x, Hid (x = l[j]'hjl) := ⟨l[j]'hjl, rfl⟩
      rw [← hx.out] at d0 d1 d2 d3 hrow
      have HK4 := Lib.hid (hI.out.1.alloc (.cells (entC x).toArray 34))
      have hNb := Holds.new wr (entC x) 34
      have hnw : wr.heap.size < (wr.alloc (.cells (entC x).toArray 34)).heap.size := hNb.lt
      have HR : Hid (∀ W, Kept (fun _ => False) (wr.alloc (.cells (entC x).toArray 34)) W → W.rangeAt wr.heap.size 0 (entC x) ∧ (∀ i (hi : i < l.length), W.rangeAt b (off + i * 4) (entC l[i]))) := fun W hk =>
        ⟨(hNb.of_block (hk.block _ hnw (fun f => f))).range 0 (entC x) (fun i v h => by rw [Nat.zero_add]; exact h), fun i hi => range_kept (ents_rowP hE hi) (((Kept.refl _ wr).alloc _).trans hk (fun _ h => h.elim)) hb⟩
      obtain ⟨g, hg⟩ : ∃ g, g = wr.heap.size := ⟨_, rfl⟩
      have HSo := Lib.hid hI.out.2
      clear hE hrow hNb hnw hI hb
      unfold entC at HK4 HR
      go_upto_region 4 with fail
      rw [← hg] at HR ⊢
      change Code.wp _ _ _ _ (wr.alloc (.cells (entC x).toArray 34))
      change Hid (∀ W, Kept (fun _ => False) (wr.alloc (.cells (entC x).toArray 34)) W → W.rangeAt g 0 (entC x) ∧ (∀ i (hi : i < l.length), W.rangeAt b (off + i * 4) (entC l[i]))) at HR
      change Hid (Kept (fun _ => False) w (wr.alloc (.cells (entC x).toArray 34))) at HK4
      clear d0 d1 d2 d3 hg
      generalize wr.alloc (.cells (entC x).toArray 34) = wa at HR HK4 ⊢
      cases hr : rightM x with
      | false =>
        have HD0 : Hid (Kept (fun _ => False) wa wa.drew) := (Kept.refl _ wa).drewN 1
        have hS : wa.drew.rangeAt g 0 (entC x) := (HR.out _ HD0.out).1
        refine wp_region_until (fun W => W.rangeAt g 0 (entC x)) 17 (by kernel_rfl) ?_
        refine wpAnyU_take (i := 0) (v := (.agg (entC x).toArray)) (some 12) rfl rfl (by kernel_rfl) (by kernel_rfl) (by kernel_rfl) (by kernel_rfl) (fun _ _ _ h => h) hS (yieldsIf_load_mid (by kernel_rfl) 34 (.tmp 4) rfl g 0 (by kernel_rfl) (entC x) _ (fun w hw => hw) Try.underlying34 rfl (by rw [ent_size]; rfl)) ?_
        refine wpAnyU_call (i := 1) (f := 33) (args := #[.agg (entC x).toArray]) (some 13) rfl rfl (by kernel_rfl) (by kernel_rfl) (by kernel_rfl) ?_
        refine ((by have := rightP x wa.drew; rwa [hr] at this : Calls Try.prog 33 #[.agg (entC x).toArray] wa.drew fun r w' => r = .returned (.bool false) ∧ Kept (fun _ => False) wa.drew w')).mono ?_
        rintro r wm1 ⟨rfl, hkm⟩
        have HD1 := Lib.hid (HD0.out.trans hkm (fun _ h => h.elim))
        have hS : wm1.rangeAt g 0 (entC x) := (HR.out _ HD1.out).1
        refine ⟨_, rfl, fun _ => hS, ?_⟩
        refine wpAnyU_take (i := 2) (v := (.bool true)) (some 14) rfl rfl (by kernel_rfl) (by kernel_rfl) (by kernel_rfl) (by kernel_rfl) (fun _ _ _ h => h) hS (yields_of (by kernel_rfl) (fun w hw => by go_simp)) ?_
        refine wpAnyU_take (i := 3) (v := (.bool true)) (some 15) rfl rfl (by kernel_rfl) (by kernel_rfl) (by kernel_rfl) (by kernel_rfl) (fun _ _ _ h => h) hS (yields_of (by kernel_rfl) (fun w hw => by go_simp)) ?_
        refine wpAnyU_take (i := 4) (v := undef) (some 16) rfl rfl (by kernel_rfl) (by kernel_rfl) (by kernel_rfl) (by kernel_rfl) (fun _ _ _ h => h) hS (unwanted (by kernel_rfl)) ?_
        refine wpAnyU_take (i := 5) (v := undef) (some 17) rfl rfl (by kernel_rfl) (by kernel_rfl) (by kernel_rfl) (by kernel_rfl) (fun _ _ _ h => h) hS (unwanted (by kernel_rfl)) ?_
        refine wpAnyU_take (i := 6) (v := undef) (some 18) rfl rfl (by kernel_rfl) (by kernel_rfl) (by kernel_rfl) (by kernel_rfl) (fun _ _ _ h => h) hS (unwanted (by kernel_rfl)) ?_
        refine wpAnyU_take (i := 7) (v := undef) (some 19) rfl rfl (by kernel_rfl) (by kernel_rfl) (by kernel_rfl) (by kernel_rfl) (fun _ _ _ h => h) hS (unwanted (by kernel_rfl)) ?_
        refine wpAnyU_take (i := 8) (v := undef) (some 20) rfl rfl (by kernel_rfl) (by kernel_rfl) (by kernel_rfl) (by kernel_rfl) (fun _ _ _ h => h) hS (unwanted (by kernel_rfl)) ?_
        refine wpAnyU_take (i := 9) (v := undef) (some 21) rfl rfl (by kernel_rfl) (by kernel_rfl) (by kernel_rfl) (by kernel_rfl) (fun _ _ _ h => h) hS (unwanted (by kernel_rfl)) ?_
        refine wpAnyU_take (i := 10) (v := undef) (some 22) rfl rfl (by kernel_rfl) (by kernel_rfl) (by kernel_rfl) (by kernel_rfl) (fun _ _ _ h => h) hS (unwanted (by kernel_rfl)) ?_
        refine wpAnyU_take (i := 11) (v := undef) (some 23) rfl rfl (by kernel_rfl) (by kernel_rfl) (by kernel_rfl) (by kernel_rfl) (fun _ _ _ h => h) hS (unwanted (by kernel_rfl)) ?_
        refine wpAnyU_take (i := 12) (v := undef) (some 24) rfl rfl (by kernel_rfl) (by kernel_rfl) (by kernel_rfl) (by kernel_rfl) (fun _ _ _ h => h) hS (unwanted (by kernel_rfl)) ?_
        refine wpAnyU_take (i := 13) (v := undef) (some 25) rfl rfl (by kernel_rfl) (by kernel_rfl) (by kernel_rfl) (by kernel_rfl) (fun _ _ _ h => h) hS (unwanted (by kernel_rfl)) ?_
        refine wpAnyU_take (i := 14) (v := undef) (some 26) rfl rfl (by kernel_rfl) (by kernel_rfl) (by kernel_rfl) (by kernel_rfl) (fun _ _ _ h => h) hS (unwanted (by kernel_rfl)) ?_
        refine wpAnyU_take (i := 15) (v := undef) (some 27) rfl rfl (by kernel_rfl) (by kernel_rfl) (by kernel_rfl) (by kernel_rfl) (fun _ _ _ h => h) hS (unwanted (by kernel_rfl)) ?_
        refine wpAnyU_take (i := 16) (v := (.bool true)) (some 28) rfl rfl (by kernel_rfl) (by kernel_rfl) (by kernel_rfl) (by kernel_rfl) (fun _ _ _ h => h) hS (yields_of (by kernel_rfl) (fun w hw => by go_simp)) ?_
        refine wpAnyU_done (by kernel_rfl) ?_ _
        simp only [put_none, put_lit, List.set_cons_succ, List.set_cons_zero]
        have HKN := Lib.hid (HK4.out.trans HD1.out (fun _ h => h.elim))
        clear hS hkm HD0 HR
        go_wp2
        go_ret
        exact ⟨by rw [sort_no_rightP hjl (by rw [← hx.out]; exact hr)]; rfl, HKN.out⟩
      | true =>
        by_cases hj0 : j = 0
        · have jz : ¬ (0 : Int) < (j : Int) := by omega
          have HD0 : Hid (Kept (fun _ => False) wa wa.drew) := (Kept.refl _ wa).drewN 1
          have hS : wa.drew.rangeAt g 0 (entC x) := (HR.out _ HD0.out).1
          refine wp_region_until (fun W => W.rangeAt g 0 (entC x)) 17 (by kernel_rfl) ?_
          refine wpAnyU_take (i := 0) (v := (.agg (entC x).toArray)) (some 12) rfl rfl (by kernel_rfl) (by kernel_rfl) (by kernel_rfl) (by kernel_rfl) (fun _ _ _ h => h) hS (yieldsIf_load_mid (by kernel_rfl) 34 (.tmp 4) rfl g 0 (by kernel_rfl) (entC x) _ (fun w hw => hw) Try.underlying34 rfl (by rw [ent_size]; rfl)) ?_
          refine wpAnyU_call (i := 1) (f := 33) (args := #[.agg (entC x).toArray]) (some 13) rfl rfl (by kernel_rfl) (by kernel_rfl) (by kernel_rfl) ?_
          refine ((by have := rightP x wa.drew; rwa [hr] at this : Calls Try.prog 33 #[.agg (entC x).toArray] wa.drew fun r w' => r = .returned (.bool true) ∧ Kept (fun _ => False) wa.drew w')).mono ?_
          rintro r wm1 ⟨rfl, hkm⟩
          have HD1 := Lib.hid (HD0.out.trans hkm (fun _ h => h.elim))
          have hS : wm1.rangeAt g 0 (entC x) := (HR.out _ HD1.out).1
          refine ⟨_, rfl, fun _ => hS, ?_⟩
          refine wpAnyU_take (i := 2) (v := (.bool false)) (some 14) rfl rfl (by kernel_rfl) (by kernel_rfl) (by kernel_rfl) (by kernel_rfl) (fun _ _ _ h => h) hS (yields_of (by kernel_rfl) (fun w hw => by go_simp)) ?_
          refine wpAnyU_take (i := 3) (v := (.bool false)) (some 15) rfl rfl (by kernel_rfl) (by kernel_rfl) (by kernel_rfl) (by kernel_rfl) (fun _ _ _ h => h) hS (yields_of (by kernel_rfl) (fun w hw => by go_simp)) ?_
          refine wpAnyU_take (i := 4) (v := (.int .i64 (j : Int))) (some 16) rfl rfl (by kernel_rfl) (by kernel_rfl) (by kernel_rfl) (by kernel_rfl) (fun _ _ _ h => h) hS (yields_of (by kernel_rfl) (fun w hw => by go_simp)) ?_
          refine wpAnyU_take (i := 5) (v := (.bool false)) (some 17) rfl rfl (by kernel_rfl) (by kernel_rfl) (by kernel_rfl) (by kernel_rfl) (fun _ _ _ h => h) hS (yields_of (by kernel_rfl) (fun w hw => by go_simp)) ?_
          refine wpAnyU_take (i := 6) (v := (.bool false)) (some 18) rfl rfl (by kernel_rfl) (by kernel_rfl) (by kernel_rfl) (by kernel_rfl) (fun _ _ _ h => h) hS (yields_of (by kernel_rfl) (fun w hw => by go_simp)) ?_
          refine wpAnyU_take (i := 7) (v := undef) (some 19) rfl rfl (by kernel_rfl) (by kernel_rfl) (by kernel_rfl) (by kernel_rfl) (fun _ _ _ h => h) hS (unwanted (by kernel_rfl)) ?_
          refine wpAnyU_take (i := 8) (v := undef) (some 20) rfl rfl (by kernel_rfl) (by kernel_rfl) (by kernel_rfl) (by kernel_rfl) (fun _ _ _ h => h) hS (unwanted (by kernel_rfl)) ?_
          refine wpAnyU_take (i := 9) (v := undef) (some 21) rfl rfl (by kernel_rfl) (by kernel_rfl) (by kernel_rfl) (by kernel_rfl) (fun _ _ _ h => h) hS (unwanted (by kernel_rfl)) ?_
          refine wpAnyU_take (i := 10) (v := undef) (some 22) rfl rfl (by kernel_rfl) (by kernel_rfl) (by kernel_rfl) (by kernel_rfl) (fun _ _ _ h => h) hS (unwanted (by kernel_rfl)) ?_
          refine wpAnyU_take (i := 11) (v := undef) (some 23) rfl rfl (by kernel_rfl) (by kernel_rfl) (by kernel_rfl) (by kernel_rfl) (fun _ _ _ h => h) hS (unwanted (by kernel_rfl)) ?_
          refine wpAnyU_take (i := 12) (v := undef) (some 24) rfl rfl (by kernel_rfl) (by kernel_rfl) (by kernel_rfl) (by kernel_rfl) (fun _ _ _ h => h) hS (unwanted (by kernel_rfl)) ?_
          refine wpAnyU_take (i := 13) (v := undef) (some 25) rfl rfl (by kernel_rfl) (by kernel_rfl) (by kernel_rfl) (by kernel_rfl) (fun _ _ _ h => h) hS (unwanted (by kernel_rfl)) ?_
          refine wpAnyU_take (i := 14) (v := undef) (some 26) rfl rfl (by kernel_rfl) (by kernel_rfl) (by kernel_rfl) (by kernel_rfl) (fun _ _ _ h => h) hS (unwanted (by kernel_rfl)) ?_
          refine wpAnyU_take (i := 15) (v := (.bool false)) (some 27) rfl rfl (by kernel_rfl) (by kernel_rfl) (by kernel_rfl) (by kernel_rfl) (fun _ _ _ h => h) hS (yields_of (by kernel_rfl) (fun w hw => by go_simp)) ?_
          refine wpAnyU_take (i := 16) (v := (.bool false)) (some 28) rfl rfl (by kernel_rfl) (by kernel_rfl) (by kernel_rfl) (by kernel_rfl) (fun _ _ _ h => h) hS (yields_of (by kernel_rfl) (fun w hw => by go_simp)) ?_
          refine wpAnyU_done (by kernel_rfl) ?_ _
          simp only [put_none, put_lit, List.set_cons_succ, List.set_cons_zero]
          have HKN : Hid (Kept (fun _ => False) w wm1 ∧ sortB (l.take (j + 1)) = true) := ⟨HK4.out.trans HD1.out (fun _ h => h.elim), sort_moreP hjl HSo.out (by rw [← hx.out]; exact hr) (.inl hj0)⟩
          clear hS hkm HD0 HR
          go_wp2
          go_roundw
          case rel => exact ⟨j + 1, hlt, by first | rfl | go_num, HKN⟩
          case measure => simp [intOf]; omega
        · obtain ⟨i, hij⟩ : ∃ i, Hid (j = i + 1) := ⟨j - 1, by show _ = _; omega⟩
          have hil : i < l.length := by have := hij.out; omega
          have jn : 0 < j := by omega
          have hwi : IntKind.i64.wrap ((j : Int) - 1) = (i : Int) := by rw [IntWalk.i64_in _ (by omega)]; have := hij.out; omega
          have i0 : (0 : Int) ≤ (i : Int) := by omega
          have iN : (i : Int) < (len : Int) := by have := hij.out; omega
          obtain ⟨y, hy⟩ : ∃ y, Hid (y = l[i]'hil) := ⟨_, rfl⟩
          have hyj : l[j - 1]'(by omega) = y := by rw [hy.out]; congr 1; have := hij.out; omega
          have HYJ := Lib.hid hyj
          clear hyj
          cases hbf : befM y x with
          | false =>
            have HD0 : Hid (Kept (fun _ => False) wa wa.drew) := (Kept.refl _ wa).drewN 1
            have hS : wa.drew.rangeAt g 0 (entC x) ∧ wa.drew.rangeAt b (off + i * 4) (entC y) := ⟨(HR.out _ HD0.out).1, by have := (HR.out _ HD0.out).2 i hil; rwa [← hy.out] at this⟩
            refine wp_region_until (fun W => W.rangeAt g 0 (entC x) ∧ W.rangeAt b (off + i * 4) (entC y)) 17 (by kernel_rfl) ?_
            refine wpAnyU_take (i := 0) (v := (.agg (entC x).toArray)) (some 12) rfl rfl (by kernel_rfl) (by kernel_rfl) (by kernel_rfl) (by kernel_rfl) (fun _ _ _ h => h) hS (yieldsIf_load_mid (by kernel_rfl) 34 (.tmp 4) rfl g 0 (by kernel_rfl) (entC x) _ (fun w hw => hw.1) Try.underlying34 rfl (by rw [ent_size]; rfl)) ?_
            refine wpAnyU_call (i := 1) (f := 33) (args := #[.agg (entC x).toArray]) (some 13) rfl rfl (by kernel_rfl) (by kernel_rfl) (by kernel_rfl) ?_
            refine ((by have := rightP x wa.drew; rwa [hr] at this : Calls Try.prog 33 #[.agg (entC x).toArray] wa.drew fun r w' => r = .returned (.bool true) ∧ Kept (fun _ => False) wa.drew w')).mono ?_
            rintro r wm1 ⟨rfl, hkm⟩
            have HD1 := Lib.hid (HD0.out.trans hkm (fun _ h => h.elim))
            have hS : wm1.rangeAt g 0 (entC x) ∧ wm1.rangeAt b (off + i * 4) (entC y) := ⟨(HR.out _ HD1.out).1, by have := (HR.out _ HD1.out).2 i hil; rwa [← hy.out] at this⟩
            refine ⟨_, rfl, fun _ => hS, ?_⟩
            refine wpAnyU_take (i := 2) (v := (.bool false)) (some 14) rfl rfl (by kernel_rfl) (by kernel_rfl) (by kernel_rfl) (by kernel_rfl) (fun _ _ _ h => h) hS (yields_of (by kernel_rfl) (fun w hw => by go_simp)) ?_
            refine wpAnyU_take (i := 3) (v := (.bool false)) (some 15) rfl rfl (by kernel_rfl) (by kernel_rfl) (by kernel_rfl) (by kernel_rfl) (fun _ _ _ h => h) hS (yields_of (by kernel_rfl) (fun w hw => by go_simp)) ?_
            refine wpAnyU_take (i := 4) (v := (.int .i64 (j : Int))) (some 16) rfl rfl (by kernel_rfl) (by kernel_rfl) (by kernel_rfl) (by kernel_rfl) (fun _ _ _ h => h) hS (yields_of (by kernel_rfl) (fun w hw => by go_simp)) ?_
            refine wpAnyU_take (i := 5) (v := (.bool true)) (some 17) rfl rfl (by kernel_rfl) (by kernel_rfl) (by kernel_rfl) (by kernel_rfl) (fun _ _ _ h => h) hS (yields_of (by kernel_rfl) (fun w hw => by go_simp)) ?_
            refine wpAnyU_take (i := 6) (v := (.bool true)) (some 18) rfl rfl (by kernel_rfl) (by kernel_rfl) (by kernel_rfl) (by kernel_rfl) (fun _ _ _ h => h) hS (yields_of (by kernel_rfl) (fun w hw => by go_simp)) ?_
            refine wpAnyU_take (i := 7) (v := (.slice (some ⟨b, off, Option.none⟩) len cap)) (some 19) rfl rfl (by kernel_rfl) (by kernel_rfl) (by kernel_rfl) (by kernel_rfl) (fun _ _ _ h => h) hS (yields_of (by kernel_rfl) (fun w hw => by go_simp)) ?_
            refine wpAnyU_take (i := 8) (v := (.int .i64 (j : Int))) (some 20) rfl rfl (by kernel_rfl) (by kernel_rfl) (by kernel_rfl) (by kernel_rfl) (fun _ _ _ h => h) hS (yields_of (by kernel_rfl) (fun w hw => by go_simp)) ?_
            refine wpAnyU_take (i := 9) (v := (.int .i64 (i : Int))) (some 21) rfl rfl (by kernel_rfl) (by kernel_rfl) (by kernel_rfl) (by kernel_rfl) (fun _ _ _ h => h) hS (yields_of (by kernel_rfl) (fun w hw => by go_simp)) ?_
            refine wpAnyU_take (i := 10) (v := (.pointer (some ⟨b, off + i * 4, Option.none⟩))) (some 22) rfl rfl (by kernel_rfl) (by kernel_rfl) (by kernel_rfl) (by kernel_rfl) (fun _ _ _ h => h) hS (yields_of (by kernel_rfl) (fun w hw => by go_simp)) ?_
            refine wpAnyU_take (i := 11) (v := (.agg (entC y).toArray)) (some 23) rfl rfl (by kernel_rfl) (by kernel_rfl) (by kernel_rfl) (by kernel_rfl) (fun _ _ _ h => h) hS (yieldsIf_load_mid (by kernel_rfl) 34 (.tmp 22) rfl b (off + i * 4) (by kernel_rfl) (entC y) _ (fun w hw => hw.2) Try.underlying34 rfl (by rw [ent_size]; rfl)) ?_
            refine wpAnyU_take (i := 12) (v := (.agg (entC x).toArray)) (some 24) rfl rfl (by kernel_rfl) (by kernel_rfl) (by kernel_rfl) (by kernel_rfl) (fun _ _ _ h => h) hS (yieldsIf_load_mid (by kernel_rfl) 34 (.tmp 4) rfl g 0 (by kernel_rfl) (entC x) _ (fun w hw => hw.1) Try.underlying34 rfl (by rw [ent_size]; rfl)) ?_
            refine wpAnyU_call (i := 13) (f := 34) (args := #[.agg (entC y).toArray, .agg (entC x).toArray]) (some 25) rfl rfl (by kernel_rfl) (by kernel_rfl) (by kernel_rfl) ?_
            refine ((by have := beforeM y x wm1; rwa [hbf] at this : Calls Try.prog 34 #[.agg (entC y).toArray, .agg (entC x).toArray] wm1 fun r w' => r = .returned (.bool false) ∧ Kept (fun _ => False) wm1 w')).mono ?_
            rintro r wm13 ⟨rfl, hkm⟩
            have HD13 := Lib.hid (HD1.out.trans hkm (fun _ h => h.elim))
            have hS : wm13.rangeAt g 0 (entC x) ∧ wm13.rangeAt b (off + i * 4) (entC y) := ⟨(HR.out _ HD13.out).1, by have := (HR.out _ HD13.out).2 i hil; rwa [← hy.out] at this⟩
            refine ⟨_, rfl, fun _ => hS, ?_⟩
            refine wpAnyU_take (i := 14) (v := (.bool true)) (some 26) rfl rfl (by kernel_rfl) (by kernel_rfl) (by kernel_rfl) (by kernel_rfl) (fun _ _ _ h => h) hS (yields_of (by kernel_rfl) (fun w hw => by go_simp)) ?_
            refine wpAnyU_take (i := 15) (v := (.bool true)) (some 27) rfl rfl (by kernel_rfl) (by kernel_rfl) (by kernel_rfl) (by kernel_rfl) (fun _ _ _ h => h) hS (yields_of (by kernel_rfl) (fun w hw => by go_simp)) ?_
            refine wpAnyU_take (i := 16) (v := (.bool true)) (some 28) rfl rfl (by kernel_rfl) (by kernel_rfl) (by kernel_rfl) (by kernel_rfl) (fun _ _ _ h => h) hS (yields_of (by kernel_rfl) (fun w hw => by go_simp)) ?_
            refine wpAnyU_done (by kernel_rfl) ?_ _
            simp only [put_none, put_lit, List.set_cons_succ, List.set_cons_zero]
            have HKN := Lib.hid (HK4.out.trans HD13.out (fun _ h => h.elim))
            clear hS hkm HD0 HR
            go_wp2
            go_ret
            exact ⟨by rw [sort_no_befP hjl (by omega) (by rw [HYJ.out, ← hx.out]; exact hbf)]; rfl, HKN.out⟩
          | true =>
            have HD0 : Hid (Kept (fun _ => False) wa wa.drew) := (Kept.refl _ wa).drewN 1
            have hS : wa.drew.rangeAt g 0 (entC x) ∧ wa.drew.rangeAt b (off + i * 4) (entC y) := ⟨(HR.out _ HD0.out).1, by have := (HR.out _ HD0.out).2 i hil; rwa [← hy.out] at this⟩
            refine wp_region_until (fun W => W.rangeAt g 0 (entC x) ∧ W.rangeAt b (off + i * 4) (entC y)) 17 (by kernel_rfl) ?_
            refine wpAnyU_take (i := 0) (v := (.agg (entC x).toArray)) (some 12) rfl rfl (by kernel_rfl) (by kernel_rfl) (by kernel_rfl) (by kernel_rfl) (fun _ _ _ h => h) hS (yieldsIf_load_mid (by kernel_rfl) 34 (.tmp 4) rfl g 0 (by kernel_rfl) (entC x) _ (fun w hw => hw.1) Try.underlying34 rfl (by rw [ent_size]; rfl)) ?_
            refine wpAnyU_call (i := 1) (f := 33) (args := #[.agg (entC x).toArray]) (some 13) rfl rfl (by kernel_rfl) (by kernel_rfl) (by kernel_rfl) ?_
            refine ((by have := rightP x wa.drew; rwa [hr] at this : Calls Try.prog 33 #[.agg (entC x).toArray] wa.drew fun r w' => r = .returned (.bool true) ∧ Kept (fun _ => False) wa.drew w')).mono ?_
            rintro r wm1 ⟨rfl, hkm⟩
            have HD1 := Lib.hid (HD0.out.trans hkm (fun _ h => h.elim))
            have hS : wm1.rangeAt g 0 (entC x) ∧ wm1.rangeAt b (off + i * 4) (entC y) := ⟨(HR.out _ HD1.out).1, by have := (HR.out _ HD1.out).2 i hil; rwa [← hy.out] at this⟩
            refine ⟨_, rfl, fun _ => hS, ?_⟩
            refine wpAnyU_take (i := 2) (v := (.bool false)) (some 14) rfl rfl (by kernel_rfl) (by kernel_rfl) (by kernel_rfl) (by kernel_rfl) (fun _ _ _ h => h) hS (yields_of (by kernel_rfl) (fun w hw => by go_simp)) ?_
            refine wpAnyU_take (i := 3) (v := (.bool false)) (some 15) rfl rfl (by kernel_rfl) (by kernel_rfl) (by kernel_rfl) (by kernel_rfl) (fun _ _ _ h => h) hS (yields_of (by kernel_rfl) (fun w hw => by go_simp)) ?_
            refine wpAnyU_take (i := 4) (v := (.int .i64 (j : Int))) (some 16) rfl rfl (by kernel_rfl) (by kernel_rfl) (by kernel_rfl) (by kernel_rfl) (fun _ _ _ h => h) hS (yields_of (by kernel_rfl) (fun w hw => by go_simp)) ?_
            refine wpAnyU_take (i := 5) (v := (.bool true)) (some 17) rfl rfl (by kernel_rfl) (by kernel_rfl) (by kernel_rfl) (by kernel_rfl) (fun _ _ _ h => h) hS (yields_of (by kernel_rfl) (fun w hw => by go_simp)) ?_
            refine wpAnyU_take (i := 6) (v := (.bool true)) (some 18) rfl rfl (by kernel_rfl) (by kernel_rfl) (by kernel_rfl) (by kernel_rfl) (fun _ _ _ h => h) hS (yields_of (by kernel_rfl) (fun w hw => by go_simp)) ?_
            refine wpAnyU_take (i := 7) (v := (.slice (some ⟨b, off, Option.none⟩) len cap)) (some 19) rfl rfl (by kernel_rfl) (by kernel_rfl) (by kernel_rfl) (by kernel_rfl) (fun _ _ _ h => h) hS (yields_of (by kernel_rfl) (fun w hw => by go_simp)) ?_
            refine wpAnyU_take (i := 8) (v := (.int .i64 (j : Int))) (some 20) rfl rfl (by kernel_rfl) (by kernel_rfl) (by kernel_rfl) (by kernel_rfl) (fun _ _ _ h => h) hS (yields_of (by kernel_rfl) (fun w hw => by go_simp)) ?_
            refine wpAnyU_take (i := 9) (v := (.int .i64 (i : Int))) (some 21) rfl rfl (by kernel_rfl) (by kernel_rfl) (by kernel_rfl) (by kernel_rfl) (fun _ _ _ h => h) hS (yields_of (by kernel_rfl) (fun w hw => by go_simp)) ?_
            refine wpAnyU_take (i := 10) (v := (.pointer (some ⟨b, off + i * 4, Option.none⟩))) (some 22) rfl rfl (by kernel_rfl) (by kernel_rfl) (by kernel_rfl) (by kernel_rfl) (fun _ _ _ h => h) hS (yields_of (by kernel_rfl) (fun w hw => by go_simp)) ?_
            refine wpAnyU_take (i := 11) (v := (.agg (entC y).toArray)) (some 23) rfl rfl (by kernel_rfl) (by kernel_rfl) (by kernel_rfl) (by kernel_rfl) (fun _ _ _ h => h) hS (yieldsIf_load_mid (by kernel_rfl) 34 (.tmp 22) rfl b (off + i * 4) (by kernel_rfl) (entC y) _ (fun w hw => hw.2) Try.underlying34 rfl (by rw [ent_size]; rfl)) ?_
            refine wpAnyU_take (i := 12) (v := (.agg (entC x).toArray)) (some 24) rfl rfl (by kernel_rfl) (by kernel_rfl) (by kernel_rfl) (by kernel_rfl) (fun _ _ _ h => h) hS (yieldsIf_load_mid (by kernel_rfl) 34 (.tmp 4) rfl g 0 (by kernel_rfl) (entC x) _ (fun w hw => hw.1) Try.underlying34 rfl (by rw [ent_size]; rfl)) ?_
            refine wpAnyU_call (i := 13) (f := 34) (args := #[.agg (entC y).toArray, .agg (entC x).toArray]) (some 25) rfl rfl (by kernel_rfl) (by kernel_rfl) (by kernel_rfl) ?_
            refine ((by have := beforeM y x wm1; rwa [hbf] at this : Calls Try.prog 34 #[.agg (entC y).toArray, .agg (entC x).toArray] wm1 fun r w' => r = .returned (.bool true) ∧ Kept (fun _ => False) wm1 w')).mono ?_
            rintro r wm13 ⟨rfl, hkm⟩
            have HD13 := Lib.hid (HD1.out.trans hkm (fun _ h => h.elim))
            have hS : wm13.rangeAt g 0 (entC x) ∧ wm13.rangeAt b (off + i * 4) (entC y) := ⟨(HR.out _ HD13.out).1, by have := (HR.out _ HD13.out).2 i hil; rwa [← hy.out] at this⟩
            refine ⟨_, rfl, fun _ => hS, ?_⟩
            refine wpAnyU_take (i := 14) (v := (.bool false)) (some 26) rfl rfl (by kernel_rfl) (by kernel_rfl) (by kernel_rfl) (by kernel_rfl) (fun _ _ _ h => h) hS (yields_of (by kernel_rfl) (fun w hw => by go_simp)) ?_
            refine wpAnyU_take (i := 15) (v := (.bool false)) (some 27) rfl rfl (by kernel_rfl) (by kernel_rfl) (by kernel_rfl) (by kernel_rfl) (fun _ _ _ h => h) hS (yields_of (by kernel_rfl) (fun w hw => by go_simp)) ?_
            refine wpAnyU_take (i := 16) (v := (.bool false)) (some 28) rfl rfl (by kernel_rfl) (by kernel_rfl) (by kernel_rfl) (by kernel_rfl) (fun _ _ _ h => h) hS (yields_of (by kernel_rfl) (fun w hw => by go_simp)) ?_
            refine wpAnyU_done (by kernel_rfl) ?_ _
            simp only [put_none, put_lit, List.set_cons_succ, List.set_cons_zero]
            have HKN : Hid (Kept (fun _ => False) w wm13 ∧ sortB (l.take (j + 1)) = true) := ⟨HK4.out.trans HD13.out (fun _ h => h.elim), sort_moreP hjl HSo.out (by rw [← hx.out]; exact hr) (.inr (by rw [HYJ.out, ← hx.out]; exact hbf))⟩
            clear hS hkm HD0 HR
            go_wp2
            go_roundw
            case rel => exact ⟨j + 1, hlt, by first | rfl | go_num, HKN⟩
            case measure => simp [intOf]; omega
    · obtain rfl : j = l.length := by omega
      subst hlen
      have jN : ¬(l.length : Int) < (l.length : Int) := by omega
      have HS2 := Lib.hid (hI.out.2)
      have HK := Lib.hid (hI.out.1)
      clear hI
      go_wp2
      go_ret
      refine ⟨?_, HK.out⟩
      have e := HS2.out
      rw [List.take_length] at e
      rw [e]; rfl

end Go.Proofs.Ythkejfhcdodggaa

/- Find (package block), walked. -/
namespace Go.Proofs.Ythkejfhcdodggaa
open Go.RowKit Go.Proofs Go.Proofs.Pk
set_option maxRecDepth 10000
attribute [local simp] mk_get wrap64_u8 mk_extract ByteArray.mk_append_mk get_1k

theorem find_stepP {T : List MEnt} {k : Txt} {s : Int} {j : Nat} (hj : j < T.length) : findM (T.drop j) k s = if T[j].1 = k ∧ T[j].2.1 ≤ s then some T[j] else findM (T.drop (j + 1)) k s := by
  rw [List.drop_eq_getElem_cons hj]
  unfold findM
  rw [List.find?_cons]
  by_cases h : T[j].1 = k ∧ T[j].2.1 ≤ s
  · rw [if_pos h, show (T[j].1 == k && decide (T[j].2.1 ≤ s)) = true from by simp [h.1, h.2]]
  · rw [if_neg h]
    have hb : (T[j].1 == k && decide (T[j].2.1 ≤ s)) = false := by
      rw [Bool.eq_false_iff]
      intro hb
      simp only [Bool.and_eq_true, beq_iff_eq, decide_eq_true_eq] at hb
      exact h hb
    rw [hb]
/-- The result's row, and all else as it was. -/
def FiI (w : World) (ob : Nat) (wr : World) : Prop := Kept (fun _ => False) w wr ∧ Holds wr ob (entC zeroM) 34 ∧ w.heap.size ≤ ob
theorem FiI.alloc {w wr : World} {ob : Nat} (h : FiI w ob wr) (o : Obj) : FiI w ob (wr.alloc o) := ⟨h.1.alloc o, h.2.1.alloc o, h.2.2⟩

set_option maxHeartbeats 4000000 in
theorem pFind12 (w : World) (ad : Option Addr) (len cap : Nat) (T : List MEnt) (k : Txt) (s : Int) (h : EntsW w ad len T) (hl : (len : Int) ≤ 140737488351232) :
    Calls Try.prog 20 #[.slice ad len cap, .string ⟨k.toArray⟩, .int .i64 s] w fun r w' => r = .returned (.tuple #[.agg (entC (getM T k s).1).toArray, .bool (getM T k s).2]) ∧ Kept (fun _ => False) w w' := by
  have H := Lib.hid h
  have hlen := h.1
  clear h
  obtain ⟨ob, hob⟩ : ∃ ob, ob = w.heap.size := ⟨_, rfl⟩
  have HI : Hid (findM T k s = findM (T.drop 0) k s) := rfl
  go_enter Try.func20, Try.ntmps20
  go_wp2
  have HW : Hid (FiI w ob (w.alloc (.cells #[.string ⟨#[]⟩, .int .i64 0, .bool false, .string ⟨#[]⟩] 34))) := by
    rw [hob]
    exact ⟨(Kept.refl _ w).alloc _, Holds.new w (entC zeroM) _, Nat.le_refl _⟩
  obtain ⟨wq, hwq⟩ : ∃ wq, wq = w.alloc (.cells #[.string ⟨#[]⟩, .int .i64 0, .bool false, .string ⟨#[]⟩] 34) := ⟨_, rfl⟩
  rw [← hwq] at HW ⊢
  rw [← hob]
  clear hwq hob
  go_loopw [12] (fun i wr => ∃ j : Nat, j ≤ len ∧ i = .int .i64 (j : Int) ∧ Hid (findM T k s = findM (T.drop j) k s) ∧ Hid (FiI w ob wr)) (fun i _ => len - (intOf i).toNat)
  case atStart => exact ⟨0, Nat.zero_le _, rfl, HI, HW⟩
  case round =>
    obtain ⟨j, hj, rfl, hI, hW⟩ := hrel
    clear HI HW
    have j0 : (0 : Int) ≤ (j : Int) := by omega
    have hwj : IntKind.i64.wrap ((j : Int) + 1) = (j : Int) + 1 := IntWalk.i64_in _ (by omega)
    by_cases hlt : j < len
    · have hjT : j < T.length := by omega
      obtain ⟨g, off, rfl, hg, d0, d1, d2, d3⟩ := (ents_keptK H.out hW.out.1).atS j hjT
      have hst := find_stepP (k := k) (s := s) hjT
      obtain ⟨x, hx⟩ : ∃ x, x = T[j] := ⟨_, rfl⟩
      rw [← hx] at hst d0 d1 d2 d3
      have HST := Lib.hid (hI.out.trans hst)
      have jN : (j : Int) < (len : Int) := by omega
      clear hst hx hI hjT
      obtain ⟨xk, xs, xd, xv⟩ := x
      simp only at d0 d1 d2 d3
      have HN := Lib.hid (hW.out.alloc (.cells #[.string ⟨xk.toArray⟩, .int .i64 xs, .bool xd, .string ⟨xv.toArray⟩] 34))
      have hNb := HN.out.2.1
      have o0 := hNb.cell 0 _ rfl
      have o1 := hNb.cell 1 _ rfl
      have o2 := hNb.cell 2 _ rfl
      have o3 := hNb.cell 3 _ rfl
      have f0 := hNb.free 0
      have f1 := hNb.free 1
      have f2 := hNb.free 2
      have f3 := hNb.free 3
      have hol : ¬wr.heap.size = ob := by have := hW.out.2.1.lt; omega
      have hol2 : ¬ob = wr.heap.size := fun e => hol e.symm
      clear hNb hg
      by_cases hk : xk = k
      · subst hk
        by_cases hs : xs ≤ s
        · have HG : Hid (getM T xk s = ((xk, xs, xd, xv), true)) := by
            show getM T xk s = _
            unfold getM; rw [HST.out, if_pos ⟨rfl, hs⟩]
          clear HST hW
          go_wp2
          refine bodyPost_ret (v := .tuple #[.agg (entC (xk, xs, xd, xv)).toArray, .bool true]) ?_ rfl ?_
          · rw [results_cell_tmp rfl]
            unfold entC
            go_simp
          · exact ⟨by rw [HG.out], (((HN.out.1.setNew (p := ⟨ob, 0, none⟩) HN.out.2.2 _).setNew (p := ⟨ob, 1, none⟩) HN.out.2.2 _).setNew (p := ⟨ob, 2, none⟩) HN.out.2.2 _).setNew (p := ⟨ob, 3, none⟩) HN.out.2.2 _⟩
        · have HI2 : Hid (findM T xk s = findM (T.drop (j + 1)) xk s) := by
            show _ = _
            rw [HST.out, if_neg (fun h => hs h.2)]
          clear HST hW
          go_wp2
          go_roundw
          case rel => exact ⟨j + 1, hlt, by first | rfl | go_num, HI2, HN⟩
          case measure => simp [intOf]; omega
      · have HI2 : Hid (findM T k s = findM (T.drop (j + 1)) k s) := by
          show _ = _
          rw [HST.out, if_neg (fun h => hk h.1)]
        have hkb : (xk == k) = false := by simpa using hk
        clear HST hW
        go_wp2
        go_roundw
        case rel => exact ⟨j + 1, hlt, by first | rfl | go_num, HI2, HN⟩
        case measure => simp [intOf]; omega
    · obtain rfl : j = len := by omega
      have HG : Hid (getM T k s = (zeroM, false)) := by
        have h0 : findM (T.drop j) k s = none := by rw [List.drop_of_length_le (by omega)]; rfl
        show getM T k s = _
        unfold getM
        rw [hI.out, h0]
      have jN : ¬(j : Int) < (j : Int) := by omega
      have HN := Lib.hid hW.out
      have o0 := HN.out.2.1.cell 0 _ rfl
      have o1 := HN.out.2.1.cell 1 _ rfl
      have o2 := HN.out.2.1.cell 2 _ rfl
      have o3 := HN.out.2.1.cell 3 _ rfl
      have f0 := HN.out.2.1.free 0
      have f1 := HN.out.2.1.free 1
      have f2 := HN.out.2.1.free 2
      have f3 := HN.out.2.1.free 3
      clear hI hW
      go_wp2
      refine bodyPost_ret (v := .tuple #[.agg (entC zeroM).toArray, .bool false]) ?_ rfl ?_
      · rw [results_cell_tmp rfl]
        unfold entC zeroM
        go_simp
      · exact ⟨by rw [HG.out], (((HN.out.1.setNew (p := ⟨ob, 0, none⟩) HN.out.2.2 _).setNew (p := ⟨ob, 1, none⟩) HN.out.2.2 _).setNew (p := ⟨ob, 2, none⟩) HN.out.2.2 _).setNew (p := ⟨ob, 3, none⟩) HN.out.2.2 _⟩

end Go.Proofs.Ythkejfhcdodggaa

/- The lesser contract holds of the program's blocks. -/
namespace Go.Proofs.Ythkejfhcdodggaa
open Go.RowKit Go.Proofs Go.Proofs.Pk
set_option maxRecDepth 10000

theorem bkJ : BkJ where
  sorted := pSorted
  find := fun w ad len cap T k s h hl _ _ => pFind12 w ad len cap T k s h hl

end Go.Proofs.Ythkejfhcdodggaa
