/- Put of layer 10's reference, walked: printed by genrm10.py. -/
import Derived.Test.YtlmlldcpllagbaaRMb
import Derived.Test.YtlmlldcpllagbaaOrd
namespace Go.Proofs.Ytlmlldcpllagbaa
open Go.RowKit Go.Proofs Go.Proofs.Pk
set_option maxRecDepth 10000
attribute [local simp] mk_get wrap64_u8 mk_extract ByteArray.mk_append_mk get_1k

set_option maxHeartbeats 4000000 in
theorem rmPut_bad (w : World) (B q : Nat) (vL : Value) (T : List MEnt) (e : MEnt) (h : RmAt w B q vL T) (hr : rightM e = false) :
    Calls Try.prog 10 #[.pointer (some ⟨q, 0, none⟩), .agg (entC e).toArray] w fun r w' => r = .returned (.int .i64 1) ∧ RmPut w B q vL T w' := by
  have H := Lib.hid h
  have HR := Lib.hid (fun w => rRight e w)
  clear h
  unfold entC
  go_enter Try.func10, Try.ntmps10
  go_wp2_with fail
  refine (HR.out _).mono ?_
  rw [hr]
  rintro r w2 ⟨rfl, hw2⟩
  have hk : Kept (fun _ => False) w w2 := by rw [hw2]; exact ((Kept.refl _ w).alloc _).alloc _
  clear hw2
  go_wp2
  go_ret
  exact ⟨rfl, vL, H.out.still hk, fun b hb => .inl hb, hk.mono (fun _ f => f.elim)⟩

set_option maxHeartbeats 8000000 in
theorem rmPut_ok (w : World) (B q : Nat) (vL : Value) (T : List MEnt) (e : MEnt) (h : RmAt w B q vL T) (hBw : B ≤ w.heap.size) (hl : T.length ≤ 1000) (hr : rightM e = true) (c : Nat) (T' : List MEnt) (hc1 : hasM T e = true → c = 9 ∧ T' = T) (hc2 : hasM T e = false → c = 0 ∧ T' = insM T e) :
    Calls Try.prog 10 #[.pointer (some ⟨q, 0, none⟩), .agg (entC e).toArray] w fun r w' => r = .returned (.int .i64 (c : Int)) ∧ RmPut w B q vL T' w' := by
  obtain ⟨i0, hi0, hz0, hz1, hz2⟩ := info_parts ent_info
  have H := Lib.hid h
  have HR := Lib.hid (fun w => rRight e w)
  have hle := atM_le e T
  have HBf := Lib.hid (atM_before e T)
  have HAt := Lib.hid (atM_at e T)
  obtain ⟨N, hN⟩ : ∃ N, Hid (N = T.length) := ⟨_, rfl⟩
  obtain ⟨A, hA⟩ : ∃ A, Hid (A = atM T e) := ⟨_, rfl⟩
  have hAN : A ≤ N := by rw [hA.out, hN.out]; exact hle
  have hN1 : N ≤ 1000 := by rw [hN.out]; exact hl
  have HBw := Lib.hid hBw
  have HC1 := Lib.hid hc1
  have HC2 := Lib.hid hc2
  obtain ⟨eb, heb⟩ : ∃ eb, eb = w.heap.size := ⟨_, rfl⟩
  clear h hle hl hBw hc1 hc2
  have hC : entC e = [.string ⟨e.1.toArray⟩, .int .i64 e.2.1, .bool e.2.2.1, .string ⟨e.2.2.2.toArray⟩] := rfl
  rw [hC]
  go_enter Try.func10, Try.ntmps10
  go_wp2_with fail
  refine (HR.out _).mono ?_
  rw [hr]
  rintro r w2 ⟨rfl, hw2⟩
  rw [← heb]
  have hI0 : Hid (Kept (fun _ => False) w w2 ∧ Holds w2 eb (entC e) 34) := by
    rw [hw2, heb]
    exact ⟨((Kept.refl _ w).alloc _).alloc _, (Holds.new w _ _).alloc _⟩
  have hew : Hid (w.heap.size ≤ eb) := Nat.le_of_eq heb.symm
  clear hw2 HR heb hC
  go_wp2
  go_loopw [6] (fun i wr => ∃ j : Nat, j ≤ A ∧ i = .int .i64 (j : Int) ∧ Hid (Kept (fun _ => False) w wr ∧ Holds wr eb (entC e) 34)) (fun i _ => A - (intOf i).toNat)
  case atStart => exact ⟨0, Nat.zero_le _, rfl, hI0⟩
  case round =>
    obtain ⟨j, hj, rfl, hI⟩ := hrel
    clear hI0
    have h1 := H.out.still hI.out.1
    obtain ⟨ad, cap, rfl, hway⟩ := h1.form
    have c0 := h1.obj.cell 0 _ rfl
    rw [← hN.out] at c0
    have j0 : (0 : Int) ≤ (j : Int) := by omega
    have hwj : IntKind.i64.wrap ((j : Int) + 1) = (j : Int) + 1 := IntWalk.i64_in _ (by omega)
    have hql := h1.obj.lt
    have hel := hI.out.2.lt
    have re : wr.rangeAt eb 0 (entC e) := hI.out.2.range 0 _ (fun k v hv => by rw [Nat.zero_add]; exact hv)
    by_cases hlt : j < A
    · have hjT : j < T.length := by have := hN.out; omega
      obtain ⟨g, rfl, hgq, hgl, hcap, hrow⟩ : ∃ g, ad = some ⟨g, 0, none⟩ ∧ g ≠ q ∧ g < wr.heap.size ∧ T.length ≤ cap ∧ ∀ i (hi : i < T.length), wr.rangeAt g (i * 4) (entC T[i]) := by
        rcases hway with ⟨_, _, h0⟩ | hg
        · rw [h0] at hjT; simp at hjT
        · exact hg
      have rx := hrow j hjT
      have hbx := HBf.out j (by have := hA.out; omega) hjT
      obtain ⟨x, hx⟩ : ∃ x, x = T[j] := ⟨_, rfl⟩
      rw [← hx] at rx hbx
      have jN : (j : Int) < (N : Int) := by omega
      have HI := Lib.hid hI.out
      clear hx hrow hway h1 hjT hI
      go_upto_region 5 with (fail)
      refine wp_region_until (fun w' => w'.cell? ⟨q, 0, none⟩ = some (.slice (some ⟨g, 0, none⟩) N cap) ∧ w'.rangeAt g (j * 4) (entC x) ∧ w'.rangeAt eb 0 (entC e)) 18 (by kernel_rfl) ?_
      have hS : (fun w' : World => w'.cell? ⟨q, 0, none⟩ = some (.slice (some ⟨g, 0, none⟩) N cap) ∧ w'.rangeAt g (j * 4) (entC x) ∧ w'.rangeAt eb 0 (entC e)) wr.drew := ⟨c0, rx, re⟩
      refine wpAnyU_take (i := 0) (v := (.int .i64 (j : Int))) (some 12) rfl rfl (by kernel_rfl) (by kernel_rfl) (by kernel_rfl) (by kernel_rfl) (fun _ _ _ h => h) hS (yields_of (by kernel_rfl) (fun w ⟨s1, s2, s3⟩ => by go_simp)) ?_
      refine wpAnyU_take (i := 1) (v := (.pointer (some ⟨q, 0, none⟩))) (some 13) rfl rfl (by kernel_rfl) (by kernel_rfl) (by kernel_rfl) (by kernel_rfl) (fun _ _ _ h => h) hS (yields_of (by kernel_rfl) (fun w ⟨s1, s2, s3⟩ => by go_simp)) ?_
      refine wpAnyU_take (i := 2) (v := (.pointer (some ⟨q, 0, none⟩))) (some 14) rfl rfl (by kernel_rfl) (by kernel_rfl) (by kernel_rfl) (by kernel_rfl) (fun _ _ _ h => h) hS (yields_of (by kernel_rfl) (fun w ⟨s1, s2, s3⟩ => by go_simp)) ?_
      refine wpAnyU_take (i := 3) (v := (.pointer (some ⟨q, 0, none⟩))) (some 15) rfl rfl (by kernel_rfl) (by kernel_rfl) (by kernel_rfl) (by kernel_rfl) (fun _ _ _ h => h) hS (yields_of (by kernel_rfl) (fun w ⟨s1, s2, s3⟩ => by go_simp)) ?_
      refine wpAnyU_take (i := 4) (v := (.slice (some ⟨g, 0, none⟩) N cap)) (some 16) rfl rfl (by kernel_rfl) (by kernel_rfl) (by kernel_rfl) (by kernel_rfl) (fun _ _ _ h => h) hS (yields_of (by kernel_rfl) (fun w ⟨s1, s2, s3⟩ => by go_simp)) ?_
      refine wpAnyU_take (i := 5) (v := (.int .i64 (N : Int))) (some 17) rfl rfl (by kernel_rfl) (by kernel_rfl) (by kernel_rfl) (by kernel_rfl) (fun _ _ _ h => h) hS (yields_of (by kernel_rfl) (fun w ⟨s1, s2, s3⟩ => by go_simp)) ?_
      refine wpAnyU_take (i := 6) (v := (.bool true)) (some 18) rfl rfl (by kernel_rfl) (by kernel_rfl) (by kernel_rfl) (by kernel_rfl) (fun _ _ _ h => h) hS (yields_of (by kernel_rfl) (fun w ⟨s1, s2, s3⟩ => by go_simp)) ?_
      refine wpAnyU_take (i := 7) (v := (.bool true)) (some 19) rfl rfl (by kernel_rfl) (by kernel_rfl) (by kernel_rfl) (by kernel_rfl) (fun _ _ _ h => h) hS (yields_of (by kernel_rfl) (fun w ⟨s1, s2, s3⟩ => by go_simp)) ?_
      refine wpAnyU_take (i := 8) (v := (.pointer (some ⟨q, 0, none⟩))) (some 20) rfl rfl (by kernel_rfl) (by kernel_rfl) (by kernel_rfl) (by kernel_rfl) (fun _ _ _ h => h) hS (yields_of (by kernel_rfl) (fun w ⟨s1, s2, s3⟩ => by go_simp)) ?_
      refine wpAnyU_take (i := 9) (v := (.pointer (some ⟨q, 0, none⟩))) (some 21) rfl rfl (by kernel_rfl) (by kernel_rfl) (by kernel_rfl) (by kernel_rfl) (fun _ _ _ h => h) hS (yields_of (by kernel_rfl) (fun w ⟨s1, s2, s3⟩ => by go_simp)) ?_
      refine wpAnyU_take (i := 10) (v := (.pointer (some ⟨q, 0, none⟩))) (some 22) rfl rfl (by kernel_rfl) (by kernel_rfl) (by kernel_rfl) (by kernel_rfl) (fun _ _ _ h => h) hS (yields_of (by kernel_rfl) (fun w ⟨s1, s2, s3⟩ => by go_simp)) ?_
      refine wpAnyU_take (i := 11) (v := (.slice (some ⟨g, 0, none⟩) N cap)) (some 23) rfl rfl (by kernel_rfl) (by kernel_rfl) (by kernel_rfl) (by kernel_rfl) (fun _ _ _ h => h) hS (yields_of (by kernel_rfl) (fun w ⟨s1, s2, s3⟩ => by go_simp)) ?_
      refine wpAnyU_take (i := 12) (v := (.int .i64 (j : Int))) (some 24) rfl rfl (by kernel_rfl) (by kernel_rfl) (by kernel_rfl) (by kernel_rfl) (fun _ _ _ h => h) hS (yields_of (by kernel_rfl) (fun w ⟨s1, s2, s3⟩ => by go_simp)) ?_
      refine wpAnyU_take (i := 13) (v := (.pointer (some ⟨g, j * 4, none⟩))) (some 25) rfl rfl (by kernel_rfl) (by kernel_rfl) (by kernel_rfl) (by kernel_rfl) (fun _ _ _ h => h) hS (yields_of (by kernel_rfl) (fun w ⟨s1, s2, s3⟩ => by go_simp)) ?_
      refine wpAnyU_take (i := 14) (v := (.agg (entC x).toArray)) (some 26) rfl rfl (by kernel_rfl) (by kernel_rfl) (by kernel_rfl) (by kernel_rfl) (fun _ _ _ h => h) hS (yieldsIf_load_mid (by kernel_rfl) 34 (.tmp 25) rfl g (j * 4) (by kernel_rfl) (entC x) _ (fun w hw => hw.2.1) Try.underlying34 rfl (by rw [ent_size]; rfl)) ?_
      refine wpAnyU_take (i := 15) (v := (.agg (entC e).toArray)) (some 27) rfl rfl (by kernel_rfl) (by kernel_rfl) (by kernel_rfl) (by kernel_rfl) (fun _ _ _ h => h) hS (yieldsIf_load_mid (by kernel_rfl) 34 (.tmp 3) rfl eb 0 (by kernel_rfl) (entC e) _ (fun w hw => hw.2.2) Try.underlying34 rfl (by rw [ent_size]; rfl)) ?_
      refine wpAnyU_call (i := 16) (f := 15) (args := #[.agg (entC x).toArray, .agg (entC e).toArray]) (some 28) rfl rfl (by kernel_rfl) (by kernel_rfl) (by kernel_rfl) ?_
      refine (rBefore x e wr.drew).mono ?_
      rintro r wv ⟨rfl, hwv⟩
      rw [hbx]
      have hkv : Kept (fun _ => False) wr wv := by rw [hwv]; exact (((Kept.refl _ wr).drewN 1).alloc _).alloc _
      have hSv : wv.cell? ⟨q, 0, none⟩ = some (.slice (some ⟨g, 0, none⟩) N cap) ∧ wv.rangeAt g (j * 4) (entC x) ∧ wv.rangeAt eb 0 (entC e) := ⟨by rw [hkv.cell (p := ⟨q, 0, none⟩) hql (fun f => f)]; exact c0, range_kept rx hkv hgl, range_kept re hkv hel⟩
      refine ⟨_, rfl, fun _ => hSv, ?_⟩
      refine wpAnyU_run (i := 17) (v := .bool true) (w' := wv) (some 29) rfl rfl (by kernel_rfl) (by kernel_rfl) (by kernel_rfl) (fun _ => hSv) ?_
      refine wpAnyU_done (by kernel_rfl) ?_ _
      simp only [put_lit, List.set_cons_succ, List.set_cons_zero]
      have HI2 : Hid (Kept (fun _ => False) w wv ∧ Holds wv eb (entC e) 34) := by
        rw [hwv]
        exact ⟨((HI.out.1.drewN 1).alloc _).alloc _, (HI.out.2.drew.alloc _).alloc _⟩
      clear hS hSv hkv hwv HI rx re hbx c0
      go_wp2
      go_roundw
      case rel => exact ⟨j + 1, hlt, by first | rfl | go_num, HI2⟩
      case measure => simp [intOf]; omega
    · obtain rfl : j = A := by omega
      by_cases hAlt : j < N
      · have hjT : j < T.length := by have := hN.out; omega
        obtain ⟨g, rfl, hgq, hgl, hcap, hrow⟩ : ∃ g, ad = some ⟨g, 0, none⟩ ∧ g ≠ q ∧ g < wr.heap.size ∧ T.length ≤ cap ∧ ∀ i (hi : i < T.length), wr.rangeAt g (i * 4) (entC T[i]) := by
          rcases hway with ⟨_, _, h0⟩ | hg
          · rw [h0] at hjT; simp at hjT
          · exact hg
        have rx := hrow j hjT
        have hx0 := HAt.out (by have := hA.out; omega)
        have hHas0 : hasM T e = sameM T[j] e := by
          unfold hasM
          rw [← hA.out, List.getElem?_eq_getElem hjT]
        obtain ⟨x, hx⟩ : ∃ x, x = T[j] := ⟨_, rfl⟩
        have hbx : befM x e = false := by
          have e1 : x = T[atM T e]'(by have := hA.out; omega) := by rw [hx]; congr 1
          rw [e1]; simpa using hx0
        rw [← hx] at rx hHas0
        have jN : (j : Int) < (N : Int) := by omega
        have HI := Lib.hid hI.out
        clear hx hrow hway h1 hjT hI hx0
        go_upto_region 5 with (fail)
        refine wp_region_until (fun w' => w'.cell? ⟨q, 0, none⟩ = some (.slice (some ⟨g, 0, none⟩) N cap) ∧ w'.rangeAt g (j * 4) (entC x) ∧ w'.rangeAt eb 0 (entC e)) 18 (by kernel_rfl) ?_
        have hS : (fun w' : World => w'.cell? ⟨q, 0, none⟩ = some (.slice (some ⟨g, 0, none⟩) N cap) ∧ w'.rangeAt g (j * 4) (entC x) ∧ w'.rangeAt eb 0 (entC e)) wr.drew := ⟨c0, rx, re⟩
        refine wpAnyU_take (i := 0) (v := (.int .i64 (j : Int))) (some 12) rfl rfl (by kernel_rfl) (by kernel_rfl) (by kernel_rfl) (by kernel_rfl) (fun _ _ _ h => h) hS (yields_of (by kernel_rfl) (fun w ⟨s1, s2, s3⟩ => by go_simp)) ?_
        refine wpAnyU_take (i := 1) (v := (.pointer (some ⟨q, 0, none⟩))) (some 13) rfl rfl (by kernel_rfl) (by kernel_rfl) (by kernel_rfl) (by kernel_rfl) (fun _ _ _ h => h) hS (yields_of (by kernel_rfl) (fun w ⟨s1, s2, s3⟩ => by go_simp)) ?_
        refine wpAnyU_take (i := 2) (v := (.pointer (some ⟨q, 0, none⟩))) (some 14) rfl rfl (by kernel_rfl) (by kernel_rfl) (by kernel_rfl) (by kernel_rfl) (fun _ _ _ h => h) hS (yields_of (by kernel_rfl) (fun w ⟨s1, s2, s3⟩ => by go_simp)) ?_
        refine wpAnyU_take (i := 3) (v := (.pointer (some ⟨q, 0, none⟩))) (some 15) rfl rfl (by kernel_rfl) (by kernel_rfl) (by kernel_rfl) (by kernel_rfl) (fun _ _ _ h => h) hS (yields_of (by kernel_rfl) (fun w ⟨s1, s2, s3⟩ => by go_simp)) ?_
        refine wpAnyU_take (i := 4) (v := (.slice (some ⟨g, 0, none⟩) N cap)) (some 16) rfl rfl (by kernel_rfl) (by kernel_rfl) (by kernel_rfl) (by kernel_rfl) (fun _ _ _ h => h) hS (yields_of (by kernel_rfl) (fun w ⟨s1, s2, s3⟩ => by go_simp)) ?_
        refine wpAnyU_take (i := 5) (v := (.int .i64 (N : Int))) (some 17) rfl rfl (by kernel_rfl) (by kernel_rfl) (by kernel_rfl) (by kernel_rfl) (fun _ _ _ h => h) hS (yields_of (by kernel_rfl) (fun w ⟨s1, s2, s3⟩ => by go_simp)) ?_
        refine wpAnyU_take (i := 6) (v := (.bool true)) (some 18) rfl rfl (by kernel_rfl) (by kernel_rfl) (by kernel_rfl) (by kernel_rfl) (fun _ _ _ h => h) hS (yields_of (by kernel_rfl) (fun w ⟨s1, s2, s3⟩ => by go_simp)) ?_
        refine wpAnyU_take (i := 7) (v := (.bool true)) (some 19) rfl rfl (by kernel_rfl) (by kernel_rfl) (by kernel_rfl) (by kernel_rfl) (fun _ _ _ h => h) hS (yields_of (by kernel_rfl) (fun w ⟨s1, s2, s3⟩ => by go_simp)) ?_
        refine wpAnyU_take (i := 8) (v := (.pointer (some ⟨q, 0, none⟩))) (some 20) rfl rfl (by kernel_rfl) (by kernel_rfl) (by kernel_rfl) (by kernel_rfl) (fun _ _ _ h => h) hS (yields_of (by kernel_rfl) (fun w ⟨s1, s2, s3⟩ => by go_simp)) ?_
        refine wpAnyU_take (i := 9) (v := (.pointer (some ⟨q, 0, none⟩))) (some 21) rfl rfl (by kernel_rfl) (by kernel_rfl) (by kernel_rfl) (by kernel_rfl) (fun _ _ _ h => h) hS (yields_of (by kernel_rfl) (fun w ⟨s1, s2, s3⟩ => by go_simp)) ?_
        refine wpAnyU_take (i := 10) (v := (.pointer (some ⟨q, 0, none⟩))) (some 22) rfl rfl (by kernel_rfl) (by kernel_rfl) (by kernel_rfl) (by kernel_rfl) (fun _ _ _ h => h) hS (yields_of (by kernel_rfl) (fun w ⟨s1, s2, s3⟩ => by go_simp)) ?_
        refine wpAnyU_take (i := 11) (v := (.slice (some ⟨g, 0, none⟩) N cap)) (some 23) rfl rfl (by kernel_rfl) (by kernel_rfl) (by kernel_rfl) (by kernel_rfl) (fun _ _ _ h => h) hS (yields_of (by kernel_rfl) (fun w ⟨s1, s2, s3⟩ => by go_simp)) ?_
        refine wpAnyU_take (i := 12) (v := (.int .i64 (j : Int))) (some 24) rfl rfl (by kernel_rfl) (by kernel_rfl) (by kernel_rfl) (by kernel_rfl) (fun _ _ _ h => h) hS (yields_of (by kernel_rfl) (fun w ⟨s1, s2, s3⟩ => by go_simp)) ?_
        refine wpAnyU_take (i := 13) (v := (.pointer (some ⟨g, j * 4, none⟩))) (some 25) rfl rfl (by kernel_rfl) (by kernel_rfl) (by kernel_rfl) (by kernel_rfl) (fun _ _ _ h => h) hS (yields_of (by kernel_rfl) (fun w ⟨s1, s2, s3⟩ => by go_simp)) ?_
        refine wpAnyU_take (i := 14) (v := (.agg (entC x).toArray)) (some 26) rfl rfl (by kernel_rfl) (by kernel_rfl) (by kernel_rfl) (by kernel_rfl) (fun _ _ _ h => h) hS (yieldsIf_load_mid (by kernel_rfl) 34 (.tmp 25) rfl g (j * 4) (by kernel_rfl) (entC x) _ (fun w hw => hw.2.1) Try.underlying34 rfl (by rw [ent_size]; rfl)) ?_
        refine wpAnyU_take (i := 15) (v := (.agg (entC e).toArray)) (some 27) rfl rfl (by kernel_rfl) (by kernel_rfl) (by kernel_rfl) (by kernel_rfl) (fun _ _ _ h => h) hS (yieldsIf_load_mid (by kernel_rfl) 34 (.tmp 3) rfl eb 0 (by kernel_rfl) (entC e) _ (fun w hw => hw.2.2) Try.underlying34 rfl (by rw [ent_size]; rfl)) ?_
        refine wpAnyU_call (i := 16) (f := 15) (args := #[.agg (entC x).toArray, .agg (entC e).toArray]) (some 28) rfl rfl (by kernel_rfl) (by kernel_rfl) (by kernel_rfl) ?_
        refine (rBefore x e wr.drew).mono ?_
        rintro r wv ⟨rfl, hwv⟩
        rw [hbx]
        have hkv : Kept (fun _ => False) wr wv := by rw [hwv]; exact (((Kept.refl _ wr).drewN 1).alloc _).alloc _
        have hSv : wv.cell? ⟨q, 0, none⟩ = some (.slice (some ⟨g, 0, none⟩) N cap) ∧ wv.rangeAt g (j * 4) (entC x) ∧ wv.rangeAt eb 0 (entC e) := ⟨by rw [hkv.cell (p := ⟨q, 0, none⟩) hql (fun f => f)]; exact c0, range_kept rx hkv hgl, range_kept re hkv hel⟩
        refine ⟨_, rfl, fun _ => hSv, ?_⟩
        refine wpAnyU_run (i := 17) (v := .bool false) (w' := wv) (some 29) rfl rfl (by kernel_rfl) (by kernel_rfl) (by kernel_rfl) (fun _ => hSv) ?_
        refine wpAnyU_done (by kernel_rfl) ?_ _
        simp only [put_lit, List.set_cons_succ, List.set_cons_zero]
        have HT : Hid (Kept (fun _ => False) w wv ∧ Holds wv eb (entC e) 34) := by
          rw [hwv]
          exact ⟨((HI.out.1.drewN 1).alloc _).alloc _, (HI.out.2.drew.alloc _).alloc _⟩
        have hgl2 : g < wv.heap.size := Nat.lt_of_lt_of_le hgl hkv.size
        have d0 := hSv.2.1 0 _ rfl
        have d1 := hSv.2.1 1 _ rfl
        have f0 := hSv.2.2 0 _ rfl
        have f1 := hSv.2.2 1 _ rfl
        have cq := hSv.1
        simp only [Nat.add_zero, Nat.zero_add] at d0 d1 f0 f1
        clear hS hSv hkv hwv HI rx re hbx c0
        by_cases hk : x.1 = e.1
        · by_cases hs : x.2.1 = e.2.1
          · have HHas : Hid (hasM T e = true) := hHas0.trans (same_iff.2 ⟨hk, hs⟩)
            rw [hk] at d0
            rw [hs] at d1
            clear hHas0
            go_wp2
            go_quiet (fail)
            go_wp2
            go_ret
            obtain ⟨e1, e2⟩ := HC1.out HHas.out
            rw [e1, e2]
            exact ⟨rfl, _, H.out.still (HT.out.1.drewN _), fun b hb => .inl hb, (HT.out.1.drewN _).mono (fun _ f => f.elim)⟩
          · have HNo : Hid (hasM T e = false) := by
              show _ = _
              rw [hHas0]
              cases h : sameM x e with
              | false => rfl
              | true => exact absurd (same_iff.1 h).2 hs
            have hsb : (x.2.1 == e.2.1) = false := by simpa using hs
            rw [hk] at d0
            clear hHas0
            go_wp2
            go_quiet (fail)
            obtain ⟨wz, hwz⟩ : ∃ wz, wz = wv.drewN nq := ⟨_, rfl⟩
            rw [← hwz]
            have HT : Hid (Kept (fun _ => False) w wz ∧ Holds wz eb (entC e) 34) := by rw [hwz]; exact ⟨HT.out.1.drewN _, HT.out.2⟩
            have c0 : wz.cell? ⟨q, 0, none⟩ = some (.slice (some ⟨g, 0, none⟩) N cap) := by rw [hwz]; exact cq
            have hgl : g < wz.heap.size := by rw [hwz]; exact hgl2
            clear cq d0 d1 f0 f1 hwz hgl2
            have hHas : Hid (hasM T e = false) := HNo.out
            have H1 := Lib.hid (H.out.still HT.out.1)
            have hAc : j ≤ cap := by have := hN.out; omega
            have hAcI : (j : Int) ≤ (cap : Int) := by omega
            have hANI : (j : Int) ≤ (N : Int) := by omega
            have hNc : N ≤ cap := by have := hN.out; omega
            have hNc2 : (N : Int) ≤ (cap : Int) := by omega
            go_wp2_with (at_builtin; refine wpList_append_own _ rfl (.tmp 65) (.tmp 71) 23 rfl wz.heap.size 34 i0 _ 4 48 Try.underlying23 hi0 hz0 hz1 hz2 rfl (by decide) (.slice none 0 0) 0 [] rfl (World.ownsRow_nil _ _ _ _) ⟨g, 0, none⟩ j cap (cellsM (T.take j)) rfl ?e1 ?e2 (cellsM_one _) ?e3 ?e4 (Nat.le_refl _) ?_)
            case e1 => rw [cellsM_length, List.length_take]; have := hN.out; omega
            case e2 =>
              intro m u hj
              rw [cellsM_take, List.getElem?_take] at hj
              split at hj
              · rename_i hlt
                rw [show ((⟨g, 0, none⟩ : Addr).add m) = ⟨g, 0 + m, none⟩ from by unfold Addr.add; split <;> simp_all, Nat.zero_add, H1.out.row.cellAt m (by have := hN.out; omega)]
                exact hj
              · cases hj
            case e3 => unfold maxLen; omega
            case e4 => omega
            intro v1 wA hown1 hgr1 _
            have HV1 : Hid (wA.ownsRow wz.heap.size 34 4 v1 j (cellsM (T.take j)) ∧ Kept (fun _ => False) wz wA) := ⟨by first | exact hown1 | (rw [Nat.zero_add] at hown1; exact hown1), kept_grown (Kept.refl _ _) hgr1 (fun b hb => by cases hb)⟩
            clear hown1 hgr1
            have hHe := HT.out.2.of_block (HV1.out.2.block eb HT.out.2.lt (fun hf => hf))
            have ce0 := hHe.cell 0 _ rfl
            have ce1 := hHe.cell 1 _ rfl
            have ce2 := hHe.cell 2 _ rfl
            have ce3 := hHe.cell 3 _ rfl
            clear hHe
            go_wp2_with (at_builtin; refine wpList_append_own _ rfl (.tmp 73) (.tmp 75) 23 rfl wz.heap.size 34 i0 _ 4 48 Try.underlying23 hi0 hz0 hz1 hz2 rfl (by decide) _ _ _ rfl (HV1.out.1.alloc _) ⟨wA.heap.size, 0, none⟩ 1 1 (entC e) rfl rfl ?d1 (entC_one _) ?d3 ?d4 ?d5 ?_)
            case d1 => intro m u hj; rw [add0]; exact (Holds.new wA (entC e) _).cell m u hj
            case d3 => unfold maxLen; omega
            case d4 => omega
            case d5 => have := HV1.out.2.size; simp; omega
            intro v2 wB hown2 hgr2 _
            have HV2 : Hid (wB.ownsRow wz.heap.size 34 4 v2 (j + 1) (cellsM (T.take j) ++ entC e) ∧ Kept (fun _ => False) wz wB) := ⟨hown2, kept_grown (HV1.out.2.alloc _) hgr2 (fun b hb => .inr (HV1.out.1.lt b hb).1)⟩
            clear hown2 hgr2 HV1 ce0 ce1 ce2 ce3
            have c0' := c0
            have c0B : wB.cell? ⟨q, 0, none⟩ = some (.slice (some ⟨g, 0, none⟩) N cap) := by rw [HV2.out.2.cell (p := ⟨q, 0, none⟩) H1.out.obj.lt (fun hf => hf)]; exact c0
            have HSrc : Hid (∀ (m : Nat) (u : Value), (cellsM (T.drop j))[m]? = some u → wB.cell? ⟨g, j * 4 + m, none⟩ = some u) := fun m u hj => by
              rw [cellsM_drop, List.getElem?_drop] at hj
              have hlt : j * 4 + m < T.length * 4 := by have := (List.getElem?_eq_some_iff.1 hj).1; rwa [cellsM_length] at this
              rw [HV2.out.2.cell (p := ⟨g, j * 4 + m, none⟩) hgl (fun hf => hf), H1.out.row.cellAt _ hlt]
              exact hj
            clear c0
            have hcA' : ¬cap - j = 0 := by omega
            go_wp2_with (at_builtin; refine wpList_append_own _ rfl (.tmp 78) (.tmp 84) 23 rfl wz.heap.size 34 i0 _ 4 48 Try.underlying23 hi0 hz0 hz1 hz2 rfl (by decide) _ _ _ rfl HV2.out.1 ⟨g, j * 4, none⟩ (N - j) (cap - j) (cellsM (T.drop j)) rfl ?d0 ?d1 (cellsM_one _) ?d3 ?d4 ?d5 ?_)
            case d0 => rw [cellsM_length, List.length_drop]; have := hN.out; omega
            case d1 =>
              intro m u hj
              rw [show ((⟨g, j * 4, none⟩ : Addr).add m) = ⟨g, j * 4 + m, none⟩ from by unfold Addr.add; split <;> simp_all]
              exact HSrc.out m u hj
            case d3 => unfold maxLen; omega
            case d4 => omega
            case d5 => exact HV2.out.2.size
            intro v3 wC hown3 hgr3 _
            obtain ⟨ad3, n3, cap3, rfl⟩ := own_anyM hown3
            have hkC : Kept (fun _ => False) wz wC := kept_grown HV2.out.2 hgr3 (fun b hb => .inr (HV2.out.1.lt b hb).1)
            have hqC : wC.cell? ⟨q, 0, none⟩ = some (.slice (some ⟨g, 0, none⟩) N cap) := by rw [hkC.cell (p := ⟨q, 0, none⟩) H1.out.obj.lt (fun hf => hf)]; exact c0'
            have hob := (H1.out.obj.of_block (hkC.block q H1.out.obj.lt (fun hf => hf)))
            have fq := hob.free 0
            have HP : Hid (RmPut w B q (.slice (some ⟨g, 0, none⟩) T.length cap) (insM T e) (wC.setCell ⟨q, 0, none⟩ (.slice ad3 n3 cap3))) := by
              have hvq : (Value.slice ad3 n3 cap3).ownBlock ≠ some q := fun hv => by have h1 := (hown3.lt q hv).1; have h2 := H1.out.obj.lt; omega
              have hs1 := HT.out.1.size
              unfold insM
              rw [← hA.out]
              refine ⟨.slice ad3 n3 cap3, ⟨hob.set 0 _, ?_, H1.out.base, hvq⟩, fun b hb => .inr (by have h1 := (hown3.lt b hb).1; omega), ?_⟩
              · refine owns_setCell (owns_base (owns_lenM hown3 ?_ ?_) (by have := HBw.out; omega)) hvq
                · rw [List.length_append, List.length_take, List.length_cons, List.length_drop]; have := hN.out; omega
                · rw [cellsM_append]; first | rfl | (rw [List.append_assoc]; rfl)
              · exact Kept.setCell (X := fun k => k = q ∨ (Value.slice (some ⟨g, 0, none⟩) T.length cap).ownBlock = some k) (p := ⟨q, 0, none⟩) ((HT.out.1.trans hkC (fun _ hf => hf.elim)).mono (fun _ hf => hf.elim)) (.inl rfl) _
            clear hown3 hgr3 hkC hob c0'
            go_wp2
            go_ret
            obtain ⟨e1, e2⟩ := HC2.out hHas.out
            rw [e1, e2]
            exact ⟨rfl, HP.out⟩
        · have HNo : Hid (hasM T e = false) := by
            show _ = _
            rw [hHas0]
            cases h : sameM x e with
            | false => rfl
            | true => exact absurd (same_iff.1 h).1 hk
          have hkb : (x.1 == e.1) = false := by simpa using hk
          clear hHas0
          go_wp2
          go_quiet (fail)
          obtain ⟨wz, hwz⟩ : ∃ wz, wz = wv.drewN nq := ⟨_, rfl⟩
          rw [← hwz]
          have HT : Hid (Kept (fun _ => False) w wz ∧ Holds wz eb (entC e) 34) := by rw [hwz]; exact ⟨HT.out.1.drewN _, HT.out.2⟩
          have c0 : wz.cell? ⟨q, 0, none⟩ = some (.slice (some ⟨g, 0, none⟩) N cap) := by rw [hwz]; exact cq
          have hgl : g < wz.heap.size := by rw [hwz]; exact hgl2
          clear cq d0 d1 f0 f1 hwz hgl2
          have hHas : Hid (hasM T e = false) := HNo.out
          have H1 := Lib.hid (H.out.still HT.out.1)
          have hAc : j ≤ cap := by have := hN.out; omega
          have hAcI : (j : Int) ≤ (cap : Int) := by omega
          have hANI : (j : Int) ≤ (N : Int) := by omega
          have hNc : N ≤ cap := by have := hN.out; omega
          have hNc2 : (N : Int) ≤ (cap : Int) := by omega
          go_wp2_with (at_builtin; refine wpList_append_own _ rfl (.tmp 65) (.tmp 71) 23 rfl wz.heap.size 34 i0 _ 4 48 Try.underlying23 hi0 hz0 hz1 hz2 rfl (by decide) (.slice none 0 0) 0 [] rfl (World.ownsRow_nil _ _ _ _) ⟨g, 0, none⟩ j cap (cellsM (T.take j)) rfl ?e1 ?e2 (cellsM_one _) ?e3 ?e4 (Nat.le_refl _) ?_)
          case e1 => rw [cellsM_length, List.length_take]; have := hN.out; omega
          case e2 =>
            intro m u hj
            rw [cellsM_take, List.getElem?_take] at hj
            split at hj
            · rename_i hlt
              rw [show ((⟨g, 0, none⟩ : Addr).add m) = ⟨g, 0 + m, none⟩ from by unfold Addr.add; split <;> simp_all, Nat.zero_add, H1.out.row.cellAt m (by have := hN.out; omega)]
              exact hj
            · cases hj
          case e3 => unfold maxLen; omega
          case e4 => omega
          intro v1 wA hown1 hgr1 _
          have HV1 : Hid (wA.ownsRow wz.heap.size 34 4 v1 j (cellsM (T.take j)) ∧ Kept (fun _ => False) wz wA) := ⟨by first | exact hown1 | (rw [Nat.zero_add] at hown1; exact hown1), kept_grown (Kept.refl _ _) hgr1 (fun b hb => by cases hb)⟩
          clear hown1 hgr1
          have hHe := HT.out.2.of_block (HV1.out.2.block eb HT.out.2.lt (fun hf => hf))
          have ce0 := hHe.cell 0 _ rfl
          have ce1 := hHe.cell 1 _ rfl
          have ce2 := hHe.cell 2 _ rfl
          have ce3 := hHe.cell 3 _ rfl
          clear hHe
          go_wp2_with (at_builtin; refine wpList_append_own _ rfl (.tmp 73) (.tmp 75) 23 rfl wz.heap.size 34 i0 _ 4 48 Try.underlying23 hi0 hz0 hz1 hz2 rfl (by decide) _ _ _ rfl (HV1.out.1.alloc _) ⟨wA.heap.size, 0, none⟩ 1 1 (entC e) rfl rfl ?d1 (entC_one _) ?d3 ?d4 ?d5 ?_)
          case d1 => intro m u hj; rw [add0]; exact (Holds.new wA (entC e) _).cell m u hj
          case d3 => unfold maxLen; omega
          case d4 => omega
          case d5 => have := HV1.out.2.size; simp; omega
          intro v2 wB hown2 hgr2 _
          have HV2 : Hid (wB.ownsRow wz.heap.size 34 4 v2 (j + 1) (cellsM (T.take j) ++ entC e) ∧ Kept (fun _ => False) wz wB) := ⟨hown2, kept_grown (HV1.out.2.alloc _) hgr2 (fun b hb => .inr (HV1.out.1.lt b hb).1)⟩
          clear hown2 hgr2 HV1 ce0 ce1 ce2 ce3
          have c0' := c0
          have c0B : wB.cell? ⟨q, 0, none⟩ = some (.slice (some ⟨g, 0, none⟩) N cap) := by rw [HV2.out.2.cell (p := ⟨q, 0, none⟩) H1.out.obj.lt (fun hf => hf)]; exact c0
          have HSrc : Hid (∀ (m : Nat) (u : Value), (cellsM (T.drop j))[m]? = some u → wB.cell? ⟨g, j * 4 + m, none⟩ = some u) := fun m u hj => by
            rw [cellsM_drop, List.getElem?_drop] at hj
            have hlt : j * 4 + m < T.length * 4 := by have := (List.getElem?_eq_some_iff.1 hj).1; rwa [cellsM_length] at this
            rw [HV2.out.2.cell (p := ⟨g, j * 4 + m, none⟩) hgl (fun hf => hf), H1.out.row.cellAt _ hlt]
            exact hj
          clear c0
          have hcA' : ¬cap - j = 0 := by omega
          go_wp2_with (at_builtin; refine wpList_append_own _ rfl (.tmp 78) (.tmp 84) 23 rfl wz.heap.size 34 i0 _ 4 48 Try.underlying23 hi0 hz0 hz1 hz2 rfl (by decide) _ _ _ rfl HV2.out.1 ⟨g, j * 4, none⟩ (N - j) (cap - j) (cellsM (T.drop j)) rfl ?d0 ?d1 (cellsM_one _) ?d3 ?d4 ?d5 ?_)
          case d0 => rw [cellsM_length, List.length_drop]; have := hN.out; omega
          case d1 =>
            intro m u hj
            rw [show ((⟨g, j * 4, none⟩ : Addr).add m) = ⟨g, j * 4 + m, none⟩ from by unfold Addr.add; split <;> simp_all]
            exact HSrc.out m u hj
          case d3 => unfold maxLen; omega
          case d4 => omega
          case d5 => exact HV2.out.2.size
          intro v3 wC hown3 hgr3 _
          obtain ⟨ad3, n3, cap3, rfl⟩ := own_anyM hown3
          have hkC : Kept (fun _ => False) wz wC := kept_grown HV2.out.2 hgr3 (fun b hb => .inr (HV2.out.1.lt b hb).1)
          have hqC : wC.cell? ⟨q, 0, none⟩ = some (.slice (some ⟨g, 0, none⟩) N cap) := by rw [hkC.cell (p := ⟨q, 0, none⟩) H1.out.obj.lt (fun hf => hf)]; exact c0'
          have hob := (H1.out.obj.of_block (hkC.block q H1.out.obj.lt (fun hf => hf)))
          have fq := hob.free 0
          have HP : Hid (RmPut w B q (.slice (some ⟨g, 0, none⟩) T.length cap) (insM T e) (wC.setCell ⟨q, 0, none⟩ (.slice ad3 n3 cap3))) := by
            have hvq : (Value.slice ad3 n3 cap3).ownBlock ≠ some q := fun hv => by have h1 := (hown3.lt q hv).1; have h2 := H1.out.obj.lt; omega
            have hs1 := HT.out.1.size
            unfold insM
            rw [← hA.out]
            refine ⟨.slice ad3 n3 cap3, ⟨hob.set 0 _, ?_, H1.out.base, hvq⟩, fun b hb => .inr (by have h1 := (hown3.lt b hb).1; omega), ?_⟩
            · refine owns_setCell (owns_base (owns_lenM hown3 ?_ ?_) (by have := HBw.out; omega)) hvq
              · rw [List.length_append, List.length_take, List.length_cons, List.length_drop]; have := hN.out; omega
              · rw [cellsM_append]; first | rfl | (rw [List.append_assoc]; rfl)
            · exact Kept.setCell (X := fun k => k = q ∨ (Value.slice (some ⟨g, 0, none⟩) T.length cap).ownBlock = some k) (p := ⟨q, 0, none⟩) ((HT.out.1.trans hkC (fun _ hf => hf.elim)).mono (fun _ hf => hf.elim)) (.inl rfl) _
          clear hown3 hgr3 hkC hob c0'
          go_wp2
          go_ret
          obtain ⟨e1, e2⟩ := HC2.out hHas.out
          rw [e1, e2]
          exact ⟨rfl, HP.out⟩
      · have jN : ¬(j : Int) < (N : Int) := by omega
        have HNo : Hid (hasM T e = false) := by
          show _ = _
          unfold hasM
          rw [← hA.out, List.getElem?_eq_none (by have := hN.out; omega)]
        have HI := Lib.hid hI.out
        rcases hway with ⟨rfl, rfl, hT0⟩ | ⟨g, rfl, hgq, hgl, hcap, hrow⟩
        · clear h1 hI re
          go_wp2
          go_quiet (fail)
          obtain ⟨wy, hwy⟩ : ∃ wy, wy = wr.drewN nq := ⟨_, rfl⟩
          rw [← hwy]
          have c1 : wy.cell? ⟨q, 0, none⟩ = some (.slice none N 0) := by rw [hwy]; exact c0
          have HI2 : Hid (Kept (fun _ => False) w wy ∧ Holds wy eb (entC e) 34) := by rw [hwy]; exact ⟨HI.out.1.drewN _, HI.out.2⟩
          clear hwy c0 HI
          go_wp2
          go_quiet (fail)
          obtain ⟨wz, hwz⟩ : ∃ wz, wz = wy.drewN nq := ⟨_, rfl⟩
          rw [← hwz]
          have HT : Hid (Kept (fun _ => False) w wz ∧ Holds wz eb (entC e) 34) := by rw [hwz]; exact ⟨HI2.out.1.drewN _, HI2.out.2⟩
          have c0 : wz.cell? ⟨q, 0, none⟩ = some (.slice none N 0) := by rw [hwz]; exact c1
          clear c1 hwz HI2
          have hHas : Hid (hasM T e = false) := HNo.out
          have H1 := Lib.hid (H.out.still HT.out.1)
          have hN0 : N = 0 := by rw [hN.out, hT0]; rfl
          have hA00 : j = 0 := by omega
          subst hN0 hA00
          have ce0 := HT.out.2.cell 0 _ rfl
          have ce1 := HT.out.2.cell 1 _ rfl
          have ce2 := HT.out.2.cell 2 _ rfl
          have ce3 := HT.out.2.cell 3 _ rfl
          have HV1 : Hid (wz.ownsRow wz.heap.size 34 4 (.slice none 0 0) 0 [] ∧ Kept (fun _ => False) wz wz) := ⟨World.ownsRow_nil _ _ _ _, Kept.refl _ _⟩
          go_wp2_with (at_builtin; first | (refine wpList_append_own_none rfl (.tmp 65) (.tmp 71) 23 rfl wz.heap.size 34 i0 4 Try.underlying23 hi0 (.slice none 0 0) 0 [] rfl (World.ownsRow_nil _ _ _ _) rfl ?_) | (refine wpList_append_own _ rfl (.tmp 73) (.tmp 75) 23 rfl wz.heap.size 34 i0 _ 4 48 Try.underlying23 hi0 hz0 hz1 hz2 rfl (by decide) _ _ _ rfl (HV1.out.1.alloc _) ⟨wz.heap.size, 0, none⟩ 1 1 (entC e) rfl rfl ?d1 (entC_one _) ?d3 ?d4 ?d5 ?_))
          case d1 => intro m u hj; first | (rw [add0]; exact (Holds.new wz (entC e) _).cell m u hj) | exact hj
          case d3 => unfold maxLen; omega
          try case d4 => omega
          case d5 => simp
          intro v2 wB hown2 hgr2 _
          have HV2 : Hid (wB.ownsRow wz.heap.size 34 4 v2 1 (entC e) ∧ Kept (fun _ => False) wz wB) := ⟨by first | exact hown2 | (simpa using hown2), kept_grown (HV1.out.2.alloc _) hgr2 (fun b hb => by cases hb)⟩
          clear hown2 hgr2 HV1 ce0 ce1 ce2 ce3
          have c0B : wB.cell? ⟨q, 0, none⟩ = some (.slice none 0 0) := by rw [HV2.out.2.cell (p := ⟨q, 0, none⟩) H1.out.obj.lt (fun hf => hf)]; exact c0
          clear c0
          obtain ⟨ad2, n2, cap2, rfl⟩ := own_anyM HV2.out.1
          have hob := (H1.out.obj.of_block (HV2.out.2.block q H1.out.obj.lt (fun hf => hf)))
          have fq := hob.free 0
          have HP : Hid (RmPut w B q (.slice none T.length 0) (insM T e) (wB.setCell ⟨q, 0, none⟩ (.slice ad2 n2 cap2))) := by
            have hvq : (Value.slice ad2 n2 cap2).ownBlock ≠ some q := fun hv => by have h1 := (HV2.out.1.lt q hv).1; have h2 := H1.out.obj.lt; omega
            have hs1 := HT.out.1.size
            have hins : insM T e = [e] := by rw [hT0]; rfl
            rw [hins]
            refine ⟨.slice ad2 n2 cap2, ⟨hob.set 0 _, ?_, H1.out.base, hvq⟩, fun b hb => .inr (by have h1 := (HV2.out.1.lt b hb).1; omega), ?_⟩
            · exact owns_setCell (owns_base (owns_lenM HV2.out.1 rfl (by simp [cellsM])) (by have := HBw.out; omega)) hvq
            · exact Kept.setCell (X := fun k => k = q ∨ (Value.slice none T.length 0).ownBlock = some k) (p := ⟨q, 0, none⟩) ((HT.out.1.trans HV2.out.2 (fun _ hf => hf.elim)).mono (fun _ hf => hf.elim)) (.inl rfl) _
          clear hob
          go_wp2_with (at_builtin; refine wpList_append_own_none rfl (.tmp 78) (.tmp 84) 23 rfl wz.heap.size 34 i0 4 Try.underlying23 hi0 _ _ _ rfl HV2.out.1 rfl ?_)
          go_ret
          obtain ⟨e1, e2⟩ := HC2.out hHas.out
          rw [e1, e2]
          exact ⟨rfl, HP.out⟩
        · clear h1 hI re hrow
          go_wp2
          go_quiet (fail)
          obtain ⟨wy, hwy⟩ : ∃ wy, wy = wr.drewN nq := ⟨_, rfl⟩
          rw [← hwy]
          have c1 : wy.cell? ⟨q, 0, none⟩ = some (.slice (some ⟨g, 0, none⟩) N cap) := by rw [hwy]; exact c0
          have HI2 : Hid (Kept (fun _ => False) w wy ∧ Holds wy eb (entC e) 34) := by rw [hwy]; exact ⟨HI.out.1.drewN _, HI.out.2⟩
          have hgl1 : g < wy.heap.size := by rw [hwy]; exact hgl
          clear hwy c0 HI hgl
          go_wp2
          go_quiet (fail)
          obtain ⟨wz, hwz⟩ : ∃ wz, wz = wy.drewN nq := ⟨_, rfl⟩
          rw [← hwz]
          have HT : Hid (Kept (fun _ => False) w wz ∧ Holds wz eb (entC e) 34) := by rw [hwz]; exact ⟨HI2.out.1.drewN _, HI2.out.2⟩
          have c0 : wz.cell? ⟨q, 0, none⟩ = some (.slice (some ⟨g, 0, none⟩) N cap) := by rw [hwz]; exact c1
          have hgl : g < wz.heap.size := by rw [hwz]; exact hgl1
          clear c1 hwz HI2 hgl1
          have hHas : Hid (hasM T e = false) := HNo.out
          have H1 := Lib.hid (H.out.still HT.out.1)
          have hAc : j ≤ cap := by have := hN.out; omega
          have hAcI : (j : Int) ≤ (cap : Int) := by omega
          have hANI : (j : Int) ≤ (N : Int) := by omega
          have hNc : N ≤ cap := by have := hN.out; omega
          have hNc2 : (N : Int) ≤ (cap : Int) := by omega
          go_wp2_with (at_builtin; refine wpList_append_own _ rfl (.tmp 65) (.tmp 71) 23 rfl wz.heap.size 34 i0 _ 4 48 Try.underlying23 hi0 hz0 hz1 hz2 rfl (by decide) (.slice none 0 0) 0 [] rfl (World.ownsRow_nil _ _ _ _) ⟨g, 0, none⟩ j cap (cellsM (T.take j)) rfl ?e1 ?e2 (cellsM_one _) ?e3 ?e4 (Nat.le_refl _) ?_)
          case e1 => rw [cellsM_length, List.length_take]; have := hN.out; omega
          case e2 =>
            intro m u hj
            rw [cellsM_take, List.getElem?_take] at hj
            split at hj
            · rename_i hlt
              rw [show ((⟨g, 0, none⟩ : Addr).add m) = ⟨g, 0 + m, none⟩ from by unfold Addr.add; split <;> simp_all, Nat.zero_add, H1.out.row.cellAt m (by have := hN.out; omega)]
              exact hj
            · cases hj
          case e3 => unfold maxLen; omega
          case e4 => omega
          intro v1 wA hown1 hgr1 _
          have HV1 : Hid (wA.ownsRow wz.heap.size 34 4 v1 j (cellsM (T.take j)) ∧ Kept (fun _ => False) wz wA) := ⟨by first | exact hown1 | (rw [Nat.zero_add] at hown1; exact hown1), kept_grown (Kept.refl _ _) hgr1 (fun b hb => by cases hb)⟩
          clear hown1 hgr1
          have hHe := HT.out.2.of_block (HV1.out.2.block eb HT.out.2.lt (fun hf => hf))
          have ce0 := hHe.cell 0 _ rfl
          have ce1 := hHe.cell 1 _ rfl
          have ce2 := hHe.cell 2 _ rfl
          have ce3 := hHe.cell 3 _ rfl
          clear hHe
          go_wp2_with (at_builtin; refine wpList_append_own _ rfl (.tmp 73) (.tmp 75) 23 rfl wz.heap.size 34 i0 _ 4 48 Try.underlying23 hi0 hz0 hz1 hz2 rfl (by decide) _ _ _ rfl (HV1.out.1.alloc _) ⟨wA.heap.size, 0, none⟩ 1 1 (entC e) rfl rfl ?d1 (entC_one _) ?d3 ?d4 ?d5 ?_)
          case d1 => intro m u hj; rw [add0]; exact (Holds.new wA (entC e) _).cell m u hj
          case d3 => unfold maxLen; omega
          case d4 => omega
          case d5 => have := HV1.out.2.size; simp; omega
          intro v2 wB hown2 hgr2 _
          have HV2 : Hid (wB.ownsRow wz.heap.size 34 4 v2 (j + 1) (cellsM (T.take j) ++ entC e) ∧ Kept (fun _ => False) wz wB) := ⟨hown2, kept_grown (HV1.out.2.alloc _) hgr2 (fun b hb => .inr (HV1.out.1.lt b hb).1)⟩
          clear hown2 hgr2 HV1 ce0 ce1 ce2 ce3
          have c0' := c0
          have c0B : wB.cell? ⟨q, 0, none⟩ = some (.slice (some ⟨g, 0, none⟩) N cap) := by rw [HV2.out.2.cell (p := ⟨q, 0, none⟩) H1.out.obj.lt (fun hf => hf)]; exact c0
          have HSrc : Hid (∀ (m : Nat) (u : Value), (cellsM (T.drop j))[m]? = some u → wB.cell? ⟨g, j * 4 + m, none⟩ = some u) := fun m u hj => by
            rw [cellsM_drop, List.getElem?_drop] at hj
            have hlt : j * 4 + m < T.length * 4 := by have := (List.getElem?_eq_some_iff.1 hj).1; rwa [cellsM_length] at this
            rw [HV2.out.2.cell (p := ⟨g, j * 4 + m, none⟩) hgl (fun hf => hf), H1.out.row.cellAt _ hlt]
            exact hj
          clear c0
          by_cases hcA : cap = j
          · have hAN' : N = j := by omega
            have hd : T.drop j = [] := List.drop_eq_nil_of_le (by have := hN.out; omega)
            go_wp2_with (at_builtin; refine wpList_append_own _ rfl (.tmp 78) (.tmp 84) 23 rfl wz.heap.size 34 i0 _ 4 48 Try.underlying23 hi0 hz0 hz1 hz2 rfl (by decide) _ _ _ rfl HV2.out.1 ⟨g, 0, none⟩ 0 0 [] (by first | rfl | (show Value.slice _ _ _ = _; simp [hcA, hAN'])) rfl (fun m u hj => by simp at hj) (fun u hu => by simp at hu) ?d3 ?d4 ?d5 ?_)
            case d3 => unfold maxLen; omega
            case d4 => omega
            case d5 => exact HV2.out.2.size
            intro v3 wC hown3 hgr3 _
            obtain ⟨ad3, n3, cap3, rfl⟩ := own_anyM hown3
            have hkC : Kept (fun _ => False) wz wC := kept_grown HV2.out.2 hgr3 (fun b hb => .inr (HV2.out.1.lt b hb).1)
            have hqC : wC.cell? ⟨q, 0, none⟩ = some (.slice (some ⟨g, 0, none⟩) N cap) := by rw [hkC.cell (p := ⟨q, 0, none⟩) H1.out.obj.lt (fun hf => hf)]; exact c0'
            have hob := (H1.out.obj.of_block (hkC.block q H1.out.obj.lt (fun hf => hf)))
            have fq := hob.free 0
            have HP : Hid (RmPut w B q (.slice (some ⟨g, 0, none⟩) T.length cap) (insM T e) (wC.setCell ⟨q, 0, none⟩ (.slice ad3 n3 cap3))) := by
              have hvq : (Value.slice ad3 n3 cap3).ownBlock ≠ some q := fun hv => by have h1 := (hown3.lt q hv).1; have h2 := H1.out.obj.lt; omega
              have hs1 := HT.out.1.size
              unfold insM
              rw [← hA.out]
              refine ⟨.slice ad3 n3 cap3, ⟨hob.set 0 _, ?_, H1.out.base, hvq⟩, fun b hb => .inr (by have h1 := (hown3.lt b hb).1; omega), ?_⟩
              · refine owns_setCell (owns_base (owns_lenM hown3 ?_ ?_) (by have := HBw.out; omega)) hvq
                · rw [List.length_append, List.length_take, List.length_cons, hd, List.length_nil]; have := hN.out; omega
                · rw [cellsM_append, hd]; first | rfl | (rw [List.append_assoc]; rfl)
              · exact Kept.setCell (X := fun k => k = q ∨ (Value.slice (some ⟨g, 0, none⟩) T.length cap).ownBlock = some k) (p := ⟨q, 0, none⟩) ((HT.out.1.trans hkC (fun _ hf => hf.elim)).mono (fun _ hf => hf.elim)) (.inl rfl) _
            clear hown3 hgr3 hkC hob c0'
            go_wp2
            go_ret
            obtain ⟨e1, e2⟩ := HC2.out hHas.out
            rw [e1, e2]
            exact ⟨rfl, HP.out⟩
          · have hcA' : ¬cap - j = 0 := by omega
            go_wp2_with (at_builtin; refine wpList_append_own _ rfl (.tmp 78) (.tmp 84) 23 rfl wz.heap.size 34 i0 _ 4 48 Try.underlying23 hi0 hz0 hz1 hz2 rfl (by decide) _ _ _ rfl HV2.out.1 ⟨g, j * 4, none⟩ (N - j) (cap - j) (cellsM (T.drop j)) rfl ?d0 ?d1 (cellsM_one _) ?d3 ?d4 ?d5 ?_)
            case d0 => rw [cellsM_length, List.length_drop]; have := hN.out; omega
            case d1 =>
              intro m u hj
              rw [show ((⟨g, j * 4, none⟩ : Addr).add m) = ⟨g, j * 4 + m, none⟩ from by unfold Addr.add; split <;> simp_all]
              exact HSrc.out m u hj
            case d3 => unfold maxLen; omega
            case d4 => omega
            case d5 => exact HV2.out.2.size
            intro v3 wC hown3 hgr3 _
            obtain ⟨ad3, n3, cap3, rfl⟩ := own_anyM hown3
            have hkC : Kept (fun _ => False) wz wC := kept_grown HV2.out.2 hgr3 (fun b hb => .inr (HV2.out.1.lt b hb).1)
            have hqC : wC.cell? ⟨q, 0, none⟩ = some (.slice (some ⟨g, 0, none⟩) N cap) := by rw [hkC.cell (p := ⟨q, 0, none⟩) H1.out.obj.lt (fun hf => hf)]; exact c0'
            have hob := (H1.out.obj.of_block (hkC.block q H1.out.obj.lt (fun hf => hf)))
            have fq := hob.free 0
            have HP : Hid (RmPut w B q (.slice (some ⟨g, 0, none⟩) T.length cap) (insM T e) (wC.setCell ⟨q, 0, none⟩ (.slice ad3 n3 cap3))) := by
              have hvq : (Value.slice ad3 n3 cap3).ownBlock ≠ some q := fun hv => by have h1 := (hown3.lt q hv).1; have h2 := H1.out.obj.lt; omega
              have hs1 := HT.out.1.size
              unfold insM
              rw [← hA.out]
              refine ⟨.slice ad3 n3 cap3, ⟨hob.set 0 _, ?_, H1.out.base, hvq⟩, fun b hb => .inr (by have h1 := (hown3.lt b hb).1; omega), ?_⟩
              · refine owns_setCell (owns_base (owns_lenM hown3 ?_ ?_) (by have := HBw.out; omega)) hvq
                · rw [List.length_append, List.length_take, List.length_cons, List.length_drop]; have := hN.out; omega
                · rw [cellsM_append]; first | rfl | (rw [List.append_assoc]; rfl)
              · exact Kept.setCell (X := fun k => k = q ∨ (Value.slice (some ⟨g, 0, none⟩) T.length cap).ownBlock = some k) (p := ⟨q, 0, none⟩) ((HT.out.1.trans hkC (fun _ hf => hf.elim)).mono (fun _ hf => hf.elim)) (.inl rfl) _
            clear hown3 hgr3 hkC hob c0'
            go_wp2
            go_ret
            obtain ⟨e1, e2⟩ := HC2.out hHas.out
            rw [e1, e2]
            exact ⟨rfl, HP.out⟩

theorem rmPut (w : World) (B q : Nat) (vL : Value) (T : List MEnt) (e : MEnt) (h : RmAt w B q vL T) (hBw : B ≤ w.heap.size) (hl : T.length ≤ 1000) :
    Calls Try.prog 10 #[.pointer (some ⟨q, 0, none⟩), .agg (entC e).toArray] w fun r w' => r = .returned (.int .i64 (putC T e : Int)) ∧ RmPut w B q vL (putM T e) w' := by
  cases hr : rightM e with
  | false =>
    have e1 : putC T e = 1 := by unfold putC; simp [hr]
    have e2 : putM T e = T := by unfold putM; simp [e1]
    rw [e1, e2]
    exact rmPut_bad w B q vL T e h hr
  | true =>
    refine rmPut_ok w B q vL T e h hBw hl hr (putC T e) (putM T e) (fun hh => ?_) (fun hh => ?_)
    · have e1 : putC T e = 9 := by unfold putC; simp [hr, hh]
      exact ⟨e1, by unfold putM; simp [e1]⟩
    · have e1 : putC T e = 0 := putC_zero.2 ⟨hr, hh⟩
      exact ⟨e1, by unfold putM; simp [e1]⟩

end Go.Proofs.Ytlmlldcpllagbaa
