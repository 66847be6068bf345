/- The reference of layer 15: put. Printed by genrp15.py. -/
import Derived.Test.YthkejfhcdodggaaRf15
import Derived.Test.YthkejfhcdodggaaJ09
namespace Go.Proofs.Ythkejfhcdodggaa
open Go.RowKit Go.Proofs Go.Proofs.Pk
set_option maxRecDepth 10000
attribute [local simp] mk_get wrap64_u8 mk_extract ByteArray.mk_append_mk get_1k

theorem OutO.form {w0 w : World} {ad : Option Addr} {n cap : Nat} {T : List MEnt} (h : OutO w0 w ad n cap T) : (ad = none ∧ cap = 0 ∧ n = 0 ∧ T = []) ∨ ∃ g, ad = some ⟨g, 0, none⟩ ∧ g < w.heap.size ∧ n ≤ cap ∧ ∀ i (hi : i < T.length), w.rangeAt g (i * 4) (entC T[i]) := by
  have h1 := h.1
  rcases h.2.1.2 with ⟨hv, hn⟩ | ⟨g, c, cur, hv, _, h2, h3, _⟩
  · cases hv; exact .inl ⟨rfl, rfl, hn, List.length_eq_zero_iff.1 (by omega)⟩
  · cases hv
    refine .inr ⟨g, rfl, (Array.getElem?_eq_some_iff.1 h2).1, h3, fun i hi => ?_⟩
    have h4 := h.2.1
    rw [← h1] at h4
    obtain ⟨g', cap', e, _, _, hr⟩ := rows_range h4 i hi
    cases e
    exact hr
/-- What put answers. -/
def PutO (w0 : World) (T : List MEnt) (r : Ending) (w' : World) : Prop := ∃ (ad : Option Addr) (n cap : Nat), r = .returned (.slice ad n cap) ∧ OutO w0 w' ad n cap T

set_option maxHeartbeats 16000000 in
theorem rPut (w0 w : World) (ad : Option Addr) (n cap : Nat) (T : List MEnt) (e : MEnt) (h : OutO w0 w ad n cap T) (hf : FitN e.2.1) (hl : n ≤ 1000) :
    Calls Try.prog 22 #[.slice ad n cap, .agg (entC e).toArray] w (PutO w0 (putG T e)) := by
  obtain ⟨i0, hi0, hz0, hz1, hz2⟩ := info_parts ent_info
  have hTn := h.1
  have hle := atM_le e T
  have HBf := Lib.hid (atM_before e T)
  have HAt := Lib.hid (atM_at e T)
  obtain ⟨A, hA⟩ : ∃ A, Hid (A = atM T e) := ⟨_, rfl⟩
  have hAN : A ≤ n := by rw [hA.out]; omega
  have HG : Hid (putG T e = if hasM T e = true then T else T.take A ++ e :: T.drop A) := by show _ = _; rw [hA.out]; exact putG_at T e
  obtain ⟨R, hR⟩ : ∃ R, Hid (R = putG T e) := ⟨_, rfl⟩
  rw [← hR.out] at HG ⊢
  have H := Lib.hid h
  have HFe := Lib.hid hf
  obtain ⟨eb, heb⟩ : ∃ eb, eb = w.heap.size := ⟨_, rfl⟩
  clear h hle hf hR
  have hC : entC e = [.string ⟨e.1.toArray⟩, .int .i64 e.2.1, .bool e.2.2.1, .string ⟨e.2.2.2.toArray⟩] := rfl
  rw [hC]
  go_enter Try.func22, Try.ntmps22
  go_wp2
  rw [← heb]
  obtain ⟨wq, hwq⟩ : ∃ wq, wq = w.alloc (.cells #[.string ⟨e.1.toArray⟩, .int .i64 e.2.1, .bool e.2.2.1, .string ⟨e.2.2.2.toArray⟩] 34) := ⟨_, rfl⟩
  rw [← hwq]
  have hI0 : Hid (OutO w0 wq ad n cap T ∧ Holds wq eb (entC e) 34) := by
    rw [hwq, heb]
    exact ⟨H.out.kept ((Kept.refl _ w).alloc _), Holds.new w _ _⟩
  clear hwq heb hC H
  go_loopw [5] (fun i wr => ∃ j : Nat, j ≤ A ∧ i = .int .i64 (j : Int) ∧ Hid (OutO w0 wr ad n cap T ∧ Holds wr eb (entC e) 34)) (fun i _ => A - (intOf i).toNat)
  case atStart => exact ⟨0, Nat.zero_le _, rfl, hI0⟩
  case round =>
    obtain ⟨j, hj, rfl, hI⟩ := hrel
    clear hI0
    have j0 : (0 : Int) ≤ (j : Int) := by omega
    have hwj : IntKind.i64.wrap ((j : Int) + 1) = (j : Int) + 1 := IntWalk.i64_in _ (by omega)
    have hel := hI.out.2.lt
    have re : wr.rangeAt eb 0 (entC e) := hI.out.2.range 0 _ (fun k v hv => by rw [Nat.zero_add]; exact hv)
    have HE : Hid (wr.rangeAt eb 0 (entC e)) := re
    obtain ⟨hIO, hIH⟩ := hI.out
    by_cases hlt : j < A
    · have hjT : j < T.length := by omega
      obtain ⟨g, rfl, hgl, hcap, hrow⟩ : ∃ g, ad = some ⟨g, 0, none⟩ ∧ g < wr.heap.size ∧ n ≤ cap ∧ ∀ i (hi : i < T.length), wr.rangeAt g (i * 4) (entC T[i]) := by
        rcases hIO.form with ⟨_, _, h0, _⟩ | hg
        · omega
        · exact hg
      have rx := hrow j hjT
      have hbx := HBf.out j (by have := hA.out; omega) hjT
      obtain ⟨x, hx⟩ : ∃ x, x = T[j] := ⟨_, rfl⟩
      rw [← hx] at rx hbx
      have jN : (j : Int) < (n : Int) := by omega
      clear hx hrow hjT hI HE
      go_upto_region 2 with (fail)
      refine wp_region_until (fun w' => w'.rangeAt g (j * 4) (entC x) ∧ w'.rangeAt eb 0 (entC e)) 12 (by kernel_rfl) ?_
      have hS : (fun w' : World => w'.rangeAt g (j * 4) (entC x) ∧ w'.rangeAt eb 0 (entC e)) wr.drew := ⟨rx, re⟩
      refine wpAnyU_take (i := 0) (v := (.int .i64 (j : Int))) (some 7) rfl rfl (by kernel_rfl) (by kernel_rfl) (by kernel_rfl) (by kernel_rfl) (fun _ _ _ h => h) hS (yields_of (by kernel_rfl) (fun w ⟨s2, s3⟩ => by go_simp)) ?_
      refine wpAnyU_take (i := 1) (v := (.slice (some ⟨g, 0, none⟩) n cap)) (some 8) rfl rfl (by kernel_rfl) (by kernel_rfl) (by kernel_rfl) (by kernel_rfl) (fun _ _ _ h => h) hS (yields_of (by kernel_rfl) (fun w ⟨s2, s3⟩ => by go_simp)) ?_
      refine wpAnyU_take (i := 2) (v := (.int .i64 (n : Int))) (some 9) rfl rfl (by kernel_rfl) (by kernel_rfl) (by kernel_rfl) (by kernel_rfl) (fun _ _ _ h => h) hS (yields_of (by kernel_rfl) (fun w ⟨s2, s3⟩ => by go_simp)) ?_
      refine wpAnyU_take (i := 3) (v := (.bool true)) (some 10) rfl rfl (by kernel_rfl) (by kernel_rfl) (by kernel_rfl) (by kernel_rfl) (fun _ _ _ h => h) hS (yields_of (by kernel_rfl) (fun w ⟨s2, s3⟩ => by go_simp)) ?_
      refine wpAnyU_take (i := 4) (v := (.bool true)) (some 11) rfl rfl (by kernel_rfl) (by kernel_rfl) (by kernel_rfl) (by kernel_rfl) (fun _ _ _ h => h) hS (yields_of (by kernel_rfl) (fun w ⟨s2, s3⟩ => by go_simp)) ?_
      refine wpAnyU_take (i := 5) (v := (.slice (some ⟨g, 0, none⟩) n cap)) (some 12) rfl rfl (by kernel_rfl) (by kernel_rfl) (by kernel_rfl) (by kernel_rfl) (fun _ _ _ h => h) hS (yields_of (by kernel_rfl) (fun w ⟨s2, s3⟩ => by go_simp)) ?_
      refine wpAnyU_take (i := 6) (v := (.int .i64 (j : Int))) (some 13) rfl rfl (by kernel_rfl) (by kernel_rfl) (by kernel_rfl) (by kernel_rfl) (fun _ _ _ h => h) hS (yields_of (by kernel_rfl) (fun w ⟨s2, s3⟩ => by go_simp)) ?_
      refine wpAnyU_take (i := 7) (v := (.pointer (some ⟨g, j * 4, none⟩))) (some 14) rfl rfl (by kernel_rfl) (by kernel_rfl) (by kernel_rfl) (by kernel_rfl) (fun _ _ _ h => h) hS (yields_of (by kernel_rfl) (fun w ⟨s2, s3⟩ => by go_simp)) ?_
      refine wpAnyU_take (i := 8) (v := (.agg (entC x).toArray)) (some 15) rfl rfl (by kernel_rfl) (by kernel_rfl) (by kernel_rfl) (by kernel_rfl) (fun _ _ _ h => h) hS (yieldsIf_load_mid (by kernel_rfl) 34 (.tmp 14) rfl g (j * 4) (by kernel_rfl) (entC x) _ (fun w hw => hw.1) Try.underlying34 rfl (by rw [ent_size]; rfl)) ?_
      refine wpAnyU_take (i := 9) (v := (.agg (entC e).toArray)) (some 16) rfl rfl (by kernel_rfl) (by kernel_rfl) (by kernel_rfl) (by kernel_rfl) (fun _ _ _ h => h) hS (yieldsIf_load_mid (by kernel_rfl) 34 (.tmp 3) rfl eb 0 (by kernel_rfl) (entC e) _ (fun w hw => hw.2) Try.underlying34 rfl (by rw [ent_size]; rfl)) ?_
      refine wpAnyU_call (i := 10) (f := 36) (args := #[.agg (entC x).toArray, .agg (entC e).toArray]) (some 17) rfl rfl (by kernel_rfl) (by kernel_rfl) (by kernel_rfl) ?_
      refine (rBefore x e wr.drew).mono ?_
      rintro r wv ⟨rfl, hwv⟩
      rw [hbx]
      have hkv : Kept (fun _ => False) wr wv := by rw [hwv]; exact (((Kept.refl _ wr).drewN 1).alloc _).alloc _
      have hSv : wv.rangeAt g (j * 4) (entC x) ∧ wv.rangeAt eb 0 (entC e) := ⟨range_kept rx hkv hgl, range_kept re hkv hel⟩
      refine ⟨_, rfl, fun _ => hSv, ?_⟩
      refine wpAnyU_run (i := 11) (v := .bool true) (w' := wv) (some 18) rfl rfl (by kernel_rfl) (by kernel_rfl) (by kernel_rfl) (fun _ => hSv) ?_
      refine wpAnyU_done (by kernel_rfl) ?_ _
      simp only [put_lit, List.set_cons_succ, List.set_cons_zero]
      have HI2 : Hid (OutO w0 wv (some ⟨g, 0, none⟩) n cap T ∧ Holds wv eb (entC e) 34) := by
        rw [hwv]
        exact ⟨hIO.kept ((((Kept.refl _ wr).drewN 1).alloc _).alloc _), (hIH.drew.alloc _).alloc _⟩
      clear hS hSv hkv hwv hIO hIH rx re hbx
      go_wp2
      go_roundw
      case rel => exact ⟨j + 1, hlt, by first | rfl | go_num, HI2⟩
      case measure => simp [intOf]; omega
    · obtain rfl : j = A := by omega
      by_cases hAlt : j < n
      · have hjT : j < T.length := by omega
        obtain ⟨g, rfl, hgl, hcap, hrow⟩ : ∃ g, ad = some ⟨g, 0, none⟩ ∧ g < wr.heap.size ∧ n ≤ cap ∧ ∀ i (hi : i < T.length), wr.rangeAt g (i * 4) (entC T[i]) := by
          rcases hIO.form with ⟨_, _, h0, _⟩ | hg
          · omega
          · exact hg
        have rx := hrow j hjT
        have hx0 := HAt.out (by have := hA.out; omega)
        have hHas0 : hasM T e = sameM T[j] e := by
          unfold hasM
          rw [← hA.out, List.getElem?_eq_getElem hjT]
        obtain ⟨x, hx⟩ : ∃ x, x = T[j] := ⟨_, rfl⟩
        have hbx : befM x e = false := by
          have e1 : x = T[atM T e]'(by have := hA.out; omega) := by rw [hx]; congr 1
          rw [e1]; simpa using hx0
        rw [← hx] at rx hHas0
        have jN : (j : Int) < (n : Int) := by omega
        rw [hHas0] at HG
        have HG2 := Lib.hid HG.out
        clear hx hrow hjT hI hx0 HE hHas0 HG
        go_upto_region 2 with (fail)
        refine wp_region_until (fun w' => w'.rangeAt g (j * 4) (entC x) ∧ w'.rangeAt eb 0 (entC e)) 12 (by kernel_rfl) ?_
        have hS : (fun w' : World => w'.rangeAt g (j * 4) (entC x) ∧ w'.rangeAt eb 0 (entC e)) wr.drew := ⟨rx, re⟩
        refine wpAnyU_take (i := 0) (v := (.int .i64 (j : Int))) (some 7) rfl rfl (by kernel_rfl) (by kernel_rfl) (by kernel_rfl) (by kernel_rfl) (fun _ _ _ h => h) hS (yields_of (by kernel_rfl) (fun w ⟨s2, s3⟩ => by go_simp)) ?_
        refine wpAnyU_take (i := 1) (v := (.slice (some ⟨g, 0, none⟩) n cap)) (some 8) rfl rfl (by kernel_rfl) (by kernel_rfl) (by kernel_rfl) (by kernel_rfl) (fun _ _ _ h => h) hS (yields_of (by kernel_rfl) (fun w ⟨s2, s3⟩ => by go_simp)) ?_
        refine wpAnyU_take (i := 2) (v := (.int .i64 (n : Int))) (some 9) rfl rfl (by kernel_rfl) (by kernel_rfl) (by kernel_rfl) (by kernel_rfl) (fun _ _ _ h => h) hS (yields_of (by kernel_rfl) (fun w ⟨s2, s3⟩ => by go_simp)) ?_
        refine wpAnyU_take (i := 3) (v := (.bool true)) (some 10) rfl rfl (by kernel_rfl) (by kernel_rfl) (by kernel_rfl) (by kernel_rfl) (fun _ _ _ h => h) hS (yields_of (by kernel_rfl) (fun w ⟨s2, s3⟩ => by go_simp)) ?_
        refine wpAnyU_take (i := 4) (v := (.bool true)) (some 11) rfl rfl (by kernel_rfl) (by kernel_rfl) (by kernel_rfl) (by kernel_rfl) (fun _ _ _ h => h) hS (yields_of (by kernel_rfl) (fun w ⟨s2, s3⟩ => by go_simp)) ?_
        refine wpAnyU_take (i := 5) (v := (.slice (some ⟨g, 0, none⟩) n cap)) (some 12) rfl rfl (by kernel_rfl) (by kernel_rfl) (by kernel_rfl) (by kernel_rfl) (fun _ _ _ h => h) hS (yields_of (by kernel_rfl) (fun w ⟨s2, s3⟩ => by go_simp)) ?_
        refine wpAnyU_take (i := 6) (v := (.int .i64 (j : Int))) (some 13) rfl rfl (by kernel_rfl) (by kernel_rfl) (by kernel_rfl) (by kernel_rfl) (fun _ _ _ h => h) hS (yields_of (by kernel_rfl) (fun w ⟨s2, s3⟩ => by go_simp)) ?_
        refine wpAnyU_take (i := 7) (v := (.pointer (some ⟨g, j * 4, none⟩))) (some 14) rfl rfl (by kernel_rfl) (by kernel_rfl) (by kernel_rfl) (by kernel_rfl) (fun _ _ _ h => h) hS (yields_of (by kernel_rfl) (fun w ⟨s2, s3⟩ => by go_simp)) ?_
        refine wpAnyU_take (i := 8) (v := (.agg (entC x).toArray)) (some 15) rfl rfl (by kernel_rfl) (by kernel_rfl) (by kernel_rfl) (by kernel_rfl) (fun _ _ _ h => h) hS (yieldsIf_load_mid (by kernel_rfl) 34 (.tmp 14) rfl g (j * 4) (by kernel_rfl) (entC x) _ (fun w hw => hw.1) Try.underlying34 rfl (by rw [ent_size]; rfl)) ?_
        refine wpAnyU_take (i := 9) (v := (.agg (entC e).toArray)) (some 16) rfl rfl (by kernel_rfl) (by kernel_rfl) (by kernel_rfl) (by kernel_rfl) (fun _ _ _ h => h) hS (yieldsIf_load_mid (by kernel_rfl) 34 (.tmp 3) rfl eb 0 (by kernel_rfl) (entC e) _ (fun w hw => hw.2) Try.underlying34 rfl (by rw [ent_size]; rfl)) ?_
        refine wpAnyU_call (i := 10) (f := 36) (args := #[.agg (entC x).toArray, .agg (entC e).toArray]) (some 17) rfl rfl (by kernel_rfl) (by kernel_rfl) (by kernel_rfl) ?_
        refine (rBefore x e wr.drew).mono ?_
        rintro r wv ⟨rfl, hwv⟩
        rw [hbx]
        have hkv : Kept (fun _ => False) wr wv := by rw [hwv]; exact (((Kept.refl _ wr).drewN 1).alloc _).alloc _
        have hSv : wv.rangeAt g (j * 4) (entC x) ∧ wv.rangeAt eb 0 (entC e) := ⟨range_kept rx hkv hgl, range_kept re hkv hel⟩
        refine ⟨_, rfl, fun _ => hSv, ?_⟩
        refine wpAnyU_run (i := 11) (v := .bool false) (w' := wv) (some 18) rfl rfl (by kernel_rfl) (by kernel_rfl) (by kernel_rfl) (fun _ => hSv) ?_
        refine wpAnyU_done (by kernel_rfl) ?_ _
        simp only [put_lit, List.set_cons_succ, List.set_cons_zero]
        have HI2 : Hid (OutO w0 wv (some ⟨g, 0, none⟩) n cap T ∧ Holds wv eb (entC e) 34) := by
          rw [hwv]
          exact ⟨hIO.kept ((((Kept.refl _ wr).drewN 1).alloc _).alloc _), (hIH.drew.alloc _).alloc _⟩
        clear hS hkv hwv hIO hIH rx re hbx
        have d0 : wv.cell? ⟨g, j * 4, none⟩ = some (.string ⟨x.1.toArray⟩) := hSv.1 0 _ rfl
        have d1 : wv.cell? ⟨g, j * 4 + 1, none⟩ = some (.int .i64 x.2.1) := hSv.1 1 _ rfl
        have f0 : wv.cell? ⟨eb, 0, none⟩ = some (.string ⟨e.1.toArray⟩) := HI2.out.2.cell 0 _ rfl
        have f1 : wv.cell? ⟨eb, 1, none⟩ = some (.int .i64 e.2.1) := HI2.out.2.cell 1 _ rfl
        clear hSv
        by_cases hk : x.1 = e.1
        · rw [hk] at d0
          by_cases hq : x.2.1 = e.2.1
          · rw [hq] at d1
            have HV : Hid (OutO w0 wv (some ⟨g, 0, none⟩) n cap R) := by
              show OutO _ _ _ _ _ _
              rw [HG2.out, if_pos (same_iff.2 ⟨hk, hq⟩)]
              exact HI2.out.1
            clear HG2 HI2 hk hq
            go_wp2
            go_quiet (fail)
            go_wp2
            go_ret
            exact ⟨_, n, cap, rfl, HV.out.drewN _⟩
          · have hqb : (x.2.1 == e.2.1) = false := by simpa using hq
            have HR : Hid (R = T.take j ++ e :: T.drop j) := by
              show _ = _
              rw [HG2.out, if_neg (fun h => hq (same_iff.1 h).2)]
            clear HG2
            go_wp2
            go_quiet (fail)
            obtain ⟨wz, hwz⟩ : ∃ wz, wz = wv.drewN nq := ⟨_, rfl⟩
            rw [← hwz]
            have HT : Hid (OutO w0 wz (some ⟨g, 0, none⟩) n cap T ∧ Holds wz eb (entC e) 34) := by rw [hwz]; exact ⟨HI2.out.1.drewN _, HI2.out.2⟩
            clear hwz HI2 d0 d1 f0 f1
            have hAc : j ≤ cap := by omega
            have hAcI : (j : Int) ≤ (cap : Int) := by omega
            have hANI : (j : Int) ≤ (n : Int) := by omega
            have hNc2 : (n : Int) ≤ (cap : Int) := by omega
            have hgz := HT.out.1.2.1
            have hgl : g < wz.heap.size := (hgz.lt g rfl).2
            have HSr : Hid (∀ (m : Nat) (u : Value), (cellsM T)[m]? = some u → wz.cell? ⟨g, m, none⟩ = some u) := fun m u hu => by
              have hm : m < T.length * 4 := by have := (List.getElem?_eq_some_iff.1 hu).1; rwa [cellsM_length] at this
              rw [HT.out.1.2.1.cellAt m (by omega)]; exact hu
            clear hgz
            go_wp2_with (at_builtin; refine wpList_append_own _ rfl (.tmp 46) (.tmp 49) 24 rfl wz.heap.size 34 i0 _ 4 48 Try.underlying24 hi0 hz0 hz1 hz2 rfl (by decide) (.slice none 0 0) 0 [] rfl (World.ownsRow_nil _ _ _ _) ⟨g, 0, none⟩ j cap (cellsM (T.take j)) rfl ?e1 ?e2 (cellsM_one _) ?e3 ?e4 (Nat.le_refl _) ?_)
            case e1 => rw [cellsM_length, List.length_take]; omega
            case e2 =>
              intro m u hj
              rw [cellsM_take, List.getElem?_take] at hj
              split at hj
              · rename_i hlt
                rw [show ((⟨g, 0, none⟩ : Addr).add m) = ⟨g, 0 + m, none⟩ from by unfold Addr.add; split <;> simp_all, Nat.zero_add]
                exact HSr.out m u hj
              · cases hj
            case e3 => unfold maxLen; omega
            case e4 => omega
            intro v1 wA hown1 hgr1 _
            have HV1 : Hid (wA.ownsRow wz.heap.size 34 4 v1 j (cellsM (T.take j)) ∧ Kept (fun _ => False) wz wA) := ⟨by first | exact hown1 | (rw [Nat.zero_add] at hown1; exact hown1), kept_grown (Kept.refl _ _) hgr1 (fun b hb => by cases hb)⟩
            clear hown1 hgr1
            have hHe := HT.out.2.of_block (HV1.out.2.block eb HT.out.2.lt (fun hf => hf))
            have ce0 := hHe.cell 0 _ rfl
            have ce1 := hHe.cell 1 _ rfl
            have ce2 := hHe.cell 2 _ rfl
            have ce3 := hHe.cell 3 _ rfl
            clear hHe
            go_wp2_with (at_builtin; refine wpList_append_own _ rfl (.tmp 51) (.tmp 53) 24 rfl wz.heap.size 34 i0 _ 4 48 Try.underlying24 hi0 hz0 hz1 hz2 rfl (by decide) _ _ _ rfl (HV1.out.1.alloc _) ⟨wA.heap.size, 0, none⟩ 1 1 (entC e) rfl rfl ?d1 (entC_one _) ?d3 ?d4 ?d5 ?_)
            case d1 => intro m u hj; first | exact hj | (rw [add0]; exact (Holds.new wA (entC e) _).cell m u hj)
            case d3 => unfold maxLen; omega
            case d4 => omega
            case d5 => have := HV1.out.2.size; simp; omega
            intro v2 wB hown2 hgr2 _
            have HV2 : Hid (wB.ownsRow wz.heap.size 34 4 v2 (j + 1) (cellsM (T.take j) ++ entC e) ∧ Kept (fun _ => False) wz wB) := ⟨hown2, kept_grown (HV1.out.2.alloc _) hgr2 (fun b hb => .inr (HV1.out.1.lt b hb).1)⟩
            clear hown2 hgr2 HV1 ce0 ce1 ce2 ce3
            have HSrc : Hid (∀ (m : Nat) (u : Value), (cellsM (T.drop j))[m]? = some u → wB.cell? ⟨g, j * 4 + m, none⟩ = some u) := fun m u hj => by
              rw [cellsM_drop, List.getElem?_drop] at hj
              rw [HV2.out.2.cell (p := ⟨g, j * 4 + m, none⟩) hgl (fun hf => hf)]
              exact HSr.out _ u hj
            clear HSr hgl
            have hcA' : ¬cap - j = 0 := by omega
            go_wp2_with (at_builtin; refine wpList_append_own _ rfl (.tmp 55) (.tmp 58) 24 rfl wz.heap.size 34 i0 _ 4 48 Try.underlying24 hi0 hz0 hz1 hz2 rfl (by decide) _ _ _ rfl HV2.out.1 ⟨g, j * 4, none⟩ (n - j) (cap - j) (cellsM (T.drop j)) rfl ?d0 ?d1 (cellsM_one _) ?d3 ?d4 ?d5 ?_)
            case d0 => rw [cellsM_length, List.length_drop]; omega
            case d1 =>
              intro m u hj
              rw [show ((⟨g, j * 4, none⟩ : Addr).add m) = ⟨g, j * 4 + m, none⟩ from by unfold Addr.add; split <;> simp_all]
              exact HSrc.out m u hj
            case d3 => unfold maxLen; omega
            case d4 => omega
            case d5 => exact HV2.out.2.size
            intro v3 wC hown3 hgr3 _
            obtain ⟨ad3, n3, cap3, rfl⟩ := own_anyM hown3
            have hkC : Kept (fun _ => False) wz wC := kept_grown HV2.out.2 hgr3 (fun b hb => .inr (HV2.out.1.lt b hb).1)
            have hn3 : n3 = n + 1 := by
              rcases hown3.2 with ⟨_, h⟩ | ⟨_, _, _, h, _⟩
              · omega
              · cases h; omega
            have hfit : ∀ x ∈ T.take j ++ e :: T.drop j, FitN x.2.1 := fun x hx => by
                rcases List.mem_append.1 hx with hx | hx
                · exact HT.out.1.2.2.2 x (List.mem_of_mem_take hx)
                · rcases List.mem_cons.1 hx with rfl | hx
                  · exact HFe.out
                  · exact HT.out.1.2.2.2 x (List.mem_of_mem_drop hx)
            have HP : Hid (OutO w0 wC ad3 n3 cap3 R) := by
              rw [hn3] at hown3
              rw [hn3]
              show OutO _ _ _ _ _ _
              rw [HR.out]
              refine ⟨by rw [List.length_append, List.length_take, List.length_cons, List.length_drop]; omega, ?_, ?_, hfit⟩
              · exact owns_base (owns_lenM hown3 (by omega) (by rw [cellsM_append]; first | rfl | (rw [List.append_assoc]; rfl))) HT.out.1.2.2.1.size
              · exact HT.out.1.2.2.1.trans hkC (fun _ hf => hf.elim)
            clear hown3 hgr3 hkC hn3 hfit
            go_wp2
            go_ret
            exact ⟨ad3, _, cap3, rfl, HP.out⟩
        · have hkb : (x.1 == e.1) = false := by simpa using hk
          have HR : Hid (R = T.take j ++ e :: T.drop j) := by
            show _ = _
            rw [HG2.out, if_neg (fun h => hk (same_iff.1 h).1)]
          clear HG2
          go_wp2
          go_quiet (fail)
          obtain ⟨wz, hwz⟩ : ∃ wz, wz = wv.drewN nq := ⟨_, rfl⟩
          rw [← hwz]
          have HT : Hid (OutO w0 wz (some ⟨g, 0, none⟩) n cap T ∧ Holds wz eb (entC e) 34) := by rw [hwz]; exact ⟨HI2.out.1.drewN _, HI2.out.2⟩
          clear hwz HI2 d0 d1 f0 f1
          have hAc : j ≤ cap := by omega
          have hAcI : (j : Int) ≤ (cap : Int) := by omega
          have hANI : (j : Int) ≤ (n : Int) := by omega
          have hNc2 : (n : Int) ≤ (cap : Int) := by omega
          have hgz := HT.out.1.2.1
          have hgl : g < wz.heap.size := (hgz.lt g rfl).2
          have HSr : Hid (∀ (m : Nat) (u : Value), (cellsM T)[m]? = some u → wz.cell? ⟨g, m, none⟩ = some u) := fun m u hu => by
            have hm : m < T.length * 4 := by have := (List.getElem?_eq_some_iff.1 hu).1; rwa [cellsM_length] at this
            rw [HT.out.1.2.1.cellAt m (by omega)]; exact hu
          clear hgz
          go_wp2_with (at_builtin; refine wpList_append_own _ rfl (.tmp 46) (.tmp 49) 24 rfl wz.heap.size 34 i0 _ 4 48 Try.underlying24 hi0 hz0 hz1 hz2 rfl (by decide) (.slice none 0 0) 0 [] rfl (World.ownsRow_nil _ _ _ _) ⟨g, 0, none⟩ j cap (cellsM (T.take j)) rfl ?e1 ?e2 (cellsM_one _) ?e3 ?e4 (Nat.le_refl _) ?_)
          case e1 => rw [cellsM_length, List.length_take]; omega
          case e2 =>
            intro m u hj
            rw [cellsM_take, List.getElem?_take] at hj
            split at hj
            · rename_i hlt
              rw [show ((⟨g, 0, none⟩ : Addr).add m) = ⟨g, 0 + m, none⟩ from by unfold Addr.add; split <;> simp_all, Nat.zero_add]
              exact HSr.out m u hj
            · cases hj
          case e3 => unfold maxLen; omega
          case e4 => omega
          intro v1 wA hown1 hgr1 _
          have HV1 : Hid (wA.ownsRow wz.heap.size 34 4 v1 j (cellsM (T.take j)) ∧ Kept (fun _ => False) wz wA) := ⟨by first | exact hown1 | (rw [Nat.zero_add] at hown1; exact hown1), kept_grown (Kept.refl _ _) hgr1 (fun b hb => by cases hb)⟩
          clear hown1 hgr1
          have hHe := HT.out.2.of_block (HV1.out.2.block eb HT.out.2.lt (fun hf => hf))
          have ce0 := hHe.cell 0 _ rfl
          have ce1 := hHe.cell 1 _ rfl
          have ce2 := hHe.cell 2 _ rfl
          have ce3 := hHe.cell 3 _ rfl
          clear hHe
          go_wp2_with (at_builtin; refine wpList_append_own _ rfl (.tmp 51) (.tmp 53) 24 rfl wz.heap.size 34 i0 _ 4 48 Try.underlying24 hi0 hz0 hz1 hz2 rfl (by decide) _ _ _ rfl (HV1.out.1.alloc _) ⟨wA.heap.size, 0, none⟩ 1 1 (entC e) rfl rfl ?d1 (entC_one _) ?d3 ?d4 ?d5 ?_)
          case d1 => intro m u hj; first | exact hj | (rw [add0]; exact (Holds.new wA (entC e) _).cell m u hj)
          case d3 => unfold maxLen; omega
          case d4 => omega
          case d5 => have := HV1.out.2.size; simp; omega
          intro v2 wB hown2 hgr2 _
          have HV2 : Hid (wB.ownsRow wz.heap.size 34 4 v2 (j + 1) (cellsM (T.take j) ++ entC e) ∧ Kept (fun _ => False) wz wB) := ⟨hown2, kept_grown (HV1.out.2.alloc _) hgr2 (fun b hb => .inr (HV1.out.1.lt b hb).1)⟩
          clear hown2 hgr2 HV1 ce0 ce1 ce2 ce3
          have HSrc : Hid (∀ (m : Nat) (u : Value), (cellsM (T.drop j))[m]? = some u → wB.cell? ⟨g, j * 4 + m, none⟩ = some u) := fun m u hj => by
            rw [cellsM_drop, List.getElem?_drop] at hj
            rw [HV2.out.2.cell (p := ⟨g, j * 4 + m, none⟩) hgl (fun hf => hf)]
            exact HSr.out _ u hj
          clear HSr hgl
          have hcA' : ¬cap - j = 0 := by omega
          go_wp2_with (at_builtin; refine wpList_append_own _ rfl (.tmp 55) (.tmp 58) 24 rfl wz.heap.size 34 i0 _ 4 48 Try.underlying24 hi0 hz0 hz1 hz2 rfl (by decide) _ _ _ rfl HV2.out.1 ⟨g, j * 4, none⟩ (n - j) (cap - j) (cellsM (T.drop j)) rfl ?d0 ?d1 (cellsM_one _) ?d3 ?d4 ?d5 ?_)
          case d0 => rw [cellsM_length, List.length_drop]; omega
          case d1 =>
            intro m u hj
            rw [show ((⟨g, j * 4, none⟩ : Addr).add m) = ⟨g, j * 4 + m, none⟩ from by unfold Addr.add; split <;> simp_all]
            exact HSrc.out m u hj
          case d3 => unfold maxLen; omega
          case d4 => omega
          case d5 => exact HV2.out.2.size
          intro v3 wC hown3 hgr3 _
          obtain ⟨ad3, n3, cap3, rfl⟩ := own_anyM hown3
          have hkC : Kept (fun _ => False) wz wC := kept_grown HV2.out.2 hgr3 (fun b hb => .inr (HV2.out.1.lt b hb).1)
          have hn3 : n3 = n + 1 := by
            rcases hown3.2 with ⟨_, h⟩ | ⟨_, _, _, h, _⟩
            · omega
            · cases h; omega
          have hfit : ∀ x ∈ T.take j ++ e :: T.drop j, FitN x.2.1 := fun x hx => by
              rcases List.mem_append.1 hx with hx | hx
              · exact HT.out.1.2.2.2 x (List.mem_of_mem_take hx)
              · rcases List.mem_cons.1 hx with rfl | hx
                · exact HFe.out
                · exact HT.out.1.2.2.2 x (List.mem_of_mem_drop hx)
          have HP : Hid (OutO w0 wC ad3 n3 cap3 R) := by
            rw [hn3] at hown3
            rw [hn3]
            show OutO _ _ _ _ _ _
            rw [HR.out]
            refine ⟨by rw [List.length_append, List.length_take, List.length_cons, List.length_drop]; omega, ?_, ?_, hfit⟩
            · exact owns_base (owns_lenM hown3 (by omega) (by rw [cellsM_append]; first | rfl | (rw [List.append_assoc]; rfl))) HT.out.1.2.2.1.size
            · exact HT.out.1.2.2.1.trans hkC (fun _ hf => hf.elim)
          clear hown3 hgr3 hkC hn3 hfit
          go_wp2
          go_ret
          exact ⟨ad3, _, cap3, rfl, HP.out⟩
      · have jN : ¬(j : Int) < (n : Int) := by omega
        have HR : Hid (R = T.take j ++ e :: T.drop j) := by
          have h0 : hasM T e = false := by
            unfold hasM
            rw [← hA.out, List.getElem?_eq_none (by omega)]
          show _ = _
          rw [HG.out, h0, if_neg (by simp)]
        clear HG HE hI
        rcases hIO.form with ⟨rfl, rfl, hn0, rfl⟩ | ⟨g, rfl, hgl, hcap, hrow⟩
        · obtain rfl : n = 0 := hn0
          obtain rfl : j = 0 := by omega
          go_wp2
          go_quiet (fail)
          obtain ⟨wy, hwy⟩ : ∃ wy, wy = wr.drewN nq := ⟨_, rfl⟩
          rw [← hwy]
          have HI2 : Hid (OutO w0 wy none 0 0 [] ∧ Holds wy eb (entC e) 34) := by rw [hwy]; exact ⟨hIO.drewN _, hIH⟩
          clear hwy hIO hIH
          go_wp2
          go_quiet (fail)
          obtain ⟨wz, hwz⟩ : ∃ wz, wz = wy.drewN nq := ⟨_, rfl⟩
          rw [← hwz]
          have HT : Hid (OutO w0 wz none 0 0 [] ∧ Holds wz eb (entC e) 34) := by rw [hwz]; exact ⟨HI2.out.1.drewN _, HI2.out.2⟩
          clear hwz HI2
          have ce0 := HT.out.2.cell 0 _ rfl
          have ce1 := HT.out.2.cell 1 _ rfl
          have ce2 := HT.out.2.cell 2 _ rfl
          have ce3 := HT.out.2.cell 3 _ rfl
          have HV1 : Hid (wz.ownsRow wz.heap.size 34 4 (.slice none 0 0) 0 [] ∧ Kept (fun _ => False) wz wz) := ⟨World.ownsRow_nil _ _ _ _, Kept.refl _ _⟩
          go_wp2_with (at_builtin; first | (refine wpList_append_own_none rfl (.tmp 46) (.tmp 49) 24 rfl wz.heap.size 34 i0 4 Try.underlying24 hi0 (.slice none 0 0) 0 [] rfl (World.ownsRow_nil _ _ _ _) rfl ?_) | (refine wpList_append_own _ rfl (.tmp 51) (.tmp 53) 24 rfl wz.heap.size 34 i0 _ 4 48 Try.underlying24 hi0 hz0 hz1 hz2 rfl (by decide) _ _ _ rfl (HV1.out.1.alloc _) ⟨wz.heap.size, 0, none⟩ 1 1 (entC e) rfl rfl ?d1 (entC_one _) ?d3 ?d4 ?d5 ?_))
          case d1 => intro m u hj; first | (rw [add0]; exact (Holds.new wz (entC e) _).cell m u hj) | exact hj
          case d3 => unfold maxLen; omega
          try case d4 => omega
          case d5 => simp
          intro v2 wB hown2 hgr2 _
          have HV2 : Hid (wB.ownsRow wz.heap.size 34 4 v2 1 (entC e) ∧ Kept (fun _ => False) wz wB) := ⟨by first | exact hown2 | (simpa using hown2), kept_grown (HV1.out.2.alloc _) hgr2 (fun b hb => by cases hb)⟩
          clear hown2 hgr2 HV1 ce0 ce1 ce2 ce3
          obtain ⟨ad2, n2, cap2, rfl⟩ := own_anyM HV2.out.1
          have HP : Hid (OutO w0 wB ad2 1 cap2 R ∧ n2 = 1) := by
            have h2 := HV2.out
            have hv : n2 = 1 := by
              rcases h2.1.2 with ⟨_, h⟩ | ⟨_, _, _, h, _⟩
              · omega
              · cases h; rfl
            subst hv
            refine ⟨?_, rfl⟩
            show OutO _ _ _ _ _ _
            rw [HR.out]
            refine ⟨rfl, owns_base (owns_lenM h2.1 rfl (by simp [cellsM])) HT.out.1.2.2.1.size, HT.out.1.2.2.1.trans h2.2 (fun _ hf => hf.elim), fun x hx => ?_⟩
            simp only [List.take_nil, List.drop_nil, List.nil_append, List.mem_singleton] at hx
            subst hx; exact HFe.out
          go_wp2_with (at_builtin; refine wpList_append_own_none rfl (.tmp 55) (.tmp 58) 24 rfl wz.heap.size 34 i0 4 Try.underlying24 hi0 _ _ _ rfl HV2.out.1 rfl ?_)
          go_ret
          exact ⟨ad2, _, cap2, rfl, by rw [HP.out.2]; exact HP.out.1⟩
        · clear hrow
          go_wp2
          go_quiet (fail)
          obtain ⟨wy, hwy⟩ : ∃ wy, wy = wr.drewN nq := ⟨_, rfl⟩
          rw [← hwy]
          have HI2 : Hid (OutO w0 wy (some ⟨g, 0, none⟩) n cap T ∧ Holds wy eb (entC e) 34) := by rw [hwy]; exact ⟨hIO.drewN _, hIH⟩
          clear hwy hIO hIH
          go_wp2
          go_quiet (fail)
          obtain ⟨wz, hwz⟩ : ∃ wz, wz = wy.drewN nq := ⟨_, rfl⟩
          rw [← hwz]
          have HT : Hid (OutO w0 wz (some ⟨g, 0, none⟩) n cap T ∧ Holds wz eb (entC e) 34) := by rw [hwz]; exact ⟨HI2.out.1.drewN _, HI2.out.2⟩
          clear hwz HI2
          have hAc : j ≤ cap := by omega
          have hAcI : (j : Int) ≤ (cap : Int) := by omega
          have hANI : (j : Int) ≤ (n : Int) := by omega
          have hNc2 : (n : Int) ≤ (cap : Int) := by omega
          have hgz := HT.out.1.2.1
          have hgl : g < wz.heap.size := (hgz.lt g rfl).2
          have HSr : Hid (∀ (m : Nat) (u : Value), (cellsM T)[m]? = some u → wz.cell? ⟨g, m, none⟩ = some u) := fun m u hu => by
            have hm : m < T.length * 4 := by have := (List.getElem?_eq_some_iff.1 hu).1; rwa [cellsM_length] at this
            rw [HT.out.1.2.1.cellAt m (by omega)]; exact hu
          clear hgz
          go_wp2_with (at_builtin; refine wpList_append_own _ rfl (.tmp 46) (.tmp 49) 24 rfl wz.heap.size 34 i0 _ 4 48 Try.underlying24 hi0 hz0 hz1 hz2 rfl (by decide) (.slice none 0 0) 0 [] rfl (World.ownsRow_nil _ _ _ _) ⟨g, 0, none⟩ j cap (cellsM (T.take j)) rfl ?e1 ?e2 (cellsM_one _) ?e3 ?e4 (Nat.le_refl _) ?_)
          case e1 => rw [cellsM_length, List.length_take]; omega
          case e2 =>
            intro m u hj
            rw [cellsM_take, List.getElem?_take] at hj
            split at hj
            · rename_i hlt
              rw [show ((⟨g, 0, none⟩ : Addr).add m) = ⟨g, 0 + m, none⟩ from by unfold Addr.add; split <;> simp_all, Nat.zero_add]
              exact HSr.out m u hj
            · cases hj
          case e3 => unfold maxLen; omega
          case e4 => omega
          intro v1 wA hown1 hgr1 _
          have HV1 : Hid (wA.ownsRow wz.heap.size 34 4 v1 j (cellsM (T.take j)) ∧ Kept (fun _ => False) wz wA) := ⟨by first | exact hown1 | (rw [Nat.zero_add] at hown1; exact hown1), kept_grown (Kept.refl _ _) hgr1 (fun b hb => by cases hb)⟩
          clear hown1 hgr1
          have hHe := HT.out.2.of_block (HV1.out.2.block eb HT.out.2.lt (fun hf => hf))
          have ce0 := hHe.cell 0 _ rfl
          have ce1 := hHe.cell 1 _ rfl
          have ce2 := hHe.cell 2 _ rfl
          have ce3 := hHe.cell 3 _ rfl
          clear hHe
          go_wp2_with (at_builtin; refine wpList_append_own _ rfl (.tmp 51) (.tmp 53) 24 rfl wz.heap.size 34 i0 _ 4 48 Try.underlying24 hi0 hz0 hz1 hz2 rfl (by decide) _ _ _ rfl (HV1.out.1.alloc _) ⟨wA.heap.size, 0, none⟩ 1 1 (entC e) rfl rfl ?d1 (entC_one _) ?d3 ?d4 ?d5 ?_)
          case d1 => intro m u hj; first | exact hj | (rw [add0]; exact (Holds.new wA (entC e) _).cell m u hj)
          case d3 => unfold maxLen; omega
          case d4 => omega
          case d5 => have := HV1.out.2.size; simp; omega
          intro v2 wB hown2 hgr2 _
          have HV2 : Hid (wB.ownsRow wz.heap.size 34 4 v2 (j + 1) (cellsM (T.take j) ++ entC e) ∧ Kept (fun _ => False) wz wB) := ⟨hown2, kept_grown (HV1.out.2.alloc _) hgr2 (fun b hb => .inr (HV1.out.1.lt b hb).1)⟩
          clear hown2 hgr2 HV1 ce0 ce1 ce2 ce3
          have HSrc : Hid (∀ (m : Nat) (u : Value), (cellsM (T.drop j))[m]? = some u → wB.cell? ⟨g, j * 4 + m, none⟩ = some u) := fun m u hj => by
            rw [cellsM_drop, List.getElem?_drop] at hj
            rw [HV2.out.2.cell (p := ⟨g, j * 4 + m, none⟩) hgl (fun hf => hf)]
            exact HSr.out _ u hj
          clear HSr hgl
          by_cases hcA : cap = j
          · have hAN' : n = j := by omega
            have hd : T.drop j = [] := List.drop_eq_nil_of_le (by omega)
            go_wp2_with (at_builtin; refine wpList_append_own _ rfl (.tmp 55) (.tmp 58) 24 rfl wz.heap.size 34 i0 _ 4 48 Try.underlying24 hi0 hz0 hz1 hz2 rfl (by decide) _ _ _ rfl HV2.out.1 ⟨g, 0, none⟩ 0 0 [] (by first | rfl | (show Value.slice _ _ _ = _; simp [hcA, hAN'])) rfl (fun m u hj => by simp at hj) (fun u hu => by simp at hu) ?d3 ?d4 ?d5 ?_)
            case d3 => unfold maxLen; omega
            case d4 => omega
            case d5 => exact HV2.out.2.size
            intro v3 wC hown3 hgr3 _
            obtain ⟨ad3, n3, cap3, rfl⟩ := own_anyM hown3
            have hkC : Kept (fun _ => False) wz wC := kept_grown HV2.out.2 hgr3 (fun b hb => .inr (HV2.out.1.lt b hb).1)
            have hn3 : n3 = n + 1 := by
              rcases hown3.2 with ⟨_, h⟩ | ⟨_, _, _, h, _⟩
              · omega
              · cases h; omega
            have hfit : ∀ x ∈ T.take j ++ e :: T.drop j, FitN x.2.1 := fun x hx => by
                rcases List.mem_append.1 hx with hx | hx
                · exact HT.out.1.2.2.2 x (List.mem_of_mem_take hx)
                · rcases List.mem_cons.1 hx with rfl | hx
                  · exact HFe.out
                  · exact HT.out.1.2.2.2 x (List.mem_of_mem_drop hx)
            have HP : Hid (OutO w0 wC ad3 n3 cap3 R) := by
              rw [hn3] at hown3
              rw [hn3]
              show OutO _ _ _ _ _ _
              rw [HR.out, hd]
              refine ⟨by rw [List.length_append, List.length_take]; simp; omega, ?_, ?_, by rw [← hd]; exact hfit⟩
              · exact owns_base (owns_lenM hown3 (by omega) (by rw [cellsM_append]; first | rfl | simp [cellsM])) HT.out.1.2.2.1.size
              · exact HT.out.1.2.2.1.trans hkC (fun _ hf => hf.elim)
            clear hown3 hgr3 hkC hn3 hfit
            go_wp2
            go_ret
            exact ⟨ad3, _, cap3, rfl, HP.out⟩
          · have hcA' : ¬cap - j = 0 := by omega
            go_wp2_with (at_builtin; refine wpList_append_own _ rfl (.tmp 55) (.tmp 58) 24 rfl wz.heap.size 34 i0 _ 4 48 Try.underlying24 hi0 hz0 hz1 hz2 rfl (by decide) _ _ _ rfl HV2.out.1 ⟨g, j * 4, none⟩ (n - j) (cap - j) (cellsM (T.drop j)) rfl ?d0 ?d1 (cellsM_one _) ?d3 ?d4 ?d5 ?_)
            case d0 => rw [cellsM_length, List.length_drop]; omega
            case d1 =>
              intro m u hj
              rw [show ((⟨g, j * 4, none⟩ : Addr).add m) = ⟨g, j * 4 + m, none⟩ from by unfold Addr.add; split <;> simp_all]
              exact HSrc.out m u hj
            case d3 => unfold maxLen; omega
            case d4 => omega
            case d5 => exact HV2.out.2.size
            intro v3 wC hown3 hgr3 _
            obtain ⟨ad3, n3, cap3, rfl⟩ := own_anyM hown3
            have hkC : Kept (fun _ => False) wz wC := kept_grown HV2.out.2 hgr3 (fun b hb => .inr (HV2.out.1.lt b hb).1)
            have hn3 : n3 = n + 1 := by
              rcases hown3.2 with ⟨_, h⟩ | ⟨_, _, _, h, _⟩
              · omega
              · cases h; omega
            have hfit : ∀ x ∈ T.take j ++ e :: T.drop j, FitN x.2.1 := fun x hx => by
                rcases List.mem_append.1 hx with hx | hx
                · exact HT.out.1.2.2.2 x (List.mem_of_mem_take hx)
                · rcases List.mem_cons.1 hx with rfl | hx
                  · exact HFe.out
                  · exact HT.out.1.2.2.2 x (List.mem_of_mem_drop hx)
            have HP : Hid (OutO w0 wC ad3 n3 cap3 R) := by
              rw [hn3] at hown3
              rw [hn3]
              show OutO _ _ _ _ _ _
              rw [HR.out]
              refine ⟨by rw [List.length_append, List.length_take, List.length_cons, List.length_drop]; omega, ?_, ?_, hfit⟩
              · exact owns_base (owns_lenM hown3 (by omega) (by rw [cellsM_append]; first | rfl | (rw [List.append_assoc]; rfl))) HT.out.1.2.2.1.size
              · exact HT.out.1.2.2.1.trans hkC (fun _ hf => hf.elim)
            clear hown3 hgr3 hkC hn3 hfit
            go_wp2
            go_ret
            exact ⟨ad3, _, cap3, rfl, HP.out⟩

end Go.Proofs.Ythkejfhcdodggaa
