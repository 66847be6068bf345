/- The reference's Crash: what it does. -/
import Derived.Test.YtgppbbbpekghiaaDskSy
import Derived.Deep.CutRange
namespace Go.Proofs.Ytgppbbbpekghiaa
open Go.RowKit Go.Proofs Go.Proofs.Pk
set_option maxRecDepth 10000
attribute [local simp] mk_get wrap64_u8 mk_extract ByteArray.mk_append_mk get_1k

set_option maxHeartbeats 1000000 in
theorem rCr (w : World) (B p : Nat) (S : Dsk) (X : Nat → Prop) (h : RefD w B p S X) (hS : S.Ok) (kad : Option Addr) (klen kcap : Nat) (ks : List Int) (torn bytes : Int) (hks : Ints w kad klen ks) (hoff : ks = [] ∨ IntsOff X kad) :
    Calls Try.prog 21 #[.pointer (some ⟨p, 0, none⟩), .slice kad klen kcap, .int .i64 torn, .int .i64 bytes] w fun e w' =>
      e = .returned (.tuple #[]) ∧ ∃ X', RefD w' B p (S.crash ks torn bytes) X' ∧ Grows w X X' ∧ Kept X w w' := by
  obtain ⟨iW, hiW, hzW, hsW, hbW⟩ := info_parts rwrite_info
  obtain ⟨vL, vC, h⟩ := h
  obtain ⟨L, C, fu, off, n⟩ := S
  have HX : Hid (∀ b, (b = p ∨ vL.ownBlock = some b ∨ vC.ownBlock = some b) → X b) := fun b hb => (h.own b).2 hb
  obtain ⟨ad, cap, hv⟩ : ∃ ad cap, vL = .slice ad L.length cap := by
    rcases h.last.2 with ⟨hv, h0⟩ | ⟨g, cap, cur, hv, _⟩
    · simp only at h0; exact ⟨none, 0, by rw [hv, h0]⟩
    · exact ⟨_, _, hv⟩
  subst hv
  obtain ⟨ac, cac, hv⟩ : ∃ ad cap, vC = .slice ad C.length cap := by
    rcases h.cache.2 with ⟨hv, h0⟩ | ⟨g, cap, cur, hv, _⟩
    · simp only at h0; exact ⟨none, 0, by rw [hv, h0]⟩
    · exact ⟨_, _, hv⟩
  subst hv
  have HR : Hid (RefAt w B p ⟨L, C, fu, off, n⟩ (.slice ad L.length cap) (.slice ac C.length cac) X) := h
  have hsect := hS.sect
  have hcach := hS.cach
  simp only at hsect hcach
  have HOk := Lib.hid (And.intro hsect hcach)
  have hC63 : (C.length : Int) ≤ 9223372036854775807 := by
    rcases h.cache.2 with ⟨_, h0⟩ | ⟨g, cap, cur, _, _, _, h1, h2, _⟩
    · simp only at h0; omega
    · simp only at h1; unfold maxLen at h2; omega
  obtain ⟨m, hm⟩ : ∃ m, m = (min (max bytes 0) 64).toNat := ⟨_, rfl⟩
  have HM0 := Lib.hid hm
  have hm64 : m ≤ 64 := by omega
  have hm0 : (0 : Int) ≤ (m : Int) := Int.natCast_nonneg _
  have hm1 : (m : Int) ≤ 64 := by omega
  have HBy : Hid (bytes < 0 ∧ (m : Int) = 0 ∨ 64 < bytes ∧ (m : Int) = 64 ∨ 0 ≤ bytes ∧ bytes ≤ 64 ∧ (m : Int) = bytes) := by show _ ∨ _; omega
  have HKS := Lib.hid (And.intro hks hoff)
  have HSC : Hid ((⟨L, C, fu, off, n⟩ : Dsk).crash ks torn bytes = ⟨crashL ks torn bytes L 0 C, [], -1, false, n⟩) := rfl
  clear h hS hsect hcach hks hoff hm
  go_enter Try.func21, Try.ntmps21
  go_wp2
  go_loopw [8] (fun i wr => ∃ j : Nat, j ≤ C.length ∧ i = .int .i64 j ∧ Hid (RefAt wr B p ⟨crashL ks torn bytes L 0 (C.take j), C, fu, off, n⟩ (.slice ad L.length cap) (.slice ac C.length cac) X) ∧ Hid (Kept X w wr)) (fun i _ => C.length - (intOf i).toNat)
  case atStart => exact ⟨0, Nat.zero_le _, rfl, HR, Kept.refl X w⟩
  case round =>
    obtain ⟨j, hj, rfl, hr, hk⟩ := hrel
    have c1 := hr.out.obj.cell 1 _ rfl
    by_cases hlt : (j : Int) < C.length
    · have hjC : j < C.length := by omega
      obtain ⟨y, hy⟩ : ∃ y, y = C[j] := ⟨_, rfl⟩
      have hy1 : y.1 < L.length := by rw [hy]; exact (HOk.out.2 _ (List.getElem_mem hjC)).1
      have hT := crashL_take ks torn bytes L C j hjC
      rw [← hy] at hT
      have HT := Lib.hid hT
      obtain ⟨M, hM⟩ : ∃ M, Hid (M = crashL ks torn bytes L 0 (C.take j)) := ⟨_, rfl⟩
      rw [← hM.out] at hr hT
      have hML : M.length = L.length := by rw [hM.out, crashL_length]
      obtain ⟨gC, rfl⟩ : ∃ gC, ac = some ⟨gC, 0, none⟩ := by
        rcases hr.out.cache.2 with ⟨_, h0⟩ | ⟨g', cap', cur, hv, _⟩
        · simp only at h0; omega
        · injection hv with e1; exact ⟨_, e1⟩
      obtain ⟨gL, rfl⟩ : ∃ gL, ad = some ⟨gL, 0, none⟩ := by
        rcases hr.out.last.2 with ⟨_, h0⟩ | ⟨g', cap', cur, hv, _⟩
        · simp only at h0; omega
        · injection hv with e1; exact ⟨_, e1⟩
      have hM64 : ∀ x ∈ M, x.length = 64 := by rw [hM.out]; exact crashL_64 ks torn bytes _ _ _ HOk.out.1 (fun x hx => HOk.out.2 x (List.mem_of_mem_take hx))
      have hy2 : y.2.length = 64 := by rw [hy]; exact (HOk.out.2 _ (List.getElem_mem hjC)).2
      have hrng : wr.rangeAt gC (j * 2) [.int .i64 (y.1 : Int), .string ⟨y.2.toArray⟩] := by
        have hcc := cache_cells hr.out.cache j hjC
        rw [← hy] at hcc
        intro i v hv
        match i, hv with
        | 0, hv => simp at hv; subst hv; exact hcc.1
        | 1, hv => simp at hv; subst hv; exact hcc.2
      have hj0 : (0 : Int) ≤ (j : Int) := Int.natCast_nonneg _
      have hy0 : (0 : Int) ≤ (y.1 : Int) := Int.natCast_nonneg _
      have hy1' : (y.1 : Int) < L.length := by omega
      have hyM : y.1 < M.length := by omega
      obtain ⟨g, hg⟩ : ∃ g, Hid (g = wr.heap.size) := ⟨_, rfl⟩
      have hXg : ¬X g := fun hx => by have := (hr.out.lt g hx).2; have := hg.out; omega
      have HTo := Lib.hid hT
      have hw2 : IntKind.i64.wrap ((j : Int) + 1) = ((j + 1 : Nat) : Int) := by rw [IntWalk.i64_in _ (by omega)]; omega
      clear hT hy hy1
      go_upto_region 3 with (fail)
      refine wp_region_lit ?_
      iterate 6
        refine wpList_plain rfl fun K hK => ?_
        go_simp
        refine hK _ _ ?_
        clear hK K
      refine wpList_load_mid rfl 69 (.tmp 26) rfl gC (j * 2) rfl [.int .i64 (y.1 : Int), .string ⟨y.2.toArray⟩] _ hrng Try.underlying69 rfl (by kernel_rfl) ?_
      refine wpList_alloc_row rfl 69 rfl iW [.int .i64 0, .string ByteArray.empty] hiW hzW ?_
      rw [← hg.out]
      have HN := Holds.new wr [.int .i64 0, .string ByteArray.empty] 69
      have HV1 := hr.out.kept ((Kept.refl (fun _ => False) wr).alloc (.cells [.int .i64 0, .string ByteArray.empty].toArray 69)) (fun _ _ hf => hf)
      have KV1 := hk.out.alloc (.cells [.int .i64 0, .string ByteArray.empty].toArray 69)
      rw [← hg.out] at HN
      generalize wr.alloc (.cells [.int .i64 0, .string ByteArray.empty].toArray 69) = wa at HN HV1 KV1 ⊢
      refine wpList_store_mid rfl 69 (.tmp 9) (.tmp 27) rfl g 0 #[.int .i64 (y.1 : Int), .string ⟨y.2.toArray⟩] rfl rfl (HN.there 0 _ (by simp)) (by kernel_rfl) (by simp [Value.oneCell']) ?_
      have HN2 := Holds.setCells [.int .i64 (y.1 : Int), .string ⟨y.2.toArray⟩] 0 wa _ HN (by simp)
      rw [lay_all _ _ (by simp)] at HN2
      have HV2 := HV1.kept (Kept.setCells (X := fun b => b = g) rfl [.int .i64 (y.1 : Int), .string ⟨y.2.toArray⟩] 0 wa (Kept.refl _ wa)) (fun b hb e => hXg (e ▸ hb))
      have KV2 := Kept.setCellsN (X := X) (hg.out ▸ hk.out.size) [.int .i64 (y.1 : Int), .string ⟨y.2.toArray⟩] 0 wa KV1
      refine wpList_nil ?_
      change Exit.then _ _ _ _ (wa.setCells g 0 [.int .i64 (y.1 : Int), .string ⟨y.2.toArray⟩])
      generalize wa.setCells g 0 [.int .i64 (y.1 : Int), .string ⟨y.2.toArray⟩] = wb at HN2 HV2 KV2 ⊢
      clear HN HV1 KV1
      have hlast := HV2.last
      simp only [hML] at hlast
      have c0 := HV2.obj.cell 0 _ rfl
      have d0 := HN2.cell 0 _ rfl
      have d1 := HN2.cell 1 _ rfl
      obtain ⟨om, hom⟩ : ∃ om, om = M[y.1] := ⟨_, rfl⟩
      have hom64 : om.length = 64 := by rw [hom]; exact hM64 _ (List.getElem_mem _)
      have HOm := Lib.hid hom
      have e0 : wb.cell? ⟨gL, y.1, none⟩ = some (.string ⟨om.toArray⟩) := by
        rw [hlast.cellAt y.1 (by omega), hom]; simp [strV, hyM]
      have ef : wb.frozen? ⟨gL, y.1, none⟩ = false := hlast.frozenAt y.1
      have HE := Lib.hid (And.intro HN2 (And.intro HV2 KV2))
      clear HN2 HV2 KV2 hlast hom
      go_wp2_with fail
      go_still (by kernel_rfl)
      change Exit.then _ _ _ _ wb.drew
      have HE3 : Hid (Holds wb.drew g [.int .i64 (y.1 : Int), .string ⟨y.2.toArray⟩] 69 ∧ RefAt wb.drew B p ⟨M, C, fu, off, n⟩ (.slice (some ⟨gL, 0, none⟩) L.length cap) (.slice (some ⟨gC, 0, none⟩) C.length cac) X ∧ Kept X w wb.drew) :=
        ⟨HE.out.1.drew, HE.out.2.1.kept (kept_drewR wb) (fun _ _ hf => hf), HE.out.2.2.drewN 1⟩
      clear HE c0 d0 d1 e0 ef
      generalize wb.drew = wc at HE3 ⊢
      have c0 := HE3.out.2.1.obj.cell 0 _ rfl
      have d0 := HE3.out.1.cell 0 _ rfl
      have d1 := HE3.out.1.cell 1 _ rfl
      have hlast := HE3.out.2.1.last
      simp only [hML] at hlast
      have e0 : wc.cell? ⟨gL, y.1, none⟩ = some (.string ⟨om.toArray⟩) := by
        rw [hlast.cellAt y.1 (by omega), HOm.out]; simp [strV, hyM]
      have ef : wc.frozen? ⟨gL, y.1, none⟩ = false := hlast.frozenAt y.1
      have HSet : ∀ d : List UInt8, Hid (RefAt (wc.drew.setCell ⟨gL, y.1, none⟩ (.string ⟨d.toArray⟩)) B p ⟨M.set y.1 d, C, fu, off, n⟩ (.slice (some ⟨gL, 0, none⟩) L.length cap) (.slice (some ⟨gC, 0, none⟩) C.length cac) X ∧
          Kept X w (wc.drew.setCell ⟨gL, y.1, none⟩ (.string ⟨d.toArray⟩))) := fun d => by
        refine ⟨?_, (HE3.out.2.2.drewN 1).setCell (p := ⟨gL, y.1, none⟩) (HX.out gL (.inr (.inl rfl))) _⟩
        have h0 : RefAt wc B p ⟨M, C, fu, off, n⟩ (.slice (some ⟨gL, 0, none⟩) M.length cap) (.slice (some ⟨gC, 0, none⟩) C.length cac) X := by rw [hML]; exact HE3.out.2.1
        have h2 := (h0.kept (kept_drewR wc) (fun _ _ hf => hf)).setLast y.1 d
        simp only [List.length_set, hML] at h2
        exact h2
      have hkeep := HKS.out.1.kept HE3.out.2.2 HKS.out.2
      have HI := Lib.hid hkeep
      clear hkeep hlast hrng hXg hg hM64 hML
      by_cases hto : (j : Int) = torn
      · subst hto
        have HN : Hid (crashL ks (j : Int) bytes L 0 (C.take (j + 1)) = M.set y.1 (y.2.take m ++ (om.drop m).take (64 - m))) := by
          show _ = _
          rw [List.take_of_length_le (l := om.drop m) (by rw [List.length_drop]; omega)]
          rw [HTo.out, crashOne, if_pos rfl, ← HM0.out, HOm.out, sec_in M [] hyM]
        go_upto_region 6 with (fail)
        go_cut [11] from 40 to 42 (fun s11 wx => s11 = .int .i64 (m : Int) ∧ wx = wc)
        case first =>
          go_wp2
          all_goals
            go_meet
            case rel => exact ⟨by have := HBy.out; congr 1; omega, rfl⟩
        case rest =>
          obtain ⟨rfl, hwx⟩ := hcut
          subst hwx
          have hy64 : (y.2.length : Int) = 64 := by omega
          have ho64 : (om.length : Int) = 64 := by omega
          go_wp2_with fail
          go_still_tail 15, (by kernel_rfl)
          change wpList _ _ _ _ _ wc.drew
          have HS2 := HSet (y.2.take m ++ (om.drop m).take (64 - m))
          rw [← HN.out] at HS2
          clear HSet
          go_wp2
          go_roundw
          case rel => exact ⟨j + 1, by omega, by first | rfl | go_num, HS2.out.1, HS2.out.2⟩
          case measure => simp [intOf]; omega
      · have hto' : ((j : Int) == torn) = false := by simpa using hto
        have HCr : Hid (crashL ks torn bytes L 0 (C.take (j + 1)) = if j < ks.length ∧ ks.getD j 0 % 2 ≠ 0 then M.set y.1 y.2 else M) := by
          show _ = _
          rw [HTo.out, crashOne, if_neg hto]
        by_cases hkl : (j : Int) < klen
        · have hjk : j < ks.length := by have := HI.out.1; omega
          obtain ⟨b, o, rfl, hbl, hbc⟩ : ∃ b o, kad = some ⟨b, o, none⟩ ∧ b < wc.heap.size ∧ ∀ i (h : i < ks.length), wc.cell? ⟨b, o + i, none⟩ = some (.int .i64 ks[i]) := by
            rcases HI.out.2 with h | h
            · rw [h] at hjk; cases hjk
            · exact h
          have hcell := hbc j hjk
          have hget : ks.getD j 0 = ks[j] := by simp [List.getD, hjk]
          rw [hget] at HCr
          obtain ⟨x, hx⟩ : ∃ x, x = ks[j] := ⟨_, rfl⟩
          rw [← hx] at hcell HCr
          have HJ := Lib.hid hjk
          clear hx hget hbc HI hjk
          by_cases hodd : x.tmod 2 = 0
          · rw [if_neg (fun h => h.2 ((odd_iff x).1 hodd))] at HCr
            have HE2 : Hid (RefAt wc B p ⟨crashL ks torn bytes L 0 (C.take (j + 1)), C, fu, off, n⟩ (.slice (some ⟨gL, 0, none⟩) L.length cap) (.slice (some ⟨gC, 0, none⟩) C.length cac) X) := by
              show RefAt _ _ _ _ _ _ _
              rw [HCr.out]; exact HE3.out.2.1
            clear hy0 hy1'
            go_wp2
            go_roundw
            case rel => exact ⟨j + 1, by omega, by first | rfl | go_num, HE2, HE3.out.2.2⟩
            case measure => simp [intOf]; omega
          · rw [if_pos ⟨HJ.out, fun h => hodd ((odd_iff x).2 h)⟩] at HCr
            have HS2 := HSet y.2
            rw [← HCr.out] at HS2
            clear HSet
            go_wp2_with fail
            go_still_tail 9, (by kernel_rfl)
            change wpList _ _ _ _ _ wc.drew
            go_wp2
            go_roundw
            case rel => exact ⟨j + 1, by omega, by first | rfl | go_num, HS2.out.1, HS2.out.2⟩
            case measure => simp [intOf]; omega
        · have hjk : ¬j < ks.length := by have := HI.out.1; omega
          rw [if_neg (fun h => hjk h.1)] at HCr
          have HE2 : Hid (RefAt wc B p ⟨crashL ks torn bytes L 0 (C.take (j + 1)), C, fu, off, n⟩ (.slice (some ⟨gL, 0, none⟩) L.length cap) (.slice (some ⟨gC, 0, none⟩) C.length cac) X) := by
            show RefAt _ _ _ _ _ _ _
            rw [HCr.out]; exact HE3.out.2.1
          clear hjk HI hy0 hy1'
          go_wp2
          go_roundw
          case rel => exact ⟨j + 1, by omega, by first | rfl | go_num, HE2, HE3.out.2.2⟩
          case measure => simp [intOf]; omega
    · obtain rfl : j = C.length := by omega
      rw [List.take_length] at hr
      have f1 := hr.out.obj.free 1
      have c2 := hr.out.obj.cell 2 _ rfl
      have f2 := hr.out.obj.free 2
      have c3 := hr.out.obj.cell 3 _ rfl
      have f3 := hr.out.obj.free 3
      have HF := (hr.out.noC.field (S' := ⟨crashL ks torn bytes L 0 C, [], -1, off, n⟩) 2 (.int .i64 (-1)) rfl rfl rfl).field (S' := ⟨crashL ks torn bytes L 0 C, [], -1, false, n⟩) 3 (.bool false) rfl rfl rfl
      have HE := Lib.hid HF
      clear HF
      go_wp2
      go_end0
      rw [HSC.out]
      exact ⟨rfl, _, ⟨_, _, HE.out⟩, fun b hb => .inl (HX.out b (hb.elim .inl (fun h => .inr (.inl h)))), ((hk.out.setCell (p := ⟨p, 1, none⟩) (HX.out p (.inl rfl)) _).setCell (p := ⟨p, 2, none⟩) (HX.out p (.inl rfl)) _).setCell (p := ⟨p, 3, none⟩) (HX.out p (.inl rfl)) _⟩

end Go.Proofs.Ytgppbbbpekghiaa
