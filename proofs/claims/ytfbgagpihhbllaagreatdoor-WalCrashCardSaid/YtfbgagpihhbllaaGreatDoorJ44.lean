/- PCr. -/
import Derived.Test.YtfbgagpihhbllaaGreatDoorJ18
import Derived.Test.YtfbgagpihhbllaaGreatDoorJ10

/- The program's Crash: what it does. -/
namespace Go.Proofs.YtfbgagpihhbllaaGreatDoor
open Go.RowKit Go.Proofs Go.Proofs.Pk
set_option maxRecDepth 10000
attribute [local simp] mk_get wrap64_u8 mk_extract ByteArray.mk_append_mk get_1k

set_option maxHeartbeats 2000000 in
theorem pCr (w : World) (B p : Nat) (S : Dsk) (X : Nat → Prop) (h : DskP w B p S X) (hS : S.Ok) (kad : Option Addr) (klen kcap : Nat) (ks : List Int) (torn bytes : Int) (hks : Ints w kad klen ks) (hoff : ks = [] ∨ IntsOff X kad) :
    Calls Tryz.prog 19 #[.pointer (some ⟨p, 0, none⟩), .slice kad klen kcap, .int .i64 torn, .int .i64 bytes] w fun e w' =>
      e = .returned (.tuple #[]) ∧ ∃ X', DskP w' B p (S.crash ks torn bytes) X' ∧ Grows w X X' ∧ Kept X w w' := by
  obtain ⟨gD, gS, vC, h⟩ := h
  obtain ⟨i67, hi67, hz67, hs67, hb67⟩ := info_parts write_info
  obtain ⟨L, C, fu, off, n⟩ := S
  have HX : Hid (∀ b, Xof p gD gS vC b → X b) := fun b hb => (h.own b).2 hb
  have HR : Hid (RawAt w B p gD gS vC L (syncL L C) C fu off n) := h.raw
  have hsect := hS.sect
  have hcach := hS.cach
  simp only at hsect hcach
  have HOk := Lib.hid (And.intro hsect hcach)
  obtain ⟨ad, cap, hv⟩ : ∃ ad cap, vC = .slice ad C.length cap := by
    rcases h.cache.2 with ⟨hv, h0⟩ | ⟨g, cap, cur, hv, _⟩
    · exact ⟨none, 0, by rw [hv, h0]⟩
    · exact ⟨_, _, hv⟩
  subst hv
  have hC63 : (C.length : Int) ≤ 9223372036854775807 := by
    rcases h.cache.2 with ⟨_, h0⟩ | ⟨g, cap, cur, _, _, _, h1, h2, _⟩
    · simp only at h0; omega
    · simp only at h1; unfold maxLen at h2; omega
  have c2 := h.obj.cell 2 _ rfl
  try simp only at c2
  obtain ⟨m, hm⟩ : ∃ m, m = (min (max bytes 0) 64).toNat := ⟨_, rfl⟩
  have HM0 := Lib.hid hm
  have hm64 : m ≤ 64 := by omega
  have HKS := Lib.hid (And.intro hks hoff)
  have HSC : Hid (∀ D, D = crashL ks torn bytes L 0 C → (⟨L, C, fu, off, n⟩ : Dsk).crash ks torn bytes = ⟨D, [], -1, false, n⟩) := fun D hD => by rw [hD]; rfl
  clear h hS hsect hcach hks hoff
  go_enter Tryz.func19, Tryz.ntmps19
  go_upto_region 0 with (fail)
  go_cut [8] from 13 (fun s8 wx => s8 = .int .i64 (m : Int) ∧ wx = w)
  case first =>
    go_wp2
    all_goals
      go_meet
      case rel => exact ⟨by congr 1; omega, rfl⟩
  case rest =>
    obtain ⟨rfl, rfl⟩ := hcut
    clear hm
    go_wp2
    go_loopw [21] (fun i wr => ∃ j : Nat, j ≤ C.length ∧ i = .int .i64 j ∧ Hid (RawAt wr B p gD gS (.slice ad C.length cap) (crashL ks torn bytes L 0 (C.take j)) (syncL L C) C fu off n) ∧ Hid (Kept X wc wr)) (fun i _ => C.length - (intOf i).toNat)
    case atStart => exact ⟨0, Nat.zero_le _, rfl, HR, Kept.refl X wc⟩
    case round =>
      obtain ⟨j, hj, rfl, hr, hk⟩ := hrel
      by_cases hlt : (j : Int) < C.length
      · have hjC : j < C.length := by omega
        obtain ⟨y, hy⟩ : ∃ y, y = C[j] := ⟨_, rfl⟩
        have hy1 : y.1 < L.length := by rw [hy]; exact (HOk.out.2 _ (List.getElem_mem hjC)).1
        have hy2 : y.2.length = 64 := by rw [hy]; exact (HOk.out.2 _ (List.getElem_mem hjC)).2
        have hT := crashL_take ks torn bytes L C j hjC
        rw [← hy] at hT
        have HT := Lib.hid hT
        obtain ⟨D, hD⟩ : ∃ D, Hid (D = crashL ks torn bytes L 0 (C.take j)) := ⟨_, rfl⟩
        rw [← hD.out] at hr hT
        have hDL : D.length = L.length := by rw [hD.out, crashL_length]
        have hD64 : ∀ x ∈ D, x.length = 64 := by rw [hD.out]; exact crashL_64 ks torn bytes _ _ _ HOk.out.1 (fun x hx => HOk.out.2 x (List.mem_of_mem_take hx))
        obtain ⟨gC, rfl⟩ : ∃ gC, ad = some ⟨gC, 0, none⟩ := by
          rcases hr.out.cache.2 with ⟨_, h0⟩ | ⟨g', cap', cur, hv, _⟩
          · omega
          · injection hv with e1; exact ⟨_, e1⟩
        have hrng : wr.rangeAt gC (j * 65) (cellW y) := fun i v hv => by
          have hi := (List.getElem?_eq_some_iff.1 hv).1
          have hc := hr.out.cache
          rw [cellW_length y hy2] at hi
          rw [hc.cellAt (j * 65 + i) (by omega)]
          rw [hy] at hv
          exact flatW_get C (fun x hx => (HOk.out.2 x hx).2) j hjC i v hv
        have hj0 : (0 : Int) ≤ (j : Int) := Int.natCast_nonneg _
        obtain ⟨g, hg⟩ : ∃ g, Hid (g = wr.heap.size) := ⟨_, rfl⟩
        have hXg : ¬Xof p gD gS (.slice (some ⟨gC, 0, none⟩) C.length cap) g := fun hx => by have := (hr.out.lt g hx).2; have := hg.out; omega
        have hy1' : (y.1 : Int) < D.length := by omega
        have hy1M : y.1 < D.length := by omega
        clear hT hy hDL hy1
        go_upto_region 3 with (fail)
        refine wp_region_lit ?_
        refine wpList_plain rfl fun K hK => ?_
        go_simp
        refine hK _ _ ?_
        clear hK K
        refine wpList_plain rfl fun K hK => ?_
        go_simp
        refine hK _ _ ?_
        clear hK K
        refine wpList_load_mid rfl 90 (.tmp 24) rfl gC (j * 65) rfl (cellW y) _ hrng Tryz.underlying90 rfl (by rw [write_size, cellW_length y hy2]) ?_
        refine wpList_alloc_row rfl 90 rfl i67 (cellW (0, z64)) hi67 hz67 ?_
        rw [← hg.out]
        have HN := Holds.new wr (cellW (0, z64)) 90
        have HV1 := hr.out.alloc (.cells (cellW (0, z64)).toArray 90)
        have KV1 := hk.out.alloc (.cells (cellW (0, z64)).toArray 90)
        rw [← hg.out] at HN
        generalize wr.alloc (.cells (cellW (0, z64)).toArray 90) = wa at HN HV1 KV1 ⊢
        refine wpList_plain rfl fun K hK => ?_
        go_simp
        refine hK _ _ ?_
        clear hK K
        refine wpList_store_mid rfl 90 (.tmp 10) (.tmp 25) rfl g 0 (cellW y).toArray rfl rfl (HN.there 0 _ (by simp [cellW_z, cellW_length y hy2])) (by rw [write_size]; simp [cellW_length y hy2]) (all_oneCell_toArray (cellW_one _)) ?_
        have HN2 := Holds.setCells (cellW y) 0 wa _ HN (by simp [cellW_z, cellW_length y hy2])
        rw [lay_all _ _ (by simp [cellW_z, cellW_length y hy2])] at HN2
        have HV2 := HV1.setOther g 0 (cellW y) hXg
        have KV2 := Kept.setCellsN (X := X) (hg.out ▸ hk.out.size) (cellW y) 0 wa KV1
        refine wpList_nil ?_
        change Exit.then _ _ _ _ (wa.setCells g 0 (cellW y))
        generalize wa.setCells g 0 (cellW y) = wb at HN2 HV2 KV2 ⊢
        clear HN HV1 KV1
        have HE := Lib.hid (And.intro HN2 (And.intro HV2 KV2))
        have hy0 : (0 : Int) ≤ (y.1 : Int) := Int.natCast_nonneg _
        have hw2 : IntKind.i64.wrap ((j : Int) + 1) = ((j + 1 : Nat) : Int) := by rw [IntWalk.i64_in _ (by omega)]; omega
        by_cases hto : (j : Int) = torn
        · subst hto
          have c0 := HE.out.2.1.drew.obj.cell 0 _ rfl
          have d0 := HE.out.1.drew.cell 0 _ rfl
          have hm0 : (0 : Int) ≤ (m : Int) := Int.natCast_nonneg _
          have hm1 : (m : Int) ≤ 64 := by omega
          clear HN2 HV2 KV2
          go_wp2_with fail
          refine wp_region_still_tail 11 (by kernel_rfl) (by kernel_rfl) ?_
          simp only [List.take_succ_cons, List.take_zero, List.drop_succ_cons, List.drop_zero]
          repeat still_step
          refine wpStill_nil ?_
          change wpList _ _ _ _ _ wb.drew
          obtain ⟨d, hd⟩ : ∃ d, d = y.2.take m := ⟨_, rfl⟩
          have hdl : d.length = m := by rw [hd, List.length_take]; omega
          have HM := HE.out.2.1.drew.setDur hD64 y.1 hy1M d m hdl hm64
          have KM := Kept.setCells (X := X) (g := gD) (HX.out gD (.inr (.inl rfl))) (Lib.byteCells d) (y.1 * 64) wb.drew (HE.out.2.2.drewN 1)
          refine wpList_copy_mid rfl (.tmp 37) (.tmp 39) _ _ rfl 5 Tryz.underlying60 (by kernel_rfl) gD (y.1 * 64) m 64 g 1 64 64 (by kernel_rfl) (by kernel_rfl) (Lib.byteCells d) (by rw [bc_length, hdl]; exact (Nat.min_eq_right hm64).symm)
            (HE.out.1.drew.range 1 _ (fun i v hv => by
              rw [hd, bc_take] at hv
              rw [List.getElem?_take] at hv
              split at hv
              · rw [Nat.add_comm]; simpa [cellW] using hv
              · cases hv))
            (HE.out.2.1.drew.dur.there _ _ (by rw [cellsL_length _ hD64, bc_length, hdl]; omega)) (bc_one _) ?_
          refine wpList_nil ?_
          change Exit.inBlock _ _ _ _ (wb.drew.setCells gD (y.1 * 64) (Lib.byteCells d))
          generalize wb.drew.setCells gD (y.1 * 64) (Lib.byteCells d) = wg at HM KM ⊢
          have e1 : D.set y.1 (d ++ D[y.1].drop m) = crashL ks (j : Int) bytes L 0 (C.take (j + 1)) := by
            rw [HT.out, ← hD.out, crashOne, if_pos rfl, ← HM0.out, hd, sec_in D [] hy1M]
          rw [e1] at HM
          have HE2 := Lib.hid (And.intro HM KM)
          clear c0 d0 HM KM hD64 hrng hy0 hy1' hy1M hy2 e1 hd hdl
          go_wp2
          go_roundw
          case rel => exact ⟨j + 1, by omega, by first | rfl | go_num, HE2.out.1, HE2.out.2⟩
          case measure => simp [intOf]; omega
        · have hto' : ((j : Int) == torn) = false := by simpa using hto
          have HC1 : ∀ c : Bool, Hid (crashL ks torn bytes L 0 (C.take (j + 1)) = if j < ks.length ∧ ks.getD j 0 % 2 ≠ 0 then D.set y.1 y.2 else D) := fun _ => by
            show _ = _
            rw [HT.out, ← hD.out, crashOne, if_neg hto]
          have HCr := HC1 true
          clear HC1
          have HI := HKS.out.1.kept KV2 HKS.out.2
          by_cases hkl : (j : Int) < klen
          · have hjk : j < ks.length := by have := HI.1; omega
            obtain ⟨b, o, rfl, hbl, hbc⟩ : ∃ b o, kad = some ⟨b, o, none⟩ ∧ b < wb.heap.size ∧ ∀ i (h : i < ks.length), wb.cell? ⟨b, o + i, none⟩ = some (.int .i64 ks[i]) := by
              rcases HI.2 with h | h
              · rw [h] at hjk; cases hjk
              · exact h
            have hcell := hbc j hjk
            have hget : ks.getD j 0 = ks[j] := by simp [List.getD, hjk]
            rw [hget] at HCr
            obtain ⟨x, hx⟩ : ∃ x, x = ks[j] := ⟨_, rfl⟩
            rw [← hx] at hcell HCr
            have HJ := Lib.hid hjk
            clear hx hget hbc HI HN2 HV2 KV2 hjk
            by_cases hodd : x.tmod 2 = 0
            · rw [if_neg (fun h => h.2 ((odd_iff x).1 hodd))] at HCr
              have HE2 : Hid (RawAt wb B p gD gS (.slice (some ⟨gC, 0, none⟩) C.length cap) (crashL ks torn bytes L 0 (C.take (j + 1))) (syncL L C) C fu off n) := by
                show RawAt _ _ _ _ _ _ _ _ _ _ _ _
                rw [HCr.out]; exact HE.out.2.1
              clear hrng hy0 hy1' hy1M hD64
              go_wp2
              go_roundw
              case rel => exact ⟨j + 1, by omega, by first | rfl | go_num, HE2, HE.out.2.2⟩
              case measure => simp [intOf]; omega
            · rw [if_pos ⟨HJ.out, fun h => hodd ((odd_iff x).2 h)⟩] at HCr
              have c0 := HE.out.2.1.drew.obj.cell 0 _ rfl
              have d0 := HE.out.1.drew.cell 0 _ rfl
              go_wp2_with fail
              refine wp_region_still_tail 9 (by kernel_rfl) (by kernel_rfl) ?_
              simp only [List.take_succ_cons, List.take_zero, List.drop_succ_cons, List.drop_zero]
              still_step
              still_step
              still_step
              still_step
              still_step
              still_step
              still_step
              refine wpStill_load_mid rfl 88 (.tmp 59) rfl g 1 (by kernel_rfl) (Lib.byteCells y.2) _ (HE.out.1.drew.range 1 _ (fun j v hv => by rw [Nat.add_comm]; simpa [cellW] using hv)) Tryz.underlying88 rfl (by rw [content_size, bc_length, hy2]) ?_
              still_step
              refine wpStill_nil ?_
              change wpList _ _ _ _ _ wb.drew
              have HM := HE.out.2.1.drew.setDur hD64 y.1 hy1M y.2 64 hy2 (Nat.le_refl _)
              rw [List.drop_eq_nil_of_le (by rw [hD64 _ (List.getElem_mem _)]; exact Nat.le_refl _), List.append_nil] at HM
              have KM := Kept.setCells (X := X) (g := gD) (HX.out gD (.inr (.inl rfl))) (Lib.byteCells y.2) (y.1 * 64) wb.drew (HE.out.2.2.drewN 1)
              refine wpList_store_mid rfl 88 (.tmp 61) (.tmp 60) rfl gD (y.1 * 64) (Lib.byteCells y.2).toArray (by kernel_rfl) (by kernel_rfl) (HE.out.2.1.drew.dur.there _ _ (by rw [cellsL_length _ hD64]; simp [bc_length, hy2]; omega)) (by rw [content_size]; simp [bc_length, hy2]) (all_oneCell_toArray (bc_one _)) ?_
              refine wpList_nil ?_
              change Exit.inBlock _ _ _ _ (wb.drew.setCells gD (y.1 * 64) (Lib.byteCells y.2))
              generalize wb.drew.setCells gD (y.1 * 64) (Lib.byteCells y.2) = wg at HM KM ⊢
              have HE2 : Hid (RawAt wg B p gD gS (.slice (some ⟨gC, 0, none⟩) C.length cap) (crashL ks torn bytes L 0 (C.take (j + 1))) (syncL L C) C fu off n) := by
                show RawAt _ _ _ _ _ _ _ _ _ _ _ _
                rw [HCr.out]; exact HM
              have HK2 := Lib.hid KM
              clear c0 d0 HM KM hD64 hrng hy0 hy1' hy1M hy2
              go_wp2
              go_roundw
              case rel => exact ⟨j + 1, by omega, by first | rfl | go_num, HE2, HK2⟩
              case measure => simp [intOf]; omega
          · have hjk : ¬j < ks.length := by have := HI.1; omega
            rw [if_neg (fun h => hjk h.1)] at HCr
            have HE2 : Hid (RawAt wb B p gD gS (.slice (some ⟨gC, 0, none⟩) C.length cap) (crashL ks torn bytes L 0 (C.take (j + 1))) (syncL L C) C fu off n) := by
              show RawAt _ _ _ _ _ _ _ _ _ _ _ _
              rw [HCr.out]; exact HV2
            clear hjk HI HN2 HV2 KV2 hrng hy0 hy1' hy1M hD64
            go_wp2
            go_roundw
            case rel => exact ⟨j + 1, by omega, by first | rfl | go_num, HE2, HE.out.2.2⟩
            case measure => simp [intOf]; omega
      · obtain rfl : j = C.length := by omega
        rw [List.take_length] at hr
        obtain ⟨D1, hD1⟩ : ∃ D1, D1 = crashL ks torn bytes L 0 C := ⟨_, rfl⟩
        have HD1 : Hid (D1 = crashL ks torn bytes L 0 C ∧ D1.length = L.length ∧ ∀ x ∈ D1, x.length = 64) := ⟨hD1, by rw [hD1, crashL_length], by rw [hD1]; exact crashL_64 ks torn bytes _ _ _ HOk.out.1 HOk.out.2⟩
        have HSe : Hid (seeL D1 (syncL L C) C = D1) := by show seeL D1 _ C = D1; rw [hD1]; exact seeL_crash ks torn bytes L C
        rw [← hD1] at hr
        have c2 := hr.out.obj.cell 2 _ rfl
        clear hD1
        obtain ⟨wq, hwq⟩ : ∃ wq, wq = wr := ⟨_, rfl⟩
        rw [← hwq] at hr hk c2 ⊢
        clear hwq
        have HR2 := hr
        have HK2 := hk
        clear hr hk hlt
        go_wp2
        go_loopw [68] (fun i wr => ∃ j : Nat, j ≤ C.length ∧ i = .int .i64 j ∧ Hid (RawAt wr B p gD gS (.slice ad C.length cap) D1 (seeL D1 (syncL L C) (C.take j)) C fu off n) ∧ Hid (Kept X wc wr)) (fun i _ => C.length - (intOf i).toNat)
        case atStart => exact ⟨0, Nat.zero_le _, rfl, HR2, HK2⟩
        case round =>
          obtain ⟨j, hj, rfl, hr, hk⟩ := hrel
          by_cases hlt : (j : Int) < C.length
          · have hjC : j < C.length := by omega
            obtain ⟨y, hy⟩ : ∃ y, y = C[j] := ⟨_, rfl⟩
            have hy1 : y.1 < L.length := by rw [hy]; exact (HOk.out.2 _ (List.getElem_mem hjC)).1
            have hy2 : y.2.length = 64 := by rw [hy]; exact (HOk.out.2 _ (List.getElem_mem hjC)).2
            have hT := seeL_take D1 (syncL L C) C j hjC
            rw [← hy] at hT
            have HT := Lib.hid hT
            obtain ⟨D, hD⟩ : ∃ D, Hid (D = seeL D1 (syncL L C) (C.take j)) := ⟨_, rfl⟩
            rw [← hD.out] at hr hT
            have hDL : D.length = L.length := by rw [hD.out, seeL_length, syncL_length]
            have hD64 : ∀ x ∈ D, x.length = 64 := by
              rw [hD.out]
              exact seeL_64 HD1.out.2.2 _ _ (fun x hx => by have := (HOk.out.2 x (List.mem_of_mem_take hx)).1; have := HD1.out.2.1; omega) (syncL_64 HOk.out.1 (fun x hx => (HOk.out.2 x hx).2))
            have hyD : y.1 < D1.length := by have := HD1.out.2.1; omega
            obtain ⟨gC, rfl⟩ : ∃ gC, ad = some ⟨gC, 0, none⟩ := by
              rcases hr.out.cache.2 with ⟨_, h0⟩ | ⟨g', cap', cur, hv, _⟩
              · omega
              · injection hv with e1; exact ⟨_, e1⟩
            have hrng : wr.rangeAt gC (j * 65) (cellW y) := fun i v hv => by
              have hi := (List.getElem?_eq_some_iff.1 hv).1
              have hc := hr.out.cache
              rw [cellW_length y hy2] at hi
              rw [hc.cellAt (j * 65 + i) (by omega)]
              rw [hy] at hv
              exact flatW_get C (fun x hx => (HOk.out.2 x hx).2) j hjC i v hv
            have hj0 : (0 : Int) ≤ (j : Int) := Int.natCast_nonneg _
            obtain ⟨g, hg⟩ : ∃ g, Hid (g = wr.heap.size) := ⟨_, rfl⟩
            have hXg : ¬Xof p gD gS (.slice (some ⟨gC, 0, none⟩) C.length cap) g := fun hx => by have := (hr.out.lt g hx).2; have := hg.out; omega
            have hy1' : (y.1 : Int) < D1.length := by omega
            have hy1M : y.1 < D.length := by omega
            clear hT hy hDL hy1
            go_upto_region 11 with (fail)
            refine wp_region_lit ?_
            refine wpList_plain rfl fun K hK => ?_
            go_simp
            refine hK _ _ ?_
            clear hK K
            refine wpList_load_mid rfl 90 (.tmp 70) rfl gC (j * 65) rfl (cellW y) _ hrng Tryz.underlying90 rfl (by rw [write_size, cellW_length y hy2]) ?_
            refine wpList_alloc_row rfl 90 rfl i67 (cellW (0, z64)) hi67 hz67 ?_
            rw [← hg.out]
            have HN := Holds.new wr (cellW (0, z64)) 90
            have HV1 := hr.out.alloc (.cells (cellW (0, z64)).toArray 90)
            have KV1 := hk.out.alloc (.cells (cellW (0, z64)).toArray 90)
            rw [← hg.out] at HN
            generalize wr.alloc (.cells (cellW (0, z64)).toArray 90) = wa at HN HV1 KV1 ⊢
            refine wpList_store_mid rfl 90 (.tmp 12) (.tmp 71) rfl g 0 (cellW y).toArray rfl rfl (HN.there 0 _ (by simp [cellW_z, cellW_length y hy2])) (by rw [write_size]; simp [cellW_length y hy2]) (all_oneCell_toArray (cellW_one _)) ?_
            have HN2 := Holds.setCells (cellW y) 0 wa _ HN (by simp [cellW_z, cellW_length y hy2])
            rw [lay_all _ _ (by simp [cellW_z, cellW_length y hy2])] at HN2
            have HV2 := HV1.setOther g 0 (cellW y) hXg
            have KV2 := Kept.setCellsN (X := X) (hg.out ▸ hk.out.size) (cellW y) 0 wa KV1
            refine wpList_nil ?_
            change Exit.then _ _ _ _ (wa.setCells g 0 (cellW y))
            generalize wa.setCells g 0 (cellW y) = wb at HN2 HV2 KV2 ⊢
            clear HN HV1 KV1
            have HE := Lib.hid (And.intro HN2 (And.intro HV2 KV2))
            have hy0 : (0 : Int) ≤ (y.1 : Int) := Int.natCast_nonneg _
            have hw2 : IntKind.i64.wrap ((j : Int) + 1) = ((j + 1 : Nat) : Int) := by rw [IntWalk.i64_in _ (by omega)]; omega
            have c0 := HE.out.2.1.drew.obj.cell 0 _ rfl
            have c1 := HE.out.2.1.drew.obj.cell 1 _ rfl
            have d0 := HE.out.1.drew.cell 0 _ rfl
            clear HN2 HV2 KV2
            go_wp2_with fail
            refine wp_region_still_tail 15 (by kernel_rfl) (by kernel_rfl) ?_
            simp only [List.take_succ_cons, List.take_zero, List.drop_succ_cons, List.drop_zero]
            still_step
            still_step
            still_step
            still_step
            still_step
            still_step
            still_step
            still_step
            still_step
            still_step
            still_step
            still_step
            still_step
            obtain ⟨dd, hdd⟩ : ∃ dd, Hid (dd = D1[y.1]) := ⟨D1[y.1], show D1[y.1] = D1[y.1] from rfl⟩
            have hs64 : dd.length = 64 := by rw [hdd.out]; exact HD1.out.2.2 _ (List.getElem_mem _)
            have hrg : wb.drew.rangeAt gD (y.1 * 64) (Lib.byteCells dd) := by rw [hdd.out]; exact HE.out.2.1.drew.dur.range _ _ (cellsL_get D1 HD1.out.2.2 y.1 hyD)
            have hdg : Hid (dd = D1.getD y.1 []) := by show dd = _; rw [sec_in D1 [] hyD]; exact hdd.out
            clear hdd
            refine wpStill_load_mid rfl 88 (.tmp 84) rfl gD (y.1 * 64) (by kernel_rfl) (Lib.byteCells dd) _ hrg Tryz.underlying88 rfl (by rw [content_size, bc_length, hs64]) ?_
            still_step
            refine wpStill_nil ?_
            change wpList _ _ _ _ _ wb.drew
            have HM := HE.out.2.1.drew.setSee hD64 y.1 hy1M dd hs64
            have KM := Kept.setCells (X := X) (g := gS) (HX.out gS (.inr (.inr (.inl rfl)))) (Lib.byteCells dd) (y.1 * 64) wb.drew (HE.out.2.2.drewN 1)
            refine wpList_store_mid rfl 88 (.tmp 86) (.tmp 85) rfl gS (y.1 * 64) (Lib.byteCells dd).toArray (by kernel_rfl) (by kernel_rfl) (HE.out.2.1.drew.see.there _ _ (by rw [cellsL_length _ hD64]; simp [bc_length, hs64]; omega)) (by rw [content_size]; simp [bc_length, hs64]) (all_oneCell_toArray (bc_one _)) ?_
            refine wpList_nil ?_
            change Exit.inBlock _ _ _ _ (wb.drew.setCells gS (y.1 * 64) (Lib.byteCells dd))
            generalize wb.drew.setCells gS (y.1 * 64) (Lib.byteCells dd) = wg at HM KM ⊢
            rw [hdg.out, hD.out, ← HT.out] at HM
            have HE2 := Lib.hid (And.intro HM KM)
            clear c0 c1 d0 HM KM hD64 hrng hy0 hy1' hy1M hy2 hs64 hyD hrg
            go_wp2
            go_roundw
            case rel => exact ⟨j + 1, by omega, by first | rfl | go_num, HE2.out.1, HE2.out.2⟩
            case measure => simp [intOf]; omega
          · obtain rfl : j = C.length := by omega
            rw [List.take_length] at hr
            have hr3 := hr.out
            rw [HSe.out] at hr3
            have HO := Lib.hid hr3
            clear hr hr3
            rcases HO.out.cache.2 with ⟨hv, hz⟩ | ⟨gC, cap', cur, hv, hrest⟩
            · injection hv with e1 e2 e3
              subst e1 e3
              have HF := ((HO.out.setC (vC' := .slice none 0 0) (C' := []) ⟨rfl, .inl ⟨rfl, rfl⟩⟩ ⟨by simp [Value.ownBlock], by simp [Value.ownBlock], by simp [Value.ownBlock]⟩).field 3 (.int .i64 (-1)) (fu' := -1) (off' := off) (n' := n) rfl).field 4 (.bool false) (fu' := -1) (off' := false) (n' := n) rfl
              have HE := Lib.hid HF
              have c2 := HO.out.obj.cell 2 _ rfl
              have f2 := HO.out.obj.free 2
              have c3 := HO.out.obj.cell 3 _ rfl
              have f3 := HO.out.obj.free 3
              have c4 := HO.out.obj.cell 4 _ rfl
              have f4 := HO.out.obj.free 4
              clear HF
              go_wp2
              go_end0
              rw [HSC.out D1 HD1.out.1]
              exact ⟨rfl, _, RawAt.dsk (S := ⟨D1, [], -1, false, n⟩) HE.out rfl, fun b hb => .inl (HX.out b hb), ((hk.out.setCell (p := ⟨p, 2, none⟩) (HX.out p (.inl rfl)) _).setCell (p := ⟨p, 3, none⟩) (HX.out p (.inl rfl)) _).setCell (p := ⟨p, 4, none⟩) (HX.out p (.inl rfl)) _⟩
            · injection hv with e1 e2 e3
              subst e1 e3
              have HF := ((HO.out.setC (vC' := .slice (some ⟨gC, 0, none⟩) 0 cap) (C' := []) (owns_cut HO.out.cache) HO.out.neC).field 3 (.int .i64 (-1)) (fu' := -1) (off' := off) (n' := n) rfl).field 4 (.bool false) (fu' := -1) (off' := false) (n' := n) rfl
              have HE := Lib.hid HF
              have c2 := HO.out.obj.cell 2 _ rfl
              have f2 := HO.out.obj.free 2
              have c3 := HO.out.obj.cell 3 _ rfl
              have f3 := HO.out.obj.free 3
              have c4 := HO.out.obj.cell 4 _ rfl
              have f4 := HO.out.obj.free 4
              clear HF
              go_wp2
              go_end0
              rw [HSC.out D1 HD1.out.1]
              exact ⟨rfl, _, RawAt.dsk (S := ⟨D1, [], -1, false, n⟩) HE.out rfl, fun b hb => .inl (HX.out b hb), ((hk.out.setCell (p := ⟨p, 2, none⟩) (HX.out p (.inl rfl)) _).setCell (p := ⟨p, 3, none⟩) (HX.out p (.inl rfl)) _).setCell (p := ⟨p, 4, none⟩) (HX.out p (.inl rfl)) _⟩

end Go.Proofs.YtfbgagpihhbllaaGreatDoor
