/- The program's Sync: what it does. -/
import Derived.Test.YtgppbbbpekghiaaPWr
namespace Go.Proofs.Ytgppbbbpekghiaa
open Go.RowKit Go.Proofs Go.Proofs.Pk
set_option maxRecDepth 10000
attribute [local simp] mk_get wrap64_u8 mk_extract ByteArray.mk_append_mk get_1k

set_option maxHeartbeats 400000 in
theorem pSy_off (w : World) (B p : Nat) (S : Dsk) (X : Nat → Prop) (h : DskP w B p S X) (ho : S.off = true) :
    Calls Try.prog 16 #[.pointer (some ⟨p, 0, none⟩)] w (W1P w B p X S (erV 6)) := by
  have HD := Lib.hid h
  obtain ⟨gD, gS, vC, h⟩ := h
  have c4 := h.obj.cell 4 _ rfl
  rw [ho] at c4
  clear h ho
  go_enter Try.func16, Try.ntmps16
  go_wp2
  go_ret
  exact ⟨rfl, X, HD.out, Grows.refl w X, Kept.refl X w⟩

theorem syncL_take (L : List (List UInt8)) (C : List (Nat × List UInt8)) (j : Nat) (h : j < C.length) : syncL L (C.take (j + 1)) = (syncL L (C.take j)).set (C[j]).1 (C[j]).2 := by
  rw [List.take_succ_eq_append_getElem h, syncL_snoc]

set_option maxHeartbeats 1000000 in
theorem pSy_on (w : World) (B p : Nat) (S : Dsk) (X : Nat → Prop) (h : DskP w B p S X) (hS : S.Ok) (ho : S.off = false) :
    Calls Try.prog 16 #[.pointer (some ⟨p, 0, none⟩)] w (W1P w B p X { S with L := syncL S.L S.C, C := [] } .nilIface) := by
  obtain ⟨gD, gS, vC, h⟩ := h
  obtain ⟨i67, hi67, hz67, hs67, hb67⟩ := info_parts write_info
  obtain ⟨L, C, fu, off, n⟩ := S
  simp only at ho
  subst ho
  simp only
  have HX : Hid (∀ b, Xof p gD gS vC b → X b) := fun b hb => (h.own b).2 hb
  have HR : Hid (RawAt w B p gD gS vC L (syncL L C) C fu false n) := h.raw
  have hsect := hS.sect
  have hcach := hS.cach
  simp only at hsect hcach
  have HOk := Lib.hid (And.intro hsect hcach)
  obtain ⟨ad, cap, hv⟩ : ∃ ad cap, vC = .slice ad C.length cap := by
    rcases h.cache.2 with ⟨hv, h0⟩ | ⟨g, cap, cur, hv, _⟩
    · exact ⟨none, 0, by rw [hv, h0]⟩
    · exact ⟨_, _, hv⟩
  subst hv
  have hC63 : (C.length : Int) ≤ 9223372036854775807 := by
    rcases h.cache.2 with ⟨_, h0⟩ | ⟨g, cap, cur, _, _, _, h1, h2, _⟩
    · simp only at h0; omega
    · simp only at h1; unfold maxLen at h2; omega
  have c4 := h.obj.cell 4 _ rfl
  have c2 := h.obj.cell 2 _ rfl
  simp only at c4 c2
  clear h hS hsect hcach
  go_enter Try.func16, Try.ntmps16
  go_wp2
  go_loopw [15] (fun i wr => ∃ j : Nat, j ≤ C.length ∧ i = .int .i64 j ∧ Hid (RawAt wr B p gD gS (.slice ad C.length cap) (syncL L (C.take j)) (syncL L C) C fu false n) ∧ Hid (Kept X w wr)) (fun i _ => C.length - (intOf i).toNat)
  case atStart => exact ⟨0, Nat.zero_le _, rfl, HR, Kept.refl X w⟩
  case round =>
    obtain ⟨j, hj, rfl, hr, hk⟩ := hrel
    by_cases hlt : (j : Int) < C.length
    · have hjC : j < C.length := by omega
      obtain ⟨y, hy⟩ : ∃ y, y = C[j] := ⟨_, rfl⟩
      have hy1 : y.1 < L.length := by rw [hy]; exact (HOk.out.2 _ (List.getElem_mem hjC)).1
      have hy2 : y.2.length = 64 := by rw [hy]; exact (HOk.out.2 _ (List.getElem_mem hjC)).2
      have hT := syncL_take L C j hjC
      rw [← hy] at hT
      have HT := Lib.hid hT
      obtain ⟨M, hM⟩ : ∃ M, Hid (M = syncL L (C.take j)) := ⟨_, rfl⟩
      rw [← hM.out] at hr hT
      have hML : M.length = L.length := by rw [hM.out, syncL_length]
      have hM64 : ∀ x ∈ M, x.length = 64 := by rw [hM.out]; exact syncL_64 HOk.out.1 (fun x hx => (HOk.out.2 x (List.mem_of_mem_take hx)).2)
      obtain ⟨gC, rfl⟩ : ∃ gC, ad = some ⟨gC, 0, none⟩ := by
        rcases hr.out.cache.2 with ⟨_, h0⟩ | ⟨g', cap', cur, hv, _⟩
        · omega
        · injection hv with e1; exact ⟨_, e1⟩
      have hrng : wr.rangeAt gC (j * 65) (cellW y) := fun i v hv => by
        have hi := (List.getElem?_eq_some_iff.1 hv).1
        have hc := hr.out.cache
        rw [cellW_length y hy2] at hi
        rw [hc.cellAt (j * 65 + i) (by omega)]
        rw [hy] at hv
        exact flatW_get C (fun x hx => (HOk.out.2 x hx).2) j hjC i v hv
      have hj0 : (0 : Int) ≤ (j : Int) := Int.natCast_nonneg _
      obtain ⟨g, hg⟩ : ∃ g, Hid (g = wr.heap.size) := ⟨_, rfl⟩
      have hXg : ¬Xof p gD gS (.slice (some ⟨gC, 0, none⟩) C.length cap) g := fun hx => by have := (hr.out.lt g hx).2; have := hg.out; omega
      have hy1' : (y.1 : Int) < M.length := by omega
      have hy1M : y.1 < M.length := by omega
      clear hT hy hML hy1
      go_upto_region 5 with (fail)
      refine wp_region_lit ?_
      refine wpList_plain rfl fun K hK => ?_
      go_simp
      refine hK _ _ ?_
      clear hK K
      refine wpList_load_mid rfl 67 (.tmp 17) rfl gC (j * 65) rfl (cellW y) _ hrng Try.underlying67 rfl (by rw [write_size, cellW_length y hy2]) ?_
      refine wpList_alloc_row rfl 67 rfl i67 (cellW (0, z64)) hi67 hz67 ?_
      rw [← hg.out]
      have HN := Holds.new wr (cellW (0, z64)) 67
      have HV1 := hr.out.alloc (.cells (cellW (0, z64)).toArray 67)
      have KV1 := hk.out.alloc (.cells (cellW (0, z64)).toArray 67)
      rw [← hg.out] at HN
      generalize wr.alloc (.cells (cellW (0, z64)).toArray 67) = wa at HN HV1 KV1 ⊢
      refine wpList_store_mid rfl 67 (.tmp 4) (.tmp 18) rfl g 0 (cellW y).toArray rfl rfl (HN.there 0 _ (by simp [cellW_z, cellW_length y hy2])) (by rw [write_size]; simp [cellW_length y hy2]) (all_oneCell_toArray (cellW_one _)) ?_
      have HN2 := Holds.setCells (cellW y) 0 wa _ HN (by simp [cellW_z, cellW_length y hy2])
      rw [lay_all _ _ (by simp [cellW_z, cellW_length y hy2])] at HN2
      have HV2 := HV1.setOther g 0 (cellW y) hXg
      have KV2 := Kept.setCellsN (X := X) (hg.out ▸ hk.out.size) (cellW y) 0 wa KV1
      refine wpList_nil ?_
      change Exit.then _ _ _ _ (wa.setCells g 0 (cellW y))
      generalize wa.setCells g 0 (cellW y) = wb at HN2 HV2 KV2 ⊢
      clear HN HV1 KV1
      have HE := Lib.hid (And.intro HN2 (And.intro HV2 KV2))
      have hy0 : (0 : Int) ≤ (y.1 : Int) := Int.natCast_nonneg _
      have c0 := HV2.drew.obj.cell 0 _ rfl
      have d0 := HN2.drew.cell 0 _ rfl
      clear HN2 HV2 KV2
      go_wp2_with fail
      refine wp_region_still_tail 9 (by kernel_rfl) (by kernel_rfl) ?_
      simp only [List.take_succ_cons, List.take_zero, List.drop_succ_cons, List.drop_zero]
      still_step
      still_step
      still_step
      still_step
      still_step
      still_step
      still_step
      refine wpStill_load_mid rfl 65 (.tmp 25) rfl g 1 (by kernel_rfl) (Lib.byteCells y.2) _ (HE.out.1.drew.range 1 _ (fun j v hv => by rw [Nat.add_comm]; simpa [cellW] using hv)) Try.underlying65 rfl (by rw [content_size, bc_length, hy2]) ?_
      still_step
      refine wpStill_nil ?_
      change wpList _ _ _ _ _ wb.drew
      have HM := HE.out.2.1.drew.setDur hM64 y.1 hy1M y.2 64 hy2 (Nat.le_refl _)
      rw [List.drop_eq_nil_of_le (by rw [hM64 _ (List.getElem_mem _)]; exact Nat.le_refl _), List.append_nil] at HM
      have KM := Kept.setCells (X := X) (g := gD) (HX.out gD (.inr (.inl rfl))) (Lib.byteCells y.2) (y.1 * 64) wb.drew (HE.out.2.2.drewN 1)
      refine wpList_store_mid rfl 65 (.tmp 27) (.tmp 26) rfl gD (y.1 * 64) (Lib.byteCells y.2).toArray (by kernel_rfl) (by kernel_rfl) (HE.out.2.1.drew.dur.there _ _ (by rw [cellsL_length _ hM64]; simp [bc_length, hy2]; omega)) (by rw [content_size]; simp [bc_length, hy2]) (all_oneCell_toArray (bc_one _)) ?_
      refine wpList_nil ?_
      change Exit.inBlock _ _ _ _ (wb.drew.setCells gD (y.1 * 64) (Lib.byteCells y.2))
      generalize wb.drew.setCells gD (y.1 * 64) (Lib.byteCells y.2) = wg at HM KM ⊢
      rw [hM.out, ← HT.out] at HM
      have HE2 := Lib.hid (And.intro HM KM)
      have hw2 : IntKind.i64.wrap ((j : Int) + 1) = ((j + 1 : Nat) : Int) := by rw [IntWalk.i64_in _ (by omega)]; omega
      clear c0 d0 HM KM hM64 hrng hy0 hy1' hy1M hy2
      go_wp2
      go_roundw
      case rel => exact ⟨j + 1, by omega, by first | rfl | go_num, HE2.out.1, HE2.out.2⟩
      case measure => simp [intOf]; omega
    · obtain rfl : j = C.length := by omega
      rw [List.take_length] at hr
      have c2' := hr.out.obj.cell 2 _ rfl
      have f2' := hr.out.obj.free 2
      have HO := Lib.hid hr.out.cache
      rcases HO.out.2 with ⟨hv, hz⟩ | ⟨gC, cap', cur, hv, hrest⟩
      · injection hv with e1 e2 e3
        subst e1 e3
        have HF := hr.out.setC (vC' := .slice none 0 0) (C' := []) ⟨rfl, .inl ⟨rfl, rfl⟩⟩ ⟨by simp [Value.ownBlock], by simp [Value.ownBlock], by simp [Value.ownBlock]⟩
        have HE := Lib.hid HF
        clear HF
        go_wp2
        all_goals
          go_ret
          exact ⟨rfl, _, RawAt.dsk (S := ⟨syncL L C, [], fu, false, n⟩) HE.out rfl, fun b hb => .inl (HX.out b hb), hk.out.setCell (p := ⟨p, 2, none⟩) (HX.out p (.inl rfl)) _⟩
      · injection hv with e1 e2 e3
        subst e1 e3
        have HF := hr.out.setC (vC' := .slice (some ⟨gC, 0, none⟩) 0 cap) (C' := []) (owns_cut HO.out) hr.out.neC
        have HE := Lib.hid HF
        clear HF
        go_wp2
        all_goals
          go_ret
          exact ⟨rfl, _, RawAt.dsk (S := ⟨syncL L C, [], fu, false, n⟩) HE.out rfl, fun b hb => .inl (HX.out b hb), hk.out.setCell (p := ⟨p, 2, none⟩) (HX.out p (.inl rfl)) _⟩

/-- Sync does what the chapter says. -/
theorem pSy (w : World) (B p : Nat) (S : Dsk) (X : Nat → Prop) (h : DskP w B p S X) (hS : S.Ok) :
    Calls Try.prog 16 #[.pointer (some ⟨p, 0, none⟩)] w (W1P w B p X S.sync.1 (erV S.sync.2)) := by
  cases ho : S.off with
  | true => rw [show S.sync = (S, 6) from by unfold Dsk.sync; rw [if_pos ho]]; exact pSy_off w B p S X h ho
  | false => rw [show S.sync = ({ S with L := syncL S.L S.C, C := [] }, 0) from by unfold Dsk.sync; rw [if_neg (by simp [ho])]]; exact pSy_on w B p S X h hS ho

end Go.Proofs.Ytgppbbbpekghiaa
