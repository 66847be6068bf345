/- PWr. -/
import Derived.Test.YtfbgagpihhbllaaGreatDoorJ16
import Derived.Deep.Cut
import Derived.StillTailTactics
import Derived.Test.YtfbgagpihhbllaaGreatDoorJ08

/- The program's Write: what it does. -/
namespace Go.Proofs.YtfbgagpihhbllaaGreatDoor
open Go.RowKit Go.Proofs Go.Proofs.Pk
set_option maxRecDepth 10000
attribute [local simp] mk_get wrap64_u8 mk_extract ByteArray.mk_append_mk get_1k

/-- One result, the disk, and what is left alone. -/
def W1P (w : World) (B p : Nat) (X : Nat → Prop) (S' : Dsk) (v : Value) (e : Ending) (w' : World) : Prop :=
  e = .returned v ∧ ∃ X', DskP w' B p S' X' ∧ Grows w X X' ∧ Kept X w w'

theorem DskP.kept {w w' : World} {B p : Nat} {S : Dsk} {X Y : Nat → Prop} (h : DskP w B p S X) (hk : Kept Y w w') (hd : ∀ k, X k → ¬Y k) : DskP w' B p S X := by
  obtain ⟨gD, gS, vC, h⟩ := h
  exact ⟨gD, gS, vC, h.kept hk hd⟩
theorem DskP.drewN {w : World} {B p : Nat} {S : Dsk} {X : Nat → Prop} (h : DskP w B p S X) (m : Nat) : DskP (w.drewN m) B p S X := h.kept (kept_drewN (fun _ => False) w m) (fun _ _ hf => hf)

theorem write_bad {S : Dsk} {k : Int} (s : List UInt8) {c : Nat} (h : reachC S k = c + 1) : S.write k s = (S, c + 1) := by
  unfold reachC at h
  unfold Dsk.write
  split at h
  · rename_i ho; rw [if_pos ho, ← h]
  · rename_i ho
    split at h
    · rename_i hk; rw [if_neg ho, if_pos hk, ← h]
    · cases h
theorem reach_zero {S : Dsk} {k : Int} (h : reachC S k = 0) : S.off = false ∧ 0 ≤ k ∧ k < S.L.length := by
  unfold reachC at h
  split at h
  · cases h
  · rename_i ho
    split at h
    · cases h
    · exact ⟨by simpa using ho, by omega, by omega⟩
theorem write_long {S : Dsk} {k : Int} {s : List UInt8} (h : reachC S k = 0) (hs : 64 < s.length) : S.write k s = (S, 5) := by
  obtain ⟨h1, h2, h3⟩ := reach_zero h
  unfold Dsk.write; rw [if_neg (by simp [h1]), if_neg (by omega), if_pos hs]
theorem write_fuse {S : Dsk} {k : Int} {s : List UInt8} (h : reachC S k = 0) (hs : ¬64 < s.length) (hf : S.fuse = 0) : S.write k s = ({ S with off := true }, 6) := by
  obtain ⟨h1, h2, h3⟩ := reach_zero h
  unfold Dsk.write; rw [if_neg (by simp [h1]), if_neg (by omega), if_neg hs, if_pos hf]
theorem write_done {S : Dsk} {k : Int} {s : List UInt8} (h : reachC S k = 0) (hs : ¬64 < s.length) (hf : S.fuse ≠ 0) :
    S.write k s = ({ S with fuse := if 0 < S.fuse then S.fuse - 1 else S.fuse, n := S.n + 1, C := S.C ++ [(k.toNat, padL s)] }, 0) := by
  obtain ⟨h1, h2, h3⟩ := reach_zero h
  unfold Dsk.write; rw [if_neg (by simp [h1]), if_neg (by omega), if_neg hs, if_neg hf]

set_option maxHeartbeats 400000 in
theorem pWr_bad (k : Int) (s : List UInt8) (w : World) (B p : Nat) (S : Dsk) (X : Nat → Prop) (h : DskP w B p S X) (c : Nat) (hc : reachC S k = c + 1) :
    Calls Tryz.prog 50 #[.pointer (some ⟨p, 0, none⟩), .int .i64 k, .string ⟨s.toArray⟩] w (W1P w B p X S (erV (c + 1))) := by
  have HR := Lib.hid (pReach k w B p S X h)
  have HD := Lib.hid h
  rw [hc] at HR
  have e0 : erV (c + 1) = .iface 33 (.int .i64 ((c + 1 : Nat) : Int)) := rfl
  rw [e0] at HR ⊢
  clear h hc e0
  go_enter Tryz.func50, Tryz.ntmps50
  go_wp2_with (go_at_call 71; refine HR.out.mono ?_; rintro e wn ⟨rfl, m, rfl⟩)
  go_wp2
  go_ret
  exact ⟨rfl, X, HD.out.drewN m, Grows.refl w X, kept_drewN _ _ _⟩

set_option maxHeartbeats 1000000 in
theorem pWr_long (k : Int) (s : List UInt8) (w : World) (B p : Nat) (S : Dsk) (X : Nat → Prop) (h : DskP w B p S X) (hc : reachC S k = 0) (hs : 64 < s.length) :
    Calls Tryz.prog 50 #[.pointer (some ⟨p, 0, none⟩), .int .i64 k, .string ⟨s.toArray⟩] w (W1P w B p X S (erV 5)) := by
  have HR := Lib.hid (pReach k w B p S X h)
  have HD := Lib.hid h
  rw [hc] at HR
  have e0 : erV 0 = .nilIface := rfl
  rw [e0] at HR
  have hs' : 64 < (s.length : Int) := by omega
  clear h hc e0
  go_enter Tryz.func50, Tryz.ntmps50
  go_wp2_with (go_at_call 71; refine HR.out.mono ?_; rintro e wn ⟨rfl, m, rfl⟩)
  go_wp2
  go_ret
  exact ⟨rfl, X, HD.out.drewN m, Grows.refl w X, kept_drewN _ _ _⟩

set_option maxHeartbeats 1000000 in
theorem pWr_fuse (k : Int) (s : List UInt8) (w : World) (B p : Nat) (S : Dsk) (X : Nat → Prop) (h : DskP w B p S X) (hc : reachC S k = 0) (hs : ¬64 < s.length) (hf : S.fuse = 0) :
    Calls Tryz.prog 50 #[.pointer (some ⟨p, 0, none⟩), .int .i64 k, .string ⟨s.toArray⟩] w (W1P w B p X { S with off := true } (erV 6)) := by
  have HR := Lib.hid (pReach k w B p S X h)
  obtain ⟨gD, gS, vC, h⟩ := h
  have HA := Lib.hid h
  have c3 := h.obj.cell 3 _ rfl
  have f4 := h.obj.free 4
  have c4 := h.obj.cell 4 _ rfl
  rw [hf] at c3
  rw [hc] at HR
  have e0 : erV 0 = .nilIface := rfl
  rw [e0] at HR
  have hs' : (s.length : Int) ≤ 64 := by omega
  clear h hc e0 hf hs
  go_enter Tryz.func50, Tryz.ntmps50
  go_wp2_with (go_at_call 71; refine HR.out.mono ?_; rintro e wn ⟨rfl, m, rfl⟩)
  go_wp2
  go_ret
  exact ⟨rfl, X, ⟨gD, gS, vC, (HA.out.kept (kept_drewN (fun _ => False) w m) (fun _ _ hf => hf)).field 4 (.bool true) rfl rfl rfl⟩, Grows.refl w X, (kept_drewN X w m).setCell HA.out.mine _⟩

def fuseD (f : Int) : Int := if 0 < f then f - 1 else f

theorem write_size : (Tryz.prog.info? 90).map (·.size) = some 65 := by kernel_rfl
theorem content_size : (Tryz.prog.info? 88).map (·.size) = some 64 := by kernel_rfl
theorem write_info : (Tryz.prog.info? 90).map (fun i => (i.zero, i.size, i.bytes)) = some (some (.agg (cellW (0, z64)).toArray), 65, 72) := by kernel_rfl

set_option maxHeartbeats 400000 in
theorem pWr_done (k : Nat) (s : List UInt8) (w : World) (B p : Nat) (S : Dsk) (X : Nat → Prop) (h : DskP w B p S X) (hS : S.Ok) (hc : reachC S k = 0) (hs : ¬64 < s.length) (hf : S.fuse ≠ 0) (hn : S.C.length ≤ 1000000) (hN : S.n ≤ 1000000) :
    Calls Tryz.prog 50 #[.pointer (some ⟨p, 0, none⟩), .int .i64 k, .string ⟨s.toArray⟩] w
      (W1P w B p X { S with fuse := fuseD S.fuse, n := S.n + 1, C := S.C ++ [(k, padL s)] } .nilIface) := by
  have HR := Lib.hid (pReach k w B p S X h)
  obtain ⟨i67, hi67, hz67, hs67, hb67⟩ := info_parts write_info
  obtain ⟨gD, gS, vC, h⟩ := h
  have HA := Lib.hid h
  have c3 := h.obj.cell 3 _ rfl
  have f3 := h.obj.free 3
  rw [hc] at HR
  have hkL := (reach_zero hc).2.2
  have e0 : erV 0 = .nilIface := rfl
  rw [e0] at HR
  have hs' : (s.length : Int) ≤ 64 := by omega
  have hfu := hS.fus
  have HX : Hid (∀ b, Xof p gD gS vC b → X b) := fun b hb => (h.own b).2 hb
  have hw1 : IntKind.i64.wrap (S.fuse - 1) = S.fuse - 1 := IntWalk.i64_in _ (by omega)
  have hne : (S.fuse == 0) = false := by simpa using hf
  have HF0 : Hid (fuseD S.fuse = if 0 < S.fuse then S.fuse - 1 else S.fuse) := rfl
  generalize fuseD S.fuse = fu at HF0 ⊢
  clear h hc e0 hf
  go_enter Tryz.func50, Tryz.ntmps50
  go_upto_region 11 with (first | (go_at_call 71; refine HR.out.mono ?_; rintro e wn ⟨rfl, m, rfl⟩) | fail)
  · rename_i hle _ _
    obtain rfl : fu = S.fuse - 1 := by rw [HF0.out, if_pos (by omega)]
    have HW : Hid (RawAt ((w.drewN m).setCell ⟨p, 3, none⟩ (.int .i64 (S.fuse - 1))) B p gD gS vC S.L (syncL S.L S.C) S.C (S.fuse - 1) S.off S.n) :=
      (HA.out.raw.kept (kept_drewN (fun _ => False) w m) (fun _ _ hf => hf)).field 3 _ rfl
    have K1 : Hid (Kept X w ((w.drewN m).setCell ⟨p, 3, none⟩ (.int .i64 (S.fuse - 1)))) := (kept_drewN X w m).setCell HA.out.mine _
    generalize (w.drewN m).setCell ⟨p, 3, none⟩ (.int .i64 (S.fuse - 1)) = wr at HW K1 ⊢
    obtain ⟨g, hg⟩ : ∃ g, Hid (g = wr.heap.size) := ⟨_, rfl⟩
    have hXg : ¬Xof p gD gS vC g := fun hx => by have := (HW.out.lt g hx).2; have := hg.out; omega
    have hkM : k < (syncL S.L S.C).length := by rw [syncL_length]; omega
    have hM64 := syncL_64 hS.sect (fun x hx => (hS.cach x hx).2)
    have hd64 := padL_length s (by omega)
    refine wp_region_lit ?_
    refine wpList_mv rfl (.tmp 1) rfl _ rfl ?_
    refine wpList_buildTo rfl 90 _ rfl (some 41) rfl (cellW (k, z64)).toArray (by kernel_rfl) ?_
    refine wpList_alloc_row rfl 90 rfl i67 (cellW (0, z64)) hi67 hz67 ?_
    rw [← hg.out]
    have HN := Holds.new wr (cellW (0, z64)) 90
    have HV := HW.out.alloc (.cells (cellW (0, z64)).toArray 90)
    have KV := K1.out.alloc (.cells (cellW (0, z64)).toArray 90)
    rw [← hg.out] at HN
    generalize wr.alloc (.cells (cellW (0, z64)).toArray 90) = wa at HN HV KV ⊢
    refine wpList_store_mid rfl 90 (.tmp 8) (.tmp 41) rfl g 0 (cellW (k, z64)).toArray rfl rfl (HN.there 0 _ (by simp [cellW_z])) (by rw [write_size]; rfl) (all_oneCell_toArray (cellW_one _)) ?_
    have HN2 := Holds.setCells (cellW (k, z64)) 0 wa _ HN (by simp [cellW_z])
    rw [lay_all _ _ (by simp [cellW_z])] at HN2
    have HV2 := HV.setOther g 0 (cellW (k, z64)) hXg
    have KV2 := Kept.setCellsN (X := X) (hg.out ▸ K1.out.size) (cellW (k, z64)) 0 wa KV
    refine wpList_nil ?_
    change Exit.then _ _ _ _ (wa.setCells g 0 (cellW (k, z64)))
    generalize wa.setCells g 0 (cellW (k, z64)) = wb at HN2 HV2 KV2 ⊢
    clear HN HV KV
    have hcopy := copy_text_run wb g 1 s (by omega) (HN2.there 1 _ (by rw [cellW_z]; omega))
    have HN3 := Holds.setCells (Lib.byteCells s) 1 wb _ HN2 (by rw [bc_length, cellW_z]; omega)
    rw [cellW_lay k s (by omega)] at HN3
    have HV3 := HV2.setOther g 1 (Lib.byteCells s) hXg
    have KV3 := Kept.setCellsN (X := X) (hg.out ▸ K1.out.size) (Lib.byteCells s) 1 wb KV2
    generalize wb.setCells g 1 (Lib.byteCells s) = wc at HN3 HV3 KV3 hcopy
    have c2 := HV3.obj.cell 2 _ rfl
    have HD := Lib.hid (And.intro HN3 (And.intro HV3 KV3))
    clear HN2 HV2 KV2 HN3 HV3 KV3
    go_wp2
    refine wp_region_until (fun w' => w'.cell? ⟨p, 2, none⟩ = some vC ∧ w'.rangeAt g 0 (cellW (k, padL s))) 8 (by kernel_rfl) ?_
    have hS0 : wc.drew.cell? ⟨p, 2, none⟩ = some vC ∧ wc.drew.rangeAt g 0 (cellW (k, padL s)) := ⟨HD.out.2.1.drew.obj.cell 2 _ rfl, HD.out.1.drew.range 0 _ (fun j v hv => by rw [Nat.zero_add]; exact hv)⟩
    refine wpAnyU_take (i := 0) (v := (.pointer (some ⟨p, 0, none⟩))) (some 46) rfl rfl (by kernel_rfl) (by kernel_rfl) (by kernel_rfl) (by kernel_rfl) (fun _ _ _ h => h) hS0 (yields_of (by kernel_rfl) (fun w hw => by go_simp)) ?_
    refine wpAnyU_take (i := 1) (v := (.pointer (some ⟨p, 0, none⟩))) (some 47) rfl rfl (by kernel_rfl) (by kernel_rfl) (by kernel_rfl) (by kernel_rfl) (fun _ _ _ h => h) hS0 (yields_of (by kernel_rfl) (fun w hw => by go_simp)) ?_
    refine wpAnyU_take (i := 2) (v := (.pointer (some ⟨p, 0, none⟩))) (some 48) rfl rfl (by kernel_rfl) (by kernel_rfl) (by kernel_rfl) (by kernel_rfl) (fun _ _ _ h => h) hS0 (yields_of (by kernel_rfl) (fun w hw => by go_simp)) ?_
    refine wpAnyU_take (i := 3) (v := (.pointer (some ⟨p, 2, none⟩))) (some 49) rfl rfl (by kernel_rfl) (by kernel_rfl) (by kernel_rfl) (by kernel_rfl) (fun _ _ _ h => h) hS0 (yields_of (by kernel_rfl) (fun w hw => by go_simp)) ?_
    refine wpAnyU_take (i := 4) (v := vC) (some 50) rfl rfl (by kernel_rfl) (by kernel_rfl) (by kernel_rfl) (by kernel_rfl) (fun _ _ _ h => h) hS0 (yields_of (by kernel_rfl) (fun w hw => by have h1 := hw.1; go_simp)) ?_
    refine wpAnyU_take (i := 5) (v := (.agg (cellW (k, padL s)).toArray)) (some 51) rfl rfl (by kernel_rfl) (by kernel_rfl) (by kernel_rfl) (by kernel_rfl) (fun _ _ _ h => h) hS0 (yieldsIf_load_mid (by kernel_rfl) 90 (.tmp 8) rfl g 0 (by kernel_rfl) (cellW (k, padL s)) _ (fun w hw => hw.2) Tryz.underlying90 rfl (by rw [write_size, cellW_length _ hd64])) ?_
    obtain ⟨q, hq⟩ : ∃ q, Hid (q = wc.drew.heap.size) := ⟨_, rfl⟩
    have HQ := Holds.new wc.drew (cellW (k, padL s)) 90
    have HN4 := HD.out.1.drew.alloc (.cells (cellW (k, padL s)).toArray 90)
    have HV4 := HD.out.2.1.drew.alloc (.cells (cellW (k, padL s)).toArray 90)
    have KV4 : Kept X w (World.alloc wc.drew (.cells (cellW (k, padL s)).toArray 90)) := (HD.out.2.2.drewN 1).alloc (.cells (cellW (k, padL s)).toArray 90)
    have hbs := run_buildSlice_one (P := Tryz.prog) wc.drew 73 90 i67 _ (cellW (k, padL s)) Tryz.underlying73 hi67 hz67 (by rw [hs67, cellW_length _ hd64]) (by rw [cellW_length _ hd64]; decide) (by rw [cellW_length _ hd64]; decide)
    rw [← hq.out] at HQ hbs
    have hgq : g < q := by have := HD.out.1.lt; have := hq.out; simp at this; omega
    have hwq : w.heap.size ≤ q := by have := HD.out.2.2.size; have := hq.out; simp at this; omega
    have hXq : ∀ b, Xof p gD gS vC b → b < q := fun b hb => by have := (HD.out.2.1.lt b hb).2; have := hq.out; simp at this; omega
    generalize World.alloc wc.drew (.cells (cellW (k, padL s)).toArray 90) = wd at HQ HN4 HV4 KV4 hbs
    have hqd := HQ.lt
    refine wpAnyU_run (i := 6) (v := .slice (some ⟨q, 0, none⟩) 1 1) (some 52) rfl rfl (by kernel_rfl) (by kernel_rfl) (exec_buildSlice (x := .tmp 51) hbs (by rfl) (by kernel_rfl)) (fun _ => ⟨HV4.obj.cell 2 _ rfl, HN4.range 0 _ (fun j v hv => by rw [Nat.zero_add]; exact hv)⟩) ?_
    obtain ⟨v', we, happ, ho, hgr, hpl⟩ := run_append_at (P := Tryz.prog) wd B 73 73 90 i67 _ 65 72 Tryz.underlying73 hi67 hz67 hs67 hb67 (by rfl) (by omega) vC S.C.length (flatW S.C) HV4.cache
      ⟨q, 0, none⟩ 1 1 (cellW (k, padL s)) (by rw [cellW_length _ hd64]) (fun j u hj => by rw [add0]; exact HQ.cell j u hj) (cellW_one _) (by unfold maxLen; omega) (by omega) (by have := (HV4.lt p (.inl rfl)); omega) (by omega)
    rw [← flatW_snoc] at ho
    have hwd : wd.heap.size ≤ we.heap.size := hgr.size
    have hg' : vC.ownBlock ≠ some g := fun e => hXg (.inr (.inr (.inr e)))
    have HN5 : Holds we g (cellW (k, padL s)) 90 := HN4.of_block (hgr.block g HN4.lt (fun e => hg' e.symm))
    have hobj := HV4.obj.of_block (hgr.block p HV4.obj.lt (fun e => HV4.neC.1 e.symm))
    refine wpAnyU_run (i := 7) (v := v') (some 53) rfl rfl (by kernel_rfl) (by kernel_rfl) (exec_append (s := .tmp 50) (x := .tmp 52) happ (by rfl) (by rfl) (by kernel_rfl) (by kernel_rfl)) (fun _ => ⟨hobj.cell 2 _ rfl, HN5.range 0 _ (fun j v hv => by rw [Nat.zero_add]; exact hv)⟩) ?_
    have hn' : v'.ownBlock ≠ some p ∧ v'.ownBlock ≠ some gD ∧ v'.ownBlock ≠ some gS := by
      have hb : ∀ b, Xof p gD gS vC b → vC.ownBlock ≠ some b → v'.ownBlock ≠ some b := fun b hb hne e => by
        rcases hpl with h | h
        · exact hne (h ▸ e)
        · rw [h] at e; have := Option.some.inj e; have := (HV4.lt b hb).2; omega
      exact ⟨hb p (.inl rfl) HV4.neC.1, hb gD (.inr (.inl rfl)) HV4.neC.2.1, hb gS (.inr (.inr (.inl rfl))) HV4.neC.2.2⟩
    have HV6 := HV4.swapC (w' := we) (vC' := v') (C' := S.C ++ [(k, padL s)]) (fun b hb hne => hgr.block b hb (fun e => hne e.symm)) (by rw [List.length_append]; exact ho) hn'
    obtain ⟨gq, cq, rfl⟩ : ∃ gq cq, v' = .slice (some ⟨gq, 0, none⟩) (S.C.length + 1) cq := by
      rcases ho.2 with ⟨_, h0⟩ | ⟨g', cap, cur, hv, _⟩
      · omega
      · exact ⟨_, _, hv⟩
    have c2' := hobj.cell 2 _ rfl
    have f2' := hobj.free 2
    refine wpAnyU_run (i := 8) (v := (.pointer (some ⟨p, 0, none⟩))) (w' := we) (some 54) rfl rfl (by kernel_rfl) (by kernel_rfl) (by go_simp) (fun h => by omega) ?_
    refine wpAnyU_run (i := 9) (v := (.pointer (some ⟨p, 2, none⟩))) (w' := we) (some 55) rfl rfl (by kernel_rfl) (by kernel_rfl) (by go_simp) (fun h => by omega) ?_
    refine wpAnyU_skip (i := 10) (w' := we.setCell ⟨p, 2, none⟩ (.slice (some ⟨gq, 0, none⟩) (S.C.length + 1) cq)) (none) rfl rfl (by kernel_rfl) (by kernel_rfl) (by go_simp) (fun h => by omega) ?_
    refine wpAnyU_done (by kernel_rfl) ?_ _
    have HN7 : Holds (we.setCell ⟨p, 2, none⟩ (.slice (some ⟨gq, 0, none⟩) (S.C.length + 1) cq)) g (cellW (k, padL s)) 90 := HN5.ne (fun e => hXg (.inl e)) _ _
    have KV7 : Kept X w (we.setCell ⟨p, 2, none⟩ (.slice (some ⟨gq, 0, none⟩) (S.C.length + 1) cq)) :=
      (kept_grown KV4 hgr (fun b hb => .inl (HX.out b (.inr (.inr (.inr hb)))))).setCell (p := ⟨p, 2, none⟩) (HX.out p (.inl rfl)) _
    have HPL : Hid (Grows w X (Xof p gD gS (.slice (some ⟨gq, 0, none⟩) (S.C.length + 1) cq))) := by
      intro b hb
      rcases hb with hb | hb | hb | hb
      · exact .inl (HX.out b (.inl hb))
      · exact .inl (HX.out b (.inr (.inl hb)))
      · exact .inl (HX.out b (.inr (.inr (.inl hb))))
      · rcases hpl with h | h
        · exact .inl (HX.out b (.inr (.inr (.inr (h ▸ hb)))))
        · rw [h] at hb; obtain rfl := Option.some.inj hb; exact .inr KV4.size
    generalize we.setCell ⟨p, 2, none⟩ (.slice (some ⟨gq, 0, none⟩) (S.C.length + 1) cq) = wf at HN7 HV6 KV7 ⊢
    have HE := Lib.hid (And.intro HN7 (And.intro HV6 KV7))
    clear c2' f2' hobj HN5 ho happ hgr HQ HN4 HV4 KV4 hbs HN7 HV6 KV7 hwd hpl hqd c2 HD hXq hcopy
    go_wp2_with fail
    have c1 := HE.out.2.1.obj.cell 1 _ rfl
    have hk0 : (0 : Int) ≤ (k : Int) := Int.natCast_nonneg _
    refine wp_region_still_tail 8 (by kernel_rfl) (by kernel_rfl) ?_
    simp only [List.take_succ_cons, List.take_zero, List.drop_succ_cons, List.drop_zero]
    still_step
    still_step
    still_step
    still_step
    still_step
    still_step
    refine wpStill_load_mid rfl 88 (.tmp 61) rfl g 1 (by kernel_rfl) (Lib.byteCells (padL s)) _ (HE.out.1.drew.range 1 _ (fun j v hv => by rw [Nat.add_comm]; simpa [cellW] using hv)) Tryz.underlying88 rfl (by rw [content_size, bc_length, hd64]) ?_
    still_step
    refine wpStill_nil ?_
    change wpList _ _ _ _ _ wf.drew
    have HM := HE.out.2.1.drew.setSee hM64 k hkM (padL s) hd64
    have KM := Kept.setCells (X := X) (g := gS) (HX.out gS (.inr (.inr (.inl rfl)))) (Lib.byteCells (padL s)) (k * 64) wf.drew (HE.out.2.2.drewN 1)
    refine wpList_store_mid rfl 88 (.tmp 63) (.tmp 62) rfl gS (k * 64) (Lib.byteCells (padL s)).toArray (by kernel_rfl) (by kernel_rfl) (HE.out.2.1.drew.see.there _ _ (by rw [cellsL_length _ hM64]; simp [bc_length, hd64]; omega)) (by rw [content_size]; simp [bc_length, hd64]) (all_oneCell_toArray (bc_one _)) ?_
    refine wpList_nil ?_
    change Exit.then _ _ _ _ (wf.drew.setCells gS (k * 64) (Lib.byteCells (padL s)))
    generalize wf.drew.setCells gS (k * 64) (Lib.byteCells (padL s)) = wg at HM KM ⊢
    have c5 := HM.obj.cell 5 _ rfl
    have f5 := HM.obj.free 5
    have HE2 := Lib.hid (And.intro HM KM)
    have hw2 : IntKind.i64.wrap ((S.n : Int) + 1) = ((S.n + 1 : Nat) : Int) := by rw [IntWalk.i64_in _ (by omega)]; omega
    clear c1 HM KM hM64 hkM
    go_wp2
    go_ret
    have HF := HE2.out.1.field 5 (.int .i64 ((S.n : Int) + 1)) (fu' := (S.fuse - 1)) (off' := S.off) (n' := S.n + 1) (by simp)
    exact ⟨rfl, _, RawAt.dsk (S := { S with fuse := S.fuse - 1, n := S.n + 1, C := S.C ++ [(k, padL s)] }) HF (syncL_snoc S.L S.C (k, padL s)).symm, HPL.out, HE2.out.2.setCell (p := ⟨p, 5, none⟩) (HX.out p (.inl rfl)) _⟩
  · rename_i hle _ _
    obtain rfl : fu = S.fuse := by rw [HF0.out, if_neg (by omega)]
    have HW : Hid (RawAt (w.drewN m) B p gD gS vC S.L (syncL S.L S.C) S.C S.fuse S.off S.n) := HA.out.raw.kept (kept_drewN (fun _ => False) w m) (fun _ _ hf => hf)
    have K1 : Hid (Kept X w (w.drewN m)) := kept_drewN X w m
    generalize w.drewN m = wr at HW K1 ⊢
    obtain ⟨g, hg⟩ : ∃ g, Hid (g = wr.heap.size) := ⟨_, rfl⟩
    have hXg : ¬Xof p gD gS vC g := fun hx => by have := (HW.out.lt g hx).2; have := hg.out; omega
    have hkM : k < (syncL S.L S.C).length := by rw [syncL_length]; omega
    have hM64 := syncL_64 hS.sect (fun x hx => (hS.cach x hx).2)
    have hd64 := padL_length s (by omega)
    refine wp_region_lit ?_
    refine wpList_mv rfl (.tmp 1) rfl _ rfl ?_
    refine wpList_buildTo rfl 90 _ rfl (some 41) rfl (cellW (k, z64)).toArray (by kernel_rfl) ?_
    refine wpList_alloc_row rfl 90 rfl i67 (cellW (0, z64)) hi67 hz67 ?_
    rw [← hg.out]
    have HN := Holds.new wr (cellW (0, z64)) 90
    have HV := HW.out.alloc (.cells (cellW (0, z64)).toArray 90)
    have KV := K1.out.alloc (.cells (cellW (0, z64)).toArray 90)
    rw [← hg.out] at HN
    generalize wr.alloc (.cells (cellW (0, z64)).toArray 90) = wa at HN HV KV ⊢
    refine wpList_store_mid rfl 90 (.tmp 8) (.tmp 41) rfl g 0 (cellW (k, z64)).toArray rfl rfl (HN.there 0 _ (by simp [cellW_z])) (by rw [write_size]; rfl) (all_oneCell_toArray (cellW_one _)) ?_
    have HN2 := Holds.setCells (cellW (k, z64)) 0 wa _ HN (by simp [cellW_z])
    rw [lay_all _ _ (by simp [cellW_z])] at HN2
    have HV2 := HV.setOther g 0 (cellW (k, z64)) hXg
    have KV2 := Kept.setCellsN (X := X) (hg.out ▸ K1.out.size) (cellW (k, z64)) 0 wa KV
    refine wpList_nil ?_
    change Exit.then _ _ _ _ (wa.setCells g 0 (cellW (k, z64)))
    generalize wa.setCells g 0 (cellW (k, z64)) = wb at HN2 HV2 KV2 ⊢
    clear HN HV KV
    have hcopy := copy_text_run wb g 1 s (by omega) (HN2.there 1 _ (by rw [cellW_z]; omega))
    have HN3 := Holds.setCells (Lib.byteCells s) 1 wb _ HN2 (by rw [bc_length, cellW_z]; omega)
    rw [cellW_lay k s (by omega)] at HN3
    have HV3 := HV2.setOther g 1 (Lib.byteCells s) hXg
    have KV3 := Kept.setCellsN (X := X) (hg.out ▸ K1.out.size) (Lib.byteCells s) 1 wb KV2
    generalize wb.setCells g 1 (Lib.byteCells s) = wc at HN3 HV3 KV3 hcopy
    have c2 := HV3.obj.cell 2 _ rfl
    have HD := Lib.hid (And.intro HN3 (And.intro HV3 KV3))
    clear HN2 HV2 KV2 HN3 HV3 KV3
    go_wp2
    refine wp_region_until (fun w' => w'.cell? ⟨p, 2, none⟩ = some vC ∧ w'.rangeAt g 0 (cellW (k, padL s))) 8 (by kernel_rfl) ?_
    have hS0 : wc.drew.cell? ⟨p, 2, none⟩ = some vC ∧ wc.drew.rangeAt g 0 (cellW (k, padL s)) := ⟨HD.out.2.1.drew.obj.cell 2 _ rfl, HD.out.1.drew.range 0 _ (fun j v hv => by rw [Nat.zero_add]; exact hv)⟩
    refine wpAnyU_take (i := 0) (v := (.pointer (some ⟨p, 0, none⟩))) (some 46) rfl rfl (by kernel_rfl) (by kernel_rfl) (by kernel_rfl) (by kernel_rfl) (fun _ _ _ h => h) hS0 (yields_of (by kernel_rfl) (fun w hw => by go_simp)) ?_
    refine wpAnyU_take (i := 1) (v := (.pointer (some ⟨p, 0, none⟩))) (some 47) rfl rfl (by kernel_rfl) (by kernel_rfl) (by kernel_rfl) (by kernel_rfl) (fun _ _ _ h => h) hS0 (yields_of (by kernel_rfl) (fun w hw => by go_simp)) ?_
    refine wpAnyU_take (i := 2) (v := (.pointer (some ⟨p, 0, none⟩))) (some 48) rfl rfl (by kernel_rfl) (by kernel_rfl) (by kernel_rfl) (by kernel_rfl) (fun _ _ _ h => h) hS0 (yields_of (by kernel_rfl) (fun w hw => by go_simp)) ?_
    refine wpAnyU_take (i := 3) (v := (.pointer (some ⟨p, 2, none⟩))) (some 49) rfl rfl (by kernel_rfl) (by kernel_rfl) (by kernel_rfl) (by kernel_rfl) (fun _ _ _ h => h) hS0 (yields_of (by kernel_rfl) (fun w hw => by go_simp)) ?_
    refine wpAnyU_take (i := 4) (v := vC) (some 50) rfl rfl (by kernel_rfl) (by kernel_rfl) (by kernel_rfl) (by kernel_rfl) (fun _ _ _ h => h) hS0 (yields_of (by kernel_rfl) (fun w hw => by have h1 := hw.1; go_simp)) ?_
    refine wpAnyU_take (i := 5) (v := (.agg (cellW (k, padL s)).toArray)) (some 51) rfl rfl (by kernel_rfl) (by kernel_rfl) (by kernel_rfl) (by kernel_rfl) (fun _ _ _ h => h) hS0 (yieldsIf_load_mid (by kernel_rfl) 90 (.tmp 8) rfl g 0 (by kernel_rfl) (cellW (k, padL s)) _ (fun w hw => hw.2) Tryz.underlying90 rfl (by rw [write_size, cellW_length _ hd64])) ?_
    obtain ⟨q, hq⟩ : ∃ q, Hid (q = wc.drew.heap.size) := ⟨_, rfl⟩
    have HQ := Holds.new wc.drew (cellW (k, padL s)) 90
    have HN4 := HD.out.1.drew.alloc (.cells (cellW (k, padL s)).toArray 90)
    have HV4 := HD.out.2.1.drew.alloc (.cells (cellW (k, padL s)).toArray 90)
    have KV4 : Kept X w (World.alloc wc.drew (.cells (cellW (k, padL s)).toArray 90)) := (HD.out.2.2.drewN 1).alloc (.cells (cellW (k, padL s)).toArray 90)
    have hbs := run_buildSlice_one (P := Tryz.prog) wc.drew 73 90 i67 _ (cellW (k, padL s)) Tryz.underlying73 hi67 hz67 (by rw [hs67, cellW_length _ hd64]) (by rw [cellW_length _ hd64]; decide) (by rw [cellW_length _ hd64]; decide)
    rw [← hq.out] at HQ hbs
    have hgq : g < q := by have := HD.out.1.lt; have := hq.out; simp at this; omega
    have hwq : w.heap.size ≤ q := by have := HD.out.2.2.size; have := hq.out; simp at this; omega
    have hXq : ∀ b, Xof p gD gS vC b → b < q := fun b hb => by have := (HD.out.2.1.lt b hb).2; have := hq.out; simp at this; omega
    generalize World.alloc wc.drew (.cells (cellW (k, padL s)).toArray 90) = wd at HQ HN4 HV4 KV4 hbs
    have hqd := HQ.lt
    refine wpAnyU_run (i := 6) (v := .slice (some ⟨q, 0, none⟩) 1 1) (some 52) rfl rfl (by kernel_rfl) (by kernel_rfl) (exec_buildSlice (x := .tmp 51) hbs (by rfl) (by kernel_rfl)) (fun _ => ⟨HV4.obj.cell 2 _ rfl, HN4.range 0 _ (fun j v hv => by rw [Nat.zero_add]; exact hv)⟩) ?_
    obtain ⟨v', we, happ, ho, hgr, hpl⟩ := run_append_at (P := Tryz.prog) wd B 73 73 90 i67 _ 65 72 Tryz.underlying73 hi67 hz67 hs67 hb67 (by rfl) (by omega) vC S.C.length (flatW S.C) HV4.cache
      ⟨q, 0, none⟩ 1 1 (cellW (k, padL s)) (by rw [cellW_length _ hd64]) (fun j u hj => by rw [add0]; exact HQ.cell j u hj) (cellW_one _) (by unfold maxLen; omega) (by omega) (by have := (HV4.lt p (.inl rfl)); omega) (by omega)
    rw [← flatW_snoc] at ho
    have hwd : wd.heap.size ≤ we.heap.size := hgr.size
    have hg' : vC.ownBlock ≠ some g := fun e => hXg (.inr (.inr (.inr e)))
    have HN5 : Holds we g (cellW (k, padL s)) 90 := HN4.of_block (hgr.block g HN4.lt (fun e => hg' e.symm))
    have hobj := HV4.obj.of_block (hgr.block p HV4.obj.lt (fun e => HV4.neC.1 e.symm))
    refine wpAnyU_run (i := 7) (v := v') (some 53) rfl rfl (by kernel_rfl) (by kernel_rfl) (exec_append (s := .tmp 50) (x := .tmp 52) happ (by rfl) (by rfl) (by kernel_rfl) (by kernel_rfl)) (fun _ => ⟨hobj.cell 2 _ rfl, HN5.range 0 _ (fun j v hv => by rw [Nat.zero_add]; exact hv)⟩) ?_
    have hn' : v'.ownBlock ≠ some p ∧ v'.ownBlock ≠ some gD ∧ v'.ownBlock ≠ some gS := by
      have hb : ∀ b, Xof p gD gS vC b → vC.ownBlock ≠ some b → v'.ownBlock ≠ some b := fun b hb hne e => by
        rcases hpl with h | h
        · exact hne (h ▸ e)
        · rw [h] at e; have := Option.some.inj e; have := (HV4.lt b hb).2; omega
      exact ⟨hb p (.inl rfl) HV4.neC.1, hb gD (.inr (.inl rfl)) HV4.neC.2.1, hb gS (.inr (.inr (.inl rfl))) HV4.neC.2.2⟩
    have HV6 := HV4.swapC (w' := we) (vC' := v') (C' := S.C ++ [(k, padL s)]) (fun b hb hne => hgr.block b hb (fun e => hne e.symm)) (by rw [List.length_append]; exact ho) hn'
    obtain ⟨gq, cq, rfl⟩ : ∃ gq cq, v' = .slice (some ⟨gq, 0, none⟩) (S.C.length + 1) cq := by
      rcases ho.2 with ⟨_, h0⟩ | ⟨g', cap, cur, hv, _⟩
      · omega
      · exact ⟨_, _, hv⟩
    have c2' := hobj.cell 2 _ rfl
    have f2' := hobj.free 2
    refine wpAnyU_run (i := 8) (v := (.pointer (some ⟨p, 0, none⟩))) (w' := we) (some 54) rfl rfl (by kernel_rfl) (by kernel_rfl) (by go_simp) (fun h => by omega) ?_
    refine wpAnyU_run (i := 9) (v := (.pointer (some ⟨p, 2, none⟩))) (w' := we) (some 55) rfl rfl (by kernel_rfl) (by kernel_rfl) (by go_simp) (fun h => by omega) ?_
    refine wpAnyU_skip (i := 10) (w' := we.setCell ⟨p, 2, none⟩ (.slice (some ⟨gq, 0, none⟩) (S.C.length + 1) cq)) (none) rfl rfl (by kernel_rfl) (by kernel_rfl) (by go_simp) (fun h => by omega) ?_
    refine wpAnyU_done (by kernel_rfl) ?_ _
    have HN7 : Holds (we.setCell ⟨p, 2, none⟩ (.slice (some ⟨gq, 0, none⟩) (S.C.length + 1) cq)) g (cellW (k, padL s)) 90 := HN5.ne (fun e => hXg (.inl e)) _ _
    have KV7 : Kept X w (we.setCell ⟨p, 2, none⟩ (.slice (some ⟨gq, 0, none⟩) (S.C.length + 1) cq)) :=
      (kept_grown KV4 hgr (fun b hb => .inl (HX.out b (.inr (.inr (.inr hb)))))).setCell (p := ⟨p, 2, none⟩) (HX.out p (.inl rfl)) _
    have HPL : Hid (Grows w X (Xof p gD gS (.slice (some ⟨gq, 0, none⟩) (S.C.length + 1) cq))) := by
      intro b hb
      rcases hb with hb | hb | hb | hb
      · exact .inl (HX.out b (.inl hb))
      · exact .inl (HX.out b (.inr (.inl hb)))
      · exact .inl (HX.out b (.inr (.inr (.inl hb))))
      · rcases hpl with h | h
        · exact .inl (HX.out b (.inr (.inr (.inr (h ▸ hb)))))
        · rw [h] at hb; obtain rfl := Option.some.inj hb; exact .inr KV4.size
    generalize we.setCell ⟨p, 2, none⟩ (.slice (some ⟨gq, 0, none⟩) (S.C.length + 1) cq) = wf at HN7 HV6 KV7 ⊢
    have HE := Lib.hid (And.intro HN7 (And.intro HV6 KV7))
    clear c2' f2' hobj HN5 ho happ hgr HQ HN4 HV4 KV4 hbs HN7 HV6 KV7 hwd hpl hqd c2 HD hXq hcopy
    go_wp2_with fail
    have c1 := HE.out.2.1.obj.cell 1 _ rfl
    have hk0 : (0 : Int) ≤ (k : Int) := Int.natCast_nonneg _
    refine wp_region_still_tail 8 (by kernel_rfl) (by kernel_rfl) ?_
    simp only [List.take_succ_cons, List.take_zero, List.drop_succ_cons, List.drop_zero]
    still_step
    still_step
    still_step
    still_step
    still_step
    still_step
    refine wpStill_load_mid rfl 88 (.tmp 61) rfl g 1 (by kernel_rfl) (Lib.byteCells (padL s)) _ (HE.out.1.drew.range 1 _ (fun j v hv => by rw [Nat.add_comm]; simpa [cellW] using hv)) Tryz.underlying88 rfl (by rw [content_size, bc_length, hd64]) ?_
    still_step
    refine wpStill_nil ?_
    change wpList _ _ _ _ _ wf.drew
    have HM := HE.out.2.1.drew.setSee hM64 k hkM (padL s) hd64
    have KM := Kept.setCells (X := X) (g := gS) (HX.out gS (.inr (.inr (.inl rfl)))) (Lib.byteCells (padL s)) (k * 64) wf.drew (HE.out.2.2.drewN 1)
    refine wpList_store_mid rfl 88 (.tmp 63) (.tmp 62) rfl gS (k * 64) (Lib.byteCells (padL s)).toArray (by kernel_rfl) (by kernel_rfl) (HE.out.2.1.drew.see.there _ _ (by rw [cellsL_length _ hM64]; simp [bc_length, hd64]; omega)) (by rw [content_size]; simp [bc_length, hd64]) (all_oneCell_toArray (bc_one _)) ?_
    refine wpList_nil ?_
    change Exit.then _ _ _ _ (wf.drew.setCells gS (k * 64) (Lib.byteCells (padL s)))
    generalize wf.drew.setCells gS (k * 64) (Lib.byteCells (padL s)) = wg at HM KM ⊢
    have c5 := HM.obj.cell 5 _ rfl
    have f5 := HM.obj.free 5
    have HE2 := Lib.hid (And.intro HM KM)
    have hw2 : IntKind.i64.wrap ((S.n : Int) + 1) = ((S.n + 1 : Nat) : Int) := by rw [IntWalk.i64_in _ (by omega)]; omega
    clear c1 HM KM hM64 hkM
    go_wp2
    go_ret
    have HF := HE2.out.1.field 5 (.int .i64 ((S.n : Int) + 1)) (fu' := S.fuse) (off' := S.off) (n' := S.n + 1) (by simp)
    exact ⟨rfl, _, RawAt.dsk (S := { S with fuse := S.fuse, n := S.n + 1, C := S.C ++ [(k, padL s)] }) HF (syncL_snoc S.L S.C (k, padL s)).symm, HPL.out, HE2.out.2.setCell (p := ⟨p, 5, none⟩) (HX.out p (.inl rfl)) _⟩
/-- Write does what the chapter says. -/
theorem pWr (k : Int) (s : List UInt8) (w : World) (B p : Nat) (S : Dsk) (X : Nat → Prop) (h : DskP w B p S X) (hS : S.Ok) (hn : S.C.length ≤ 1000000) (hN : S.n ≤ 1000000) :
    Calls Tryz.prog 50 #[.pointer (some ⟨p, 0, none⟩), .int .i64 k, .string ⟨s.toArray⟩] w (W1P w B p X (S.write k s).1 (erV (S.write k s).2)) := by
  cases hc : reachC S k with
  | succ c => rw [write_bad s hc]; exact pWr_bad k s w B p S X h c hc
  | zero =>
    by_cases hs : 64 < s.length
    · rw [write_long hc hs]; exact pWr_long k s w B p S X h hc hs
    · by_cases hf : S.fuse = 0
      · rw [write_fuse hc hs hf]; exact pWr_fuse k s w B p S X h hc hs hf
      · rw [write_done hc hs hf]
        obtain ⟨n, rfl⟩ := Int.eq_ofNat_of_zero_le (reach_zero hc).2.1
        exact pWr_done n s w B p S X h hS hc hs hf hn hN

end Go.Proofs.YtfbgagpihhbllaaGreatDoor
