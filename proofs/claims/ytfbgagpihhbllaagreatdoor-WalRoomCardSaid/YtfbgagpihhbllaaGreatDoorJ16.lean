/- PRd, PDr. -/
import Derived.Test.YtfbgagpihhbllaaGreatDoorPDk
import Derived.Deep.RegionHeld3
import Derived.Lib.ConvBytes
import Derived.Laws.IdiomStrings
import Derived.StillTailTactics
import Derived.Test.YtfbgagpihhbllaaGreatDoorJ05

/- The program's Read: what it returns. -/
namespace Go.Proofs.YtfbgagpihhbllaaGreatDoor
open Go.RowKit Go.Proofs Go.Proofs.Pk
set_option maxRecDepth 10000
attribute [local simp] mk_get wrap64_u8 mk_extract ByteArray.mk_append_mk get_1k

/-- Two results, and all that lay is as it was. -/
def Q2K (w : World) (x y : Value) (e : Ending) (w' : World) : Prop := e = .returned (.tuple #[x, y]) ∧ Kept (fun _ => False) w w'
theorem Q2K.mk {w w' : World} {x y x' y' : Value} (hx : x' = x) (hy : y' = y) (h : Kept (fun _ => False) w w') : Q2K w x y (.returned (.tuple #[x', y'])) w' := by
  subst hx hy; exact ⟨rfl, h⟩
theorem kept_drewN (X : Nat → Prop) (w : World) (m : Nat) : Kept X w (w.drewN m) := (Kept.refl X w).drewN m

theorem read_c (S : Dsk) (k : Int) : (S.read k).2 = reachC S k := by
  unfold Dsk.read reachC; repeat' split
  all_goals rfl
theorem read_bad {S : Dsk} {k : Int} (h : reachC S k ≠ 0) : (S.read k).1 = [] := by
  unfold reachC at h; unfold Dsk.read; repeat' split
  all_goals simp_all

set_option maxHeartbeats 400000 in
theorem pRd_bad (k : Int) (w : World) (B p : Nat) (S : Dsk) (X : Nat → Prop) (h : DskP w B p S X) (c : Nat) (hc : reachC S k = c + 1) :
    Calls Tryz.prog 55 #[.pointer (some ⟨p, 0, none⟩), .int .i64 k] w (Q2K w (.string ⟨#[]⟩) (erV (c + 1))) := by
  have HR := Lib.hid (pReach k w B p S X h)
  rw [hc] at HR
  have e0 : erV (c + 1) = .iface 33 (.int .i64 ((c + 1 : Nat) : Int)) := rfl
  rw [e0] at HR ⊢
  clear h hc e0
  go_enter Tryz.func55, Tryz.ntmps55
  go_wp2_with (go_at_call 71; refine HR.out.mono ?_; rintro e wn ⟨rfl, m, rfl⟩)
  go_wp2
  go_ret2
  exact Q2K.mk rfl rfl (kept_drewN _ _ _)

def zeros (n : Nat) : List Value := Lib.byteCells (List.replicate n 0)
theorem alloc_zeros (w : World) (t : TypeId) : w.alloc (.cells #[.int .u8 0, .int .u8 0, .int .u8 0, .int .u8 0, .int .u8 0, .int .u8 0, .int .u8 0, .int .u8 0, .int .u8 0, .int .u8 0, .int .u8 0, .int .u8 0, .int .u8 0, .int .u8 0, .int .u8 0, .int .u8 0, .int .u8 0, .int .u8 0, .int .u8 0, .int .u8 0, .int .u8 0, .int .u8 0, .int .u8 0, .int .u8 0, .int .u8 0, .int .u8 0, .int .u8 0, .int .u8 0, .int .u8 0, .int .u8 0, .int .u8 0, .int .u8 0, .int .u8 0, .int .u8 0, .int .u8 0, .int .u8 0, .int .u8 0, .int .u8 0, .int .u8 0, .int .u8 0, .int .u8 0, .int .u8 0, .int .u8 0, .int .u8 0, .int .u8 0, .int .u8 0, .int .u8 0, .int .u8 0, .int .u8 0, .int .u8 0, .int .u8 0, .int .u8 0, .int .u8 0, .int .u8 0, .int .u8 0, .int .u8 0, .int .u8 0, .int .u8 0, .int .u8 0, .int .u8 0, .int .u8 0, .int .u8 0, .int .u8 0, .int .u8 0] t) = w.alloc (.cells (zeros 64).toArray t) := rfl

set_option maxHeartbeats 1000000 in
theorem pRd_ok (k : Nat) (w : World) (B p : Nat) (S : Dsk) (X : Nat → Prop) (h : DskP w B p S X) (hS : S.Ok) (ho : S.off = false) (hk : k < S.L.length) :
    Calls Tryz.prog 55 #[.pointer (some ⟨p, 0, none⟩), .int .i64 (k : Int)] w (Q2K w (.string ⟨(S.read k).1.toArray⟩) .nilIface) := by
  have HR := Lib.hid (pReach k w B p S X h)
  rw [reachC_ok ho k (by omega)] at HR
  obtain ⟨gD, gS, vC, h⟩ := h
  have H := Lib.hid h
  clear h
  have e0 : erV 0 = .nilIface := rfl
  rw [e0] at HR
  go_enter Tryz.func55, Tryz.ntmps55
  go_wp2_with (go_at_call 71; refine HR.out.mono ?_; rintro e wn ⟨rfl, m, rfl⟩)
  obtain ⟨wa, hwa⟩ : ∃ wa, wa = (w.drewN m).alloc (.cells (zeros 64).toArray 88) := ⟨_, rfl⟩
  rw [alloc_zeros, ← hwa]
  have hsz : wa.heap.size = w.heap.size + 1 := by rw [hwa]; simp
  have K0 : Kept (fun _ => False) w wa := by rw [hwa]; exact (kept_drewN _ w m).alloc _
  have HN : Holds wa w.heap.size (zeros 64) 88 := by rw [hwa]; exact Holds.new (w.drewN m) _ _
  have HK := H.out.kept K0 (fun _ _ hf => hf)
  have c1 := HK.obj.cell 1 _ rfl
  have hk0 : (0 : Int) ≤ (k : Int) := Int.natCast_nonneg _
  have hkL : (k : Int) < S.L.length := by omega
  obtain ⟨nL, hnL⟩ : ∃ n, n = S.L.length := ⟨_, rfl⟩
  rw [← hnL] at c1 hkL
  have HnL := Lib.hid hnL
  clear hnL hwa
  go_still_tail 8, (by kernel_rfl)
  change wpList _ _ _ _ _ wa.drew
  obtain ⟨d, hd⟩ : ∃ d, d = (syncL S.L S.C)[k]'(by rw [syncL_length]; exact hk) := ⟨_, rfl⟩
  have hd64 : d.length = 64 := by rw [hd]; exact syncL_64 hS.sect (fun x hx => (hS.cach x hx).2) _ (List.getElem_mem _)
  have hrng : wa.drew.rangeAt gS (k * 64) (Lib.byteCells d) := by
    refine (HK.see.drew).range _ _ ?_
    rw [hd]
    exact cellsL_get _ (syncL_64 hS.sect (fun x hx => (hS.cach x hx).2)) k (by rw [syncL_length]; exact hk)
  have hthere : wa.drew.there w.heap.size 0 (Lib.byteCells d).length := HN.drew.there 0 _ (by rw [bc_length, hd64]; decide)
  refine wpList_copy_mid rfl (.tmp 14) (.tmp 21) _ _ rfl 5 Tryz.underlying60 (by kernel_rfl) w.heap.size 0 64 64 gS (k * 64) 64 64 rfl rfl (Lib.byteCells d) (by rw [bc_length, hd64]; rfl) hrng hthere (bc_one d) ?_
  obtain ⟨wb, hwb⟩ : ∃ wb, wb = wa.drew.setCells w.heap.size 0 (Lib.byteCells d) := ⟨_, rfl⟩
  rw [← hwb]
  have HB : Holds wb w.heap.size (Lib.byteCells d) 88 := by
    rw [hwb]
    have := Holds.setCells (Lib.byteCells d) 0 wa.drew (zeros 64) HN.drew (by rw [bc_length, hd64]; decide)
    rwa [lay_all _ _ (by rw [bc_length, hd64]; rfl)] at this
  have HC : (convert 60 9 (.slice (some ⟨w.heap.size, 0, none⟩) 64 64)).run Tryz.prog wb = .ok (.string ⟨d.toArray⟩) wb := by
    rw [← hd64]
    exact run_convert_bytes_back wb 60 9 5 ⟨w.heap.size, 0, none⟩ _ d Tryz.underlying60 Tryz.underlying5 Tryz.underlying9 (fun j hj => by rw [add0]; exact HB.cell j _ (by simp [Lib.byteCells, hj]))
  have KB : Kept (fun _ => False) w wb := by
    rw [hwb]
    exact Kept.setCellsN (Nat.le_refl _) _ _ _ (K0.trans (kept_drewN (fun _ => False) wa 1) (fun _ hf => hf.elim))
  have HS2 : Hid ((S.read k).1 = d) := by
    show (S.read k).1 = d
    have e := syncL_get S.L k hk S.C.length S.C rfl
    rw [Dsk.read_ok ho k hk, hd]
    rw [List.getElem?_eq_getElem (by rw [syncL_length]; exact hk)] at e
    exact (Option.some.inj e).symm
  clear hd hd64 hrng hthere HK HN hk hkL hS HB hwb c1 hsz K0
  go_wp2
  go_ret2
  exact Q2K.mk (by rw [HS2.out]; rfl) rfl KB
/-- Read answers as the chapter says, and changes nothing. -/
theorem pRd (k : Int) (w : World) (B p : Nat) (S : Dsk) (X : Nat → Prop) (h : DskP w B p S X) (hS : S.Ok) :
    Calls Tryz.prog 55 #[.pointer (some ⟨p, 0, none⟩), .int .i64 k] w (Q2K w (.string ⟨(S.read k).1.toArray⟩) (erV (S.read k).2)) := by
  rw [read_c]
  cases hc : reachC S k with
  | succ c => rw [read_bad (by omega)]; exact pRd_bad k w B p S X h c hc
  | zero =>
    have ho : S.off = false := by
      cases e : S.off with
      | false => rfl
      | true => rw [reachC_off e] at hc; cases hc
    by_cases hk : k < 0 ∨ (S.L.length : Int) ≤ k
    · rw [reachC_arg ho k hk] at hc; cases hc
    · obtain ⟨n, rfl⟩ := Int.eq_ofNat_of_zero_le (show 0 ≤ k by omega)
      exact pRd_ok n w B p S X h hS ho (by omega)

end Go.Proofs.YtfbgagpihhbllaaGreatDoor

/- The program's disk in memory on the way through a call: its parts, each for itself. -/
namespace Go.Proofs.YtfbgagpihhbllaaGreatDoor
open Go.RowKit Go.Proofs Go.Proofs.Pk
set_option maxRecDepth 10000

structure RawAt (w : World) (B p gD gS : Nat) (vC : Value) (L M : List (List UInt8)) (C : List (Nat × List UInt8)) (fu : Int) (off : Bool) (n : Nat) : Prop where
  obj : Holds w p [.slice (some ⟨gD, 0, none⟩) L.length L.length, .slice (some ⟨gS, 0, none⟩) L.length L.length, vC, .int .i64 fu, .bool off, .int .i64 n] 75
  dur : Holds w gD (cellsL L) 88
  see : Holds w gS (cellsL M) 88
  cache : w.ownsRow B 90 65 vC C.length (flatW C)
  base : B ≤ p ∧ B ≤ gD ∧ B ≤ gS
  ne : p ≠ gD ∧ p ≠ gS ∧ gD ≠ gS
  neC : vC.ownBlock ≠ some p ∧ vC.ownBlock ≠ some gD ∧ vC.ownBlock ≠ some gS

/-- The blocks of a disk. -/
def Xof (p gD gS : Nat) (vC : Value) : Nat → Prop := fun k => k = p ∨ k = gD ∨ k = gS ∨ vC.ownBlock = some k

theorem DskAt.raw {w : World} {B p : Nat} {S : Dsk} {gD gS : Nat} {vC : Value} {X : Nat → Prop} (h : DskAt w B p S gD gS vC X) : RawAt w B p gD gS vC S.L (syncL S.L S.C) S.C S.fuse S.off S.n :=
  ⟨h.obj, h.dur, h.see, h.cache, h.base, h.ne, h.neC⟩
theorem RawAt.dsk {w : World} {B p gD gS : Nat} {vC : Value} {S : Dsk} {M : List (List UInt8)} (h : RawAt w B p gD gS vC S.L M S.C S.fuse S.off S.n) (hM : M = syncL S.L S.C) : DskP w B p S (Xof p gD gS vC) :=
  ⟨gD, gS, vC, h.obj, h.dur, hM ▸ h.see, h.cache, h.base, h.ne, h.neC, fun _ => Iff.rfl⟩
section
variable {w w' : World} {B p gD gS : Nat} {vC : Value} {L M : List (List UInt8)} {C : List (Nat × List UInt8)} {fu : Int} {off : Bool} {n : Nat}

theorem RawAt.lt (h : RawAt w B p gD gS vC L M C fu off n) : ∀ k, Xof p gD gS vC k → B ≤ k ∧ k < w.heap.size := by
  intro k hk
  rcases hk with rfl | rfl | rfl | hk
  · exact ⟨h.base.1, h.obj.lt⟩
  · exact ⟨h.base.2.1, h.dur.lt⟩
  · exact ⟨h.base.2.2, h.see.lt⟩
  · exact h.cache.lt k hk
theorem RawAt.of_blocks (h : RawAt w B p gD gS vC L M C fu off n) (blk : ∀ k, Xof p gD gS vC k → w'.heap[k]? = w.heap[k]?) : RawAt w' B p gD gS vC L M C fu off n :=
  ⟨h.obj.of_block (blk p (.inl rfl)), h.dur.of_block (blk gD (.inr (.inl rfl))), h.see.of_block (blk gS (.inr (.inr (.inl rfl)))),
    owns_of_block h.cache fun g hg => blk g (.inr (.inr (.inr hg))), h.base, h.ne, h.neC⟩
theorem RawAt.kept {Y : Nat → Prop} (h : RawAt w B p gD gS vC L M C fu off n) (hk : Kept Y w w') (hd : ∀ k, Xof p gD gS vC k → ¬Y k) : RawAt w' B p gD gS vC L M C fu off n :=
  h.of_blocks fun k hx => hk.block k (h.lt k hx).2 (hd k hx)
theorem RawAt.drew (h : RawAt w B p gD gS vC L M C fu off n) : RawAt w.drew B p gD gS vC L M C fu off n := h.of_blocks fun _ _ => rfl
theorem RawAt.alloc (h : RawAt w B p gD gS vC L M C fu off n) (o : Obj) : RawAt (w.alloc o) B p gD gS vC L M C fu off n :=
  h.kept (Kept.alloc (Kept.refl (fun _ => False) w) o) (fun _ _ hf => hf)
theorem RawAt.setOther (h : RawAt w B p gD gS vC L M C fu off n) (g o : Nat) (vs : List Value) (hg : ¬Xof p gD gS vC g) : RawAt (w.setCells g o vs) B p gD gS vC L M C fu off n :=
  h.of_blocks fun k hx => setCells_other g k (fun e => hg (e ▸ hx)) vs o w
/-- A field of the object that is a number or a truth. -/
theorem RawAt.field (h : RawAt w B p gD gS vC L M C fu off n) (k : Nat) (u : Value) {fu' : Int} {off' : Bool} {n' : Nat}
    (hu : ([.slice (some ⟨gD, 0, none⟩) L.length L.length, .slice (some ⟨gS, 0, none⟩) L.length L.length, vC, .int .i64 fu, .bool off, .int .i64 n] : List Value).set k u =
      [.slice (some ⟨gD, 0, none⟩) L.length L.length, .slice (some ⟨gS, 0, none⟩) L.length L.length, vC, .int .i64 fu', .bool off', .int .i64 n']) :
    RawAt (w.setCell ⟨p, k, none⟩ u) B p gD gS vC L M C fu' off' n' := by
  refine ⟨?_, h.dur.ne h.ne.1.symm _ _, h.see.ne h.ne.2.1.symm _ _, owns_setCell h.cache h.neC.1, h.base, h.ne, h.neC⟩
  rw [← hu]; exact h.obj.set k u
/-- Another cache. -/
theorem RawAt.setC (h : RawAt w B p gD gS vC L M C fu off n) {vC' : Value} {C' : List (Nat × List UInt8)} (hc : w.ownsRow B 90 65 vC' C'.length (flatW C'))
    (hn : vC'.ownBlock ≠ some p ∧ vC'.ownBlock ≠ some gD ∧ vC'.ownBlock ≠ some gS) : RawAt (w.setCell ⟨p, 2, none⟩ vC') B p gD gS vC' L M C' fu off n :=
  ⟨h.obj.set 2 vC', h.dur.ne h.ne.1.symm _ _, h.see.ne h.ne.2.1.symm _ _, owns_setCell hc hn.1, h.base, h.ne, hn⟩
/-- The parts but the cache, where the cache's blocks alone have turned. -/
theorem RawAt.swapC (h : RawAt w B p gD gS vC L M C fu off n) {vC' : Value} {C' : List (Nat × List UInt8)} (hb : ∀ k, k < w.heap.size → vC.ownBlock ≠ some k → w'.heap[k]? = w.heap[k]?)
    (hc : w'.ownsRow B 90 65 vC' C'.length (flatW C')) (hn : vC'.ownBlock ≠ some p ∧ vC'.ownBlock ≠ some gD ∧ vC'.ownBlock ≠ some gS) :
    RawAt (w'.setCell ⟨p, 2, none⟩ vC') B p gD gS vC' L M C' fu off n := by
  have ho := h.obj.of_block (hb p h.obj.lt h.neC.1)
  exact ⟨ho.set 2 vC', (h.dur.of_block (hb gD h.dur.lt h.neC.2.1)).ne h.ne.1.symm _ _, (h.see.of_block (hb gS h.see.lt h.neC.2.2)).ne h.ne.2.1.symm _ _, owns_setCell hc hn.1, h.base, h.ne, hn⟩
/-- A sector of what is seen is written. -/
theorem RawAt.setSee (h : RawAt w B p gD gS vC L M C fu off n) (hM : ∀ x ∈ M, x.length = 64) (k : Nat) (hk : k < M.length) (d : List UInt8) (hd : d.length = 64) :
    RawAt (w.setCells gS (k * 64) (Lib.byteCells d)) B p gD gS vC L (M.set k d) C fu off n := by
  have hr := Holds.setCells (Lib.byteCells d) (k * 64) w (cellsL M) h.see (by rw [bc_length, hd, cellsL_length M hM]; omega)
  rw [cellsL_put M hM k hk d hd] at hr
  exact ⟨h.obj.setOther h.ne.2.1, h.dur.setOther h.ne.2.2, hr, owns_of_block h.cache fun g hg => setCells_other gS g (fun e => h.neC.2.2 (e ▸ hg)) _ _ _, h.base, h.ne, h.neC⟩
/-- The first bytes of a sector of what lasts are written. -/
theorem RawAt.setDur (h : RawAt w B p gD gS vC L M C fu off n) (hL : ∀ x ∈ L, x.length = 64) (k : Nat) (hk : k < L.length) (d : List UInt8) (m : Nat) (hd : d.length = m) (hm : m ≤ 64) :
    RawAt (w.setCells gD (k * 64) (Lib.byteCells d)) B p gD gS vC (L.set k (d ++ L[k].drop m)) M C fu off n := by
  have hr := Holds.setCells (Lib.byteCells d) (k * 64) w (cellsL L) h.dur (by rw [bc_length, hd, cellsL_length L hL]; omega)
  rw [cellsL_lay L hL k hk d m hd hm] at hr
  have ho := h.obj.setOther (g := gD) (o := k * 64) (vs := Lib.byteCells d) h.ne.1
  exact ⟨by rw [List.length_set]; exact ho, hr, h.see.setOther h.ne.2.2.symm, owns_of_block h.cache fun g hg => setCells_other gD g (fun e => h.neC.2.1 (e ▸ hg)) _ _ _, h.base, h.ne, h.neC⟩
end

def z64 : List UInt8 := List.replicate 64 0
theorem z64_length : z64.length = 64 := rfl
theorem owns_cut {w : World} {B g cap n size : Nat} {e : TypeId} {xs : List Value} (h : w.ownsRow B e size (.slice (some ⟨g, 0, none⟩) n cap) n xs) : w.ownsRow B e size (.slice (some ⟨g, 0, none⟩) 0 cap) 0 [] := by
  refine ⟨by simp, .inr ?_⟩
  rcases h.2 with ⟨h0, _⟩ | ⟨g', cap', cur, hv, h1, h2, h3, h4, h5, h6⟩
  · cases h0
  · injection hv with e1 e2 e3
    injection e1 with e1
    injection e1 with e1
    subst e1 e3
    exact ⟨g, cap, cur, rfl, h1, h2, Nat.zero_le _, h4, h5, by simp⟩
theorem cellW_z (k : Nat) : (cellW (k, z64)).length = 65 := rfl
theorem cellW_lay (k : Nat) (s : List UInt8) (hs : s.length ≤ 64) : lay (cellW (k, z64)) 1 (Lib.byteCells s) = cellW (k, padL s) := by
  unfold lay cellW padL z64
  rw [bc_length, Lib.byteCells_append, Nat.add_comm 1 s.length, List.drop_succ_cons, ← bc_drop, List.drop_replicate]
  rfl

/-- copy out of a text, and out of a row. -/
theorem copy_text_run (w : World) (g f : Nat) (s : List UInt8) (hn : s.length ≤ 64) (ht : w.there g f s.length) :
    (Builtin.copy_ #[60, 9] 3 #[.slice (some ⟨g, f, none⟩) 64 64, .string ⟨s.toArray⟩]).run Tryz.prog w = .ok (goInt s.length) (w.setCells g f (Lib.byteCells s)) :=
  run_copy_string (P := Tryz.prog) w 60 9 3 5 g f 64 64 ⟨s.toArray⟩ Tryz.underlying60 Tryz.sizeOf5 hn (fun j hj => (ht j hj).1) (fun j hj => (ht j hj).2)

end Go.Proofs.YtfbgagpihhbllaaGreatDoor
