/- The program's disk in memory, and its small calls: reach, Size, Down, Writes, Fuse. -/
import Derived.Test.YtfbgagpihhbllaaGreatDoorProg
import Derived.Test.YtfbgagpihhbllaaGreatDoorJ03
import Derived.Test.YtfbgagpihhbllaaGreatDoorJ04
namespace Go.Proofs.YtfbgagpihhbllaaGreatDoor
open Go.RowKit Go.Proofs Go.Proofs.Pk
set_option maxRecDepth 10000
attribute [local simp] mk_get wrap64_u8 mk_extract ByteArray.mk_append_mk get_1k

/-- The program's disk at the block p: what lasts in gD, what is seen in gS, the cache at vC. -/
structure DskAt (w : World) (B p : Nat) (S : Dsk) (gD gS : Nat) (vC : Value) (X : Nat → Prop) : Prop where
  obj : Holds w p [.slice (some ⟨gD, 0, none⟩) S.L.length S.L.length, .slice (some ⟨gS, 0, none⟩) S.L.length S.L.length, vC, .int .i64 S.fuse, .bool S.off, .int .i64 S.n] 75
  dur : Holds w gD (cellsL S.L) 88
  see : Holds w gS (cellsL (syncL S.L S.C)) 88
  cache : w.ownsRow B 90 65 vC S.C.length (flatW S.C)
  base : B ≤ p ∧ B ≤ gD ∧ B ≤ gS
  ne : p ≠ gD ∧ p ≠ gS ∧ gD ≠ gS
  neC : vC.ownBlock ≠ some p ∧ vC.ownBlock ≠ some gD ∧ vC.ownBlock ≠ some gS
  own : ∀ k, X k ↔ k = p ∨ k = gD ∨ k = gS ∨ vC.ownBlock = some k

def DskP (w : World) (B p : Nat) (S : Dsk) (X : Nat → Prop) : Prop := ∃ gD gS vC, DskAt w B p S gD gS vC X

theorem DskAt.lt {w : World} {B p : Nat} {S : Dsk} {gD gS : Nat} {vC : Value} {X : Nat → Prop} (h : DskAt w B p S gD gS vC X) : ∀ k, X k → B ≤ k ∧ k < w.heap.size := by
  intro k hk
  rcases (h.own k).1 hk with rfl | rfl | rfl | hk
  · exact ⟨h.base.1, h.obj.lt⟩
  · exact ⟨h.base.2.1, h.dur.lt⟩
  · exact ⟨h.base.2.2, h.see.lt⟩
  · exact h.cache.lt k hk

/-- What another call keeps, this disk keeps. -/
theorem DskAt.kept {w w' : World} {B p : Nat} {S : Dsk} {gD gS : Nat} {vC : Value} {X Y : Nat → Prop} (h : DskAt w B p S gD gS vC X) (hk : Kept Y w w') (hd : ∀ k, X k → ¬Y k) : DskAt w' B p S gD gS vC X := by
  have blk : ∀ k, X k → w'.heap[k]? = w.heap[k]? := fun k hx => hk.block k (h.lt k hx).2 (hd k hx)
  exact ⟨h.obj.of_block (blk p ((h.own p).2 (.inl rfl))), h.dur.of_block (blk gD ((h.own gD).2 (.inr (.inl rfl)))), h.see.of_block (blk gS ((h.own gS).2 (.inr (.inr (.inl rfl))))),
    owns_of_block h.cache fun g hg => blk g ((h.own g).2 (.inr (.inr (.inr hg)))), h.base, h.ne, h.neC, h.own⟩

/-- A field of the object is written. -/
theorem DskAt.field {w : World} {B p : Nat} {S S' : Dsk} {gD gS : Nat} {vC : Value} {X : Nat → Prop} (h : DskAt w B p S gD gS vC X) (k : Nat) (u : Value) (hL : S'.L = S.L) (hC : S'.C = S.C)
    (hu : ([.slice (some ⟨gD, 0, none⟩) S.L.length S.L.length, .slice (some ⟨gS, 0, none⟩) S.L.length S.L.length, vC, .int .i64 S.fuse, .bool S.off, .int .i64 S.n] : List Value).set k u =
      [.slice (some ⟨gD, 0, none⟩) S.L.length S.L.length, .slice (some ⟨gS, 0, none⟩) S.L.length S.L.length, vC, .int .i64 S'.fuse, .bool S'.off, .int .i64 S'.n]) :
    DskAt (w.setCell ⟨p, k, none⟩ u) B p S' gD gS vC X := by
  refine ⟨?_, by rw [hL]; exact h.dur.ne h.ne.1.symm _ _, by rw [hL, hC]; exact h.see.ne h.ne.2.1.symm _ _, by rw [hC]; exact owns_setCell h.cache h.neC.1, h.base, h.ne, h.neC, h.own⟩
  rw [hL, ← hu]; exact h.obj.set k u
theorem DskAt.mine {w : World} {B p : Nat} {S : Dsk} {gD gS : Nat} {vC : Value} {X : Nat → Prop} (h : DskAt w B p S gD gS vC X) : X p := (h.own p).2 (.inl rfl)

/-- The error of number c, as the program gives it. -/
def erV (c : Nat) : Value := if c = 0 then .nilIface else .iface 33 (.int .i64 c)

/-- Why a sector can't be reached. -/
def reachC (S : Dsk) (k : Int) : Nat := if S.off then 6 else if k < 0 ∨ (S.L.length : Int) ≤ k then 1 else 0

/-- One result; the world as it was, but for draws. -/
def Q1 (w : World) (x : Value) (e : Ending) (w' : World) : Prop := e = .returned x ∧ ∃ m, w' = w.drewN m

theorem reachC_off {S : Dsk} (h : S.off = true) (k : Int) : reachC S k = 6 := by unfold reachC; rw [if_pos h]
theorem reachC_arg {S : Dsk} (h : S.off = false) (k : Int) (hk : k < 0 ∨ (S.L.length : Int) ≤ k) : reachC S k = 1 := by unfold reachC; rw [if_neg (by simp [h]), if_pos hk]
theorem reachC_ok {S : Dsk} (h : S.off = false) (k : Int) (hk : ¬(k < 0 ∨ (S.L.length : Int) ≤ k)) : reachC S k = 0 := by unfold reachC; rw [if_neg (by simp [h]), if_neg hk]

set_option maxHeartbeats 400000 in
theorem pReach (k : Int) (w : World) (B p : Nat) (S : Dsk) (X : Nat → Prop) (h : DskP w B p S X) :
    Calls Tryz.prog 71 #[.pointer (some ⟨p, 0, none⟩), .int .i64 k] w (Q1 w (erV (reachC S k))) := by
  obtain ⟨gD, gS, vC, h⟩ := h
  have c0 := h.obj.cell 0 _ rfl
  have c4 := h.obj.cell 4 _ rfl
  clear h
  cases ho : S.off with
  | true =>
    rw [ho] at c4
    have HE := Lib.hid (reachC_off ho k)
    clear ho
    go_enter Tryz.func71, Tryz.ntmps71
    go_wp2
    go_ret
    rw [HE.out]; exact ⟨rfl, 0, rfl⟩
  | false =>
    rw [ho] at c4
    by_cases hk : k < 0 ∨ (S.L.length : Int) ≤ k
    · have HE := Lib.hid (reachC_arg ho k hk)
      generalize S.L.length = n at c0 hk
      clear ho
      by_cases hneg : k < 0
      · have h1 : decide (k < 0) = true := by simpa using hneg
        clear hk hneg
        go_enter Tryz.func71, Tryz.ntmps71
        go_wp2
        all_goals
          go_ret
          rw [HE.out]; exact ⟨rfl, 0, rfl⟩
      · have h1 : decide (k < 0) = false := by simpa using hneg
        have h2 : (n : Int) ≤ k := by omega
        clear hk
        go_enter Tryz.func71, Tryz.ntmps71
        go_wp2
        all_goals
          go_ret
          rw [HE.out]; exact ⟨rfl, 0, rfl⟩
    · have HE := Lib.hid (reachC_ok ho k hk)
      generalize S.L.length = n at c0 hk
      have h1 : decide (k < 0) = false := by rw [decide_eq_false_iff_not]; omega
      have h2 : k < (n : Int) := by omega
      clear hk ho
      go_enter Tryz.func71, Tryz.ntmps71
      go_wp2
      all_goals
        go_ret
        rw [HE.out]; exact ⟨rfl, 0, rfl⟩

set_option maxHeartbeats 400000 in
theorem pSize (w : World) (B p : Nat) (S : Dsk) (X : Nat → Prop) (h : DskP w B p S X) :
    Calls Tryz.prog 36 #[.pointer (some ⟨p, 0, none⟩)] w (Q1 w (.int .i64 S.L.length)) := by
  obtain ⟨gD, gS, vC, h⟩ := h
  have c0 := h.obj.cell 0 _ rfl
  clear h
  generalize S.L.length = n at c0 ⊢
  go_enter Tryz.func36, Tryz.ntmps36
  go_wp2
  go_ret
  exact ⟨rfl, 0, rfl⟩

set_option maxHeartbeats 400000 in
theorem pFuse (n : Int) (w : World) (B p : Nat) (S : Dsk) (X : Nat → Prop) (h : DskP w B p S X) :
    Calls Tryz.prog 15 #[.pointer (some ⟨p, 0, none⟩), .int .i64 n] w fun e w' => e = .returned (.tuple #[]) ∧ DskP w' B p (S.setFuse n) X ∧ Kept X w w' := by
  obtain ⟨gD, gS, vC, h⟩ := h
  have H := Lib.hid h
  have c2 := h.obj.cell 3 _ rfl
  have f2 := h.obj.free 3
  clear h
  go_enter Tryz.func15, Tryz.ntmps15
  by_cases hn : n < -1
  · have HN : Hid (S.setFuse n = { S with fuse := -1 }) := by show S.setFuse n = _; unfold Dsk.setFuse; rw [Int.max_eq_right (by omega)]
    go_wp2
    go_end0
    rw [HN.out]
    exact ⟨rfl, ⟨gD, gS, vC, H.out.field 3 (.int .i64 (-1)) rfl rfl rfl⟩, (Kept.refl X w).setCell H.out.mine _⟩
  · have HN : Hid (S.setFuse n = { S with fuse := n }) := by show S.setFuse n = _; unfold Dsk.setFuse; rw [Int.max_eq_left (by omega)]
    go_wp2
    go_end0
    rw [HN.out]
    exact ⟨rfl, ⟨gD, gS, vC, H.out.field 3 (.int .i64 n) rfl rfl rfl⟩, (Kept.refl X w).setCell H.out.mine _⟩

end Go.Proofs.YtfbgagpihhbllaaGreatDoor
