/- The program's disk in memory on the way through a call: its parts, each for itself. -/
import Derived.Test.YtgppbbbpekghiaaPRd
import Derived.Test.YtgppbbbpekghiaaAppend
namespace Go.Proofs.Ytgppbbbpekghiaa
open Go.RowKit Go.Proofs Go.Proofs.Pk
set_option maxRecDepth 10000

structure RawAt (w : World) (B p gD gS : Nat) (vC : Value) (L M : List (List UInt8)) (C : List (Nat × List UInt8)) (fu : Int) (off : Bool) (n : Nat) : Prop where
  obj : Holds w p [.slice (some ⟨gD, 0, none⟩) L.length L.length, .slice (some ⟨gS, 0, none⟩) L.length L.length, vC, .int .i64 fu, .bool off, .int .i64 n] 60
  dur : Holds w gD (cellsL L) 65
  see : Holds w gS (cellsL M) 65
  cache : w.ownsRow B 67 65 vC C.length (flatW C)
  base : B ≤ p ∧ B ≤ gD ∧ B ≤ gS
  ne : p ≠ gD ∧ p ≠ gS ∧ gD ≠ gS
  neC : vC.ownBlock ≠ some p ∧ vC.ownBlock ≠ some gD ∧ vC.ownBlock ≠ some gS

/-- The blocks of a disk. -/
def Xof (p gD gS : Nat) (vC : Value) : Nat → Prop := fun k => k = p ∨ k = gD ∨ k = gS ∨ vC.ownBlock = some k

theorem DskAt.raw {w : World} {B p : Nat} {S : Dsk} {gD gS : Nat} {vC : Value} {X : Nat → Prop} (h : DskAt w B p S gD gS vC X) : RawAt w B p gD gS vC S.L (syncL S.L S.C) S.C S.fuse S.off S.n :=
  ⟨h.obj, h.dur, h.see, h.cache, h.base, h.ne, h.neC⟩
theorem RawAt.dsk {w : World} {B p gD gS : Nat} {vC : Value} {S : Dsk} {M : List (List UInt8)} (h : RawAt w B p gD gS vC S.L M S.C S.fuse S.off S.n) (hM : M = syncL S.L S.C) : DskP w B p S (Xof p gD gS vC) :=
  ⟨gD, gS, vC, h.obj, h.dur, hM ▸ h.see, h.cache, h.base, h.ne, h.neC, fun _ => Iff.rfl⟩
section
variable {w w' : World} {B p gD gS : Nat} {vC : Value} {L M : List (List UInt8)} {C : List (Nat × List UInt8)} {fu : Int} {off : Bool} {n : Nat}

theorem RawAt.lt (h : RawAt w B p gD gS vC L M C fu off n) : ∀ k, Xof p gD gS vC k → B ≤ k ∧ k < w.heap.size := by
  intro k hk
  rcases hk with rfl | rfl | rfl | hk
  · exact ⟨h.base.1, h.obj.lt⟩
  · exact ⟨h.base.2.1, h.dur.lt⟩
  · exact ⟨h.base.2.2, h.see.lt⟩
  · exact h.cache.lt k hk
theorem RawAt.of_blocks (h : RawAt w B p gD gS vC L M C fu off n) (blk : ∀ k, Xof p gD gS vC k → w'.heap[k]? = w.heap[k]?) : RawAt w' B p gD gS vC L M C fu off n :=
  ⟨h.obj.of_block (blk p (.inl rfl)), h.dur.of_block (blk gD (.inr (.inl rfl))), h.see.of_block (blk gS (.inr (.inr (.inl rfl)))),
    owns_of_block h.cache fun g hg => blk g (.inr (.inr (.inr hg))), h.base, h.ne, h.neC⟩
theorem RawAt.kept {Y : Nat → Prop} (h : RawAt w B p gD gS vC L M C fu off n) (hk : Kept Y w w') (hd : ∀ k, Xof p gD gS vC k → ¬Y k) : RawAt w' B p gD gS vC L M C fu off n :=
  h.of_blocks fun k hx => hk.block k (h.lt k hx).2 (hd k hx)
theorem RawAt.drew (h : RawAt w B p gD gS vC L M C fu off n) : RawAt w.drew B p gD gS vC L M C fu off n := h.of_blocks fun _ _ => rfl
theorem RawAt.alloc (h : RawAt w B p gD gS vC L M C fu off n) (o : Obj) : RawAt (w.alloc o) B p gD gS vC L M C fu off n :=
  h.kept (Kept.alloc (Kept.refl (fun _ => False) w) o) (fun _ _ hf => hf)
theorem RawAt.setOther (h : RawAt w B p gD gS vC L M C fu off n) (g o : Nat) (vs : List Value) (hg : ¬Xof p gD gS vC g) : RawAt (w.setCells g o vs) B p gD gS vC L M C fu off n :=
  h.of_blocks fun k hx => setCells_other g k (fun e => hg (e ▸ hx)) vs o w
/-- A field of the object that is a number or a truth. -/
theorem RawAt.field (h : RawAt w B p gD gS vC L M C fu off n) (k : Nat) (u : Value) {fu' : Int} {off' : Bool} {n' : Nat}
    (hu : ([.slice (some ⟨gD, 0, none⟩) L.length L.length, .slice (some ⟨gS, 0, none⟩) L.length L.length, vC, .int .i64 fu, .bool off, .int .i64 n] : List Value).set k u =
      [.slice (some ⟨gD, 0, none⟩) L.length L.length, .slice (some ⟨gS, 0, none⟩) L.length L.length, vC, .int .i64 fu', .bool off', .int .i64 n']) :
    RawAt (w.setCell ⟨p, k, none⟩ u) B p gD gS vC L M C fu' off' n' := by
  refine ⟨?_, h.dur.ne h.ne.1.symm _ _, h.see.ne h.ne.2.1.symm _ _, owns_setCell h.cache h.neC.1, h.base, h.ne, h.neC⟩
  rw [← hu]; exact h.obj.set k u
/-- Another cache. -/
theorem RawAt.setC (h : RawAt w B p gD gS vC L M C fu off n) {vC' : Value} {C' : List (Nat × List UInt8)} (hc : w.ownsRow B 67 65 vC' C'.length (flatW C'))
    (hn : vC'.ownBlock ≠ some p ∧ vC'.ownBlock ≠ some gD ∧ vC'.ownBlock ≠ some gS) : RawAt (w.setCell ⟨p, 2, none⟩ vC') B p gD gS vC' L M C' fu off n :=
  ⟨h.obj.set 2 vC', h.dur.ne h.ne.1.symm _ _, h.see.ne h.ne.2.1.symm _ _, owns_setCell hc hn.1, h.base, h.ne, hn⟩
/-- The parts but the cache, where the cache's blocks alone have turned. -/
theorem RawAt.swapC (h : RawAt w B p gD gS vC L M C fu off n) {vC' : Value} {C' : List (Nat × List UInt8)} (hb : ∀ k, k < w.heap.size → vC.ownBlock ≠ some k → w'.heap[k]? = w.heap[k]?)
    (hc : w'.ownsRow B 67 65 vC' C'.length (flatW C')) (hn : vC'.ownBlock ≠ some p ∧ vC'.ownBlock ≠ some gD ∧ vC'.ownBlock ≠ some gS) :
    RawAt (w'.setCell ⟨p, 2, none⟩ vC') B p gD gS vC' L M C' fu off n := by
  have ho := h.obj.of_block (hb p h.obj.lt h.neC.1)
  exact ⟨ho.set 2 vC', (h.dur.of_block (hb gD h.dur.lt h.neC.2.1)).ne h.ne.1.symm _ _, (h.see.of_block (hb gS h.see.lt h.neC.2.2)).ne h.ne.2.1.symm _ _, owns_setCell hc hn.1, h.base, h.ne, hn⟩
/-- A sector of what is seen is written. -/
theorem RawAt.setSee (h : RawAt w B p gD gS vC L M C fu off n) (hM : ∀ x ∈ M, x.length = 64) (k : Nat) (hk : k < M.length) (d : List UInt8) (hd : d.length = 64) :
    RawAt (w.setCells gS (k * 64) (Lib.byteCells d)) B p gD gS vC L (M.set k d) C fu off n := by
  have hr := Holds.setCells (Lib.byteCells d) (k * 64) w (cellsL M) h.see (by rw [bc_length, hd, cellsL_length M hM]; omega)
  rw [cellsL_put M hM k hk d hd] at hr
  exact ⟨h.obj.setOther h.ne.2.1, h.dur.setOther h.ne.2.2, hr, owns_of_block h.cache fun g hg => setCells_other gS g (fun e => h.neC.2.2 (e ▸ hg)) _ _ _, h.base, h.ne, h.neC⟩
/-- The first bytes of a sector of what lasts are written. -/
theorem RawAt.setDur (h : RawAt w B p gD gS vC L M C fu off n) (hL : ∀ x ∈ L, x.length = 64) (k : Nat) (hk : k < L.length) (d : List UInt8) (m : Nat) (hd : d.length = m) (hm : m ≤ 64) :
    RawAt (w.setCells gD (k * 64) (Lib.byteCells d)) B p gD gS vC (L.set k (d ++ L[k].drop m)) M C fu off n := by
  have hr := Holds.setCells (Lib.byteCells d) (k * 64) w (cellsL L) h.dur (by rw [bc_length, hd, cellsL_length L hL]; omega)
  rw [cellsL_lay L hL k hk d m hd hm] at hr
  have ho := h.obj.setOther (g := gD) (o := k * 64) (vs := Lib.byteCells d) h.ne.1
  exact ⟨by rw [List.length_set]; exact ho, hr, h.see.setOther h.ne.2.2.symm, owns_of_block h.cache fun g hg => setCells_other gD g (fun e => h.neC.2.1 (e ▸ hg)) _ _ _, h.base, h.ne, h.neC⟩
end

def z64 : List UInt8 := List.replicate 64 0
theorem z64_length : z64.length = 64 := rfl
theorem owns_cut {w : World} {B g cap n size : Nat} {e : TypeId} {xs : List Value} (h : w.ownsRow B e size (.slice (some ⟨g, 0, none⟩) n cap) n xs) : w.ownsRow B e size (.slice (some ⟨g, 0, none⟩) 0 cap) 0 [] := by
  refine ⟨by simp, .inr ?_⟩
  rcases h.2 with ⟨h0, _⟩ | ⟨g', cap', cur, hv, h1, h2, h3, h4, h5, h6⟩
  · cases h0
  · injection hv with e1 e2 e3
    injection e1 with e1
    injection e1 with e1
    subst e1 e3
    exact ⟨g, cap, cur, rfl, h1, h2, Nat.zero_le _, h4, h5, by simp⟩
theorem cellW_z (k : Nat) : (cellW (k, z64)).length = 65 := rfl
theorem cellW_lay (k : Nat) (s : List UInt8) (hs : s.length ≤ 64) : lay (cellW (k, z64)) 1 (Lib.byteCells s) = cellW (k, padL s) := by
  unfold lay cellW padL z64
  rw [bc_length, Lib.byteCells_append, Nat.add_comm 1 s.length, List.drop_succ_cons, ← bc_drop, List.drop_replicate]
  rfl

/-- copy out of a text, and out of a row. -/
theorem copy_text_run (w : World) (g f : Nat) (s : List UInt8) (hn : s.length ≤ 64) (ht : w.there g f s.length) :
    (Builtin.copy_ #[61, 9] 3 #[.slice (some ⟨g, f, none⟩) 64 64, .string ⟨s.toArray⟩]).run Try.prog w = .ok (goInt s.length) (w.setCells g f (Lib.byteCells s)) :=
  run_copy_string (P := Try.prog) w 61 9 3 5 g f 64 64 ⟨s.toArray⟩ Try.underlying61 Try.sizeOf5 hn (fun j hj => (ht j hj).1) (fun j hj => (ht j hj).2)

end Go.Proofs.Ytgppbbbpekghiaa
