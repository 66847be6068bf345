/- OwnL, Ord2, Rc16. -/
import Derived.Test.YtgcepbpdicadnaaJ07
import Derived.Test.YtgcepbpdicadnaaJ10
import Derived.Test.YtgcepbpdicadnaaJ08
import Derived.Test.YtgcepbpdicadnaaJ11
import Derived.Laws.AppendOwnNone
import Derived.Great.BuildSlice
import Derived.Test.YtgcepbpdicadnaaJ03
import Derived.BigQuiet
import Derived.Deep.CutRange

/- A list of lists of entries that grows in a row of its own; copies. -/
namespace Go.Proofs.Ytgcepbpdicadnaa
open Go.RowKit Go.Proofs Go.Proofs.Pk
set_option maxRecDepth 10000
attribute [local simp] mk_get wrap64_u8 mk_extract ByteArray.mk_append_mk get_1k

theorem lst_info : (Try.prog.info? 34).map (fun i => (i.zero, i.size, i.bytes)) = some (some (.slice none 0 0), 1, 24) := by kernel_rfl
theorem add_zero (a : Addr) : a.add 0 = a := by
  unfold Addr.add
  obtain ⟨b, o, s⟩ := a
  cases s <;> simp
theorem slice_cut (ai : Option Addr) (m ci n : Nat) (h : n ≤ ci) (w : World) : (Instr.slice 34 (.slice ai m ci) none (some (.int .i64 (n : Int))) none).run Try.prog w = .ok (.slice ai n ci) w := by
  have hu : Try.prog.underlying 34 = some (.slice 45) := by kernel_rfl
  have hn : (0 : Int) ≤ (n : Int) ∧ (n : Int) ≤ (ci : Int) := by omega
  have ha : (if ci = 0 then ai else ai.map (fun a => a.add 0)) = ai := by
    split
    · rfl
    · cases ai <;> simp [add_zero]
  have hs : (Go.sizeOf 45).run Try.prog w = .ok 4 w := by kernel_rfl
  simp only [Instr.slice, Instr.sliceBounds, Instr.sliceBound, asIntOf, run_underlying hu, go_sem]
  simp [h, hn, hs, ha, Result.andThen]

theorem ents_keptX {X : Nat → Prop} {w w' : World} {ad : Option Addr} {len : Nat} {l : List MEnt} (h : EntsW w ad len l) (hk : Kept X w w') (hx : l ≠ [] → ∀ a, ad = some a → ¬X a.block) : EntsW w' ad len l := by
  by_cases h0 : l = []
  · subst h0; exact ⟨h.1, .inl rfl⟩
  · refine ⟨h.1, h.2.imp_right ?_⟩
    rintro ⟨b, off, h1, h2, h3⟩
    have hb := hx h0 _ h1
    exact ⟨b, off, h1, Nat.lt_of_lt_of_le h2 hk.size, fun i hi => ⟨fun k v hv => (hk.cell (p := ⟨b, off + i * 4 + k, none⟩) h2 hb).trans ((h3 i hi).row k v hv), (h3 i hi).fit⟩⟩
theorem ents_lt {w : World} {ad : Option Addr} {len : Nat} {l : List MEnt} (h : EntsW w ad len l) (h0 : l ≠ []) (a : Addr) (ha : ad = some a) : a.block < w.heap.size := by
  rcases h.2 with h1 | ⟨b, off, h1, h2, _⟩
  · exact absurd h1 h0
  · rw [h1] at ha; cases ha; exact h2
/-- A list of lists in a row of its own: the lists lie elsewhere. -/
structure OwnL (w0 w : World) (ao : Option Addr) (n co : Nat) (Ls : List (List MEnt)) : Prop where
  len : Ls.length = n
  row : ∃ C : List Value, w.ownsRow w0.heap.size 34 1 (.slice ao n co) n C ∧ ∀ i (h : i < Ls.length), ∃ ai ci, C[i]? = some (.slice ai Ls[i].length ci) ∧ EntsW w ai Ls[i].length Ls[i] ∧ (Ls[i] ≠ [] → ∀ a, ai = some a → (Value.slice ao n co).ownBlock ≠ some a.block) ∧ Ls[i].length ≤ ci
  kept : Kept (fun _ => False) w0 w
theorem OwnL.nil {w0 w : World} (h : Kept (fun _ => False) w0 w) : OwnL w0 w none 0 0 [] := ⟨rfl, ⟨[], World.ownsRow_nil _ _ _ _, fun i h => (by simp at h)⟩, h⟩
theorem OwnL.keptK {w0 w w' : World} {ao : Option Addr} {n co : Nat} {Ls : List (List MEnt)} (h : OwnL w0 w ao n co Ls) (hk : Kept (fun _ => False) w w') : OwnL w0 w' ao n co Ls := by
  obtain ⟨h1, ⟨C, hr, hc⟩, h3⟩ := h
  refine ⟨h1, ⟨C, owns_of_block hr fun g hg => hk.block g (hr.lt g hg).2 (fun f => f), fun i hi => ?_⟩, h3.trans hk (fun _ f => f.elim)⟩
  obtain ⟨ai, ci, e1, e2, e3⟩ := hc i hi
  exact ⟨ai, ci, e1, ents_keptK e2 hk, e3⟩
theorem OwnL.lsE {w0 w : World} {ao : Option Addr} {n co : Nat} {Ls : List (List MEnt)} (h : OwnL w0 w ao n co Ls) : LsE w ao n Ls := by
  obtain ⟨h1, ⟨C, hr, hc⟩, h3⟩ := h
  refine ⟨h1, ?_⟩
  rcases hr.2 with ⟨_, hn⟩ | ⟨g, cap, cur, hv, _, hg, _⟩
  · exact .inl (List.length_eq_zero_iff.1 (by omega))
  · cases hv
    refine .inr ⟨g, 0, rfl, (Array.getElem?_eq_some_iff.1 hg).1, fun i hi => ?_⟩
    obtain ⟨ai, ci, e1, e2, _, e4⟩ := hc i hi
    refine ⟨ai, ci, ?_, e2, e4⟩
    rw [Nat.zero_add, hr.cellAt i (by omega)]
    exact e1
theorem OwnL.grown {w0 wx wy wB : World} {ao : Option Addr} {n co : Nat} {Ls : List (List MEnt)} {C : List Value} {v : Value} {ai : Option Addr} {m ci : Nat} {L : List MEnt} (h : OwnL w0 wx ao n co Ls)
    (hr : wx.ownsRow w0.heap.size 34 1 (.slice ao n co) n C) (hc : ∀ i (h : i < Ls.length), ∃ ai ci, C[i]? = some (.slice ai Ls[i].length ci) ∧ EntsW wx ai Ls[i].length Ls[i] ∧ (Ls[i] ≠ [] → ∀ a, ai = some a → (Value.slice ao n co).ownBlock ≠ some a.block) ∧ Ls[i].length ≤ ci)
    (hy : Kept (fun _ => False) wx wy) (hL : EntsW wx ai m L) (hLc : m ≤ ci) (hLb : L ≠ [] → ∀ a, ai = some a → (Value.slice ao n co).ownBlock ≠ some a.block)
    (h2 : wB.ownsRow w0.heap.size 34 1 v (n + 1) (C ++ [.slice ai m ci])) (hg : wy.grownBy wB (Value.slice ao n co).ownBlock) (hp : v.ownBlock = (Value.slice ao n co).ownBlock ∨ v.ownBlock = some wy.heap.size) :
    ∃ ad2 cap2, v = .slice ad2 (n + 1) cap2 ∧ OwnL w0 wB ad2 (n + 1) cap2 (Ls ++ [L]) := by
  obtain ⟨ad2, cap2, rfl⟩ : ∃ ad2 cap2, v = .slice ad2 (n + 1) cap2 := by
    rcases h2.2 with ⟨_, h⟩ | ⟨g, cap, cur, h, _⟩
    · omega
    · exact ⟨_, _, h⟩
  have hk : Kept (fun k => (Value.slice ao n co).ownBlock = some k) wy wB := kept_grown (Kept.refl _ _) hg (fun b hb => .inl hb)
  have hone : ∀ (aj : Option Addr) (l : List MEnt), EntsW wx aj l.length l → (l ≠ [] → ∀ a, aj = some a → (Value.slice ao n co).ownBlock ≠ some a.block) → EntsW wB aj l.length l ∧ (l ≠ [] → ∀ a, aj = some a → (Value.slice ad2 (n + 1) cap2).ownBlock ≠ some a.block) := fun aj l he hb => by
    refine ⟨ents_keptX (ents_keptK he hy) hk hb, fun h0 a ha => ?_⟩
    rcases hp with hp | hp
    · rw [hp]; exact hb h0 a ha
    · rw [hp]
      intro e
      have h1 := ents_lt he h0 a ha
      have h2 := hy.size
      have h3 := Option.some.inj e
      omega
  have hlen := h.len
  have hLl := hL.1
  have hCl : C.length = n := by have := hr.1; omega
  refine ⟨ad2, cap2, rfl, ⟨by rw [List.length_append, hlen]; rfl, ⟨_, h2, fun i hi => ?_⟩, kept_grown (h.kept.trans hy (fun _ f => f.elim)) hg (fun b hb => .inr (hr.lt b hb).1)⟩⟩
  by_cases hin : i < Ls.length
  · obtain ⟨aj, cj, e1, e2, e3, e5⟩ := hc i hin
    have e4 := hone aj Ls[i] e2 e3
    refine ⟨aj, cj, ?_, ?_⟩
    · rw [List.getElem_append_left hin, List.getElem?_append_left (by omega)]; exact e1
    · rw [List.getElem_append_left hin]; exact ⟨e4.1, e4.2, e5⟩
  · have hin2 : i = Ls.length := by rw [List.length_append] at hi; simp at hi; omega
    subst hin2
    have e0 : (Ls ++ [L])[Ls.length]'hi = L := by simp
    have e4 := hone ai L (by rw [hLl]; exact hL) hLb
    refine ⟨ai, ci, ?_, ?_⟩
    · rw [e0, List.getElem?_append_right (by omega), hLl, show Ls.length - C.length = 0 from by omega]; rfl
    · rw [e0]; exact ⟨e4.1, e4.2, by omega⟩

theorem run_bsL (w : World) (a : Option Addr) (n c : Nat) : (Instr.buildSlice 35 1 #[(0, .slice a n c)]).run Try.prog w = .ok (.slice (some ⟨w.heap.size, 0, none⟩) 1 1) (w.alloc (.cells #[.slice a n c] 34)) := by
  obtain ⟨iL, hiL, hlz, hl1, hl2⟩ := info_parts lst_info
  exact run_buildSlice w 35 34 1 _ #[.slice a n c] iL (.slice none 0 0) Try.underlying35 hiL hlz (by rw [hl1]; decide) (by rw [hl1]; decide) (by rw [hl1]; simp only [Value.cells]; kernel_rfl)
theorem run_bsL2 (w : World) (a : Option Addr) (n c : Nat) (a2 : Option Addr) (n2 c2 : Nat) : (Instr.buildSlice 35 2 #[(0, .slice a n c), (1, .slice a2 n2 c2)]).run Try.prog w = .ok (.slice (some ⟨w.heap.size, 0, none⟩) 2 2) (w.alloc (.cells #[.slice a n c, .slice a2 n2 c2] 34)) := by
  obtain ⟨iL, hiL, hlz, hl1, hl2⟩ := info_parts lst_info
  exact run_buildSlice w 35 34 2 _ #[.slice a n c, .slice a2 n2 c2] iL (.slice none 0 0) Try.underlying35 hiL hlz (by rw [hl1]; decide) (by rw [hl1]; decide) (by rw [hl1]; simp only [Value.cells]; kernel_rfl)

/-- A copy: append to nothing. -/
theorem copy_run (W : World) {ai : Option Addr} {n ci : Nat} {l : List MEnt} (h : EntsW W ai n l) (hn : n ≤ 1000) (hb : ai = none → ci = 0) :
    ∃ a2 c2 w2, (Builtin.append_ #[34, 34] 34 #[.slice none 0 0, .slice ai n ci]).run Try.prog W = .ok (.slice a2 n c2) w2 ∧ EntsW w2 a2 n l ∧ Kept (fun _ => False) W w2 ∧ (∀ a, a2 = some a → W.heap.size ≤ a.block) ∧ n ≤ c2 := by
  obtain ⟨i0, hi0, hz0, hz1, hz2⟩ := info_parts ent_info
  have hlen := h.1
  have hfit : ∀ e ∈ l, FitN e.2.1 := by
    intro e he
    obtain ⟨i, hi, rfl⟩ := List.getElem_of_mem he
    obtain ⟨_, _, _, _, _, hf, _⟩ := entsW_all h i (by omega)
    exact hf
  cases ai with
  | none =>
    have hl0 : l = [] := by
      rcases h.2 with h0 | ⟨b, off, h1, _⟩
      · exact h0
      · cases h1
    subst hl0
    obtain rfl : n = 0 := by simpa using hlen.symm
    obtain rfl : ci = 0 := hb rfl
    have hr := run_append_owned_none (P := Try.prog) (w := W) W.heap.size 34 34 45 i0 4 Try.underlying34 hi0 (.slice none 0 0) 0 [] (World.ownsRow_nil _ _ _ _)
    exact ⟨none, 0, W, hr, EntsW.empty, Kept.refl _ _, fun a ha => (by cases ha), Nat.le_refl _⟩
  | some a =>
    have hc : ∀ (m : Nat) (u : Value), (cellsM l)[m]? = some u → W.cell? (a.add m) = some u := fun m u hu => by
      rcases h.2 with h0 | ⟨b, off, h1, h2, h3⟩
      · rw [h0] at hu; simp [cellsM] at hu
      · cases h1
        have hm : m < l.length * 4 := by have := (List.getElem?_eq_some_iff.1 hu).1; rwa [cellsM_length] at this
        have hi : m / 4 < l.length := by omega
        have hr := (h3 (m / 4) hi).row (m % 4)
        have hx : ∃ v, (entC l[m / 4])[m % 4]? = some v := by
          have : m % 4 < (entC l[m / 4]).length := by simp [entC]; omega
          exact ⟨_, List.getElem?_eq_getElem this⟩
        obtain ⟨v, hv⟩ := hx
        have e1 := cellsM_get l (m / 4) hi (m % 4) v hv
        rw [show m / 4 * 4 + m % 4 = m from by omega, hu] at e1
        cases e1
        have := hr _ hv
        rw [show off + m / 4 * 4 + m % 4 = off + m from by omega] at this
        rw [show ((⟨b, off, none⟩ : Addr).add m) = ⟨b, off + m, none⟩ from by unfold Addr.add; split <;> simp_all]
        exact this
    obtain ⟨v', w', hr, h2, h3, _⟩ := run_append_own (P := Try.prog) W W.heap.size 34 34 45 i0 _ 4 48 Try.underlying34 hi0 hz0 hz1 hz2 rfl (by decide) (.slice none 0 0) 0 [] (World.ownsRow_nil _ _ _ _) a n ci (cellsM l) (by rw [cellsM_length, hlen]) hc (cellsM_one _) (by unfold maxLen; omega) (by omega) (Nat.le_refl _)
    rw [Nat.zero_add, List.nil_append] at h2
    obtain ⟨a2, c2, rfl⟩ : ∃ a2 c2, v' = .slice a2 n c2 := by
      rcases h2.2 with ⟨hv, h0⟩ | ⟨g, cap, cur, hv, _⟩
      · subst h0; exact ⟨_, _, hv⟩
      · exact ⟨_, _, hv⟩
    rw [← hlen] at h2 hr ⊢
    refine ⟨a2, c2, w', hr, owns_ents h2 hfit, kept_grown (Kept.refl _ _) h3 (fun b hb => by cases hb), fun a' ha => ?_, ?_⟩
    · subst ha
      exact (h2.lt _ rfl).1
    · rcases h2.2 with ⟨hv, h0⟩ | ⟨g, cap, cur, hv, _, _, hc2, _⟩
      · omega
      · cases hv; exact hc2


end Go.Proofs.Ytgcepbpdicadnaa

/- A region that draws its order, where two operations may come up; a store of a whole struct in it. No program. -/
namespace Go.Proofs.Pk
open Go.RowKit
section
variable {P : Program} {ops : Array Oper} {Q : Exit → Act → World → Prop} {md : Region.Mode} {S : World → Prop} {z : Nat}

theorem wpAnyU_two {i j : Nat} {fuel : Nat} {listed : Array Bool} {a : Act} {w : World} (hr : Region.ready md ops listed = [i, j])
    (h1 : wpOp P ops Q i (fun a' w' => (i < z → S w') ∧ wpAnyU P md ops Q S z fuel (listed.setIfInBounds i true) a' w') a w)
    (h2 : wpOp P ops Q j (fun a' w' => (j < z → S w') ∧ wpAnyU P md ops Q S z fuel (listed.setIfInBounds j true) a' w') a w) : wpAnyU P md ops Q S z (fuel + 1) listed a w := by
  refine ⟨fun h0 => absurd (hr ▸ h0) (by simp), ?_⟩
  rw [hr]
  intro k hk
  rcases List.mem_cons.1 hk with rfl | hk
  · exact h1
  · obtain rfl : k = j := by simpa using hk
    exact h2
theorem wpOp_run {i : Nat} {oi : Oper} {v : Value} {w' : World} {K : Act → World → Prop} {a : Act} {w : World} (d : Option Tmp) (hi : ops[i]? = some oi) (hd : oi.dst = d)
    (hg : Region.wanted oi (yielded ops a.tmps) = true) (hrun : (execOp a.eval oi).run P w = .ok (.value v) w') (h : K (a.put d v) w') : wpOp P ops Q i K a w := by
  subst hd
  unfold wpOp
  simp only [hi, hg, if_true, Oper.wp, hrun, Oper.upon]
  exact .inl h
theorem wpOp_call {i : Nat} {oi : Oper} {f : Nat} {args : Array Value} {K : Act → World → Prop} {a : Act} {w : World} (d : Option Tmp) (hi : ops[i]? = some oi) (hd : oi.dst = d)
    (hg : Region.wanted oi (yielded ops a.tmps) = true) (hrun : (execOp a.eval oi).run P w = .ok (.enter f args) w)
    (h : Calls P f args w fun e w' => ∃ v, e = .returned v ∧ K (a.put d v) w') : wpOp P ops Q i K a w := by
  subst hd
  unfold wpOp
  simp only [hi, hg, if_true, Oper.wp, hrun, Oper.upon]
  refine .inl (h.mono ?_)
  rintro e w' ⟨v, rfl, h1⟩
  exact h1
/-- One alone may come up, and it is a call that may panic. -/
theorem wpAnyU_callP {i : Nat} {oi : Oper} {f : Nat} {args : Array Value} {fuel : Nat} {listed : Array Bool} {a : Act} {w : World} (d : Option Tmp) (hi : ops[i]? = some oi) (hd : oi.dst = d)
    (hr : Region.ready md ops listed = [i]) (hg : Region.wanted oi (yielded ops a.tmps) = true) (hrun : (execOp a.eval oi).run P w = .ok (.enter f args) w)
    (h : Calls P f args w fun e w' => (∃ v, e = .returned v ∧ (i < z → S w') ∧ wpAnyU P md ops Q S z fuel (listed.setIfInBounds i true) (a.put d v) w') ∨ (∃ c, e = .panicked c ∧ Q (.panic c) a w')) : wpAnyU P md ops Q S z (fuel + 1) listed a w := by
  subst hd
  refine ⟨fun h0 => absurd (hr ▸ h0) (by simp), ?_⟩
  rw [hr]
  intro j hj
  obtain rfl : j = i := by simpa using hj
  unfold wpOp
  simp only [hi, hg, if_true, Oper.wp, hrun, Oper.upon]
  refine .inl (h.mono ?_)
  rintro e w' (⟨v, rfl, h1, h2⟩ | ⟨c, rfl, h1⟩)
  · exact ⟨h1, h2⟩
  · exact h1
theorem wpOp_callP {i : Nat} {oi : Oper} {f : Nat} {args : Array Value} {K : Act → World → Prop} {a : Act} {w : World} (d : Option Tmp) (hi : ops[i]? = some oi) (hd : oi.dst = d)
    (hg : Region.wanted oi (yielded ops a.tmps) = true) (hrun : (execOp a.eval oi).run P w = .ok (.enter f args) w)
    (h : Calls P f args w fun e w' => (∃ v, e = .returned v ∧ K (a.put d v) w') ∨ (∃ c, e = .panicked c ∧ Q (.panic c) a w')) : wpOp P ops Q i K a w := by
  subst hd
  unfold wpOp
  simp only [hi, hg, if_true, Oper.wp, hrun, Oper.upon]
  refine .inl (h.mono ?_)
  rintro e w' (⟨v, rfl, h1⟩ | ⟨c, rfl, h1⟩)
  · exact h1
  · exact h1
theorem exec_store_mid {o : Oper} {a : Act} {w : World} (ty : TypeId) (x y : Operand) (ho : o.op = .store ty x y) (b off : Nat) (cells : Array Value) (hx : a.eval x = .pointer (some ⟨b, off, none⟩)) (hy : a.eval y = .agg cells)
    (ht : w.there b off cells.size) (hi : (P.info? ty).map (·.size) = some cells.size) (h1 : cells.all (·.oneCell') = true) : (execOp a.eval o).run P w = .ok .skip (w.setCells b off cells.toList) := by
  unfold execOp
  simp only [ho, hx, hy, Sem.run_bind, run_storeAt_mid w b off ty cells ht hi h1, Result.andThen_ok, Sem.run_pure]
theorem exec_alloc {o : Oper} {a : Act} {w : World} (ty : TypeId) (ho : o.op = .alloc ty) (i : TypeInfo) (C : List Value) (hi : P.info? ty = some i) (hz : i.zero = some (.agg C.toArray)) :
    (execOp a.eval o).run P w = .ok (.value (.pointer (some ⟨w.heap.size, 0, none⟩))) (w.alloc (.cells C.toArray ty)) := by
  have hrun : (Instr.alloc ty true (.tuple #[])).run P w = .ok (.pointer (some ⟨w.heap.size, 0, none⟩)) (w.alloc (.cells C.toArray ty)) := by
    simp [Instr.alloc, zeroValue, typeInfo, hi, hz, newVar, newRow, Value.cells]
  unfold execOp
  simp only [ho, Sem.run_bind, hrun, Sem.run_pure, Result.andThen_ok]
end
theorem put_none (a : Act) (v : Value) : Act.put a none v = a := rfl
end Go.Proofs.Pk

/- The reference of layer 16: Cut. -/
namespace Go.Proofs.Ytgcepbpdicadnaa
open Go.RowKit Go.Proofs Go.Proofs.Pk
set_option maxRecDepth 10000
attribute [local simp] mk_get wrap64_u8 mk_extract ByteArray.mk_append_mk get_1k

/-- What the reference's Cut answers: the list's own parts. -/
def RctE (w : World) (r : List (List MEnt) × Bool) (e : Ending) (w' : World) : Prop :=
  ∃ (ad : Option Addr) (cap : Nat), e = .returned (.tuple #[.slice ad r.1.length cap, .bool r.2]) ∧ LsE w' ad r.1.length r.1 ∧ Kept (fun _ => False) w w'
theorem RctE.mk' {w w' : World} {l : List (List MEnt)} {o : Bool} {ad : Option Addr} {n cap : Nat} (hn : l.length = n) (h : LsE w' ad n l) (hk : Kept (fun _ => False) w w') : RctE w (l, o) (.returned (.tuple #[.slice ad n cap, .bool o])) w' := by
  subst hn; exact ⟨ad, cap, rfl, h, hk⟩
theorem part_snoc {l : List MEnt} {f i : Nat} (hf : f ≤ i) (hi : i < l.length) : (l.drop f).take (i - f) ++ [l[i]] = (l.drop f).take (i + 1 - f) := by
  rw [show i + 1 - f = (i - f) + 1 from by omega, List.take_succ_eq_append_getElem (by rw [List.length_drop]; omega)]
  congr 2
  rw [List.getElem_drop]
  congr 1; omega
theorem part_len {l : List MEnt} {f i : Nat} (hf : f ≤ i) (hi : i ≤ l.length) : ((l.drop f).take (i - f)).length = i - f := by rw [List.length_take, List.length_drop]; omega

set_option maxHeartbeats 16000000 in
theorem rCut (w : World) (ad : Option Addr) (len cap : Nat) (l : List MEnt) (k : Int) (h : EntsW w ad len l) (hlm : len ≤ 1000) (hcap : len ≤ cap) (hk : FitN k) :
    Calls Try.prog 14 #[.slice ad len cap, .int .i64 k] w (RctE w (cutR l k)) := by
  obtain ⟨iL, hiL, hlz, hl1, hl2⟩ := info_parts lst_info
  have hlen := h.1
  have H := Lib.hid h
  have HI : Hid (OwnL w w none 0 0 [] ∧ cutP k.toNat l = [] ++ cutS k.toNat (l.drop 0) ((l.drop 0).take (0 - 0))) := ⟨OwnL.nil (Kept.refl _ w), by simp [cutP]⟩
  obtain ⟨w0, hw0⟩ : ∃ w0, w0 = w := ⟨_, rfl⟩
  rw [← hw0] at H HI ⊢
  clear h hw0
  unfold cutR
  by_cases hk1 : 1 ≤ k
  case neg =>
    rw [if_neg hk1]
    have hk' : k < 1 := by omega
    clear hk1 HI
    go_enter Try.func14, Try.ntmps14
    go_wp2
    go_ret2
    exact ⟨none, 0, rfl, ⟨rfl, .inl rfl⟩, Kept.refl _ _⟩
  rw [if_pos hk1]
  have hk' : ¬k < 1 := by omega
  obtain ⟨K1, hK1⟩ : ∃ K1 : Nat, Hid (k = (K1 : Int) ∧ k.toNat = K1) := ⟨k.toNat, by omega, rfl⟩
  rw [hK1.out.2] at HI ⊢
  clear hk1
  go_enter Try.func14, Try.ntmps14
  go_wp2
  go_loopw [6, 7, 8] (fun o f i wr => ∃ (j fr n : Nat) (ao : Option Addr) (co : Nat), (j ≤ len ∧ fr ≤ j ∧ n ≤ j) ∧ o = .slice ao n co ∧ f = .int .i64 (fr : Int) ∧ i = .int .i64 (j : Int) ∧ Hid (∃ O, OwnL w0 wr ao n co O ∧ cutP K1 l = O ++ cutS K1 (l.drop j) ((l.drop fr).take (j - fr)))) (fun _ _ i _ => len - (intOf i).toNat)
  case atStart => exact ⟨0, 0, 0, none, 0, ⟨Nat.zero_le _, Nat.le_refl _, Nat.le_refl _⟩, rfl, rfl, rfl, ⟨[], HI⟩⟩
  case round =>
    rename World => w9
    obtain ⟨j, fr, n, ao, co, ⟨hj, hf, hn⟩, rfl, rfl, rfl, hI⟩ := hrel
    clear HI
    obtain ⟨O, hO1, hO2⟩ := hI.out
    have j0 : (0 : Int) ≤ (j : Int) := by omega
    by_cases hlt : j < len
    case neg =>
      obtain rfl : j = len := by omega
      have jn : ¬(j : Int) < (j : Int) := by omega
      rw [List.drop_eq_nil_of_le (by omega)] at hO2
      have HV : Hid (RctE w0 (cutP K1 l, true) (.returned (.tuple #[.slice ao n co, .bool true])) w9) := by
        have h1 : cutP K1 l = O := by rw [hO2]; simp [cutS]
        rw [h1]
        exact RctE.mk' hO1.len hO1.lsE hO1.kept
      clear hI hO1 hO2
      go_wp2
      go_ret2
      exact HV.out
    have jn : (j : Int) < (len : Int) := by omega
    obtain ⟨q, hq⟩ : ∃ q, Hid (q = j + 1) := ⟨_, rfl⟩
    have hwj : IntKind.i64.wrap ((j : Int) + 1) = (q : Int) := by rw [hq.out, IntWalk.i64_in _ (by omega)]; omega
    have q0 : (0 : Int) ≤ (q : Int) := by omega
    obtain ⟨m, hm⟩ : ∃ m, Hid (m = len - 1) := ⟨_, rfl⟩
    have hwm : IntKind.i64.wrap ((len : Int) - 1) = (m : Int) := by rw [hm.out, IntWalk.i64_in _ (by omega)]; omega
    obtain ⟨d, hd⟩ : ∃ d, Hid (d = q - fr) := ⟨_, rfl⟩
    have hwd : IntKind.i64.wrap ((q : Int) - (fr : Int)) = (d : Int) := by have := hq.out; rw [hd.out, IntWalk.i64_in _ (by omega)]; omega
    have hjl : j < l.length := by omega
    obtain ⟨g0, off, rfl, hb, hat⟩ : ∃ g0 off, ad = some ⟨g0, off, none⟩ ∧ g0 < w0.heap.size ∧ ∀ (i : Nat) (hi : i < l.length) (W : World), Kept (fun _ => False) w0 W → W.rangeAt g0 (off + i * 4) (entC l[i]) := by
      rcases H.out.2 with h0 | ⟨b, off, h1, h2, h3⟩
      · rw [h0] at hjl; simp at hjl
      · exact ⟨b, off, h1, h2, fun i hi W hk k v hv => (hk.cell (p := ⟨b, off + i * 4 + k, none⟩) h2 (fun f => f)).trans ((h3 i hi).row k v hv)⟩
    have hdrop : l.drop j = l[j] :: l.drop q := by rw [hq.out]; exact List.drop_eq_getElem_cons hjl
    have hpart : (l.drop fr).take (j - fr) ++ [l[j]] = (l.drop fr).take (q - fr) := by rw [hq.out]; exact part_snoc hf hjl
    have hplen : ((l.drop fr).take (q - fr)).length = d := by rw [hd.out]; exact part_len (by have := hq.out; omega) (by have := hq.out; omega)
    have hce : (l[j] :: l.drop q) = l.drop j := hdrop.symm
    -- does the piece end here?
    obtain ⟨lb, hlb⟩ : ∃ lb : Bool, lb = endsB l[j] (l.drop q) := ⟨_, rfl⟩
    obtain ⟨eb, heb⟩ : ∃ eb : Bool, (eb = true ↔ endsB l[j] (l.drop q) = true ∧ (K1 ≤ ((l.drop fr).take (j - fr) ++ [l[j]]).length ∨ l.drop q = [])) := by
      by_cases h : endsB l[j] (l.drop q) = true ∧ (K1 ≤ ((l.drop fr).take (j - fr) ++ [l[j]]).length ∨ l.drop q = [])
      · exact ⟨true, fun _ => h, fun _ => rfl⟩
      · exact ⟨false, fun h' => (by cases h'), fun h' => absurd h' h⟩
    have hstep : cutS K1 (l.drop j) ((l.drop fr).take (j - fr)) = if eb = true then (l.drop fr).take (q - fr) :: cutS K1 (l.drop q) [] else cutS K1 (l.drop q) ((l.drop fr).take (q - fr)) := by
      rw [hdrop, cutS]
      by_cases h : eb = true
      · rw [if_pos (heb.1 h), if_pos h, hpart]
      · rw [if_neg (fun h' => h (heb.2 h')), if_neg h, hpart]
    rw [hpart, hplen] at heb
    have hnx : (m = j ∧ l.drop q = []) ∨ (((j : Int) == (m : Int)) = false ∧ (q : Int) < (len : Int) ∧ l.drop q ≠ [] ∧ ∃ yk : Txt, (∀ W, Kept (fun _ => False) w0 W → W.cell? ⟨g0, off + q * 4, none⟩ = some (.string ⟨yk.toArray⟩)) ∧ ((yk == (l[j]).1) = false ∧ lb = true ∨ yk = (l[j]).1 ∧ lb = false)) := by
      by_cases h1 : q = l.length
      · exact .inl ⟨by have := hm.out; have := hq.out; omega, List.drop_eq_nil_of_le (by omega)⟩
      · have h2 : q < l.length := by have := hq.out; omega
        have h3 : l.drop q = l[q] :: l.drop (q + 1) := List.drop_eq_getElem_cons h2
        refine .inr ⟨by rw [beq_eq_false_iff_ne]; have := hm.out; have := hq.out; omega, by omega, (fun h => by rw [h3] at h; cases h), (l[q]).1, fun W hW => hat q h2 W hW 0 _ rfl, ?_⟩
        rw [hlb, h3]
        unfold endsB
        by_cases h4 : (l[q]).1 = (l[j]).1
        · exact .inr ⟨h4, by simp [h4]⟩
        · exact .inl ⟨by simpa using h4, by simpa using h4⟩
    have hnil : m = j → lb = true := fun h => by
      have h1 : l.drop q = [] := List.drop_eq_nil_of_le (by have := hm.out; have := hq.out; omega)
      rw [hlb, h1]; rfl
    rw [← hlb] at heb
    have HXc : Hid (∀ W, Kept (fun _ => False) w0 W → W.cell? ⟨g0, off + j * 4, none⟩ = some (.string ⟨(l[j]).1.toArray⟩)) := fun W hW => hat j hjl W hW 0 _ rfl
    obtain ⟨xk, hxk⟩ : ∃ xk, xk = (l[j]).1 := ⟨_, rfl⟩
    rw [← hxk] at HXc hnx
    have HO : Hid (OwnL w0 w9 ao n co O) := hO1
    have HO2 := Lib.hid hO2
    have HSt := Lib.hid hstep
    have HEb := Lib.hid heb
    have HNx := Lib.hid hnx
    have HNil := Lib.hid hnil
    clear hI hO1 hO2 hat hdrop hpart hplen hce hlb heb hstep hnx hnil hxk
    go_upto_region 8 with fail
    go_cut [9] from 12 to 62 (fun s9 wx => s9 = .bool lb ∧ Hid (OwnL w0 wx ao n co O))
    case first =>
      have c0 := HXc.out w9 HO.out.kept
      have HOq : Hid (∀ z, OwnL w0 (w9.drewN z) ao n co O) := fun z => HO.out.keptK ((Kept.refl _ w9).drewN z)
      rcases HNx.out with ⟨hmj, _⟩ | ⟨hjm, hql, _, yk, hy, ⟨hyk, hlb⟩ | ⟨hyk, hlb⟩⟩
      · obtain rfl : lb = true := HNil.out hmj
        obtain rfl : m = j := hmj
        clear HNx HNil HSt HEb
        go_wp2
        go_quiet (fail)
        go_wp2
        go_meet
        case rel => exact ⟨rfl, HOq.out _⟩
      · subst hlb
        have y0 := hy w9 HO.out.kept
        clear HNx HNil HSt HEb hy
        go_wp2
        go_quiet (fail)
        go_wp2
        go_meet
        case rel => exact ⟨rfl, HOq.out _⟩
      · subst hlb
        have y0 := hy w9 HO.out.kept
        rw [hyk] at y0
        clear HNx HNil HSt HEb hy hyk
        go_wp2
        go_quiet (fail)
        go_wp2
        go_meet
        case rel => exact ⟨rfl, HOq.out _⟩
    case rest =>
    obtain ⟨rfl, HO3⟩ := hcut
    rename World => wa
    clear HO
    go_upto_region 9 with fail
    go_cut [52] from 12 to 62 (fun s52 wx => s52 = .bool eb ∧ wx = wa)
    case first =>
      clear HO3 HO2 HSt HXc
      cases lb with
      | false =>
        obtain rfl : eb = false := by rw [Bool.eq_false_iff]; intro h; cases (HEb.out.1 h).1
        clear HNx HNil HEb
        go_wp2
        go_meet
        case rel => exact ⟨rfl, rfl⟩
      | true =>
        by_cases hkd : k ≤ (d : Int)
        · obtain rfl : eb = true := HEb.out.2 ⟨rfl, .inl (by have := hK1.out.1; omega)⟩
          have hkd2 : decide (k ≤ (d : Int)) = true := decide_eq_true hkd
          clear HNx HNil HEb
          go_wp2
          go_meet
          case rel => exact ⟨rfl, rfl⟩
        · have hkd2 : decide (k ≤ (d : Int)) = false := decide_eq_false hkd
          have hkd3 : (d : Int) < k := by omega
          rcases HNx.out with ⟨hmj, hnl⟩ | ⟨hjm, _, hnl, _⟩
          · obtain rfl : eb = true := HEb.out.2 ⟨rfl, .inr hnl⟩
            obtain rfl : m = j := hmj
            clear HNx HNil HEb hnl hkd
            go_wp2
            go_meet
            case rel => exact ⟨rfl, rfl⟩
          · obtain rfl : eb = false := by
              rw [Bool.eq_false_iff]; intro h
              rcases (HEb.out.1 h).2 with h1 | h1
              · have := hK1.out.1; omega
              · exact hnl h1
            clear HNx HNil HEb hnl hkd
            go_wp2
            go_meet
            case rel => exact ⟨rfl, rfl⟩
    case rest =>
      obtain ⟨rfl, hwc⟩ := hcut
      rw [hwc]
      clear hwc HNx HNil HEb HXc
      cases eb with
      | false =>
        have HN : Hid (∃ O, OwnL w0 wa ao n co O ∧ cutP K1 l = O ++ cutS K1 (l.drop q) ((l.drop fr).take (q - fr))) := by
          refine ⟨O, HO3.out, ?_⟩
          rw [HO2.out, HSt.out, if_neg (by simp)]
        clear HO2 HO3 HSt
        go_wp2
        go_roundw
        case rel => exact ⟨q, fr, n, ao, co, ⟨by have := hq.out; omega, by have := hq.out; omega, by have := hq.out; omega⟩, rfl, rfl, rfl, HN⟩
        case measure => simp [intOf]; have := hq.out; omega
      | true =>
        obtain ⟨C, hC1, hC2⟩ := HO3.out.row
        have HC1 := Lib.hid hC1
        have HC2 := Lib.hid hC2
        have hfq : fr < q := by have := hq.out; omega
        have hE : EntsW w0 (some ⟨g0, off + fr * 4, none⟩) d ((l.drop fr).take (q - fr)) := by
          have h1 := H.out.part fr (q - fr) (by have := hq.out; omega)
          rw [hd.out]; exact h1
        have HE := Lib.hid hE
        have hfc : (fr : Int) ≤ (q : Int) := by omega
        have hqc : (q : Int) ≤ (cap : Int) := by have := hq.out; omega
        have hcf : ¬cap = fr := by have := hq.out; omega
        have hcf2 : ¬cap - fr = 0 := by have := hq.out; omega
        have hqd : q - fr = d := hd.out.symm
        have hIn : (l.drop fr).take (q - fr) = (l.drop fr).take d := by rw [hd.out]
        rw [hIn] at HSt HE
        clear hC1 hC2 hE hIn
        go_wp2_with (at_builtin; refine wpList_append_at _ rfl (.tmp 53) (.tmp 59) 35 rfl w0.heap.size 34 iL _ 1 24 Try.underlying35 hiL hlz hl1 hl2 (by rfl) (by decide) _ _ C rfl (HC1.out.alloc _) ⟨wa.heap.size, 0, none⟩ 1 1 [.slice (some ⟨g0, off + fr * 4, none⟩) d (cap - fr)] rfl (by rfl) ?d1 (by simp [Value.oneCell']) ?d3 ?d4 ?d5 (by omega) ?_)
        try (case d1 => intro m u hj; exact hj)
        case d3 => unfold maxLen; omega
        case d4 => omega
        case d5 => have := HO3.out.kept.size; omega
        intro v2 wB hown2 hgr2 hpl2
        obtain ⟨ad2, cap2, rfl, hON⟩ := HO3.out.grown HC1.out HC2.out ((Kept.refl _ wa).alloc _) (ents_keptK HE.out HO3.out.kept) (by omega) (fun h0 a ha e => by
          have e1 := (HC1.out.lt _ e).1
          have e2 := ents_lt HE.out h0 a ha
          omega) hown2 hgr2 (by rw [size_al]; exact hpl2)
        have HN : Hid (∃ O, OwnL w0 wB ad2 (n + 1) cap2 O ∧ cutP K1 l = O ++ cutS K1 (l.drop q) ((l.drop q).take (q - q))) := by
          refine ⟨_, hON, ?_⟩
          rw [HO2.out, HSt.out, if_pos (by trivial), Nat.sub_self, List.take_zero]
          simp
        clear hown2 hgr2 hpl2 hON HO2 HO3 HSt HC1 HC2 HE
        go_wp2
        go_roundw
        case rel => exact ⟨q, q, n + 1, ad2, cap2, ⟨by have := hq.out; omega, Nat.le_refl _, by have := hq.out; omega⟩, rfl, rfl, rfl, HN⟩
        case measure => simp [intOf]; have := hq.out; omega

end Go.Proofs.Ytgcepbpdicadnaa
