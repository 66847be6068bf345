/- The reference of layer 18: what Decode holds in memory on its way; its steps read one by one. -/
import Derived.Test.YtgjblcjoglaldaaRe18
import Derived.Test.YtgjblcjoglaldaaRefT
import Derived.Test.YtgjblcjoglaldaaAppend
import Derived.Laws.AppendOwnNone
namespace Go.Proofs.Ytgjblcjoglaldaa
open Go.RowKit Go.Proofs Go.Proofs.Pk
set_option maxRecDepth 10000

theorem step_info : (Try.prog.info? 43).map (fun i => (i.zero, i.size, i.bytes)) = some (some (.agg #[.int .i64 0, .int .i64 0]), 2, 16) := by kernel_rfl
theorem parts_ofD {P : Program} {t : TypeId} {z : Value} {s b : Nat} (h : (P.info? t).map (fun i => (i.zero, i.size, i.bytes)) = some (some z, s, b)) : ∃ i, P.info? t = some i ∧ i.zero = some z ∧ i.size = s ∧ i.bytes = b := by
  cases hi : P.info? t with
  | none => rw [hi] at h; cases h
  | some i =>
    rw [hi] at h
    simp only [Option.map_some, Option.some.injEq, Prod.mk.injEq] at h
    exact ⟨i, rfl, h.1, h.2.1, h.2.2⟩
theorem owns_steps {w : World} {B n : Nat} {v : Value} {T : List StV} (h : w.ownsRow B 43 2 v n (T.flatMap stC)) (hl : T.length = n) (hf : ∀ m ∈ T, FitSt m) :
    ∃ ad cap, v = .slice ad n cap ∧ StepsW w ad n T ∧ n ≤ cap ∧ FlatD ad ∧ (ad = none → n = 0 ∧ cap = 0) := by
  rcases h.2 with ⟨h1, h2⟩ | ⟨g, cap, cur, h1, h2, h3, h4, h5, h6, h7⟩
  · subst h2
    have : T = [] := List.length_eq_zero_iff.1 hl
    subst this
    exact ⟨none, 0, h1, ⟨rfl, .inl rfl⟩, Nat.le_refl _, .inl rfl, fun _ => ⟨rfl, rfl⟩⟩
  · refine ⟨some ⟨g, 0, none⟩, cap, h1, ⟨hl, .inr ⟨g, 0, rfl, World.ownsRow.lt h g (by rw [h1]; rfl) |>.2, fun i hi => ⟨fun j u hu => ?_, hf _ (List.getElem_mem hi)⟩⟩⟩, h4, .inr ⟨_, _, rfl⟩, fun h => by cases h⟩
    have := World.ownsRow.cells h (g := g) (by rw [h1]; rfl) (i * 2 + j) u (stepsC_get T i hi j u hu)
    rw [Addr.add_mid, ← Nat.add_assoc] at this
    exact this
theorem step_one (u : StV) : ∀ x ∈ stC u, x.oneCell' = true := by
  intro x hx
  simp only [stC, List.mem_cons, List.not_mem_nil, or_false] at hx
  rcases hx with rfl | rfl <;> rfl

/-- A definition in its box, its steps in a row of their own. -/
structure PL (W : World) (q : Nat) (nm : DTxt) (a : Option Addr) (k c : Nat) (T : List StV) : Prop where
  box : Holds W q [.string ⟨nm.toArray⟩, .slice a k c] 24
  own : W.ownsRow (q + 1) 43 2 (.slice a k c) k (T.flatMap stC)
  len : T.length = k
  fit : ∀ m ∈ T, FitSt m
section
variable {w W W' : World} {q r dz : Nat} {nm : DTxt} {a : Option Addr} {k c : Nat} {T : List StV}
theorem PL.new (w3 : World) (nm : DTxt) : PL (w3.alloc (.cells #[.string ⟨nm.toArray⟩, .slice none 0 0] 24)) w3.heap.size nm none 0 0 [] :=
  ⟨Holds.new w3 _ _, World.ownsRow_nil _ _ _ _, rfl, by simp⟩
theorem PL.quiet (h : PL W q nm a k c T) (hk : Kept (fun _ => False) W W') : PL W' q nm a k c T :=
  ⟨h.box.of_block (hk.block q h.box.lt (fun f => f)), owns_of_block h.own fun g hg => hk.block g (h.own.lt g hg).2 (fun f => f), h.len, h.fit⟩
theorem PL.add (h : PL W q nm a k c T) (x : StV) (hx : FitSt x) (hl : k ≤ 1048577) :
    ∃ a2 c2 W2, (Builtin.append_ #[22, 22] 22 #[.slice a k c, .slice (some ⟨W.heap.size, 0, none⟩) 1 1]).run Try.prog (W.alloc (.cells #[.int .i64 x.1, .int .i64 x.2] 43)) = .ok (.slice a2 (k + 1) c2) W2 ∧
      Holds W2 q [.string ⟨nm.toArray⟩, .slice a k c] 24 ∧
      PL (W2.setCell ⟨q, 1, none⟩ (.slice a2 (k + 1) c2)) q nm a2 (k + 1) c2 (T ++ [x]) ∧ Kept (fun z => q ≤ z) W (W2.setCell ⟨q, 1, none⟩ (.slice a2 (k + 1) c2)) := by
  have hq := h.box.lt
  obtain ⟨iT, hiT, hzT, hsT, hbT⟩ := parts_ofD step_info
  have hh := Holds.new W (stC x) 43
  have hsz : (W.alloc (.cells (stC x).toArray 43)).heap.size = W.heap.size + 1 := Array.size_push _
  obtain ⟨v', W2, h1, h2, h3, h4⟩ := run_append_at (P := Try.prog) (W.alloc (.cells (stC x).toArray 43)) (q + 1) 22 22 43 iT _ 2 16 Try.underlying22 hiT hzT hsT hbT rfl (by decide) (.slice a k c) k (T.flatMap stC) (h.own.alloc _) ⟨W.heap.size, 0, none⟩ 1 1 (stC x) rfl
    (fun j u hj => by rw [Addr.add_mid, Nat.zero_add]; exact hh.cell j u hj) (step_one x) (by unfold maxLen; omega) (by omega) (by omega) (by omega)
  have hv : ∃ a2 c2, v' = .slice a2 (k + 1) c2 := by
    rcases h2.2 with ⟨_, k2⟩ | ⟨g, cap, cur, k1, _⟩
    · omega
    · exact ⟨_, _, k1⟩
  obtain ⟨a2, c2, rfl⟩ := hv
  have h3' : Kept (fun z => (Value.slice a k c).ownBlock = some z) W W2 := kept_grown ((Kept.refl _ W).alloc _) h3 (fun b hb => .inl hb)
  have hb := h.box.of_block (h3'.block q hq (fun e => by have := (h.own.lt q e).1; omega))
  have hs := (Kept.refl (fun z => z = q) W2).setCell (p := ⟨q, 1, none⟩) rfl (.slice a2 (k + 1) c2)
  refine ⟨a2, c2, W2, h1, hb, ⟨hb.set 1 _, ?_, by rw [List.length_append, h.len]; rfl, fun m hm => ?_⟩, (h3'.mono fun z hz => by have := (h.own.lt z hz).1; omega).trans hs (fun z hz => .inl (by omega))⟩
  · have e : (T ++ [x]).flatMap stC = T.flatMap stC ++ stC x := by simp
    rw [e]
    exact owns_of_block h2 fun g hg => hs.block g (h2.lt g hg).2 (fun e => by have := (h2.lt g hg).1; omega)
  · rcases List.mem_append.1 hm with h | h'
    · rename_i h0; exact h0.fit m h
    · rw [List.mem_singleton] at h'; subst h'; exact hx
theorem PL.df (h : PL W q nm a k c T) (hk : k ≤ 1048577) (hn : nm.length ≤ 1048576) : DefW W a k c (nm, T) := by
  obtain ⟨a', c', he, h1, h2, h3, h4⟩ := owns_steps h.own h.len h.fit
  cases he
  exact ⟨h1, ⟨.inr h3, h2, by omega, h4⟩, by simp only; omega⟩
/-- The box of the result and that of no definition. -/
structure PD (w W : World) (r dz : Nat) : Prop where
  kept : Kept (fun _ => False) w W
  res : Holds W r [.string ⟨#[]⟩, .slice none 0 0] 24
  zer : Holds W dz [.string ⟨#[]⟩, .slice none 0 0] 24
  far : w.heap.size ≤ r
theorem PD.quiet (h : PD w W r dz) (k : Kept (fun _ => False) W W') : PD w W' r dz :=
  ⟨h.kept.trans k (fun _ f => f.elim), h.res.of_block (k.block r h.res.lt (fun f => f)), h.zer.of_block (k.block dz h.zer.lt (fun f => f)), h.far⟩
theorem PD.past (h : PD w W r dz) (k : Kept (fun z => q ≤ z) W W') (hr : r < q) (hz : dz < q) (hq : w.heap.size ≤ q) : PD w W' r dz :=
  ⟨h.kept.trans k (fun z hz => .inr (by omega)), h.res.of_block (k.block r h.res.lt (by omega)), h.zer.of_block (k.block dz h.zer.lt (by omega)), h.far⟩
theorem PD.new (w : World) : PD w ((w.alloc (.cells #[.string ⟨#[]⟩, .slice none 0 0] 24)).alloc (.cells #[.string ⟨#[]⟩, .slice none 0 0] 24)) w.heap.size (w.heap.size + 1) := by
  have h1 := Holds.new w [.string ⟨#[]⟩, .slice none 0 0] 24
  have e1 : (w.alloc (.cells #[.string ⟨#[]⟩, .slice none 0 0] 24)).heap.size = w.heap.size + 1 := Array.size_push _
  have h2 := Holds.new (w.alloc (.cells #[.string ⟨#[]⟩, .slice none 0 0] 24)) [.string ⟨#[]⟩, .slice none 0 0] 24
  rw [e1] at h2
  exact ⟨((Kept.refl _ w).alloc _).alloc _, h1.alloc _, h2, Nat.le_refl _⟩
end

set_option maxHeartbeats 2000000 in
/-- Decode returns what its result's box holds, and slot 3. -/
theorem dd_door {R : Ending → World → Prop} {W : World} {r : Nat} {nm : DTxt} {a : Option Addr} {k c : Nat} {bv : Value} (l : List Value) (hP : Holds W r [.string ⟨nm.toArray⟩, .slice a k c] 24)
    (h2 : l[2]? = some (.pointer (some ⟨r, 0, none⟩))) (h3 : l[3]? = some bv) (hR : R (.returned (.tuple #[defC nm a k c, bv])) W) : bodyPost Try.prog Try.f17 R Exit.ret { tmps := l.toArray, defers := [] } W := by
  have d0 := Holds.cell hP 0 _ rfl
  have d1 := Holds.cell hP 1 _ rfl
  refine bodyPost_ret (v := .tuple #[defC nm a k c, bv]) ?_ rfl hR
  rw [results_cell_tmp rfl]
  have e2 : l.toArray.getD 2 undef = .pointer (some ⟨r, 0, none⟩) := by simp [Array.getD_eq_getD_getElem?, h2]
  have e3 : l.toArray.getD 3 undef = bv := by simp [Array.getD_eq_getD_getElem?, h3]
  show ((asAddr (l.toArray.getD 2 undef)).run _ _).andThen _ = _
  rw [e2, e3]
  go_simp
  rfl
/-- What the reference's Decode answers. -/
def RdE18 (w : World) (r : DefV × Bool) (e : Ending) (w' : World) : Prop :=
  ∃ (ad : Option Addr) (len cap : Nat), e = .returned (.tuple #[defC r.1.1 ad len cap, .bool r.2]) ∧ DefW w' ad len cap r.1 ∧ Kept (fun _ => False) w w'
theorem dd_no {w W : World} {l : List Value} {r dz : Nat} {o : DefV × Bool} (ho : o = (zeroD, false)) (h : PD w W r dz) (h2 : l[2]? = some (.pointer (some ⟨r, 0, none⟩))) (h3 : l[3]? = some (.bool false)) :
    bodyPost Try.prog Try.f17 (RdE18 w o) Exit.ret { tmps := l.toArray, defers := [] } ((W.setCell ⟨r, 0, none⟩ (.string ⟨#[]⟩)).setCell ⟨r, 1, none⟩ (.slice none 0 0)) := by
  subst ho
  have hk : Kept (fun _ => False) w ((W.setCell ⟨r, 0, none⟩ (.string ⟨#[]⟩)).setCell ⟨r, 1, none⟩ (.slice none 0 0)) := (h.kept.setNew (p := ⟨r, 0, none⟩) h.far _).setNew (p := ⟨r, 1, none⟩) h.far _
  exact dd_door (nm := []) l ((Holds.set h.res 0 (.string ⟨#[]⟩)).set 1 (.slice none 0 0)) h2 h3 ⟨none, 0, 0, rfl, ⟨(steps_none _).1, (steps_none W).2, by simp [zeroD]⟩, hk⟩
theorem dd_yes {w W : World} {l : List Value} {r dz q : Nat} {nm : DTxt} {a : Option Addr} {k c : Nat} {T : List StV} {o : DefV × Bool} (ho : o = ((nm, T), true)) (h : PD w W r dz) (hp : PL W q nm a k c T) (hr : r < q) (hk : k ≤ 1048577) (hn : nm.length ≤ 1048576)
    (h2 : l[2]? = some (.pointer (some ⟨r, 0, none⟩))) (h3 : l[3]? = some (.bool true)) :
    bodyPost Try.prog Try.f17 (RdE18 w o) Exit.ret { tmps := l.toArray, defers := [] } ((W.setCell ⟨r, 0, none⟩ (.string ⟨nm.toArray⟩)).setCell ⟨r, 1, none⟩ (.slice a k c)) := by
  subst ho
  have hks : Kept (fun z => z = r) W ((W.setCell ⟨r, 0, none⟩ (.string ⟨nm.toArray⟩)).setCell ⟨r, 1, none⟩ (.slice a k c)) :=
    ((Kept.refl (fun z => z = r) W).setCell (p := ⟨r, 0, none⟩) rfl _).setCell (p := ⟨r, 1, none⟩) rfl _
  have hf := h.far
  have hd := hp.df hk hn
  refine dd_door l ((Holds.set h.res 0 (.string ⟨nm.toArray⟩)).set 1 (.slice a k c)) h2 h3 ⟨a, k, c, rfl, ⟨steps_keptX hd.1 hks fun b off sp hb hz => ?_, hd.2⟩, h.kept.trans hks (fun z hz => .inr (by omega))⟩
  rcases hp.own.2 with ⟨e1, _⟩ | ⟨g, _, _, e1, e2, _⟩
  · injection e1 with e1; rw [e1] at hb; cases hb
  · injection e1 with e1
    rw [e1] at hb
    injection hb with hb
    injection hb with hb
    omega

/-! Step by step. -/
theorem num_eatsD (b : DTxt) (h : (rdNum b).2.2 = 0) : (rdNum b).2.1.length + 1 ≤ b.length := by
  have e := rdNum_back b h
  have := congrArg List.length e
  rw [List.length_append, numL_length] at this
  omega
theorem rdTxt_fstD (b : DTxt) : (rdTxt b).1.length ≤ 1048576 := by
  unfold rdTxt
  split
  · simp
  · split
    · simp
    · split
      · simp
      · rename_i h _; unfold MaxT at h; simp; omega
def GoesS (n : Nat) (b : DTxt) (k : Nat) (T : List StV) (s : DTxt) : Prop :=
  k ≤ n ∧ rdSteps n b = (rdSteps (n - k) s).map (fun p => (T ++ p.1, p.2)) ∧ s.length + 2 * k ≤ b.length
theorem GoesS.start (n : Nat) (b : DTxt) : GoesS n b 0 [] b := ⟨Nat.zero_le _, by cases rdSteps n b <;> simp, by omega⟩
theorem GoesS.done {n k : Nat} {b s : DTxt} {T : List StV} (h : GoesS n b k T s) (hk : k = n) : rdSteps n b = some (T, s) := by
  subst hk
  rw [h.2.1, Nat.sub_self]; simp [rdSteps]
theorem GoesS.no1 {n k : Nat} {b s : DTxt} {T : List StV} (h : GoesS n b k T s) (hk : k < n) (h1 : (rdNum s).2.2 ≠ 0) : rdSteps n b = none := by
  rw [h.2.1, show n - k = (n - (k + 1)) + 1 from by omega]
  simp [rdSteps, rdStep, h1]
theorem GoesS.no2 {n k : Nat} {b s : DTxt} {T : List StV} (h : GoesS n b k T s) (hk : k < n) (h2 : (rdNum (rdNum s).2.1).2.2 ≠ 0) : rdSteps n b = none := by
  rw [h.2.1, show n - k = (n - (k + 1)) + 1 from by omega]
  simp [rdSteps, rdStep, h2]
theorem GoesS.step {n k : Nat} {b s : DTxt} {T : List StV} (h : GoesS n b k T s) (hk : k < n) (h1 : (rdNum s).2.2 = 0) (h2 : (rdNum (rdNum s).2.1).2.2 = 0) :
    GoesS n b (k + 1) (T ++ [(((rdNum s).1 : Int), ((rdNum (rdNum s).2.1).1 : Int))]) (rdNum (rdNum s).2.1).2.1 := by
  refine ⟨hk, ?_, ?_⟩
  · rw [h.2.1, show n - k = (n - (k + 1)) + 1 from by omega]
    simp only [rdSteps, rdStep, h1, h2, ne_eq, not_true_eq_false, if_false]
    cases rdSteps (n - (k + 1)) (rdNum (rdNum s).2.1).2.1 <;> simp
  · have e1 := num_eatsD _ h1
    have e2 := num_eatsD _ h2
    have := h.2.2
    omega
theorem decD_txt {b : DTxt} (h : (rdTxt b).2.2 ≠ 0) : decD b = (zeroD, false) := by unfold decD rdDef; rw [if_pos h]
theorem decD_num {b : DTxt} (h0 : (rdTxt b).2.2 = 0) (h : (rdNum (rdTxt b).2.1).2.2 ≠ 0) : decD b = (zeroD, false) := by
  unfold decD rdDef
  rw [if_neg (by rw [h0]; simp), if_pos h]
theorem decD_steps {b : DTxt} (h0 : (rdTxt b).2.2 = 0) (h : (rdNum (rdTxt b).2.1).2.2 = 0) (hs : rdSteps (rdNum (rdTxt b).2.1).1 (rdNum (rdTxt b).2.1).2.1 = none) : decD b = (zeroD, false) := by
  unfold decD rdDef
  rw [if_neg (by rw [h0]; simp), if_neg (by rw [h]; simp), hs]; rfl
theorem decD_end {b : DTxt} (h0 : (rdTxt b).2.2 = 0) (h : (rdNum (rdTxt b).2.1).2.2 = 0) {T : List StV} {s : DTxt} (hs : rdSteps (rdNum (rdTxt b).2.1).1 (rdNum (rdTxt b).2.1).2.1 = some (T, s)) :
    decD b = if encD ((rdTxt b).1, T) = (b, true) then (((rdTxt b).1, T), true) else (zeroD, false) := by
  unfold decD rdDef
  rw [if_neg (by rw [h0]; simp), if_neg (by rw [h]; simp), hs]; rfl
end Go.Proofs.Ytgjblcjoglaldaa
