/- Rnd, Bx15, Pa15, Ob15. -/
import Derived.Test.YthkejfhcdodggaaJ09
import Derived.OrdersIn
import Derived.TacticsIn
import Derived.RangeFuncCalls
import Derived.Test.YthkejfhcdodggaaBy15
import Derived.Test.YthkejfhcdodggaaUn15
import Derived.Test.YthkejfhcdodggaaJ13
import Derived.Test.YthkejfhcdodggaaJ05

/- A region that draws its order, in the body of a loop over a function: from what is known of it outside. No program. -/
namespace Go.Proofs.Pk
section
variable {P : Program} {ops : Array Oper} {Q : Exit → Act → World → Prop} {md : Region.Mode} {n l : Nat}

/-- The way on, and no other. -/
def OnlyN (K : Act → World → Prop) : Exit → Act → World → Prop
  | .normal, a, w => K a w
  | _, _, _ => False
theorem only_out (K : Act → World → Prop) : ¬LetsOut (OnlyN K) := fun ⟨_, _, h⟩ => h

theorem op_round {o : Oper} {a : Act} {w : World} {K K' : Act → World → Prop} (hd : ∀ c, o.op ≠ .defer c) (hK : ∀ a w, K a w → K' a w) (h : o.wp P a w K (OnlyN (Q .normal))) : o.wpIn (Fence.wide.inRound l) n P a w K' Q := by
  refine ⟨fun _ _ => trivial, ?_⟩
  rw [Fence.inRound_round, Oper.semAt_some l a.eval o hd]
  unfold Oper.wp at h
  generalize (execOp a.eval o).run P w = r at h ⊢
  cases r with
  | ok x w' =>
    cases x with
    | value v => exact hK _ _ h
    | skip => exact hK _ _ h
    | defer d => exact hK _ _ h
    | enter f args =>
      refine ⟨fun hh => (by cases hh), CallsIn.inRound l ((callsIn_wide.2 h).mono ?_)⟩
      intro e w'' he
      cases e with
      | returned v => exact hK _ _ he
      | panicked ch => exact he.elim
      | outgrown => exact (only_out _ he).elim
    | row row args =>
      refine ⟨fun hh => (by cases hh), fun c cs _ => ?_⟩
      obtain ⟨v, w'', he, hs⟩ := h c cs
      exact ⟨v, w'', hK _ _ he, stepsIn_wide.2 hs⟩
    | _ => exact h.elim
  | halt x w' => cases x <;> exact h.elim

/-- No statement of defer in the region. -/
def tameB (ops : Array Oper) : Bool := ops.toList.all fun o => match o.op with
  | .defer _ => false
  | _ => true
theorem tame_defer (h : tameB ops = true) {i : Nat} {o : Oper} (hi : ops[i]? = some o) : ∀ c, o.op ≠ .defer c := fun c e => by
  have := List.all_eq_true.1 h o (by rw [Array.mem_toList_iff]; exact Array.mem_of_getElem? hi)
  simp [e] at this

theorem any_round (hd : tameB ops = true) : ∀ (fuel : Nat) (listed : Array Bool) (a : Act) (w : World), wpAny P md ops (OnlyN (Q .normal)) fuel listed a w → wpAnyIn (Fence.wide.inRound l) n P md ops Q fuel listed a w
  | 0, _, _, _, h => h
  | fuel + 1, listed, a, w, h => by
    refine ⟨h.1, fun i hi => ?_⟩
    have h2 := h.2 i hi
    unfold wpOp at h2
    unfold wpOpIn
    split
    · rename_i hn
      simp only [hn] at h2
      exact any_round hd fuel _ _ _ h2
    · rename_i o ho
      simp only [ho] at h2
      split
      · rename_i hw
        simp only [hw, if_true] at h2
        rcases h2 with h2 | h2
        · exact op_round (tame_defer hd ho) (fun a' w' h3 => any_round hd fuel _ _ _ h3) h2
        · exact (only_out _ h2.2).elim
      · rename_i hw
        simp only [hw] at h2
        exact ⟨fun _ _ => trivial, any_round hd fuel _ _ _ h2⟩

/-- The region in a round, from what is known of it in whatever order. -/
theorem region_round {id : Nat} {a : Act} {w : World} (hm : P.follows .mixedOrders = true) (hd : tameB ops = true)
    (h : wpAny P .any ops (OnlyN (Q .normal)) ops.size (Array.replicate ops.size false) a w.drew) : (Code.region id ops true).wpIn (Fence.wide.inRound l) n P Q a w :=
  wpIn_region_any hm (any_round hd _ _ _ _ h)
/-- Reads first, in whatever order; the last operations one behind the other. -/
theorem still_round {id : Nat} {a : Act} {w : World} {os : List Oper} (k : Nat) (hm : P.follows .mixedOrders = true) (hB : Region.lexTailB .any os.toArray k = true) (hd : tameB os.toArray = true)
    (h : wpStill P os.toArray w.drew (fun a' => wpList P os.toArray (OnlyN (Q .normal)) (os.drop k) a' w.drew) (os.take k) a) : (Code.region id os.toArray true).wpIn (Fence.wide.inRound l) n P Q a w := by
  refine region_round hm hd ?_
  simp only [Region.lexTailB, Bool.and_eq_true, decide_eq_true_eq] at hB
  obtain ⟨⟨⟨⟨b1, b2⟩, b3⟩, b4⟩, b5⟩ := hB
  have hk : k < os.length := by simpa using b2
  have ht : (os.take k).length = k := by simp; omega
  have hl : (os.drop k).length = os.toArray.size - k := by simp
  have H := wpAnyL_lex (md := .any) (g := os.toArray.size - k) b1 b3 b4 b2 (os.take k) 0 (Array.replicate os.toArray.size false) a
    (fun j hj => by rw [ht] at hj; simp [hj]) (by simpa using ht) ⟨by simp, fun j oj _ hf => (by rw [getD_replicate_false] at hf; cases hf), fun t _ hs => getD_in (by simpa using hs) (getD_replicate_false _ _)⟩ (by rw [ht]; exact b5) h
  have H2 := wpAny_of_head (Q' := OnlyN (Q .normal)) (g := os.toArray.size - k) (fun listed a' hL => by
    have e := wpAny_of_seq (md := .any) (Q' := OnlyN (Q .normal)) (os.drop k) k listed a' w.drew (fun j => by simp [List.getElem?_drop]) (by rw [hl]; exact hL.1) hL.2
    rwa [hl] at e) _ _ _ H
  rw [ht, show k + (os.toArray.size - k) = os.toArray.size from by omega] at H2
  exact H2
theorem region_round_until {id : Nat} {a : Act} {w : World} (S : World → Prop) (z : Nat) (hm : P.follows .mixedOrders = true) (hd : tameB ops = true)
    (h : wpAnyU P .any ops (OnlyN (Q .normal)) S z ops.size (Array.replicate ops.size false) a w.drew) : (Code.region id ops true).wpIn (Fence.wide.inRound l) n P Q a w :=
  region_round hm hd (wpAny_of_until _ _ _ _ h)
end
end Go.Proofs.Pk

/- A list that grows in a box, written to in the rounds of a loop over a function: what holds between two rounds. -/
namespace Go.Proofs.Ythkejfhcdodggaa
open Go.RowKit Go.Shelf Go.Proofs Go.Proofs.Pk
set_option maxRecDepth 10000

/-- The list so far in its box, all else as it was when the loop began. -/
def SeeI (w4 : World) (ob : Nat) (O : List MEnt) (W : World) : Prop :=
  Kept (fun k => k = ob) w4 W ∧ ∃ (ao : Option Addr) (n co : Nat), OutG w4.heap.size W ao n co O ∧ Holds W ob [.slice ao n co] 24
theorem SeeI.start {w4 : World} {ob : Nat} (h : Holds w4 ob [.slice none 0 0] 24) : SeeI w4 ob [] w4 := ⟨Kept.refl _ _, none, 0, 0, OutG.nil _ _, h⟩
theorem seeI_own {α : Type} {w4 : World} {ob : Nat} (F : List α → List MEnt) : OwnFrom w4.heap.size (fun (pre : List α) W => SeeI w4 ob (F pre) W) := by
  intro s W W' row hs hg hr
  obtain ⟨hk, ao, n, co, hO, hH⟩ := hs
  have hb : ∀ (g : Nat) (o : Obj), W.heap[g]? = some o → o.isCells = true → W'.heap[g]? = W.heap[g]? := fun g o h1 h2 => hg.block g (Array.getElem?_eq_some_iff.1 h1).1 (fun e => by
    obtain ⟨_, o', h3, h4⟩ := hr g e.symm
    rw [h1] at h3; cases h3; rw [h2] at h4; cases h4)
  exact ⟨kept_grown hk hg (fun b e => .inr (hr b e).1), ao, n, co, hO.of_block (fun g h => by obtain ⟨_, cur, hc⟩ := hO.cells g h; exact hb g _ hc rfl), hH.of_block (hb ob _ hH rfl)⟩
theorem SeeI.kept {w4 W W' : World} {ob : Nat} {O : List MEnt} (h : SeeI w4 ob O W) (hk : Kept (fun _ => False) W W') : SeeI w4 ob O W' := by
  obtain ⟨h1, ao, n, co, hO, hH⟩ := h
  exact ⟨h1.trans hk (fun _ f => f.elim), ao, n, co, hO.of_block (fun g hg => hk.block g (by obtain ⟨_, cur, hc⟩ := hO.cells g hg; exact (Array.getElem?_eq_some_iff.1 hc).1) (fun f => f)), hH.of_block (hk.block ob hH.lt (fun f => f))⟩
theorem SeeI.box {w4 W : World} {ob k : Nat} {O : List MEnt} {C : List Value} {e : TypeId} (h : SeeI w4 ob O W) (hH : Holds w4 k C e) (hk : k ≠ ob) : Holds W k C e := hH.of_block (h.1.block k hH.lt hk)
theorem SeeI.ents {w4 W : World} {ob : Nat} {O : List MEnt} {ad : Option Addr} {len : Nat} {l : List MEnt} (h : SeeI w4 ob O W) (he : EntsW w4 ad len l) (hb : l ≠ [] → ∀ a, ad = some a → a.block ≠ ob) : EntsW W ad len l := ents_keptX he h.1 hb
theorem keeps_kept {X : Nat → Prop} {W W' : World} (h : Kept X W W') (hX : ∀ k, X k → ∃ o : Obj, W.heap[k]? = some o ∧ o.isCells = true) : KeepsOthers W W' := by
  refine ⟨h.size, fun k o hk ho => (h.block k (Array.getElem?_eq_some_iff.1 hk).1 (fun hx => ?_)).trans hk⟩
  obtain ⟨o', h1, h2⟩ := hX k hx
  rw [hk] at h1; cases h1; rw [ho] at h2; cases h2
/-- Something put behind the list, and the list laid back into its box. -/
theorem SeeI.put {w4 wx wy wB : World} {ob : Nat} {O L : List MEnt} {ao ad2 : Option Addr} {n m co cap2 : Nat} (hob : ob < w4.heap.size) (hk : Kept (fun k => k = ob) w4 wx) (hO : OutG w4.heap.size wx ao n co O) (hH : Holds wx ob [.slice ao n co] 24)
    (hy : Kept (fun _ => False) wx wy) (h2 : OutG w4.heap.size wB ad2 (n + m) cap2 (O ++ L)) (hg : wy.grownBy wB (Value.slice ao n co).ownBlock) :
    SeeI w4 ob (O ++ L) (wB.setCell ⟨ob, 0, none⟩ (.slice ad2 (n + m) cap2)) ∧ KeepsOthers wx (wB.setCell ⟨ob, 0, none⟩ (.slice ad2 (n + m) cap2)) := by
  have hHy := hH.of_block (hy.block ob hH.lt (fun f => f))
  have hHB : Holds wB ob [.slice ao n co] 24 := hHy.of_block (hg.block ob hHy.lt (fun e => by have := (hO.cells ob e.symm).1; omega))
  refine ⟨⟨?_, ad2, n + m, cap2, h2.of_block (fun g hgg => Below.heap_setCell _ _ _ _ (by have := (h2.cells g hgg).1; show g ≠ ob; omega)), ?_⟩, ?_⟩
  · exact (kept_grown (hk.trans hy (fun _ f => f.elim)) hg (fun b hb => .inr (hO.cells b hb).1)).setCell (p := ⟨ob, 0, none⟩) rfl _
  · simpa using hHB.set 0 (.slice ad2 (n + m) cap2)
  · refine ((keeps_kept hy (fun _ f => f.elim)).trans (KeepsOthers.of_grownBy hg fun j o hj ho => ?_)).trans (KeepsOthers.setCell _ _ _)
    obtain ⟨_, cur, hc⟩ := hO.cells j hj
    rw [hy.block j (Array.getElem?_eq_some_iff.1 hc).1 (fun f => f), hc] at ho
    cases ho; rfl
theorem SeeI.kp {w4 W W' : World} {ob : Nat} {O O' : List MEnt} {T : Nat → Prop} (h : SeeI w4 ob O W) (h' : SeeI w4 ob O' W') (hT : ∀ k, T k → k < w4.heap.size ∧ k ≠ ob) : KpT T W W' := fun k hk =>
  (h'.1.block k (hT k hk).1 (hT k hk).2).trans (h.1.block k (hT k hk).1 (hT k hk).2).symm
/-- A run of the list, in whatever world has the list. -/
theorem run_ents {W : World} {b off len : Nat} {l : List MEnt} (h : EntsW W (some ⟨b, off, none⟩) len l) {a e : Nat} (hae : a < e) (hel : e ≤ len) : EntsW W (some ⟨b, off + a * 4, none⟩) (e - a) (cutR l (a, e)) := h.part a (e - a) (by omega)

end Go.Proofs.Ythkejfhcdodggaa

/- The program of layer 15: the function that goes through lists two by two. -/
namespace Go.Proofs.Ythkejfhcdodggaa
open Go.RowKit Go.Shelf Go.Proofs Go.Proofs.Pk
set_option maxRecDepth 10000
attribute [local simp] mk_get wrap64_u8 mk_extract ByteArray.mk_append_mk

set_option maxHeartbeats 1000000 in
theorem pPairs (ad : Option Addr) (len cap : Nat) (w : World) :
    Calls Try.prog 25 #[.slice ad len cap] w fun e w' => e = .returned (.func (.func 38) #[] #[.pointer (some ⟨w.heap.size, 0, none⟩)]) ∧ w' = w.alloc (.cells #[.slice ad len cap] 22) := by
  go_enter Try.func25, Try.ntmps25
  go_wp2
  go_ret
  exact ⟨rfl, rfl⟩

/-- The blocks that the iterator reads: its box, the list of lists. -/
def TwoT (Bn : Nat) (ad : Option Addr) (len : Nat) (k : Nat) : Prop := k = Bn ∨ (0 < len ∧ ∃ a, ad = some a ∧ k = a.block)
/-- What the iterator reads: its box, the headers of the lists. -/
structure TwoF (W : World) (Bn : Nat) (ad : Option Addr) (len cap : Nat) (hv : Nat → Value) : Prop where
  box : W.cell? ⟨Bn, 0, none⟩ = some (.slice ad len cap)
  heads : 0 < len → ∃ b off, ad = some ⟨b, off, none⟩ ∧ b < W.heap.size ∧ ∀ i, i < len → W.cell? ⟨b, off + i, none⟩ = some (hv i)
theorem TwoF.at {W W' : World} {Bn : Nat} {ad : Option Addr} {len cap : Nat} {hv : Nat → Value} (h : TwoF W Bn ad len cap hv) (hk : KpT (TwoT Bn ad len) W W') : TwoF W' Bn ad len cap hv := by
  refine ⟨(World.cell?_of_block (a := ⟨Bn, 0, none⟩) (hk Bn (.inl rfl))).trans h.box, fun h0 => ?_⟩
  obtain ⟨b, off, h1, h2, h3⟩ := h.heads h0
  have hB := hk b (.inr ⟨h0, _, h1, rfl⟩)
  exact ⟨b, off, h1, size_of hB h2, fun i hi => (World.cell?_of_block (a := ⟨b, off + i, none⟩) hB).trans (h3 i hi)⟩
theorem TwoF.lt {w : World} {Bn : Nat} {ad : Option Addr} {len cap : Nat} {hv : Nat → Value} (h : TwoF w Bn ad len cap hv) (hB : Bn < w.heap.size) : ∀ k, TwoT Bn ad len k → k < w.heap.size := by
  rintro k (rfl | ⟨h0, a, ha, rfl⟩)
  · exact hB
  · obtain ⟨b, off, h1, h2, _⟩ := h.heads h0
    rw [h1] at ha; cases ha; exact h2

/-- A pair's number. -/
abbrev TwoP (len : Nat) : Type := { k : Nat // 2 * k < len }
/-- The second one of a pair: none, if it is left over. -/
def twoB (hv : Nat → Value) (len k : Nat) : Value := if 2 * k + 1 < len then hv (2 * k + 1) else .slice none 0 0

attribute [local go_sem] Oper.semAt_some
set_option maxHeartbeats 4000000 in
theorem two1_in (n : Nat) (hn : 1 ≤ n) (y Bn : Nat) (ad : Option Addr) (len cap : Nat) (hv : Nat → Value) (hl : (len : Int) ≤ 1000000) (J Jx : List (TwoP len) → World → Prop)
    (hY : ∀ pre x W, J pre W → pre.length < len → YieldAt Fence.wide (n - 1) Try.prog y #[hv (2 * x.1), twoB hv len x.1] W fun e W' =>
      (e = .returned (.bool true) ∧ J (pre ++ [x]) W' ∧ KpT (TwoT Bn ad len) W W') ∨ (e = .returned (.bool false) ∧ Jx (pre ++ [x]) W'))
    (W : World) (hF : TwoF W Bn ad len cap hv) (h0 : J [] W) :
    CallsIn Fence.wide n Try.prog 38 #[.func (.yield y) #[] #[], .pointer (some ⟨Bn, 0, none⟩)] W fun e W' => (∃ v, e = .returned v) ∧
      ((∃ ys : List (TwoP len), ys.map (·.1) = List.range ((len + 1) / 2) ∧ J ys W') ∨ (∃ pre, True ∧ Jx pre W')) := by
  have HF := Lib.hid hF
  have HY := Lib.hid hY
  clear hF hY
  refine callsIn_of_wp Try.func38 rfl trivial ?_ rfl
  simp only [Try.ntmps38, List.size_toArray, List.length_cons, List.length_nil, Nat.reduceAdd, Nat.reduceSub, Array.replicate_succ, Array.replicate_zero, List.push_toArray, List.append_toArray, List.nil_append, List.cons_append]
  gi_wp2
  gi_loopw [3] (fun a wr => ∃ (k i : Nat) (pre : List (TwoP len)), i ≤ len + 1 ∧ a = .int .i64 (i : Int) ∧ Hid (i = 2 * k ∧ pre.map (·.1) = List.range k) ∧ Hid (J pre wr) ∧ Hid (KpT (TwoT Bn ad len) W wr)) (fun a _ => len + 1 - (intOf a).toNat)
  case atStart => exact ⟨0, 0, [], Nat.zero_le _, rfl, ⟨rfl, rfl⟩, h0, KpT.refl _ _⟩
  case round =>
    obtain ⟨k, i, pre, hil, rfl, hX, hJ, hK⟩ := hrel
    clear h0
    have i0 : (0 : Int) ≤ (i : Int) := by omega
    have hFx := HF.out.at hK.out
    have hb := hFx.box
    by_cases hlt : i < len
    case neg =>
      have sn : ¬(i : Int) < (len : Int) := by omega
      have hk : pre.map (·.1) = List.range ((len + 1) / 2) := by
        rw [hX.out.2]
        congr 1
        have := hX.out.1
        omega
      clear hFx
      gi_wp2
      go_end0
      exact ⟨⟨_, rfl⟩, .inl ⟨pre, hk, hJ.out⟩⟩
    have sn : (i : Int) < (len : Int) := by omega
    obtain ⟨b, off, rfl, hbl, hat⟩ := hFx.heads (by omega)
    have c0 := hat i hlt
    have hwi : IntKind.i64.wrap ((i : Int) + 1) = (i : Int) + 1 := IntWalk.i64_in _ (by omega)
    have hwi2 : IntKind.i64.wrap ((i : Int) + 2) = (i : Int) + 2 := IntWalk.i64_in _ (by omega)
    have hi1 : (0 : Int) ≤ (i : Int) + 1 := by omega
    have hx2 : 2 * k < len := by have := hX.out.1; omega
    have hpl : pre.length = k := by have := congrArg List.length hX.out.2; simpa using this
    obtain ⟨fn, tmps, assign, body, hy, hR⟩ := HY.out pre ⟨k, hx2⟩ wr hJ.out (by omega)
    simp only at hy
    rw [← hX.out.1] at hy
    have HR := Lib.hid hR
    have HX2 : Hid (i + 2 = 2 * (k + 1) ∧ (pre ++ [(⟨k, hx2⟩ : TwoP len)]).map (fun x => x.1) = List.range (k + 1)) := ⟨by have := hX.out.1; omega, by rw [List.map_append, hX.out.2, List.range_succ]; rfl⟩
    have hi2 : i + 2 ≤ len + 1 := by omega
    clear hR hpl hFx hJ
    by_cases hlt2 : i + 1 < len
    case pos =>
      have sn2 : (i : Int) + 1 < (len : Int) := by omega
      have c1 := hat (i + 1) hlt2
      have hv2 : twoB hv len k = hv (i + 1) := by unfold twoB; rw [← hX.out.1, if_pos hlt2]
      rw [hv2] at hy
      have hto : ((i : Int) + 1).toNat = i + 1 := by omega
      have c1' : wr.cell? ⟨b, off + ((i : Int) + 1).toNat, none⟩ = some (hv (i + 1)) := by rw [hto]; exact c1
      clear hv2 hX hat
      gi_wp2
      refine HR.out.mono ?_
      rintro r W3 (⟨rfl, hJ3, hk3⟩ | ⟨rfl, hJx3⟩)
      · have HN : Hid (J (pre ++ [⟨k, hx2⟩]) W3) := hJ3
        have HKN : Hid (KpT (TwoT Bn (some ⟨b, off, none⟩) len) W W3) := hK.out.trans hk3
        clear hJ3 hk3 HR hy hb
        gi_wp2
        go_roundw
        case rel => exact ⟨k + 1, i + 2, _, hi2, by first | rfl | go_num, HX2, HN, HKN⟩
        case measure => simp [intOf]; omega
      · have HN : Hid (Jx (pre ++ [⟨k, hx2⟩]) W3) := hJx3
        clear hJx3 HR hy hb
        gi_wp2
        refine bodyPost_ret (results_none rfl _ _ _) rfl ?_
        exact ⟨⟨_, rfl⟩, .inr ⟨_, trivial, HN.out⟩⟩
    have sn2 : ¬(i : Int) + 1 < (len : Int) := by omega
    have hv2 : twoB hv len k = .slice none 0 0 := by unfold twoB; rw [← hX.out.1, if_neg hlt2]
    rw [hv2] at hy
    clear hv2 hX hat
    gi_wp2
    refine HR.out.mono ?_
    rintro r W3 (⟨rfl, hJ3, hk3⟩ | ⟨rfl, hJx3⟩)
    · have HN : Hid (J (pre ++ [⟨k, hx2⟩]) W3) := hJ3
      have HKN : Hid (KpT (TwoT Bn (some ⟨b, off, none⟩) len) W W3) := hK.out.trans hk3
      clear hJ3 hk3 HR hy hb
      gi_wp2
      go_roundw
      case rel => exact ⟨k + 1, i + 2, _, hi2, by first | rfl | go_num, HX2, HN, HKN⟩
      case measure => simp [intOf]; omega
    · have HN : Hid (Jx (pre ++ [⟨k, hx2⟩]) W3) := hJx3
      clear hJx3 HR hy hb
      gi_wp2
      refine bodyPost_ret (results_none rfl _ _ _) rfl ?_
      exact ⟨⟨_, rfl⟩, .inr ⟨_, trivial, HN.out⟩⟩

/-- The iterator has its contract. -/
theorem two_stops (n : Nat) (hn : 1 ≤ n) (Bn : Nat) (ad : Option Addr) (len cap : Nat) (hv : Nat → Value) (hl : (len : Int) ≤ 1000000) (w : World) (hF : TwoF w Bn ad len cap hv) (hB : Bn < w.heap.size) :
    SeqStopsK Fence.wide n Try.prog 38 #[.pointer (some ⟨Bn, 0, none⟩)] (fun x : TwoP len => #[hv (2 * x.1), twoB hv len x.1]) (KpT (TwoT Bn ad len)) (fun ys => ys.map (·.1) = List.range ((len + 1) / 2)) (fun _ => True) len w := fun y J Jx W hW _ _ hY h0 =>
  two1_in n hn y Bn ad len cap hv hl J Jx hY W (hF.at fun k hk => hW.block k (hF.lt hB k hk)) h0

end Go.Proofs.Ythkejfhcdodggaa

/- A list of lists that grows in a box, written to in the rounds of a loop over a function. -/
namespace Go.Proofs.Ythkejfhcdodggaa
open Go.RowKit Go.Shelf Go.Proofs Go.Proofs.Pk
set_option maxRecDepth 10000

/-- A list of lists in a row of its own, from block B on; so are the lists. -/
structure OwnB (B : Nat) (w : World) (ao : Option Addr) (n co : Nat) (Ls : List (List MEnt)) : Prop where
  len : Ls.length = n
  row : ∃ C : List Value, w.ownsRow B 24 1 (.slice ao n co) n C ∧ ∀ i (h : i < Ls.length), ∃ ai ci, C[i]? = some (.slice ai Ls[i].length ci) ∧ EntsW w ai Ls[i].length Ls[i] ∧ Ls[i].length ≤ ci ∧ (Ls[i] ≠ [] → ∀ a, ai = some a → B ≤ a.block ∧ (Value.slice ao n co).ownBlock ≠ some a.block)
theorem OwnB.nil (B : Nat) (w : World) : OwnB B w none 0 0 [] := ⟨rfl, ⟨[], World.ownsRow_nil _ _ _ _, fun i h => (by simp at h)⟩⟩
theorem OwnB.of {B : Nat} {w w' : World} {ao : Option Addr} {n co : Nat} {Ls : List (List MEnt)} (h : OwnB B w ao n co Ls) (hb : ∀ g, B ≤ g → g < w.heap.size → w'.heap[g]? = w.heap[g]?) : OwnB B w' ao n co Ls := by
  obtain ⟨h1, ⟨C, hr, hc⟩⟩ := h
  refine ⟨h1, ⟨C, owns_of_block hr fun g hg => hb g (hr.lt g hg).1 (hr.lt g hg).2, fun i hi => ?_⟩⟩
  obtain ⟨ai, ci, e1, e2, e3, e4⟩ := hc i hi
  exact ⟨ai, ci, e1, ents_block e2 fun h0 a ha => hb _ (e4 h0 a ha).1 (ents_lt e2 h0 a ha), e3, e4⟩
theorem OwnB.lsE {B : Nat} {w : World} {ao : Option Addr} {n co : Nat} {Ls : List (List MEnt)} (h : OwnB B w ao n co Ls) : LsE w ao n Ls ∧ n ≤ co := by
  obtain ⟨h1, ⟨C, hr, hc⟩⟩ := h
  rcases hr.2 with ⟨hv, hn⟩ | ⟨g, cap, cur, hv, _, hg, hnc, _⟩
  · cases hv; exact ⟨⟨h1, .inl (List.length_eq_zero_iff.1 (by omega))⟩, by omega⟩
  · cases hv
    refine ⟨⟨h1, .inr ⟨g, 0, rfl, (Array.getElem?_eq_some_iff.1 hg).1, fun i hi => ?_⟩⟩, hnc⟩
    obtain ⟨ai, ci, e1, e2, e3, _⟩ := hc i hi
    refine ⟨ai, ci, ?_, e2, e3⟩
    rw [Nat.zero_add, hr.cellAt i (by omega)]
    exact e1
theorem OwnB.ge {B : Nat} {w : World} {ao : Option Addr} {n co : Nat} {Ls : List (List MEnt)} (h : OwnB B w ao n co Ls) (g : Nat) (hg : (Value.slice ao n co).ownBlock = some g) : B ≤ g ∧ ∃ cur, w.heap[g]? = some (.cells cur 24) := by
  obtain ⟨_, ⟨C, hr, _⟩⟩ := h
  rcases hr.2 with ⟨hv, _⟩ | ⟨g', c, cur, hv, hb, h2, _⟩
  · rw [hv] at hg; cases hg
  · rw [hv] at hg; cases hg; exact ⟨hb, cur, h2⟩
/-- A list put behind them. -/
theorem OwnB.grown {B : Nat} {wx wy wB : World} {ao : Option Addr} {n co : Nat} {Ls : List (List MEnt)} {C : List Value} {v : Value} {ai : Option Addr} {m ci : Nat} {L : List MEnt} (hlen : Ls.length = n)
    (hr : wx.ownsRow B 24 1 (.slice ao n co) n C) (hc : ∀ i (h : i < Ls.length), ∃ ai ci, C[i]? = some (.slice ai Ls[i].length ci) ∧ EntsW wx ai Ls[i].length Ls[i] ∧ Ls[i].length ≤ ci ∧ (Ls[i] ≠ [] → ∀ a, ai = some a → B ≤ a.block ∧ (Value.slice ao n co).ownBlock ≠ some a.block))
    (hy : Kept (fun _ => False) wx wy) (hL : EntsW wx ai m L) (hLc : m ≤ ci) (hLb : L ≠ [] → ∀ a, ai = some a → B ≤ a.block ∧ (Value.slice ao n co).ownBlock ≠ some a.block)
    (h2 : wB.ownsRow B 24 1 v (n + 1) (C ++ [.slice ai m ci])) (hg : wy.grownBy wB (Value.slice ao n co).ownBlock) (hp : v.ownBlock = (Value.slice ao n co).ownBlock ∨ v.ownBlock = some wy.heap.size) :
    ∃ ad2 cap2, v = .slice ad2 (n + 1) cap2 ∧ OwnB B wB ad2 (n + 1) cap2 (Ls ++ [L]) := by
  obtain ⟨ad2, cap2, rfl⟩ : ∃ ad2 cap2, v = .slice ad2 (n + 1) cap2 := by
    rcases h2.2 with ⟨_, h⟩ | ⟨g, cap, cur, h, _⟩
    · omega
    · exact ⟨_, _, h⟩
  have hk : Kept (fun k => (Value.slice ao n co).ownBlock = some k) wy wB := kept_grown (Kept.refl _ _) hg (fun b hb => .inl hb)
  have hone : ∀ (aj : Option Addr) (l : List MEnt), EntsW wx aj l.length l → (l ≠ [] → ∀ a, aj = some a → B ≤ a.block ∧ (Value.slice ao n co).ownBlock ≠ some a.block) → EntsW wB aj l.length l ∧ (l ≠ [] → ∀ a, aj = some a → B ≤ a.block ∧ (Value.slice ad2 (n + 1) cap2).ownBlock ≠ some a.block) := fun aj l he hb => by
    refine ⟨ents_keptX (ents_keptK he hy) hk (fun h0 a ha => (hb h0 a ha).2), fun h0 a ha => ⟨(hb h0 a ha).1, ?_⟩⟩
    rcases hp with hp | hp
    · rw [hp]; exact (hb h0 a ha).2
    · rw [hp]
      intro e
      have h1 := ents_lt he h0 a ha
      have h2 := hy.size
      have h3 := Option.some.inj e
      omega
  have hLl := hL.1
  have hCl : C.length = n := by have := hr.1; omega
  refine ⟨ad2, cap2, rfl, ⟨by rw [List.length_append, hlen]; rfl, ⟨_, h2, fun i hi => ?_⟩⟩⟩
  by_cases hin : i < Ls.length
  · obtain ⟨aj, cj, e1, e2, e5, e3⟩ := hc i hin
    have e4 := hone aj Ls[i] e2 e3
    refine ⟨aj, cj, ?_, ?_⟩
    · rw [List.getElem_append_left hin, List.getElem?_append_left (by omega)]; exact e1
    · rw [List.getElem_append_left hin]; exact ⟨e4.1, e5, e4.2⟩
  · have hin2 : i = Ls.length := by rw [List.length_append] at hi; simp at hi; omega
    subst hin2
    have e0 : (Ls ++ [L])[Ls.length]'hi = L := by simp
    have e4 := hone ai L (by rw [hLl]; exact hL) hLb
    refine ⟨ai, ci, ?_, ?_⟩
    · rw [e0, List.getElem?_append_right (by omega), hLl, show Ls.length - C.length = 0 from by omega]; rfl
    · rw [e0]; exact ⟨e4.1, by omega, e4.2⟩
theorem ents_own {W W' : World} {row : Option Nat} {ad : Option Addr} {len : Nat} {l : List MEnt} (h : EntsW W ad len l) (hg : W.grownBy W' row) (hr : ∀ r, row = some r → ∃ o : Obj, W.heap[r]? = some o ∧ o.isCells = false) : EntsW W' ad len l := by
  refine ⟨h.1, h.2.imp_right ?_⟩
  rintro ⟨b, off, h1, h2, h3⟩
  exact ⟨b, off, h1, Nat.lt_of_lt_of_le h2 hg.size, fun i hi => ⟨fun j v hv => cell_kept ((h3 i hi).row j v hv) hg hr, (h3 i hi).fit⟩⟩

/-- The lists so far in their box, all else as it was when the loop began. -/
def MrgI (w4 : World) (fb : Nat) (Ls : List (List MEnt)) (W : World) : Prop :=
  Kept (fun k => k = fb) w4 W ∧ ∃ (ao : Option Addr) (n co : Nat), OwnB w4.heap.size W ao n co Ls ∧ Holds W fb [.slice ao n co] 22
theorem MrgI.start {w4 : World} {fb : Nat} (h : Holds w4 fb [.slice none 0 0] 22) : MrgI w4 fb [] w4 := ⟨Kept.refl _ _, none, 0, 0, OwnB.nil _ _, h⟩
theorem mrgI_own {α : Type} {w4 : World} {fb : Nat} (F : List α → List (List MEnt)) : OwnFrom w4.heap.size (fun (pre : List α) W => MrgI w4 fb (F pre) W) := by
  intro s W W' row hs hg hr
  obtain ⟨hk, ao, n, co, hO, hH⟩ := hs
  have hb : ∀ (g : Nat) (o : Obj), W.heap[g]? = some o → o.isCells = true → W'.heap[g]? = W.heap[g]? := fun g o h1 h2 => hg.block g (Array.getElem?_eq_some_iff.1 h1).1 (fun e => by
    obtain ⟨_, o', h3, h4⟩ := hr g e.symm
    rw [h1] at h3; cases h3; rw [h2] at h4; cases h4)
  have hge := hO.ge
  refine ⟨kept_grown hk hg (fun b e => .inr (hr b e).1), ao, n, co, ?_, hH.of_block (hb fb _ hH rfl)⟩
  obtain ⟨h1, ⟨C, hrow, hc⟩⟩ := hO
  refine ⟨h1, ⟨C, owns_of_block hrow fun g hg2 => by obtain ⟨_, cur, hc2⟩ := hge g hg2; exact hb g _ hc2 rfl, fun i hi => ?_⟩⟩
  obtain ⟨ai, ci, e1, e2, e3, e4⟩ := hc i hi
  exact ⟨ai, ci, e1, ents_own e2 hg (fun r e => (hr r e).2), e3, e4⟩
theorem MrgI.ents {w4 W : World} {fb : Nat} {Ls : List (List MEnt)} {ad : Option Addr} {len : Nat} {l : List MEnt} (h : MrgI w4 fb Ls W) (he : EntsW w4 ad len l) (hb : l ≠ [] → ∀ a, ad = some a → a.block ≠ fb) : EntsW W ad len l := ents_keptX he h.1 hb
theorem MrgI.kp {w4 W W' : World} {fb : Nat} {O O' : List (List MEnt)} {T : Nat → Prop} (h : MrgI w4 fb O W) (h' : MrgI w4 fb O' W') (hT : ∀ k, T k → k < w4.heap.size ∧ k ≠ fb) : KpT T W W' := fun k hk =>
  (h'.1.block k (hT k hk).1 (hT k hk).2).trans (h.1.block k (hT k hk).1 (hT k hk).2).symm

/-- What the pairs so far were made to. -/
def pairF (LS : List (List MEnt)) {len : Nat} (pre : List (TwoP len)) : List (List MEnt) := pre.map fun x => uniM (LS.getD (2 * x.1) []) (LS.getD (2 * x.1 + 1) [])
theorem pairF_all {LS : List (List MEnt)} {len : Nat} (hl : LS.length = len) {ys : List (TwoP len)} (hy : ys.map (·.1) = List.range ((len + 1) / 2)) : pairF LS ys = pairM LS := by
  have e : pairF LS ys = (ys.map (·.1)).map fun k => uniM (LS.getD (2 * k) []) (LS.getD (2 * k + 1) []) := by unfold pairF; rw [List.map_map]; rfl
  rw [e, hy]
  refine List.ext_getElem (by rw [List.length_map, List.length_range, pair_len, hl]) fun i h1 h2 => ?_
  rw [pair_get]
  simp

end Go.Proofs.Ythkejfhcdodggaa
