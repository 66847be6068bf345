/- The program of layer 15: the function that goes through a sorted list key by key. -/
import Derived.RangeFuncNested
import Derived.RangeFuncBound
import Derived.RangeFuncCalls
import Derived.RangeFuncLeaves
import Derived.RangeFuncFrom
import Derived.Shelf.Abstract
import Derived.Shelf.RegionOpen
import Derived.WalkKit
import Derived.OwnWalkIn
import Derived.TacticsInMore
import Derived.LoopNIn
import Derived.LoopIn
import Derived.BigQuiet
import Derived.ControlIn
import Derived.Sort.QuietIn
import Derived.Test.YthkejfhcdodggaaJ14
namespace Go.Proofs.Ythkejfhcdodggaa
open Go.RowKit Go.Shelf Go.Proofs Go.Proofs.Pk
set_option maxRecDepth 10000
attribute [local simp] mk_get wrap64_u8 mk_extract ByteArray.mk_append_mk

theorem run_same {l : List MEnt} {s : Nat} (hs : s < l.length) {k : Nat} (h1 : s ≤ k) (h2 : k < s + runLen (l.drop s)) : ∃ hk : k < l.length, l[k].1 = l[s].1 := by
  have hl := runLen_le (l.drop s)
  rw [List.length_drop] at hl
  have hk : k < l.length := by omega
  have hne : l.drop s ≠ [] := by intro e; have := congrArg List.length e; simp at this; omega
  have h3 := runLen_one hne l[k] (by
    refine List.mem_take_iff_getElem.2 ⟨k - s, by rw [List.length_drop]; omega, ?_⟩
    rw [List.getElem_drop]
    congr 1; omega)
  rw [List.head_drop] at h3
  exact ⟨hk, h3⟩
theorem run_stop {l : List MEnt} (hu : UpM l) {s : Nat} (hs : s < l.length) (h : s + runLen (l.drop s) < l.length) : l[s + runLen (l.drop s)].1 ≠ l[s].1 := by
  have hne : l.drop s ≠ [] := by intro e; have := congrArg List.length e; simp at this; omega
  have hp := runLen_pos hne
  have := runLen_apart (hu.sublist (List.drop_sublist s l)) l[s] (by
    refine List.mem_take_iff_getElem.2 ⟨0, by rw [List.length_drop]; omega, ?_⟩
    rw [List.getElem_drop]; congr 1) l[s + runLen (l.drop s)] (by
    rw [List.drop_drop]
    exact List.mem_drop_iff_getElem.2 ⟨0, by omega, by congr 1⟩)
  exact fun e => this e.symm

/-- Some blocks lie as they lay. -/
def KpT (T : Nat → Prop) (W W' : World) : Prop := ∀ k, T k → W'.heap[k]? = W.heap[k]?
theorem KpT.refl (T : Nat → Prop) (W : World) : KpT T W W := fun _ _ => rfl
theorem KpT.trans {T : Nat → Prop} {A B C : World} (h : KpT T A B) (k : KpT T B C) : KpT T A C := fun b hb => (k b hb).trans (h b hb)
theorem KpT.putObj {T : Nat → Prop} {w : World} (hT : ∀ k, T k → k < w.heap.size) : ∀ (W : World) (l : Nat) (o o' : Obj), w.heap.size ≤ l → W.heap[l]? = some o → o.isCells = false → o.isWalk = false → KpT T W (W.putObj l o') := fun _ _ _ _ hl _ _ _ k hk => World.putObj_heap_other (by have := hT k hk; omega)
theorem KpT.ofKept {X T : Nat → Prop} {W W' : World} (h : Kept X W W') (hT : ∀ k, T k → k < W.heap.size ∧ ¬X k) : KpT T W W' := fun k hk => h.block k (hT k hk).1 (hT k hk).2
theorem KpT.drewN {T : Nat → Prop} {W W' : World} (h : KpT T W W') (n : Nat) : KpT T W (W'.drewN n) := fun k hk => h k hk
theorem size_of {W W' : World} {b : Nat} (h : W'.heap[b]? = W.heap[b]?) (hb : b < W.heap.size) : b < W'.heap.size := by
  rw [Array.getElem?_eq_getElem hb] at h
  exact (Array.getElem?_eq_some_iff.1 h).1
theorem ents_block {W W' : World} {ad : Option Addr} {len : Nat} {l : List MEnt} (h : EntsW W ad len l) (hb : l ≠ [] → ∀ a, ad = some a → W'.heap[a.block]? = W.heap[a.block]?) : EntsW W' ad len l := by
  by_cases h0 : l = []
  · exact ⟨h.1, .inl h0⟩
  refine ⟨h.1, h.2.imp_right ?_⟩
  rintro ⟨b, off, h1, h2, h3⟩
  have hB := hb h0 _ h1
  exact ⟨b, off, h1, size_of hB h2, fun i hi => ⟨fun j v hv => (World.cell?_of_block (a := ⟨b, off + i * 4 + j, none⟩) hB).trans ((h3 i hi).row j v hv), (h3 i hi).fit⟩⟩

/-- The blocks that the iterator reads: its box, its list. -/
def KeyT (Bn : Nat) (ad : Option Addr) (l : List MEnt) (k : Nat) : Prop := k = Bn ∨ (l ≠ [] ∧ ∃ a, ad = some a ∧ k = a.block)
/-- What the iterator reads. -/
structure KeyF (W : World) (Bn : Nat) (ad : Option Addr) (len cap : Nat) (l : List MEnt) : Prop where
  box : W.cell? ⟨Bn, 0, none⟩ = some (.slice ad len cap)
  ents : EntsW W ad len l
theorem KeyF.at {W W' : World} {Bn : Nat} {ad : Option Addr} {len cap : Nat} {l : List MEnt} (h : KeyF W Bn ad len cap l) (hk : KpT (KeyT Bn ad l) W W') : KeyF W' Bn ad len cap l :=
  ⟨(World.cell?_of_block (a := ⟨Bn, 0, none⟩) (hk Bn (.inl rfl))).trans h.box, ents_block h.ents fun h0 a ha => hk _ (.inr ⟨h0, a, ha, rfl⟩)⟩

set_option maxHeartbeats 1000000 in
theorem pByKey (ad : Option Addr) (len cap : Nat) (w : World) :
    Calls Try.prog 30 #[.slice ad len cap] w fun e w' => e = .returned (.func (.func 42) #[] #[.pointer (some ⟨w.heap.size, 0, none⟩)]) ∧ w' = w.alloc (.cells #[.slice ad len cap] 24) := by
  go_enter Try.func30, Try.ntmps30
  go_wp2
  go_ret
  exact ⟨rfl, rfl⟩

/-- A run's place. -/
abbrev RunP (len : Nat) : Type := { x : Nat × Nat // x.1 < x.2 ∧ x.2 ≤ len }
def runV (ad : Option Addr) (cap : Nat) {len : Nat} (x : RunP len) : Value := .slice (ad.map (·.add (x.1.1 * 4))) (x.1.2 - x.1.1) (cap - x.1.1)
theorem slice_mid {b off len cap s e : Nat} (hs : s < e) (he : e ≤ len) (hc : len ≤ cap) (w : World) : (Instr.slice 24 (.slice (some ⟨b, off, none⟩) len cap) (some (.int .i64 (s : Int))) (some (.int .i64 (e : Int))) none).run Try.prog w = .ok (.slice (some ⟨b, off + s * 4, none⟩) (e - s) (cap - s)) w := by
  have hu : Try.prog.underlying 24 = some (.slice 34) := by kernel_rfl
  have hz : (Go.sizeOf 34).run Try.prog w = .ok 4 w := by kernel_rfl
  have h1 : (0 : Int) ≤ (s : Int) ∧ (s : Int) ≤ (e : Int) := by omega
  have h2 : (0 : Int) ≤ (e : Int) ∧ (e : Int) ≤ (cap : Int) := by omega
  have h3 : ¬cap = s := by omega
  have h4 : e ≤ cap := by omega
  have h5 : s ≤ e := by omega
  have ha := addN b off (s * 4)
  simp only [Instr.slice, Instr.sliceBounds, Instr.sliceBound, asIntOf, run_underlying hu, go_sem]
  simp only [h1, h2, h3, h4, h5, hz, Result.andThen, and_self, if_true, if_false, Int.toNat_natCast, Option.map_some, ha]
  simp [h3, h4, h5, hz, Result.andThen, ha]

attribute [local go_sem] Oper.semAt_some
set_option maxHeartbeats 4000000 in
/-- The function that hands the runs to a loop: for every body that leaves its box and its list as they lay. -/
theorem key1_in (n : Nat) (hn : 1 ≤ n) (y Bn : Nat) (ad : Option Addr) (len cap : Nat) (l : List MEnt) (hu : UpM l) (hc : len ≤ cap) (hl : (len : Int) ≤ 1000000) (J Jx : List (RunP len) → World → Prop)
    (hY : ∀ pre x W, J pre W → pre.length < len → YieldAt Fence.wide (n - 1) Try.prog y #[runV ad cap x] W fun e W' =>
      (e = .returned (.bool true) ∧ J (pre ++ [x]) W' ∧ KpT (KeyT Bn ad l) W W') ∨ (e = .returned (.bool false) ∧ Jx (pre ++ [x]) W'))
    (W : World) (hJa : AbidesFrom W.heap.size J) (hF : KeyF W Bn ad len cap l) (h0 : J [] W) :
    CallsIn Fence.wide n Try.prog 42 #[.func (.yield y) #[] #[], .pointer (some ⟨Bn, 0, none⟩)] W fun e W' => (∃ v, e = .returned v) ∧
      ((∃ ys : List (RunP len), ys.map (·.1) = runsM l ∧ J ys W') ∨ (∃ pre, True ∧ Jx pre W')) := by
  have hlen := hF.ents.1
  have HF := Lib.hid hF
  have HY := Lib.hid hY
  have HJd : Hid (∀ pre W k, J pre W → J pre (W.drewN k)) := fun pre W k h => hJa pre W _ none h ⟨rfl, rfl, rfl, Nat.le_refl _, fun _ _ _ => rfl⟩ (fun r e => by cases e)
  have HU := Lib.hid hu
  clear hF hY hJa hu
  refine callsIn_of_wp Try.func42 rfl trivial ?_ rfl
  simp only [Try.ntmps42, List.size_toArray, List.length_cons, List.length_nil, Nat.reduceAdd, Nat.reduceSub, Array.replicate_succ, Array.replicate_zero, List.push_toArray, List.append_toArray, List.nil_append, List.cons_append]
  gi_wp2
  gi_loopw [3, 4] (fun a b wr => ∃ (s f : Nat) (pre : List (RunP len)), s ≤ len ∧ a = .int .i64 (s : Int) ∧ b = .int .i64 (s : Int) ∧ Hid (runsM l = pre.map (·.1) ++ runsN l f s ∧ len ≤ s + f) ∧ Hid (J pre wr) ∧ Hid (KpT (KeyT Bn ad l) W wr)) (fun a _ _ => len - (intOf a).toNat)
  case atStart => exact ⟨0, len, [], Nat.zero_le _, rfl, rfl, ⟨by unfold runsM; rw [hlen]; rfl, by omega⟩, h0, KpT.refl _ _⟩
  case round =>
    obtain ⟨s, f, pre, hsl, rfl, rfl, hX, hJ, hK⟩ := hrel
    clear h0
    have s0 : (0 : Int) ≤ (s : Int) := by omega
    have hb := (HF.out.at hK.out).box
    by_cases hlt : s < len
    case neg =>
      obtain rfl : s = len := by omega
      have sn : ¬(s : Int) < (s : Int) := by omega
      have hend : pre.map (·.1) = runsM l := by
        rw [hX.out.1]
        cases f with
        | zero => simp [runsN]
        | succ f => simp [runsN, hlen]
      gi_wp2
      go_end0
      exact ⟨⟨_, rfl⟩, .inl ⟨pre, hend, hJ.out⟩⟩
    have sn : (s : Int) < (len : Int) := by omega
    have hsL : s < l.length := by omega
    obtain ⟨f, rfl⟩ : ∃ g, f = g + 1 := ⟨f - 1, by have := hX.out.2; omega⟩
    obtain ⟨b, off, rfl⟩ : ∃ b off, ad = some ⟨b, off, none⟩ := by
      rcases HF.out.ents.2 with h0 | ⟨b, off, h1, _⟩
      · rw [h0] at hsL; simp at hsL
      · exact ⟨b, off, h1⟩
    have hrl := runLen_le (l.drop s)
    rw [List.length_drop] at hrl
    have hrp : 0 < runLen (l.drop s) := runLen_pos (by intro e; have := congrArg List.length e; simp at this; omega)
    have hsame := fun k h1 h2 => run_same (l := l) hsL (k := k) h1 h2
    have hstop := run_stop HU.out hsL
    have hruns : runsN l (f + 1) s = (s, s + runLen (l.drop s)) :: runsN l f (s + runLen (l.drop s)) := by rw [runsN, if_pos hsL]
    obtain ⟨e, he⟩ : ∃ e, e = s + runLen (l.drop s) := ⟨_, rfl⟩
    rw [← he] at hsame hstop hruns
    have hse : s < e := by omega
    have hel : e ≤ len := by omega
    obtain ⟨K, hKd⟩ : ∃ K : Txt, K = l[s].1 := ⟨_, rfl⟩
    rw [← hKd] at hsame hstop
    have HX2 : Hid (runsM l = (pre.map (·.1) ++ [(s, e)]) ++ runsN l f e ∧ len ≤ e + f) := ⟨by rw [List.append_assoc, hX.out.1, hruns]; rfl, by have := hX.out.2; omega⟩
    have hpl : pre.length < len := by
      have h1 := runs_len (l := l) l.length 0
      have h2 := congrArg List.length HX2.out.1
      unfold runsM at h2
      simp only [List.length_append, List.length_map, List.length_cons, List.length_nil] at h2
      omega
    have HPl := Lib.hid hpl
    have HSame := Lib.hid hsame
    have HStop := Lib.hid hstop
    have HKd := Lib.hid hKd
    clear hruns hrl hrp he hsame hstop hX hpl hKd
    gi_wp2_with (fail)
    gi_loopw [4] (fun b wx => ∃ k : Nat, (s ≤ k ∧ k ≤ e) ∧ b = .int .i64 (k : Int) ∧ Hid (J pre wx) ∧ Hid (KpT (KeyT Bn (some ⟨_, _, none⟩) l) W wx)) (fun b _ => e - (intOf b).toNat)
    case atStart => exact ⟨s, ⟨Nat.le_refl _, by omega⟩, rfl, hJ, hK⟩
    case round =>
      obtain ⟨k, ⟨hk1, hk2⟩, rfl, hJx, hKx⟩ := hrel
      clear hb hJ hK
      rename World => wx
      have k0 : (0 : Int) ≤ (k : Int) := by omega
      have hFx := HF.out.at hKx.out
      have hb := hFx.box
      obtain ⟨b', off', hbe, hbl, y0, _, _, _⟩ := hFx.ents.atS s hsL
      cases hbe
      rw [← HKd.out] at y0
      by_cases hke : k < e
      case pos =>
        obtain ⟨hkl, hkk⟩ := HSame.out k hk1 hke
        obtain ⟨b', off', hbe, _, z0, _, _, _⟩ := hFx.ents.atS k hkl
        cases hbe
        rw [hkk] at z0
        have kn : (k : Int) < (len : Int) := by omega
        have hwk : IntKind.i64.wrap ((k : Int) + 1) = (k : Int) + 1 := IntWalk.i64_in _ (by omega)
        have hJ2 : Hid (∀ z, J pre (wx.drewN z)) := fun z => HJd.out pre wx z hJx.out
        have hK2 : Hid (∀ z, KpT (KeyT Bn (some ⟨b, off, none⟩) l) W (wx.drewN z)) := fun z => hKx.out.drewN z
        clear hJx hKx hFx hkk hbl
        gi_wp2_with (fail)
        gi_quiet (fail)
        gi_wp2
        go_roundw
        case rel => exact ⟨k + 1, by omega, by first | rfl | go_num, hJ2.out _, hK2.out _⟩
        case measure => simp [intOf]; omega
      obtain rfl : k = e := by omega
      have hJ2 : Hid (∀ z, J pre (wx.drewN z)) := fun z => HJd.out pre wx z hJx.out
      have hK2 : Hid (∀ z, KpT (KeyT Bn (some ⟨b, off, none⟩) l) W (wx.drewN z)) := fun z => hKx.out.drewN z
      have hF2 : Hid (∀ z, KeyF (wx.drewN z) Bn (some ⟨b, off, none⟩) len cap l) := fun z => HF.out.at (hK2.out z)
      have hsl := fun w => slice_mid (b := b) (off := off) hse hel hc w
      by_cases hel2 : k < len
      case neg =>
        have kn : decide ((k : Int) < (len : Int)) = false := decide_eq_false (by omega)
        clear hJx hKx hFx hbl
        gi_wp2_with (fail)
        gi_quiet (fail)
        obtain ⟨wy, hwy⟩ : ∃ wy, wy = wx.drewN nq := ⟨_, rfl⟩
        rw [← hwy]
        have HJy : Hid (J pre wy) := by show J _ _; rw [hwy]; exact hJ2.out _
        have HKy : Hid (KpT (KeyT Bn (some ⟨b, off, none⟩) l) W wy) := by show KpT _ _ _; rw [hwy]; exact hK2.out _
        have hb := (HF.out.at HKy.out).box
        obtain ⟨fn, tmps, assign, body, hy, hR⟩ := HY.out pre ⟨(s, k), hse, hel⟩ wy HJy.out HPl.out
        have HR := Lib.hid hR
        unfold runV at hy
        simp only [Option.map_some, addN] at hy
        clear hR hwy hJ2 hK2 hF2 HJy
        gi_wp2
        refine HR.out.mono ?_
        rintro r W3 (⟨rfl, hJ3, hk3⟩ | ⟨rfl, hJx3⟩)
        · have HN : Hid (J (pre ++ [⟨(s, k), hse, hel⟩]) W3) := hJ3
          have HKN : Hid (KpT (KeyT Bn (some ⟨b, off, none⟩) l) W W3) := HKy.out.trans hk3
          have HXN : Hid (runsM l = (pre ++ [(⟨(s, k), hse, hel⟩ : RunP len)]).map (fun x => x.1) ++ runsN l f k ∧ len ≤ k + f) := by
            show _ ∧ _
            rw [List.map_append]
            exact HX2.out
          clear hJ3 hk3 HR hy hb hsl
          gi_wp2
          go_roundw
          case rel => exact ⟨k, f, _, hel, rfl, rfl, HXN, HN, HKN⟩
          case measure => simp [intOf]; omega
        · have HN : Hid (Jx (pre ++ [⟨(s, k), hse, hel⟩]) W3) := hJx3
          clear hJx3 HR hy hb hsl
          gi_wp2
          refine bodyPost_ret (results_none rfl _ _ _) rfl ?_
          exact ⟨⟨_, rfl⟩, .inr ⟨_, trivial, HN.out⟩⟩
      have hkl : k < l.length := by omega
      obtain ⟨b', off', hbe, _, z0, _, _, _⟩ := hFx.ents.atS k hkl
      cases hbe
      have hkk : (l[k].1 == K) = false := by
        have := HStop.out (by omega)
        simpa using this
      obtain ⟨Q, hQ⟩ : ∃ Q, Q = l[k].1 := ⟨_, rfl⟩
      rw [← hQ] at z0 hkk
      have kn : (k : Int) < (len : Int) := by omega
      clear hJx hKx hFx hbl hQ
      gi_wp2_with (fail)
      gi_quiet (fail)
      obtain ⟨wy, hwy⟩ : ∃ wy, wy = wx.drewN nq := ⟨_, rfl⟩
      rw [← hwy]
      have HJy : Hid (J pre wy) := by show J _ _; rw [hwy]; exact hJ2.out _
      have HKy : Hid (KpT (KeyT Bn (some ⟨b, off, none⟩) l) W wy) := by show KpT _ _ _; rw [hwy]; exact hK2.out _
      have hb := (HF.out.at HKy.out).box
      obtain ⟨fn, tmps, assign, body, hy, hR⟩ := HY.out pre ⟨(s, k), hse, hel⟩ wy HJy.out HPl.out
      have HR := Lib.hid hR
      unfold runV at hy
      simp only [Option.map_some, addN] at hy
      clear hR hwy hJ2 hK2 hF2 HJy
      gi_wp2
      refine HR.out.mono ?_
      rintro r W3 (⟨rfl, hJ3, hk3⟩ | ⟨rfl, hJx3⟩)
      · have HN : Hid (J (pre ++ [⟨(s, k), hse, hel⟩]) W3) := hJ3
        have HKN : Hid (KpT (KeyT Bn (some ⟨b, off, none⟩) l) W W3) := HKy.out.trans hk3
        have HXN : Hid (runsM l = (pre ++ [(⟨(s, k), hse, hel⟩ : RunP len)]).map (fun x => x.1) ++ runsN l f k ∧ len ≤ k + f) := by
          show _ ∧ _
          rw [List.map_append]
          exact HX2.out
        clear hJ3 hk3 HR hy hb hsl
        gi_wp2
        go_roundw
        case rel => exact ⟨k, f, _, hel, rfl, rfl, HXN, HN, HKN⟩
        case measure => simp [intOf]; omega
      · have HN : Hid (Jx (pre ++ [⟨(s, k), hse, hel⟩]) W3) := hJx3
        clear hJx3 HR hy hb hsl
        gi_wp2
        refine bodyPost_ret (results_none rfl _ _ _) rfl ?_
        exact ⟨⟨_, rfl⟩, .inr ⟨_, trivial, HN.out⟩⟩

theorem KeyF.lt {w : World} {Bn : Nat} {ad : Option Addr} {len cap : Nat} {l : List MEnt} (h : KeyF w Bn ad len cap l) (hB : Bn < w.heap.size) : ∀ k, KeyT Bn ad l k → k < w.heap.size := by
  rintro k (rfl | ⟨h0, a, ha, rfl⟩)
  · exact hB
  · rcases h.ents.2 with h1 | ⟨b, off, h1, h2, _⟩
    · exact absurd h1 h0
    · rw [h1] at ha; cases ha; exact h2
/-- The iterator has its contract. -/
theorem key_stops (n : Nat) (hn : 1 ≤ n) (Bn : Nat) (ad : Option Addr) (len cap : Nat) (l : List MEnt) (hu : UpM l) (hc : len ≤ cap) (hl : (len : Int) ≤ 1000000) (w : World) (hF : KeyF w Bn ad len cap l) (hB : Bn < w.heap.size) :
    SeqStopsK Fence.wide n Try.prog 42 #[.pointer (some ⟨Bn, 0, none⟩)] (fun x : RunP len => #[runV ad cap x]) (KpT (KeyT Bn ad l)) (fun ys => ys.map (·.1) = runsM l) (fun _ => True) len w := fun y J Jx W hW hJ _ hY h0 =>
  key1_in n hn y Bn ad len cap l hu hc hl J Jx hY W hJ (hF.at fun k hk => hW.block k (hF.lt hB k hk)) h0

end Go.Proofs.Ythkejfhcdodggaa
