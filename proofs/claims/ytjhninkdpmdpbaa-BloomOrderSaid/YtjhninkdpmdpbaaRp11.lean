/- The program of layer 11: Hash, the positions, and the function that hands them to a loop. -/
import Derived.RangeFuncNested
import Derived.RangeFuncBound
import Derived.RangeFuncCalls
import Derived.RangeFuncLeaves
import Derived.RangeFuncFrom
import Derived.Shelf.Abstract
import Derived.Shelf.RegionOpen
import Derived.WalkKit
import Derived.OwnWalkIn
import Derived.TacticsInMore
import Derived.LoopNIn
import Derived.LoopIn
import Derived.Test.YtjhninkdpmdpbaaRBh
import Derived.Test.YtjhninkdpmdpbaaBlK
namespace Go.Proofs.Ytjhninkdpmdpbaa
open Go.RowKit Go.Shelf Go.Proofs Go.Proofs.Pk
set_option maxRecDepth 10000
attribute [local simp] mk_get wrap64_u8 mk_extract ByteArray.mk_append_mk get_1k

set_option maxHeartbeats 1000000 in
theorem pHash (k : TxtB) (w : World) (hkl : (k.length : Int) ≤ 140737488351232) : Calls Try.prog 12 #[.string ⟨k.toArray⟩] w fun e w' => e = .returned (.int .u64 (hashN k : Int)) ∧ w = w' := by
  obtain ⟨n, hn⟩ : ∃ n : Nat, Hid (n = k.length) := ⟨_, rfl⟩
  have hnk : (k.length : Int) = (n : Int) := by rw [hn.out]
  have h0 : Hid ((14695981039346656037 : Int) = ((hashN (k.take 0) : Nat) : Int)) := by
    show _ = _
    rw [List.take_zero, hashN_nil]; rfl
  go_enter Try.func12, Try.ntmps12
  go_wp2
  go_loop [3, 7] (fun v i => ∃ j : Nat, j ≤ n ∧ v = .int .u64 ((hashN (k.take j) : Nat) : Int) ∧ i = .int .i64 (j : Int)) (fun _ i => n - (intOf i).toNat)
  case atStart => exact ⟨0, Nat.zero_le _, by rw [h0.out], rfl⟩
  case round =>
    obtain ⟨j, hj, rfl, rfl⟩ := hrel
    clear h0
    have j0 : (0 : Int) ≤ (j : Int) := by omega
    by_cases hlt : j < n
    · have hjk : j < k.length := by rw [← hn.out]; exact hlt
      have jn : (j : Int) < (n : Int) := by omega
      have hwj : IntKind.i64.wrap ((j : Int) + 1) = (j : Int) + 1 := IntWalk.i64_in _ (by omega)
      have hs := hash_take k hjk
      have hlt64 := hashN_lt (k.take j)
      obtain ⟨h, hh⟩ : ∃ h : Nat, h = hashN (k.take j) := ⟨_, rfl⟩
      rw [← hh] at hs hlt64 ⊢
      obtain ⟨c, hc⟩ : ∃ c, k[j] = c := ⟨_, rfl⟩
      rw [hc] at hs
      have HS := Lib.hid hs
      obtain ⟨e1, e2⟩ := hash_step h c hlt64
      have hwc : IntKind.u64.wrap (c.toNat : Int) = (c.toNat : Int) := u64_in (by have := c.toNat_lt; omega)
      obtain ⟨y, hy⟩ : ∃ y : Nat, y = h ^^^ c.toNat := ⟨_, rfl⟩
      rw [← hy] at e1 e2
      clear hs hh hy hlt64
      go_wp2
      go_round
      case rel => exact ⟨j + 1, by omega, by rw [HS.out], by first | rfl | go_num⟩
      case measure => simp [intOf]; omega
    · obtain rfl : j = n := by omega
      have jn : ¬(j : Int) < (j : Int) := by omega
      have hall : Hid (hashN (k.take j) = hashN k) := by
        show _ = _
        rw [List.take_of_length_le (by rw [hn.out]; exact Nat.le_refl _)]
      obtain ⟨z, hz⟩ : ∃ z : Nat, Hid (z = hashN k) := ⟨_, rfl⟩
      rw [hall.out, ← hz.out]
      clear hall
      go_wp2
      go_ret
      exact ⟨by rw [← hz.out]; rfl, rfl⟩

/-- What the function of positions has captured, in three blocks from B on: the key, the bytes of the filter, how many. -/
structure PosF (B : Nat) (W : World) (k : TxtB) (kk sz : Nat) : Prop where
  key : W.cell? ⟨B, 0, none⟩ = some (.string ⟨k.toArray⟩)
  size : W.cell? ⟨B + 1, 0, none⟩ = some (.int .i64 (sz : Int))
  many : W.cell? ⟨B + 2, 0, none⟩ = some (.int .i64 (kk : Int))
/-- These three blocks lie as they lay. -/
def KpB (B : Nat) (W W' : World) : Prop := ∀ b, B ≤ b → b < B + 3 → W'.heap[b]? = W.heap[b]?
theorem KpB.refl (B : Nat) (W : World) : KpB B W W := fun _ _ _ => rfl
theorem KpB.trans {B : Nat} {A W W' : World} (h : KpB B A W) (k : KpB B W W') : KpB B A W' := fun b h1 h2 => (k b h1 h2).trans (h b h1 h2)
theorem KpB.putObj {B : Nat} {w : World} (hB : B + 3 ≤ w.heap.size) (W : World) (l : Nat) (o o' : Obj) (hl : w.heap.size ≤ l) (_ : W.heap[l]? = some o) (_ : o.isCells = false) (_ : o.isWalk = false) : KpB B W (W.putObj l o') :=
  fun b _ h2 => World.putObj_heap_other (by omega)
theorem KpB.of_below {B N : Nat} {W W' : World} (h : Below N W W') (hB : B + 3 ≤ N) : KpB B W W' :=
  fun b _ h2 => h.block b (by omega)
theorem cell_heap {W W' : World} {b : Nat} (h : W'.heap[b]? = W.heap[b]?) : W'.cell? ⟨b, 0, none⟩ = W.cell? ⟨b, 0, none⟩ := by unfold World.cell?; rw [h]
theorem PosF.kept {B : Nat} {W W' : World} {k : TxtB} {kk m : Nat} (h : PosF B W k kk m) (hk : KpB B W W') : PosF B W' k kk m :=
  ⟨(cell_heap (hk B (by omega) (by omega))).trans h.key, (cell_heap (hk (B + 1) (by omega) (by omega))).trans h.size, (cell_heap (hk (B + 2) (by omega) (by omega))).trans h.many⟩
theorem PosF.at {B : Nat} {W W' : World} {k : TxtB} {kk m N : Nat} (h : PosF B W k kk m) (hb : Below N W W') (hB : B + 3 ≤ N) : PosF B W' k kk m :=
  ⟨(hb.cell (p := ⟨B, 0, none⟩) (show B < N by omega)).trans h.key, (hb.cell (p := ⟨B + 1, 0, none⟩) (show B + 1 < N by omega)).trans h.size, (hb.cell (p := ⟨B + 2, 0, none⟩) (show B + 2 < N by omega)).trans h.many⟩

theorem odd_or (g : Nat) (hg : g < 18446744073709551616) : bits .or .u64 (g : Int) 1 = ((if g % 2 = 0 then g + 1 else g : Nat) : Int) := by
  have := u64_or_nat g 1 hg (by omega)
  rw [show ((1 : Nat) : Int) = 1 from rfl] at this
  rw [this]
  congr 1
  apply Nat.eq_of_testBit_eq
  intro i
  rw [Nat.testBit_or]
  cases i with
  | zero =>
    rw [Nat.testBit_zero, Nat.testBit_zero, Nat.testBit_zero]
    split <;> simp <;> omega
  | succ i =>
    rw [Nat.testBit_succ, Nat.testBit_succ, Nat.testBit_succ]
    have : (if g % 2 = 0 then g + 1 else g) / 2 = g / 2 := by split <;> omega
    rw [this]; simp

/-- The positions of a key, from the first on. -/
def uptoP (k : TxtB) (m : Nat) (hm : 0 < m) (n : Nat) : List { p : Nat // p < m } := (List.range n).map fun i => ⟨placeN k i m, placeN_lt k i hm⟩
theorem uptoP_succ (k : TxtB) (m : Nat) (hm : 0 < m) (n : Nat) : uptoP k m hm (n + 1) = uptoP k m hm n ++ [⟨placeN k n m, placeN_lt k n hm⟩] := by simp [uptoP, List.range_succ]
theorem uptoP_length (k : TxtB) (m : Nat) (hm : 0 < m) (n : Nat) : (uptoP k m hm n).length = n := by simp [uptoP]

theorem cell_new1 (W : World) (v : Value) (t : TypeId) : (W.alloc (.cells #[v] t)).cell? ⟨W.heap.size, 0, none⟩ = some v := by
  have h := World.alloc_heap_new W (.cells #[v] t)
  unfold World.cell?
  dsimp only
  rw [h]
  rfl
theorem cell_up {W : World} {b : Nat} {v : Value} (o : Obj) (hb : b < W.heap.size) (h : W.cell? ⟨b, 0, none⟩ = some v) : (W.alloc o).cell? ⟨b, 0, none⟩ = some v :=
  (cell_heap (Below.heap_alloc W o b hb)).trans h
theorem box3 (w : World) (a b c : Value) (t1 t2 t3 : TypeId) :
    (((w.alloc (.cells #[a] t1)).alloc (.cells #[b] t2)).alloc (.cells #[c] t3)).cell? ⟨w.heap.size, 0, none⟩ = some a ∧
    (((w.alloc (.cells #[a] t1)).alloc (.cells #[b] t2)).alloc (.cells #[c] t3)).cell? ⟨w.heap.size + 1, 0, none⟩ = some b ∧
    (((w.alloc (.cells #[a] t1)).alloc (.cells #[b] t2)).alloc (.cells #[c] t3)).cell? ⟨w.heap.size + 2, 0, none⟩ = some c ∧
    Below w.heap.size w (((w.alloc (.cells #[a] t1)).alloc (.cells #[b] t2)).alloc (.cells #[c] t3)) ∧
    (((w.alloc (.cells #[a] t1)).alloc (.cells #[b] t2)).alloc (.cells #[c] t3)).heap.size = w.heap.size + 3 := by
  have e1 : (w.alloc (.cells #[a] t1)).heap.size = w.heap.size + 1 := by simp
  have e2 : ((w.alloc (.cells #[a] t1)).alloc (.cells #[b] t2)).heap.size = w.heap.size + 2 := by simp
  refine ⟨?_, ?_, ?_, ?_, ?_⟩
  · exact cell_up _ (by omega) (cell_up _ (by omega) (cell_new1 w a t1))
  · exact cell_up _ (by omega) (by have := cell_new1 (w.alloc (.cells #[a] t1)) b t2; rwa [e1] at this)
  · have := cell_new1 ((w.alloc (.cells #[a] t1)).alloc (.cells #[b] t2)) c t3
    rwa [e2] at this
  · exact (((Below.refl _ w).alloc (Nat.le_refl _) _).alloc (by simp) _).alloc (by simp; omega) _
  · simp

/-- A hash with its halves exchanged. -/
def rotN (h : Nat) : Nat := (h % 4294967296) * 4294967296 + h / 4294967296
theorem gap_or (h : Nat) (hh : h < 18446744073709551616) : bits .or .u64 (rotN h : Int) 1 = (gapN h : Int) := by
  rw [odd_or (rotN h) (by unfold rotN; omega)]
  rfl

set_option maxHeartbeats 1000000 in
theorem pRot (h : Nat) (hh : h < 18446744073709551616) (w : World) :
    Calls Try.prog 19 #[.int .u64 (h : Int), .int .i64 32] w fun e w' => e = .returned (.int .u64 (rotN h : Int)) ∧ w = w' := by
  have a1 := shl_32 h
  have a2 := swap_or h hh
  obtain ⟨z, hz⟩ : ∃ z : Nat, Hid (z = rotN h) := ⟨_, rfl⟩
  have hzz := hz.out
  unfold rotN at hzz
  obtain ⟨A, hA⟩ : ∃ A : Nat, A = (h % 4294967296) * 4294967296 := ⟨_, rfl⟩
  obtain ⟨C, hC⟩ : ∃ C : Nat, C = h / 4294967296 := ⟨_, rfl⟩
  have a3 : (h : Int) / 4294967296 = (C : Int) := by omega
  rw [← hA] at a1
  rw [← hA, ← hC] at a2 hzz
  rw [← hzz] at a2
  have k1 : bits .and .u64 32 63 = 32 := by rfl
  clear hA hC hzz hh
  go_enter Try.func19, Try.ntmps19
  go_wp2
  go_ret
  exact ⟨by rw [hz.out]; rfl, rfl⟩

set_option maxHeartbeats 1000000 in
theorem posP (k : TxtB) (sz kk : Nat) (w : World) :
    Calls Try.prog 16 #[.string ⟨k.toArray⟩, .int .i64 (sz : Int), .int .i64 (kk : Int)] w fun e w' =>
      e = .returned (.func (.func 18) #[] #[.pointer (some ⟨w.heap.size, 0, none⟩), .pointer (some ⟨w.heap.size + 2, 0, none⟩), .pointer (some ⟨w.heap.size + 1, 0, none⟩)]) ∧
      PosF w.heap.size w' k kk sz ∧ Below w.heap.size w w' ∧ w'.heap.size = w.heap.size + 3 := by
  go_enter Try.func16, Try.ntmps16
  go_wp2
  go_ret
  obtain ⟨b1, b2, b3, hb, hz⟩ := box3 w (.string ⟨k.toArray⟩) (.int .i64 (sz : Int)) (.int .i64 (kk : Int)) 9 3 3
  exact ⟨rfl, ⟨b1, b2, b3⟩, hb, hz⟩

attribute [local go_sem] Oper.semAt_some
/-- The hash and the steps up to a position. -/
def stepN (k : TxtB) (j : Nat) : Nat := (hashN k + j * gapN (hashN k)) % 18446744073709551616
theorem stepN_zero (k : TxtB) : stepN k 0 = hashN k := by
  unfold stepN
  rw [Nat.zero_mul, Nat.add_zero, Nat.mod_eq_of_lt (hashN_lt k)]
theorem stepN_succ (k : TxtB) (j : Nat) : IntKind.u64.wrap ((stepN k j : Int) + (gapN (hashN k) : Int)) = (stepN k (j + 1) : Int) := by
  unfold stepN
  rw [← Int.natCast_add, u64_mod]
  congr 1
  rw [Nat.add_mul, Nat.one_mul]
  omega
theorem stepN_place (k : TxtB) (j m : Nat) : stepN k j % m = placeN k j m := rfl

/-- The function that hands the positions to a loop: for every body that leaves its three blocks as they lay. -/
theorem pos1_in (n : Nat) (hn : 1 ≤ n) (l B : Nat) (k : TxtB) (kk sz m : Nat) (hkl : (k.length : Int) ≤ 140737488351232) (hm : 0 < m) (hm2 : m ≤ 2251799813685248) (hms : m = 8 * sz) (hkk : kk ≤ 30) (J Jx : List { p : Nat // p < m } → World → Prop)
    (hY : ∀ pre x W, J pre W → pre.length < kk → YieldAt Fence.wide (n - 1) Try.prog l #[.int .i64 (x.1 : Int)] W fun e W' =>
      (e = .returned (.bool true) ∧ J (pre ++ [x]) W' ∧ KpB B W W') ∨ (e = .returned (.bool false) ∧ Jx (pre ++ [x]) W'))
    (W : World) (hP : PosF B W k kk sz) (h0 : J [] W) :
    CallsIn Fence.wide n Try.prog 18 #[.func (.yield l) #[] #[], .pointer (some ⟨B, 0, none⟩), .pointer (some ⟨B + 2, 0, none⟩), .pointer (some ⟨B + 1, 0, none⟩)] W fun e W' => (∃ v, e = .returned v) ∧
      ((∃ ys, ys = uptoP k m hm kk ∧ J ys W') ∨ (∃ pre, (∃ j, j ≤ kk ∧ pre = uptoP k m hm j) ∧ Jx pre W')) := by
  obtain ⟨g, hg⟩ : ∃ g : Nat, Hid (g = gapN (hashN k)) := ⟨_, rfl⟩
  obtain ⟨h, hh⟩ : ∃ h : Nat, Hid (h = hashN k) := ⟨_, rfl⟩
  obtain ⟨r, hr⟩ : ∃ r : Nat, Hid (r = rotN (hashN k)) := ⟨_, rfl⟩
  have HH := Lib.hid (fun W : World => pHash k W hkl)
  have HR := Lib.hid (fun W : World => pRot (hashN k) (hashN_lt k) W)
  have ho := gap_or (hashN k) (hashN_lt k)
  rw [← hg.out, ← hr.out] at ho
  rw [← hh.out] at HH HR
  rw [hh.out, ← hr.out, ← hh.out] at HR
  have hP0 := Lib.hid hP
  have c0 := hP.key
  have c1 := hP.many
  clear hP
  have HY := Lib.hid hY
  clear hY
  have HM := Lib.hid hms
  have hwm : IntKind.u64.wrap (m : Int) = (m : Int) := u64_in (by omega)
  have hw8 : IntKind.i64.wrap ((sz : Int) * 8) = (m : Int) := by rw [IntWalk.i64_in _ (by omega)]; omega
  have hm0 : ¬m = 0 := by omega
  clear hms hkl
  refine callsIn_of_wp Try.func18 rfl trivial ?_ rfl
  simp only [Try.ntmps18, List.size_toArray, List.length_cons, List.length_nil, Nat.reduceAdd, Nat.reduceSub, Array.replicate_succ, Array.replicate_zero, List.push_toArray, List.append_toArray, List.nil_append, List.cons_append]
  gi_wp2_with (refine ⟨trivial, ?_⟩; gi_at_call 12; refine (callsIn_wide.2 (HH.out _)).mono ?_; rintro e wx ⟨rfl, rfl⟩)
  gi_wp2_with (refine ⟨trivial, ?_⟩; gi_at_call 19; refine (callsIn_wide.2 (HR.out _)).mono ?_; rintro e wx ⟨rfl, rfl⟩)
  clear c0 c1
  gi_loopw [5, 13] (fun v i wr => ∃ j : Nat, j ≤ kk ∧ v = .int .u64 (stepN k j : Int) ∧ i = .int .i64 (j : Int) ∧ Hid (J (uptoP k m hm j) wr) ∧ Hid (KpB B W wr)) (fun _ i _ => kk - (intOf i).toNat)
  case atStart => exact ⟨0, Nat.zero_le _, by rw [stepN_zero, ← hh.out], rfl, h0, KpB.refl B W⟩
  case round =>
    obtain ⟨j, hj, rfl, rfl, hJ, hK⟩ := hrel
    have j0 : (0 : Int) ≤ (j : Int) := by omega
    have e0 := stepN_succ k j
    rw [← hg.out] at e0
    have e1 := stepN_place k j m
    by_cases hlt : j < kk
    · have jn : (j : Int) < (kk : Int) := by omega
      have hwj : IntKind.i64.wrap ((j : Int) + 1) = (j : Int) + 1 := IntWalk.i64_in _ (by omega)
      have hPr := hP0.out.kept hK.out
      have c3 := hPr.size
      obtain ⟨P, hPP⟩ : ∃ P : Nat, Hid (P = placeN k j m) := ⟨_, rfl⟩
      obtain ⟨fn, tmps, assign, body, hy, hR⟩ := HY.out _ ⟨placeN k j m, placeN_lt k j hm⟩ wr hJ.out (by rw [uptoP_length]; exact hlt)
      rw [← uptoP_succ] at hR
      have HR := Lib.hid hR
      clear hR hPr
      dsimp only at hy
      rw [← hPP.out] at hy e1
      obtain ⟨Y, hYY⟩ : ∃ Y : Nat, Hid (Y = stepN k j) := ⟨_, rfl⟩
      obtain ⟨Z, hZZ⟩ : ∃ Z : Nat, Hid (Z = stepN k (j + 1)) := ⟨_, rfl⟩
      rw [← hYY.out] at e0 e1 ⊢
      rw [← hZZ.out] at e0
      have hPm : P < m := by rw [← e1]; exact Nat.mod_lt _ hm
      have t3 : (Y : Int).tmod (m : Int) = (P : Int) := by
        rw [Int.tmod_eq_emod_of_nonneg (by omega), ← e1]; rfl
      have hwP : IntKind.i64.wrap (P : Int) = (P : Int) := IntWalk.i64_in _ (by omega)
      clear hPm e1 HH ho
      gi_wp2
      refine HR.out.mono ?_
      rintro e W3 (⟨rfl, hJ3, hk3⟩ | ⟨rfl, hJx3⟩)
      · gi_wp2
        go_roundw
        case rel => exact ⟨j + 1, by omega, by rw [hZZ.out], by simp, hJ3, hK.out.trans hk3⟩
        case measure => simp [intOf]; omega
      · gi_wp2
        refine bodyPost_ret (results_none rfl _ _ _) rfl ?_
        exact ⟨⟨_, rfl⟩, .inr ⟨_, ⟨j + 1, by omega, rfl⟩, hJx3⟩⟩
    · obtain rfl : j = kk := by omega
      have jn : ¬(j : Int) < (j : Int) := by omega
      gi_wp2
      go_end0
      exact ⟨⟨_, rfl⟩, .inl (by first | exact hJ.out | exact ⟨_, rfl, hJ.out⟩)⟩

/-- The function of positions has its contract. -/
theorem pos_stops (n : Nat) (hn : 1 ≤ n) (B : Nat) (k : TxtB) (kk sz m : Nat) (hkl : (k.length : Int) ≤ 140737488351232) (hm : 0 < m) (hm2 : m ≤ 2251799813685248) (hms : m = 8 * sz) (hkk : kk ≤ 30) (w : World) (hB : B + 3 ≤ w.heap.size) (hP : PosF B w k kk sz) :
    SeqStopsK Fence.wide n Try.prog 18 #[.pointer (some ⟨B, 0, none⟩), .pointer (some ⟨B + 2, 0, none⟩), .pointer (some ⟨B + 1, 0, none⟩)] (fun x : { p : Nat // p < m } => #[Value.int .i64 (x.1 : Int)]) (KpB B)
      (fun ys => ys = uptoP k m hm kk) (fun pre => ∃ j, j ≤ kk ∧ pre = uptoP k m hm j) kk w := fun l J Jx W hW _ _ hY h0 =>
  pos1_in n hn l B k kk sz m hkl hm hm2 hms hkk J Jx hY W (hP.at hW hB) h0

end Go.Proofs.Ytjhninkdpmdpbaa
