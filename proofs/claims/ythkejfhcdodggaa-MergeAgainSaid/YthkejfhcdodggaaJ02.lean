/- Base, Gen, OpenE, BkM. -/
import Derived.WalkKit
import Derived.WalkLawsBesides
import Derived.Lib.Hide
import Derived.IntWalk
import Derived.Outline
import Derived.Deep.QuietTactic
import Derived.BigQuiet
import Derived.Test.YthkejfhcdodggaaJ01
import Derived.Laws.BytesArg
import Derived.Laws.OwnMore
import Derived.Lib.UnsafeStr
import Derived.Lib.AppendStr
import Derived.Test.YthkejfhcdodggaaProg
import Derived.SizedLaws
import Derived.SliceStrings
import Derived.ProofKit
import Derived.Deep.Slices
import Derived.Deep.MidRow

/- Small laws that the walks over strings of bytes use: a string written as the list of its bytes. No program. -/
namespace Go.Proofs.Pk
open Go.RowKit
set_option maxRecDepth 10000

theorem mk_get (l : List UInt8) (i : Nat) (h : i < (ByteArray.mk l.toArray).size) : (ByteArray.mk l.toArray)[i]'h = l[i]'(by simpa [ByteArray.size] using h) := rfl
theorem wrap64_u8 (c : UInt8) : wrap64 (c.toNat : Int) = (c.toNat : Int) := by
  have := c.toNat_lt
  unfold wrap64; omega
theorem mk_size (l : List UInt8) : (ByteArray.mk l.toArray).size = l.length := rfl
theorem mk_extract (l : List UInt8) (a b : Nat) : (ByteArray.mk l.toArray).extract a b = ⟨((l.drop a).take (b - a)).toArray⟩ := ByteArray.extract_mk l a b
theorem wrap64_in {n : Int} (h0 : -9223372036854775808 ≤ n) (h1 : n ≤ 9223372036854775807) : wrap64 n = n := by
  unfold wrap64; omega

theorem or_byte (n : Nat) (c : UInt8) (h : n < 281474976710656) : bits .or .i64 (wrap64 ((n : Int) * 256)) (c.toNat : Int) = ((256 * n + c.toNat : Nat) : Int) := by
  have hc := c.toNat_lt
  rw [wrap64_in (by omega) (by omega)]
  have e : ((n : Int) * 256) = ((n * 256 : Nat) : Int) := by omega
  rw [e]
  have h1 : (BitVec.ofInt 64 ((n * 256 : Nat) : Int)).toNat = n * 256 := by
    rw [BitVec.ofInt_natCast, BitVec.toNat_ofNat]; exact Nat.mod_eq_of_lt (by omega)
  have h2 : (BitVec.ofInt 64 ((c.toNat : Nat) : Int)).toNat = c.toNat := by
    rw [BitVec.ofInt_natCast, BitVec.toNat_ofNat]; exact Nat.mod_eq_of_lt (by omega)
  show IntKind.i64.wrap ((BitVec.ofInt 64 ((n * 256 : Nat) : Int) ||| BitVec.ofInt 64 ((c.toNat : Nat) : Int)).toNat : Int) = _
  rw [BitVec.toNat_or, h1, h2]
  have h3 : n * 256 ||| c.toNat = 256 * n + c.toNat := by
    have := Nat.shiftLeft_add_eq_or_of_lt (i := 8) (b := c.toNat) (by omega) n
    rw [Nat.shiftLeft_eq, show (2 : Nat) ^ 8 = 256 from rfl] at this
    rw [← this]; omega
  rw [h3, IntKind.wrap_i64]
  omega

/-- The error of number c: none for 0. -/
def errV (t : Nat) (c : Nat) : Value := if c = 0 then .nilIface else .iface t (.int .i64 c)

end Go.Proofs.Pk

/- Small laws on worlds, strings and lists that the walks of layer 1 use. No program. -/
namespace Go.Proofs.Pk
open Go.RowKit
set_option maxRecDepth 10000
attribute [local simp] mk_get wrap64_u8 mk_extract ByteArray.mk_append_mk

theorem belowN {B : Nat} {a w : World} (h : Below B a w) (n : Nat) : Below B a (w.drewN n) := h.trans ⟨rfl, rfl, rfl, Nat.le_refl _, fun _ _ => rfl⟩

theorem get_1k (c : UInt8) (r : List UInt8) (k : Nat) (h : (1 + (k : Int)).toNat < (c :: r).length) : (c :: r)[(1 + (k : Int)).toNat]'h = r[k]'(by simp at h; omega) := by
  have : (1 + (k : Int)).toNat = k + 1 := by omega
  simp only [this]; rfl

theorem val_take (r : List UInt8) (k : Nat) (h : k < r.length) : val (r.take (k + 1)) = 256 * val (r.take k) + (r[k]).toNat := by
  rw [List.take_succ_eq_append_getElem h, val_snoc]

theorem str_drop1 (c : UInt8) (t : List UInt8) (k : Nat) : Value.string { data := (List.take (t.length + 1 - (1 + k)) (List.drop (1 + k) (c :: t))).toArray } = Value.string { data := (t.drop k).toArray } := by
  rw [show 1 + k = k + 1 from by omega, List.drop_succ_cons, List.take_of_length_le (by rw [List.length_drop]; omega)]

theorem str_drop0 (t : List UInt8) (k : Nat) : Value.string { data := (List.take (t.length - k) (List.drop k t)).toArray } = Value.string { data := (t.drop k).toArray } := by
  rw [List.take_of_length_le (by rw [List.length_drop]; omega)]

theorem head_beq (t : List UInt8) (ht : 0 < t.length) : (((t[0]'ht).toNat : Int) == 0) = (t.head? == some 0) := by
  cases t with
  | nil => simp at ht
  | cons a r =>
    simp only [List.getElem_cons_zero, List.head?_cons]
    rw [Bool.eq_iff_iff, beq_iff_eq, beq_iff_eq]
    constructor
    · intro h; rw [show a = 0 from UInt8.toNat_inj.1 (by simpa using h)]
    · intro h; simp at h; subst h; rfl

theorem val6 (t : List UInt8) (k : Nat) (h : k ≤ 6) : val (t.take k) < 281474976710656 := by
  have := val_lt _ (t.take k) rfl
  have h6 : (t.take k).length ≤ 6 := by rw [List.length_take]; omega
  have := Nat.pow_le_pow_right (n := 256) (by omega) h6
  omega

def R3 (w : World) (x y z : Value) (e : Ending) (w' : World) : Prop := e = .returned (.tuple #[x, y, z]) ∧ Below w.heap.size w w'

theorem R3.mk {w w' : World} {x y z x' y' z' : Value} (hx : x' = x) (hy : y' = y) (hz : z' = z) (h : Below w.heap.size w w') : R3 w x y z (.returned (.tuple #[x', y', z'])) w' := by
  subst hx hy hz; exact ⟨rfl, h⟩

def R2 (w : World) (x y : Value) (e : Ending) (w' : World) : Prop := e = .returned (.tuple #[x, y]) ∧ Below w.heap.size w w'

theorem R2.mk {w w' : World} {x y x' y' : Value} (hx : x' = x) (hy : y' = y) (h : Below w.heap.size w w') : R2 w x y (.returned (.tuple #[x', y'])) w' := by
  subst hx hy; exact ⟨rfl, h⟩

theorem ret_bool {a b : Bool} (h : a = b) : Ending.returned (.bool a) = .returned (.bool b) := by rw [h]

theorem int_beq (a b : Nat) : ((a : Int) == (b : Int)) = (a == b) := by
  rw [Bool.eq_iff_iff, beq_iff_eq, beq_iff_eq]; omega

theorem ret_int {k : IntKind} {a b : Int} (h : a = b) : Ending.returned (.int k a) = .returned (.int k b) := by rw [h]

theorem ofNat_int (n : Nat) : ((UInt8.ofNat n).toNat : Int) = (n : Int) % 256 := by simp

theorem below3 {w w1 w2 w3 : World} (b1 : Below w.heap.size w w1) (b2 : Below w1.heap.size w1 w2) (b3 : Below w2.heap.size w2 w3) : Below w.heap.size w w3 :=
  b1.trans ((b2.mono b1.size).trans (b3.mono (by have := b1.size; have := b2.size; omega)))

theorem below4 {w w1 w2 w3 w4 : World} (b1 : Below w.heap.size w w1) (b2 : Below w1.heap.size w1 w2) (b3 : Below w2.heap.size w2 w3) (b4 : Below w3.heap.size w3 w4) : Below w.heap.size w w4 :=
  b1.trans ((b2.mono b1.size).trans ((b3.mono (by have := b1.size; have := b2.size; omega)).trans (b4.mono (by have := b1.size; have := b2.size; have := b3.size; omega))))

theorem below5 {w w1 w2 w3 w4 w5 : World} (b1 : Below w.heap.size w w1) (b2 : Below w1.heap.size w1 w2) (b3 : Below w2.heap.size w2 w3) (b4 : Below w3.heap.size w3 w4) (b5 : Below w4.heap.size w4 w5) : Below w.heap.size w w5 :=
  (below4 b1 b2 b3 b4).trans (b5.mono (below4 b1 b2 b3 b4).size)

theorem belowT {w w1 w2 : World} (b1 : Below w.heap.size w w1) (b2 : Below w1.heap.size w1 w2) : Below w.heap.size w w2 := b1.trans (b2.mono b1.size)

theorem belowD {w w1 w2 : World} (b1 : Below w.heap.size w w1) (b2 : Below w1.drew.heap.size w1.drew w2) : Below w.heap.size w w2 := b1.trans ((belowN (Below.refl _ _) 1).trans (b2.mono b1.size))

theorem belowS {w w1 w2 : World} (b1 : Below w.heap.size w w1) (b2 : Below w1.heap.size w1 w2) : Below w.heap.size w w2 := b1.trans (b2.mono b1.size)

theorem txtL_length (s : List UInt8) : (txtL s).length = nb s.length + 1 + s.length := by
  rw [txtL, List.length_append, numL_length]

/-- What Num of any int returns. -/
def encN (n : Int) : List UInt8 × Nat := if 0 ≤ n ∧ n ≤ 9007199254740991 then (numL n.toNat, 0) else ([], 1)

def encT (s : List UInt8) : List UInt8 × Nat := if s.length ≤ MaxT then (txtL s, 0) else ([], 5)

theorem encN_ok {n : Nat} (h : n ≤ MaxN) : encN n = (numL n, 0) := by
  unfold MaxN at h; unfold encN; rw [if_pos (by omega)]; simp

theorem encT_ok {s : List UInt8} (h : s.length ≤ MaxT) : encT s = (txtL s, 0) := by unfold encT; rw [if_pos h]

theorem nb_div (m : Nat) (h0 : m ≠ 0) (h : m ≤ MaxN) : nb m = nb (m / 256) + 1 := by
  unfold MaxN at h
  unfold nb; repeat' split
  all_goals omega

theorem nb_div' (k : Nat) (h0 : k ≠ 0) (h : k ≤ 9007199254740991) : nb k = nb (k / 256) + 1 := by
  unfold nb; repeat' split
  all_goals omega

theorem byteCells_snoc1 (l : List UInt8) (c : UInt8) (x : Int) (h : x = c.toNat) : Lib.byteCells (l ++ [c]) = Lib.byteCells l ++ [.int .u8 x] := by
  rw [Lib.byteCells_append, h]; rfl

theorem strCells_mk (l : List UInt8) : Lib.strCells ⟨l.toArray⟩ = Lib.byteCells l := rfl

theorem add0 (g j : Nat) : (⟨g, 0, none⟩ : Addr).add j = ⟨g, j, none⟩ := by unfold Addr.add; split <;> simp_all

theorem str_nums (T : List UInt8) : strOfNums (T.map fun c => (c.toNat : Int)) = ⟨T.toArray⟩ := by
  have : (strOfNums (T.map fun c => (c.toNat : Int))).data.toList = T := by
    rw [strOfNums_data, List.map_map]
    conv => rhs; rw [← List.map_id T]
    apply List.map_congr_left
    intro c _
    simp
  calc strOfNums (T.map fun c => (c.toNat : Int)) = ⟨(strOfNums (T.map fun c => (c.toNat : Int))).data.toList.toArray⟩ := rfl
    _ = _ := by rw [this]

/-- A slice of texts that reads as l. -/
def Strs (w : World) (ad : Option Addr) (len : Nat) (l : List (List UInt8)) : Prop :=
  l.length = len ∧ (l = [] ∨ ∃ b off, ad = some ⟨b, off, none⟩ ∧ b < w.heap.size ∧ ∀ i (h : i < l.length), w.cell? ⟨b, off + i, none⟩ = some (.string ⟨(l[i]).toArray⟩))

theorem Strs.below {w w' : World} {ad : Option Addr} {len : Nat} {l : List (List UInt8)} (h : Strs w ad len l) (hb : Below w.heap.size w w') : Strs w' ad len l := by
  refine ⟨h.1, ?_⟩
  rcases h.2 with h | ⟨b, off, h1, h2, h3⟩
  · exact .inl h
  · exact .inr ⟨b, off, h1, Nat.lt_of_lt_of_le h2 hb.size, fun i hi => by rw [hb.cell (p := ⟨b, off + i, none⟩) h2]; exact h3 i hi⟩

/-- The texts ahead of k are alike, and what comes of it is r. -/
def Like (l m : List (List UInt8)) (k : Nat) : Prop := l.take k = m.take k

theorem Like.step {l m : List (List UInt8)} {k : Nat} (h : Like l m k) (h1 : k < l.length) (h2 : k < m.length) (he : l[k] = m[k]) : Like l m (k + 1) := by
  unfold Like at *
  rw [List.take_succ_eq_append_getElem h1, List.take_succ_eq_append_getElem h2, h, he]

def strV (s : List UInt8) : Value := .string ⟨s.toArray⟩

theorem take_set (X : List Value) (k : Nat) (v : Value) (h : k < X.length) : (X.set k v).take (k + 1) = X.take k ++ [v] := by
  rw [List.take_succ_eq_append_getElem (by simpa using h)]
  congr 1
  · rw [List.take_set]; exact List.set_eq_of_length_le (by rw [List.length_take]; omega)
  · simp

theorem map_snoc (T : List (List UInt8)) (x : List UInt8) : (T ++ [x]).map strV = T.map strV ++ [.string ⟨x.toArray⟩] := by simp [strV]

theorem owns_below {w w' : World} {B n : Nat} {e : TypeId} {v : Value} {X : List Value} (h : w.ownsRow B e 1 v n X) (hb : Below w.heap.size w w') : w'.ownsRow B e 1 v n X :=
  h.kept (row := none) ⟨hb.os, hb.tape, hb.output, hb.size, fun k hk _ => hb.block k hk⟩ (by cases hv : v.ownBlock <;> simp)

/-- The bytes of the first k texts, behind their number. -/
def head (l : List (List UInt8)) (k : Nat) : List UInt8 := numL l.length ++ (l.take k).flatMap txtL

theorem head_zero (l : List (List UInt8)) : head l 0 = numL l.length := by simp [head]

theorem head_all (l : List (List UInt8)) (k : Nat) (h : l.length ≤ k) : head l k = rowL l := by rw [head, List.take_of_length_le h, rowL]

theorem head_succ (l : List (List UInt8)) (k : Nat) (h : k < l.length) : head l (k + 1) = head l k ++ txtL l[k] := by
  rw [head, head, List.take_succ_eq_append_getElem h, List.flatMap_append, List.append_assoc]; simp

theorem txtL_le (s : List UInt8) : (txtL s).length ≤ s.length + 8 := by rw [txtL_length]; have := nb_le s.length; omega

theorem head_le (l : List (List UInt8)) (hl : l.length ≤ 1000) (hs : ∀ s ∈ l, s.length ≤ 140737488351232) : ∀ k, k ≤ l.length → (head l k).length ≤ 8 + k * 140737488351240
  | 0, _ => by rw [head_zero]; have := numL_len_le l.length; omega
  | k + 1, h => by
    rw [head_succ l k h, List.length_append]
    have := head_le l hl hs k (by omega)
    have := txtL_le l[k]
    have := hs l[k] (List.getElem_mem h)
    omega

theorem head_mono (l : List (List UInt8)) (k : Nat) : (head l k).length ≤ (rowL l).length := by
  rw [head, rowL, List.length_append, List.length_append]
  have : (l.take k).flatMap txtL ++ (l.drop k).flatMap txtL = l.flatMap txtL := by rw [← List.flatMap_append, List.take_append_drop]
  have := congrArg List.length this
  rw [List.length_append] at this
  omega

theorem head_mono2 (l : List (List UInt8)) (k : Nat) : (head l (k + 1)).length ≤ (rowL l).length := head_mono l (k + 1)

/-- What Row of any texts returns. -/
def encR (l : List (List UInt8)) : List UInt8 × Nat := if l.length ≤ 1000 ∧ (rowL l).length ≤ MaxT then (rowL l, 0) else ([], 5)

end Go.Proofs.Pk

/- A slice of entries among a law's arguments, opened: it reads as a list of entries. -/
namespace Go.Proofs.Ythkejfhcdodggaa
open Go.ChangeShapes Go.WideShapes Go.ChangeAt Go.RowKit Go.Proofs.Pk
set_option maxRecDepth 10000

/-- An entry's cells. -/
def entC (u : MEnt) : List Value := [.string ⟨u.1.toArray⟩, .int .i64 u.2.1, .bool u.2.2.1, .string ⟨u.2.2.2.toArray⟩]
def FitN (n : Int) : Prop := -9223372036854775808 ≤ n ∧ n ≤ 9223372036854775807
structure EntAt (w : World) (b o : Nat) (u : MEnt) : Prop where
  row : ∀ j v, (entC u)[j]? = some v → w.cell? ⟨b, o + j, none⟩ = some v
  fit : FitN u.2.1
def EntsW (w : World) (ad : Option Addr) (len : Nat) (l : List MEnt) : Prop :=
  l.length = len ∧ (l = [] ∨ ∃ b off, ad = some ⟨b, off, none⟩ ∧ b < w.heap.size ∧ ∀ i (h : i < l.length), EntAt w b (off + i * 4) l[i])
/-- An entry of a slice among the arguments, in each later world. -/
theorem entsW_all {w : World} {ad : Option Addr} {len : Nat} {l : List MEnt} (h : EntsW w ad len l) (i : Nat) (hi : i < len) : ∃ b off, ad = some ⟨b, off, none⟩ ∧ b < w.heap.size ∧ ∃ h' : i < l.length, FitN (l[i]).2.1 ∧ ∀ w', Below w.heap.size w w' → w'.rangeAt b (off + i * 4) (entC l[i]) := by
  have hl := h.1
  rcases h.2 with h0 | ⟨b, off, h1, h2, h3⟩
  · rw [h0] at hl; simp at hl; omega
  · have hp := h3 i (by omega)
    exact ⟨b, off, h1, h2, by omega, hp.fit, fun w' hb j v hv => (hb.cell (p := ⟨b, off + i * 4 + j, none⟩) h2).trans (hp.row j v hv)⟩
theorem fit_ofN {n : Int} (h : (Lit.int .i64 n).wf = true) : FitN n := by simpa [FitN, Lit.wf, IntKind.min, IntKind.max, IntKind.signed, IntKind.bits] using h

theorem openEntW {H : Type} {enc : TypeId × Value → H} {W : World} {base : Nat} {spare : Nat → Bool} {held : Bool} {n : Nat} {b o : Nat} {cs : List Value} {x : DataW H × List MemPlace}
    (h1 : W.cells? base ⟨b, o, none⟩ 4 = some cs) (h2 : DataW.trod enc Try.prog W base spare held n 34 cs = some x) : ∃ u, EntAt W b o u := by
  obtain ⟨_, hlen, hcell⟩ := World.cells?_some h1
  obtain ⟨xs, m, _, hx, _, hxl, hf⟩ := DataW.trod_struct Try.underlying34 h2
  have c1 : Try.prog.cellsOf 3 = 1 := by kernel_rfl
  have c2 : Try.prog.cellsOf 9 = 1 := by kernel_rfl
  have c3 : Try.prog.cellsOf 4 = 1 := by kernel_rfl
  match xs, hxl, cs, hlen with
  | [y0, y1, y2, y3], _, [v0, v1, v2, v3], _ =>
    have g0 := hf 0 _ rfl
    have g1 := hf 1 _ rfl
    have g2 := hf 2 _ rfl
    have g3 := hf 3 _ rfl
    simp [c1, c2, c3] at g0 g1 g2 g3
    obtain ⟨⟨⟨s0⟩⟩, e0, _, w0⟩ := DataW.trod_string Try.underlying9 g0
    obtain ⟨n1, e1, _, w1⟩ := DataW.trod_int Try.underlying3 g1
    obtain ⟨b2, e2, _⟩ := DataW.trod_bool Try.underlying4 g2
    obtain ⟨⟨⟨s3⟩⟩, e3, _, w3⟩ := DataW.trod_string Try.underlying9 g3
    simp at e0 e1 e2 e3
    subst e0 e1 e2 e3
    refine ⟨(s0, n1, b2, s3), ?_, fit_ofN w1⟩
    intro j v hv
    have hj : j < 4 := by have := (List.getElem?_eq_some_iff.1 hv).1; simpa [entC] using this
    have := hcell j hj
    rw [Addr.add_mid] at this
    rw [this]
    simpa [entC] using hv

theorem openEnts {H : Type} {enc : TypeId × Value → H} {W : World} {base : Nat} {spare : Nat → Bool} {held : Bool} {fuel : Nat} {ad : Option Addr} {len cap : Nat} {d : DataW H} {p : List MemPlace}
    (hf : DataW.trod enc Try.prog W base spare held fuel 24 (Value.slice ad len cap).cells.toList = some (d, p)) : ∃ l, EntsW W ad len l ∧ len ≤ cap := by
  have c6 : Try.prog.cellsOf 34 = 4 := by kernel_rfl
  rcases Go.Deep.open_slice Try.underlying24 hf with ⟨hcs, _⟩ | ⟨a, len', cap', m, n, D, Pl, hcs, _, hl, hm, hmm, hx, hel⟩
  · simp [Value.cells] at hcs
    obtain ⟨rfl, rfl, rfl⟩ := hcs
    exact ⟨[], ⟨rfl, .inl rfl⟩, Nat.le_refl _⟩
  · simp [Value.cells] at hcs
    obtain ⟨rfl, rfl, rfl⟩ := hcs
    have hlen : len ≤ m := by rw [hmm]; split <;> omega
    by_cases h0 : len = 0
    · subst h0; exact ⟨[], ⟨rfl, .inl rfl⟩, hl⟩
    · rw [c6] at hel
      obtain ⟨b, off, spot⟩ := a
      have hspot : spot = none := by
        obtain ⟨cs', g1, _⟩ := hel 0 (by omega)
        obtain ⟨_, hl3, hc⟩ := World.cells?_some g1
        have hc0 := hc 0 (by omega)
        have : ∃ v, cs'[0]? = some v := ⟨cs'[0]'(by omega), by rw [List.getElem?_eq_getElem (by omega)]⟩
        obtain ⟨v, hv⟩ := this
        rw [hv] at hc0
        simpa [Addr.add] using World.cell?_spot hc0
      subst hspot
      have each : ∀ i, i < len → ∃ u, EntAt W b (off + i * 4) u := fun i hi => by
        obtain ⟨cs', g1, g2⟩ := hel i (by omega)
        rw [Addr.add_mid] at g1
        exact openEntW g1 g2
      obtain ⟨f, hff⟩ : ∃ f : Nat → MEnt, ∀ i, i < len → EntAt W b (off + i * 4) (f i) := by
        refine ⟨fun i => if h : i < len then (each i h).choose else ([], 0, false, []), fun i hi => ?_⟩
        simp only [hi, dif_pos]
        exact (each i hi).choose_spec
      have hblk : b < W.heap.size := by
        have := (hff 0 (by omega)).row 0 _ rfl
        exact World.block_lt_of_cell? W _ this
      refine ⟨(List.range len).map f, ⟨by simp, .inr ⟨b, off, rfl, hblk, fun i hi => ?_⟩⟩, hl⟩
      have hi' : i < len := by simpa using hi
      have e : ((List.range len).map f)[i]'hi = f i := by simp
      rw [e]; exact hff i hi'

end Go.Proofs.Ythkejfhcdodggaa

/- Mathematics of layer 12 (block): entries with shared beginnings of keys, written and read. No program. -/
namespace Go.Proofs.Pk
set_option maxRecDepth 10000

def sortF : Option MEnt → List MEnt → Bool
  | _, [] => true
  | none, e :: r => rightM e && sortF (some e) r
  | some p, e :: r => rightM e && befM p e && sortF (some e) r
/-- Sorted, as the chapter says. -/
def sortB (l : List MEnt) : Bool := sortF none l
/-- How many bytes two texts begin with alike. -/
def lcpL : Txt → Txt → Nat
  | a :: r, b :: s => if a = b then lcpL r s + 1 else 0
  | _, _ => 0
def shareB (last : Txt) (i : Nat) (k : Txt) : Nat := if i % 4 = 0 then 0 else lcpL last k
def dropB (e : MEnt) : Txt := if e.2.2.1 = true then numL 1 else numL 0 ++ txtL e.2.2.2
def recB (last : Txt) (i : Nat) (e : MEnt) : Txt := numL (shareB last i e.1) ++ txtL (e.1.drop (shareB last i e.1)) ++ numL e.2.1.toNat ++ dropB e
def bodyB : Txt → Nat → List MEnt → Txt
  | _, _, [] => []
  | last, i, e :: r => recB last i e ++ bodyB e.1 (i + 1) r
def encB (l : List MEnt) : Txt × Nat := if 200 < l.length then ([], 5) else if sortB l = true then (numL l.length ++ bodyB [] 0 l, 0) else ([], 1)
/-- One entry at the beginning of a text, behind a key; the rest; false: there is none. -/
def rdOne (b last : Txt) : MEnt × Txt × Bool :=
  if (rdNum b).2.2 ≠ 0 ∨ last.length < (rdNum b).1 then (zeroM, [], false)
  else if (rdTxt (rdNum b).2.1).2.2 ≠ 0 then (zeroM, [], false)
  else if (rdNum (rdTxt (rdNum b).2.1).2.1).2.2 ≠ 0 then (zeroM, [], false)
  else if (rdNum (rdNum (rdTxt (rdNum b).2.1).2.1).2.1).2.2 ≠ 0 ∨ 1 < (rdNum (rdNum (rdTxt (rdNum b).2.1).2.1).2.1).1 then (zeroM, [], false)
  else if (rdNum (rdNum (rdTxt (rdNum b).2.1).2.1).2.1).1 = 1 then
    ((last.take (rdNum b).1 ++ (rdTxt (rdNum b).2.1).1, ((rdNum (rdTxt (rdNum b).2.1).2.1).1 : Int), true, []), (rdNum (rdNum (rdTxt (rdNum b).2.1).2.1).2.1).2.1, true)
  else if (rdTxt (rdNum (rdNum (rdTxt (rdNum b).2.1).2.1).2.1).2.1).2.2 ≠ 0 then (zeroM, [], false)
  else ((last.take (rdNum b).1 ++ (rdTxt (rdNum b).2.1).1, ((rdNum (rdTxt (rdNum b).2.1).2.1).1 : Int), false, (rdTxt (rdNum (rdNum (rdTxt (rdNum b).2.1).2.1).2.1).2.1).1), (rdTxt (rdNum (rdNum (rdTxt (rdNum b).2.1).2.1).2.1).2.1).2.1, true)
def rdMany : Nat → Txt → Txt → Option (List MEnt × Txt)
  | 0, b, _ => some ([], b)
  | n + 1, b, last => if (rdOne b last).2.2 = true then (match rdMany n (rdOne b last).2.1 (rdOne b last).1.1 with
      | some (l, t) => some ((rdOne b last).1 :: l, t)
      | none => none) else none
/-- The list of a block's bytes, and whether they are one. -/
def decB (b : Txt) : List MEnt × Bool :=
  if (rdNum b).2.2 ≠ 0 ∨ 200 < (rdNum b).1 then ([], false) else match rdMany (rdNum b).1 (rdNum b).2.1 [] with
    | some (l, _) => if encB l = (b, 0) then (l, true) else ([], false)
    | none => ([], false)

theorem lcp_le_left : ∀ a b : Txt, lcpL a b ≤ a.length
  | [], _ => by simp [lcpL]
  | _ :: _, [] => by simp [lcpL]
  | a :: r, b :: s => by unfold lcpL; split; (have := lcp_le_left r s; simp; omega); simp
theorem lcp_le_right : ∀ a b : Txt, lcpL a b ≤ b.length
  | [], _ => by simp [lcpL]
  | _ :: _, [] => by simp [lcpL]
  | a :: r, b :: s => by unfold lcpL; split; (have := lcp_le_right r s; simp; omega); simp
theorem lcp_take : ∀ a b : Txt, a.take (lcpL a b) = b.take (lcpL a b)
  | [], _ => by simp [lcpL]
  | _ :: _, [] => by simp [lcpL]
  | a :: r, b :: s => by
    unfold lcpL
    split
    · rename_i h
      subst h
      simp only [List.take_succ_cons, lcp_take r s]
    · simp
theorem share_le (last : Txt) (i : Nat) (k : Txt) : shareB last i k ≤ last.length ∧ shareB last i k ≤ k.length := by
  unfold shareB
  split
  · simp
  · exact ⟨lcp_le_left _ _, lcp_le_right _ _⟩
theorem share_back (last : Txt) (i : Nat) (k : Txt) : last.take (shareB last i k) ++ k.drop (shareB last i k) = k := by
  unfold shareB
  split
  · simp
  · rw [lcp_take, List.take_append_drop]
theorem right_of {e : MEnt} (h : rightM e = true) : e.1 ≠ [] ∧ e.1.length ≤ 80 ∧ e.2.2.2.length ≤ 300 ∧ 1 ≤ e.2.1 ∧ e.2.1 ≤ 9007199254740991 ∧ (e.2.2.1 = true → e.2.2.2 = []) := by
  unfold rightM at h; exact of_decide_eq_true h
/-- What was written of one entry is read. -/
theorem rdOne_rec (last : Txt) (i : Nat) (e : MEnt) (he : rightM e = true) (t : Txt) : rdOne (recB last i e ++ t) last = (e, t, true) := by
  obtain ⟨_, h2, h3, h4, h5, h6⟩ := right_of he
  have hs := share_le last i e.1
  have hb := share_back last i e.1
  unfold recB
  generalize shareB last i e.1 = n at hs hb ⊢
  have hn : n ≤ MaxN := by unfold MaxN; omega
  have hq : e.2.1.toNat ≤ MaxN := by unfold MaxN; omega
  have ht : (e.1.drop n).length ≤ MaxT := by unfold MaxT; simp; omega
  have hv : e.2.2.2.length ≤ MaxT := by unfold MaxT; omega
  have e1 : rdNum (numL n ++ txtL (e.1.drop n) ++ numL e.2.1.toNat ++ dropB e ++ t) = (n, txtL (e.1.drop n) ++ (numL e.2.1.toNat ++ (dropB e ++ t)), 0) := by
    rw [List.append_assoc, List.append_assoc, List.append_assoc, rdNum_numL n hn]
  have e2 := rdTxt_txtL (e.1.drop n) (numL e.2.1.toNat ++ (dropB e ++ t)) ht
  have e3 := rdNum_numL e.2.1.toNat hq (dropB e ++ t)
  have hqi : ((e.2.1.toNat : Nat) : Int) = e.2.1 := by omega
  unfold rdOne
  rw [e1]
  simp only
  rw [e2]
  simp only
  rw [e3]
  simp only
  rw [if_neg (by simp; omega), if_neg (by simp), if_neg (by simp)]
  unfold dropB
  obtain ⟨k, q, d, v⟩ := e
  simp only at *
  by_cases hd : d = true
  · subst hd
    have := h6 rfl
    subst this
    rw [if_pos rfl]
    have e4 := rdNum_numL 1 (by unfold MaxN; omega) t
    rw [e4]
    simp only
    rw [if_neg (by simp), if_pos (by trivial), hb, hqi]
  · rw [if_neg hd]
    have e4 := rdNum_numL 0 (by unfold MaxN; omega) (txtL v ++ t)
    rw [List.append_assoc, e4]
    simp only
    have e5 := rdTxt_txtL v t hv
    rw [e5]
    simp only
    have hdf : d = false := by simpa using hd
    subst hdf
    rw [if_neg (by simp), if_neg (by simp), if_neg (by simp), hb, hqi]
theorem sortF_cons {p : Option MEnt} {e : MEnt} {r : List MEnt} (h : sortF p (e :: r) = true) : rightM e = true ∧ sortF (some e) r = true := by
  cases p with
  | none => simp only [sortF, Bool.and_eq_true] at h; exact h
  | some p => simp only [sortF, Bool.and_eq_true] at h; exact ⟨h.1.1, h.2⟩
/-- What was written of a list is read, whatever lies behind it. -/
theorem rdMany_body : ∀ (l : List MEnt) (p : Option MEnt) (last : Txt) (i : Nat) (t : Txt), sortF p l = true → rdMany l.length (bodyB last i l ++ t) last = some (l, t)
  | [], _, _, _, _, _ => rfl
  | e :: r, p, last, i, t, h => by
    obtain ⟨h1, h2⟩ := sortF_cons h
    show rdMany (r.length + 1) (recB last i e ++ bodyB e.1 (i + 1) r ++ t) last = _
    unfold rdMany
    rw [List.append_assoc, rdOne_rec last i e h1]
    simp only
    rw [rdMany_body r (some e) e.1 (i + 1) t h2, if_pos trivial]
theorem enc_ok {l : List MEnt} {b : Txt} (h : encB l = (b, 0)) : l.length ≤ 200 ∧ sortB l = true ∧ b = numL l.length ++ bodyB [] 0 l := by
  unfold encB at h
  split at h
  · cases h
  · split at h
    · rename_i h1 h2; cases h; exact ⟨by omega, h2, rfl⟩
    · cases h
/-- A block's bytes, with whatever behind them, are read so far. -/
theorem read_block {l : List MEnt} {b : Txt} (h : encB l = (b, 0)) (t : Txt) : (rdNum (b ++ t)).2.2 = 0 ∧ (rdNum (b ++ t)).1 = l.length ∧ rdMany (rdNum (b ++ t)).1 (rdNum (b ++ t)).2.1 [] = some (l, t) := by
  obtain ⟨h1, h2, rfl⟩ := enc_ok h
  have e := rdNum_numL l.length (by unfold MaxN; omega) (bodyB [] 0 l ++ t)
  rw [List.append_assoc, e]
  exact ⟨rfl, rfl, rdMany_body l none [] 0 t h2⟩
theorem dec_iff {l : List MEnt} {b : Txt} : decB b = (l, true) ↔ encB l = (b, 0) := by
  constructor
  · intro h
    unfold decB at h
    split at h
    · cases h
    · split at h
      · split at h
        · rename_i h3; cases h; exact h3
        · cases h
      · cases h
  · intro h
    obtain ⟨h1, h2, h3⟩ := read_block h []
    rw [List.append_nil] at h1 h2 h3
    have := (enc_ok h).1
    unfold decB
    rw [if_neg (by omega), h3]
    simp only
    rw [if_pos h]
theorem dec_no {b : Txt} (h : (decB b).2 = false) : decB b = ([], false) := by
  unfold decB at h ⊢
  split
  · rfl
  · split
    · split
      · rename_i h1 _ _ _ h2 h3
        rw [if_neg h1, h2] at h
        simp only at h
        rw [if_pos h3] at h; cases h
      · rfl
    · rfl
theorem enc_bad {l : List MEnt} (h : (encB l).2 ≠ 0) : (encB l).1 = [] := by
  unfold encB at h ⊢
  split
  · rfl
  · split
    · rename_i h1 h2; rw [if_neg h1, if_pos h2] at h; exact absurd rfl h
    · rfl
/-- No block begins another. -/
theorem no_begin {l l' : List MEnt} {b t : Txt} (h : encB l = (b, 0)) (h' : encB l' = (b ++ t, 0)) : t = [] := by
  obtain ⟨h1, h2, h3⟩ := read_block h t
  obtain ⟨k1, k2, k3⟩ := read_block h' []
  rw [List.append_nil] at k1 k2 k3
  rw [h3] at k3
  have := Option.some.inj k3
  exact (Prod.mk.inj this).2
theorem dec_cut {l : List MEnt} {a : Txt} (h : encB l = (a, 0)) {n : Nat} (hn : n < a.length) : decB (a.take n) = ([], false) := by
  apply dec_no
  rw [Bool.eq_false_iff]
  intro hd
  have h1 : decB (a.take n) = ((decB (a.take n)).1, true) := by rw [← hd]
  have h2 := dec_iff.1 h1
  have h3 := no_begin h2 (t := a.drop n) (by rw [List.take_append_drop]; exact h)
  have := congrArg List.length h3
  simp at this
  omega
theorem dec_more {l : List MEnt} {a t : Txt} (h : encB l = (a, 0)) (ht : t ≠ []) : decB (a ++ t) = ([], false) := by
  apply dec_no
  rw [Bool.eq_false_iff]
  intro hd
  have h1 : decB (a ++ t) = ((decB (a ++ t)).1, true) := by rw [← hd]
  exact ht (no_begin h (dec_iff.1 h1))
/-! Parts of a sorted list. -/
theorem sortF_weak {p : Option MEnt} {l : List MEnt} (h : sortF p l = true) : sortF none l = true := by
  cases l with
  | nil => rfl
  | cons e r => obtain ⟨h1, h2⟩ := sortF_cons h; simp only [sortF, h1, h2, Bool.and_self]
theorem sortF_take : ∀ (l : List MEnt) (p : Option MEnt) (n : Nat), sortF p l = true → sortF p (l.take n) = true
  | [], p, n, _ => by simp [sortF]
  | e :: r, p, 0, _ => by simp [sortF]
  | e :: r, p, n + 1, h => by
    have h2 := sortF_take r (some e) n (sortF_cons h).2
    cases p with
    | none => simp only [sortF, Bool.and_eq_true] at h; simp only [List.take_succ_cons, sortF, h.1, h2, Bool.and_self]
    | some p => simp only [sortF, Bool.and_eq_true] at h; simp only [List.take_succ_cons, sortF, h.1.1, h.1.2, h2, Bool.and_self]
theorem sortF_drop : ∀ (l : List MEnt) (p : Option MEnt) (n : Nat), sortF p l = true → sortF none (l.drop n) = true
  | [], p, n, _ => by simp [sortF]
  | e :: r, p, 0, h => sortF_weak h
  | e :: r, p, n + 1, h => by rw [List.drop_succ_cons]; exact sortF_drop r (some e) n (sortF_cons h).2
theorem sort_take {l : List MEnt} (n : Nat) (h : sortB l = true) : sortB (l.take n) = true := sortF_take l none n h
theorem sort_drop {l : List MEnt} (n : Nat) (h : sortB l = true) : sortB (l.drop n) = true := sortF_drop l none n h
/-- Two sorted lists, one behind the other. -/
theorem sortF_join : ∀ (l : List MEnt) (p : Option MEnt) (a b : MEnt) (r : List MEnt), sortF p (l ++ [a]) = true → sortF none (b :: r) = true → sortF p (l ++ a :: b :: r) = befM a b
  | [], p, a, b, r, h, k => by
    simp only [sortF, Bool.and_eq_true] at k
    cases p with
    | none => simp only [List.nil_append, sortF, Bool.and_eq_true] at h ⊢; simp [h.1, k.1, k.2]
    | some p => simp only [List.nil_append, sortF, Bool.and_eq_true] at h ⊢; simp [h.1, k.1, k.2]
  | e :: l, p, a, b, r, h, k => by
    have h2 := sortF_join l (some e) a b r (sortF_cons h).2 k
    cases p with
    | none => simp only [List.cons_append, sortF, Bool.and_eq_true] at h ⊢; rw [h2]; simp [h.1]
    | some p => simp only [List.cons_append, sortF, Bool.and_eq_true] at h ⊢; rw [h2]; simp [h.1]
theorem sort_join {l : List MEnt} {n : Nat} (h0 : 0 < n) (hn : n < l.length) (h : sortB (l.take n) = true) (k : sortB (l.drop n) = true) : sortB l = befM (l[n - 1]) (l[n]) := by
  obtain ⟨m, rfl⟩ : ∃ m, n = m + 1 := ⟨n - 1, by omega⟩
  have e1 : l.take (m + 1) = l.take m ++ [l[m]] := by rw [List.take_succ_eq_append_getElem (by omega)]
  have e2 : l.drop (m + 1) = l[m + 1] :: l.drop (m + 2) := List.drop_eq_getElem_cons hn
  have e3 : l = l.take m ++ l[m] :: l[m + 1] :: l.drop (m + 2) := by
    rw [← e2, ← List.singleton_append, ← List.append_assoc, ← e1, List.take_append_drop]
  have := sortF_join (l.take m) none l[m] l[m + 1] (l.drop (m + 2)) (by rw [← e1]; exact h) (by rw [← e2]; exact k)
  rw [← e3] at this
  exact this
theorem sort_one {e : MEnt} : sortB [e] = rightM e := by simp [sortB, sortF]
theorem sort_mem : ∀ (l : List MEnt) (p : Option MEnt), sortF p l = true → ∀ e ∈ l, rightM e = true
  | [], _, _, _, he => by cases he
  | x :: r, p, h, e, he => by
    obtain ⟨h1, h2⟩ := sortF_cons h
    rcases List.mem_cons.1 he with rfl | he
    · exact h1
    · exact sort_mem r _ h2 e he

/-! How long a block is. -/
theorem numL_small {n : Nat} (h : n < 256) : (numL n).length ≤ 2 := by
  rw [numL_length]
  have : nb n ≤ nb 255 := nb_mono (by omega)
  have e : nb 255 = 1 := by decide
  omega
theorem txtL_mono {s t : Txt} (h : s.length ≤ t.length) : (txtL s).length ≤ (txtL t).length := by
  unfold txtL
  rw [List.length_append, List.length_append, numL_length, numL_length]
  have := nb_mono h
  omega
theorem rec_len (last : Txt) (i : Nat) (e : MEnt) (he : rightM e = true) : (recB last i e).length ≤ (recB [] 0 e).length + 1 := by
  obtain ⟨_, h2, _⟩ := right_of he
  have hs := (share_le last i e.1).2
  unfold recB
  have e0 : shareB [] 0 e.1 = 0 := by simp [shareB]
  rw [e0, List.drop_zero]
  generalize shareB last i e.1 = n at hs
  have h3 := numL_small (n := n) (by omega)
  have h4 := txtL_mono (s := e.1.drop n) (t := e.1) (by simp)
  have h5 : (numL 0).length = 1 := by decide
  simp only [List.length_append]
  omega
theorem body_len : ∀ (l : List MEnt) (p : Option MEnt) (last : Txt) (i : Nat), sortF p l = true → (bodyB last i l).length ≤ (l.map fun e => (recB [] 0 e).length + 1).sum
  | [], _, _, _, _ => by simp [bodyB]
  | e :: r, p, last, i, h => by
    obtain ⟨h1, h2⟩ := sortF_cons h
    have := body_len r (some e) e.1 (i + 1) h2
    have h3 := rec_len last i e h1
    show (recB last i e ++ bodyB e.1 (i + 1) r).length ≤ _
    rw [List.length_append, List.map_cons, List.sum_cons]
    omega
theorem enc_one {e : MEnt} (he : rightM e = true) : encB [e] = (numL 1 ++ recB [] 0 e, 0) := by
  unfold encB
  rw [if_neg (by simp), sort_one, if_pos he]
  simp [bodyB]
/-- The statement's bound: two bytes for each entry, and three. -/
theorem enc_short {l : List MEnt} {b : Txt} (hl : l.length ≤ 60) (h : encB l = (b, 0)) : b.length ≤ 3 + (l.map fun e => (encB [e]).1.length + 2).sum := by
  obtain ⟨h1, h2, rfl⟩ := enc_ok h
  have h3 := body_len l none [] 0 h2
  have h4 := numL_small (n := l.length) (by omega)
  have h5 : (l.map fun e => (recB [] 0 e).length + 1).sum ≤ (l.map fun e => (encB [e]).1.length + 2).sum := by
    have hr := sort_mem l none h2
    clear h h1 h2 h3 h4 hl
    induction l with
    | nil => simp
    | cons e r ih =>
      have h6 := ih (fun x hx => hr x (by simp [hx]))
      have h7 := enc_one (hr e (by simp))
      rw [List.map_cons, List.sum_cons, List.map_cons, List.sum_cons, h7]
      simp only [List.length_append]
      omega
  rw [List.length_append]
  omega
end Go.Proofs.Pk
