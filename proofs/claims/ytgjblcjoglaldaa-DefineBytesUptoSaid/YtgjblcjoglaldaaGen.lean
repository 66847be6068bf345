/- Small laws on worlds, strings and lists that the walks of layer 1 use. No program. -/
import Derived.Test.YtgjblcjoglaldaaMathR
import Derived.Test.YtgjblcjoglaldaaBase
import Derived.Laws.BytesArg
import Derived.Laws.OwnMore
import Derived.Lib.UnsafeStr
import Derived.Lib.AppendStr
namespace Go.Proofs.Pk
open Go.RowKit
set_option maxRecDepth 10000
attribute [local simp] mk_get wrap64_u8 mk_extract ByteArray.mk_append_mk

theorem belowN {B : Nat} {a w : World} (h : Below B a w) (n : Nat) : Below B a (w.drewN n) := h.trans ⟨rfl, rfl, rfl, Nat.le_refl _, fun _ _ => rfl⟩

theorem get_1k (c : UInt8) (r : List UInt8) (k : Nat) (h : (1 + (k : Int)).toNat < (c :: r).length) : (c :: r)[(1 + (k : Int)).toNat]'h = r[k]'(by simp at h; omega) := by
  have : (1 + (k : Int)).toNat = k + 1 := by omega
  simp only [this]; rfl

theorem val_take (r : List UInt8) (k : Nat) (h : k < r.length) : val (r.take (k + 1)) = 256 * val (r.take k) + (r[k]).toNat := by
  rw [List.take_succ_eq_append_getElem h, val_snoc]

theorem str_drop1 (c : UInt8) (t : List UInt8) (k : Nat) : Value.string { data := (List.take (t.length + 1 - (1 + k)) (List.drop (1 + k) (c :: t))).toArray } = Value.string { data := (t.drop k).toArray } := by
  rw [show 1 + k = k + 1 from by omega, List.drop_succ_cons, List.take_of_length_le (by rw [List.length_drop]; omega)]

theorem str_drop0 (t : List UInt8) (k : Nat) : Value.string { data := (List.take (t.length - k) (List.drop k t)).toArray } = Value.string { data := (t.drop k).toArray } := by
  rw [List.take_of_length_le (by rw [List.length_drop]; omega)]

theorem head_beq (t : List UInt8) (ht : 0 < t.length) : (((t[0]'ht).toNat : Int) == 0) = (t.head? == some 0) := by
  cases t with
  | nil => simp at ht
  | cons a r =>
    simp only [List.getElem_cons_zero, List.head?_cons]
    rw [Bool.eq_iff_iff, beq_iff_eq, beq_iff_eq]
    constructor
    · intro h; rw [show a = 0 from UInt8.toNat_inj.1 (by simpa using h)]
    · intro h; simp at h; subst h; rfl

theorem val6 (t : List UInt8) (k : Nat) (h : k ≤ 6) : val (t.take k) < 281474976710656 := by
  have := val_lt _ (t.take k) rfl
  have h6 : (t.take k).length ≤ 6 := by rw [List.length_take]; omega
  have := Nat.pow_le_pow_right (n := 256) (by omega) h6
  omega

def R3 (w : World) (x y z : Value) (e : Ending) (w' : World) : Prop := e = .returned (.tuple #[x, y, z]) ∧ Below w.heap.size w w'

theorem R3.mk {w w' : World} {x y z x' y' z' : Value} (hx : x' = x) (hy : y' = y) (hz : z' = z) (h : Below w.heap.size w w') : R3 w x y z (.returned (.tuple #[x', y', z'])) w' := by
  subst hx hy hz; exact ⟨rfl, h⟩

def R2 (w : World) (x y : Value) (e : Ending) (w' : World) : Prop := e = .returned (.tuple #[x, y]) ∧ Below w.heap.size w w'

theorem R2.mk {w w' : World} {x y x' y' : Value} (hx : x' = x) (hy : y' = y) (h : Below w.heap.size w w') : R2 w x y (.returned (.tuple #[x', y'])) w' := by
  subst hx hy; exact ⟨rfl, h⟩

theorem ret_bool {a b : Bool} (h : a = b) : Ending.returned (.bool a) = .returned (.bool b) := by rw [h]

theorem int_beq (a b : Nat) : ((a : Int) == (b : Int)) = (a == b) := by
  rw [Bool.eq_iff_iff, beq_iff_eq, beq_iff_eq]; omega

theorem ret_int {k : IntKind} {a b : Int} (h : a = b) : Ending.returned (.int k a) = .returned (.int k b) := by rw [h]

theorem ofNat_int (n : Nat) : ((UInt8.ofNat n).toNat : Int) = (n : Int) % 256 := by simp

theorem below3 {w w1 w2 w3 : World} (b1 : Below w.heap.size w w1) (b2 : Below w1.heap.size w1 w2) (b3 : Below w2.heap.size w2 w3) : Below w.heap.size w w3 :=
  b1.trans ((b2.mono b1.size).trans (b3.mono (by have := b1.size; have := b2.size; omega)))

theorem below4 {w w1 w2 w3 w4 : World} (b1 : Below w.heap.size w w1) (b2 : Below w1.heap.size w1 w2) (b3 : Below w2.heap.size w2 w3) (b4 : Below w3.heap.size w3 w4) : Below w.heap.size w w4 :=
  b1.trans ((b2.mono b1.size).trans ((b3.mono (by have := b1.size; have := b2.size; omega)).trans (b4.mono (by have := b1.size; have := b2.size; have := b3.size; omega))))

theorem below5 {w w1 w2 w3 w4 w5 : World} (b1 : Below w.heap.size w w1) (b2 : Below w1.heap.size w1 w2) (b3 : Below w2.heap.size w2 w3) (b4 : Below w3.heap.size w3 w4) (b5 : Below w4.heap.size w4 w5) : Below w.heap.size w w5 :=
  (below4 b1 b2 b3 b4).trans (b5.mono (below4 b1 b2 b3 b4).size)

theorem belowT {w w1 w2 : World} (b1 : Below w.heap.size w w1) (b2 : Below w1.heap.size w1 w2) : Below w.heap.size w w2 := b1.trans (b2.mono b1.size)

theorem belowD {w w1 w2 : World} (b1 : Below w.heap.size w w1) (b2 : Below w1.drew.heap.size w1.drew w2) : Below w.heap.size w w2 := b1.trans ((belowN (Below.refl _ _) 1).trans (b2.mono b1.size))

theorem belowS {w w1 w2 : World} (b1 : Below w.heap.size w w1) (b2 : Below w1.heap.size w1 w2) : Below w.heap.size w w2 := b1.trans (b2.mono b1.size)

theorem txtL_length (s : List UInt8) : (txtL s).length = nb s.length + 1 + s.length := by
  rw [txtL, List.length_append, numL_length]

/-- What Num of any int returns. -/
def encN (n : Int) : List UInt8 × Nat := if 0 ≤ n ∧ n ≤ 9007199254740991 then (numL n.toNat, 0) else ([], 1)

def encT (s : List UInt8) : List UInt8 × Nat := if s.length ≤ MaxT then (txtL s, 0) else ([], 5)

theorem encN_ok {n : Nat} (h : n ≤ MaxN) : encN n = (numL n, 0) := by
  unfold MaxN at h; unfold encN; rw [if_pos (by omega)]; simp

theorem encT_ok {s : List UInt8} (h : s.length ≤ MaxT) : encT s = (txtL s, 0) := by unfold encT; rw [if_pos h]

theorem nb_div (m : Nat) (h0 : m ≠ 0) (h : m ≤ MaxN) : nb m = nb (m / 256) + 1 := by
  unfold MaxN at h
  unfold nb; repeat' split
  all_goals omega

theorem nb_div' (k : Nat) (h0 : k ≠ 0) (h : k ≤ 9007199254740991) : nb k = nb (k / 256) + 1 := by
  unfold nb; repeat' split
  all_goals omega

theorem byteCells_snoc1 (l : List UInt8) (c : UInt8) (x : Int) (h : x = c.toNat) : Lib.byteCells (l ++ [c]) = Lib.byteCells l ++ [.int .u8 x] := by
  rw [Lib.byteCells_append, h]; rfl

theorem strCells_mk (l : List UInt8) : Lib.strCells ⟨l.toArray⟩ = Lib.byteCells l := rfl

theorem add0 (g j : Nat) : (⟨g, 0, none⟩ : Addr).add j = ⟨g, j, none⟩ := by unfold Addr.add; split <;> simp_all

theorem str_nums (T : List UInt8) : strOfNums (T.map fun c => (c.toNat : Int)) = ⟨T.toArray⟩ := by
  have : (strOfNums (T.map fun c => (c.toNat : Int))).data.toList = T := by
    rw [strOfNums_data, List.map_map]
    conv => rhs; rw [← List.map_id T]
    apply List.map_congr_left
    intro c _
    simp
  calc strOfNums (T.map fun c => (c.toNat : Int)) = ⟨(strOfNums (T.map fun c => (c.toNat : Int))).data.toList.toArray⟩ := rfl
    _ = _ := by rw [this]

/-- A slice of texts that reads as l. -/
def Strs (w : World) (ad : Option Addr) (len : Nat) (l : List (List UInt8)) : Prop :=
  l.length = len ∧ (l = [] ∨ ∃ b off, ad = some ⟨b, off, none⟩ ∧ b < w.heap.size ∧ ∀ i (h : i < l.length), w.cell? ⟨b, off + i, none⟩ = some (.string ⟨(l[i]).toArray⟩))

theorem Strs.below {w w' : World} {ad : Option Addr} {len : Nat} {l : List (List UInt8)} (h : Strs w ad len l) (hb : Below w.heap.size w w') : Strs w' ad len l := by
  refine ⟨h.1, ?_⟩
  rcases h.2 with h | ⟨b, off, h1, h2, h3⟩
  · exact .inl h
  · exact .inr ⟨b, off, h1, Nat.lt_of_lt_of_le h2 hb.size, fun i hi => by rw [hb.cell (p := ⟨b, off + i, none⟩) h2]; exact h3 i hi⟩

/-- The texts ahead of k are alike, and what comes of it is r. -/
def Like (l m : List (List UInt8)) (k : Nat) : Prop := l.take k = m.take k

theorem Like.step {l m : List (List UInt8)} {k : Nat} (h : Like l m k) (h1 : k < l.length) (h2 : k < m.length) (he : l[k] = m[k]) : Like l m (k + 1) := by
  unfold Like at *
  rw [List.take_succ_eq_append_getElem h1, List.take_succ_eq_append_getElem h2, h, he]

def strV (s : List UInt8) : Value := .string ⟨s.toArray⟩

theorem take_set (X : List Value) (k : Nat) (v : Value) (h : k < X.length) : (X.set k v).take (k + 1) = X.take k ++ [v] := by
  rw [List.take_succ_eq_append_getElem (by simpa using h)]
  congr 1
  · rw [List.take_set]; exact List.set_eq_of_length_le (by rw [List.length_take]; omega)
  · simp

theorem map_snoc (T : List (List UInt8)) (x : List UInt8) : (T ++ [x]).map strV = T.map strV ++ [.string ⟨x.toArray⟩] := by simp [strV]

theorem owns_below {w w' : World} {B n : Nat} {e : TypeId} {v : Value} {X : List Value} (h : w.ownsRow B e 1 v n X) (hb : Below w.heap.size w w') : w'.ownsRow B e 1 v n X :=
  h.kept (row := none) ⟨hb.os, hb.tape, hb.output, hb.size, fun k hk _ => hb.block k hk⟩ (by cases hv : v.ownBlock <;> simp)

/-- The bytes of the first k texts, behind their number. -/
def head (l : List (List UInt8)) (k : Nat) : List UInt8 := numL l.length ++ (l.take k).flatMap txtL

theorem head_zero (l : List (List UInt8)) : head l 0 = numL l.length := by simp [head]

theorem head_all (l : List (List UInt8)) (k : Nat) (h : l.length ≤ k) : head l k = rowL l := by rw [head, List.take_of_length_le h, rowL]

theorem head_succ (l : List (List UInt8)) (k : Nat) (h : k < l.length) : head l (k + 1) = head l k ++ txtL l[k] := by
  rw [head, head, List.take_succ_eq_append_getElem h, List.flatMap_append, List.append_assoc]; simp

theorem txtL_le (s : List UInt8) : (txtL s).length ≤ s.length + 8 := by rw [txtL_length]; have := nb_le s.length; omega

theorem head_le (l : List (List UInt8)) (hl : l.length ≤ 1000) (hs : ∀ s ∈ l, s.length ≤ 140737488351232) : ∀ k, k ≤ l.length → (head l k).length ≤ 8 + k * 140737488351240
  | 0, _ => by rw [head_zero]; have := numL_len_le l.length; omega
  | k + 1, h => by
    rw [head_succ l k h, List.length_append]
    have := head_le l hl hs k (by omega)
    have := txtL_le l[k]
    have := hs l[k] (List.getElem_mem h)
    omega

theorem head_mono (l : List (List UInt8)) (k : Nat) : (head l k).length ≤ (rowL l).length := by
  rw [head, rowL, List.length_append, List.length_append]
  have : (l.take k).flatMap txtL ++ (l.drop k).flatMap txtL = l.flatMap txtL := by rw [← List.flatMap_append, List.take_append_drop]
  have := congrArg List.length this
  rw [List.length_append] at this
  omega

theorem head_mono2 (l : List (List UInt8)) (k : Nat) : (head l (k + 1)).length ≤ (rowL l).length := head_mono l (k + 1)

/-- What Row of any texts returns. -/
def encR (l : List (List UInt8)) : List UInt8 × Nat := if l.length ≤ 1000 ∧ (rowL l).length ≤ MaxT then (rowL l, 0) else ([], 5)

end Go.Proofs.Pk
