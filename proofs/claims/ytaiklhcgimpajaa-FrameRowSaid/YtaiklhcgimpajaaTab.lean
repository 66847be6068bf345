/- frame's table of 256 sums, made anew for each call: where it lies, and what it holds. -/
import Derived.Test.YtaiklhcgimpajaaSumR
import Derived.Test.YtaiklhcgimpajaaFoot
import Derived.StillTailTactics
import Derived.Deep.Cut
import Derived.Laws.Tables
import Derived.Laws.Rows
import Derived.Laws.NewBlocks
namespace Go.Proofs.Ytaiklhcgimpajaa
open Go.RowKit Go.Proofs Go.Proofs.Pk
set_option maxRecDepth 10000
attribute [local simp] mk_get wrap64_u8 mk_extract ByteArray.mk_append_mk get_1k

/-- The cells of a table of 256 sums. -/
def tabF (f : Nat → Nat) : List Value := (List.range 256).map fun i => .int .u32 ((f i : Nat) : Int)
/-- The table, made. -/
def tabC : List Value := tabF (stk 8)

def Pow (i : Nat) : Prop := i = 1 ∨ i = 2 ∨ i = 4 ∨ i = 8 ∨ i = 16 ∨ i = 32 ∨ i = 64 ∨ i = 128
instance (i : Nat) : Decidable (Pow i) := by unfold Pow; infer_instance

/-- Filled: the bits above b; all below k, and the bits. -/
def fA (b i : Nat) : Nat := if Pow i ∧ b < i then stk 8 i else 0
def fB (k i : Nat) : Nat := if i < k ∨ Pow i then stk 8 i else 0

theorem tabF_length (f : Nat → Nat) : (tabF f).length = 256 := by simp [tabF]
theorem tabF_get (f : Nat → Nat) (i : Nat) (h : i < 256) : (tabF f)[i]? = some (.int .u32 ((f i : Nat) : Int)) := by simp [tabF, h]
theorem tabF_congr {f g : Nat → Nat} (h : ∀ i, i < 256 → f i = g i) : tabF f = tabF g := by
  apply List.map_congr_left
  intro i hi
  rw [h i (by simpa using hi)]
theorem tabF_set (f : Nat → Nat) (k v : Nat) : (tabF f).set k (.int .u32 ((v : Nat) : Int)) = tabF fun i => if i = k then v else f i := by
  apply List.ext_getElem?
  intro i
  by_cases hi : i < 256
  · rw [tabF_get _ _ hi, List.getElem?_set]
    by_cases e : k = i
    · subst e; simp [tabF_length, hi]
    · rw [if_neg e, tabF_get _ _ hi, if_neg (fun h => e h.symm)]
  · rw [List.getElem?_eq_none (by rw [List.length_set, tabF_length]; omega), List.getElem?_eq_none (by rw [tabF_length]; omega)]

theorem stk8_zero : stk 8 0 = 0 := stk_zero 8
theorem stk8_double (c : Nat) : stk 8 (2 * c) = stk 7 c := by show stk 7 (st1 (2 * c)) = _; rw [st1_even]
theorem st1_stk8 (c : Nat) : st1 (stk 8 (2 * c)) = stk 8 c := by rw [stk8_double, ← stk_snoc]
theorem st1_first : st1 1 = stk 8 128 := by decide

theorem fA_set (b : Nat) (hb : Pow b) : (tabF (fA b)).set b (.int .u32 ((stk 8 b : Nat) : Int)) = tabF (fA (b / 2)) := by
  rw [tabF_set]
  apply tabF_congr
  intro i _
  unfold fA
  by_cases e : i = b
  · subst e
    rw [if_pos rfl, if_pos ⟨hb, by unfold Pow at hb; omega⟩]
  · rw [if_neg e]
    by_cases hp : Pow i
    · by_cases h : b < i
      · rw [if_pos ⟨hp, h⟩, if_pos ⟨hp, by omega⟩]
      · rw [if_neg (fun hh => h hh.2), if_neg (fun hh => by have := hh.2; unfold Pow at hb hp; omega)]
    · rw [if_neg (fun hh => hp hh.1), if_neg (fun hh => hp hh.1)]
theorem fA_first : tabF (fA 128) = tabF fun _ => 0 := by
  apply tabF_congr
  intro i _
  unfold fA
  rw [if_neg]
  intro h
  have h1 := h.1
  unfold Pow at h1
  omega
theorem fB_first : tabF (fB 0) = tabF (fA 0) := by
  apply tabF_congr
  intro i _
  unfold fA fB
  by_cases hp : Pow i
  · rw [if_pos (.inr hp), if_pos ⟨hp, by unfold Pow at hp; omega⟩]
  · rw [if_neg (fun h => h.elim (fun h => by omega) hp), if_neg (fun hh => hp hh.1)]
theorem fB_last : tabF (fB 256) = tabC := by
  apply tabF_congr
  intro i hi
  unfold fB
  rw [if_pos (.inl hi)]
theorem fB_set (k : Nat) : (tabF (fB k)).set k (.int .u32 ((stk 8 k : Nat) : Int)) = tabF (fB (k + 1)) := by
  rw [tabF_set]
  apply tabF_congr
  intro i _
  unfold fB
  by_cases e : i = k
  · subst e; rw [if_pos rfl, if_pos (.inl (by omega))]
  · rw [if_neg e]
    by_cases h : i < k ∨ Pow i
    · rw [if_pos h, if_pos (h.elim (fun h => .inl (by omega)) .inr)]
    · rw [if_neg h, if_neg (fun hh => h (hh.elim (fun h => .inl (by omega)) .inr))]
theorem fB_get (k i : Nat) (h : i < k ∨ Pow i ∨ i = 0) : fB k i = stk 8 i := by
  unfold fB
  rcases h with h | h | h
  · rw [if_pos (.inl h)]
  · rw [if_pos (.inr h)]
  · subst h
    split
    · rfl
    · exact stk8_zero.symm

/-- The least bit. -/
def low (i : Nat) : Nat := if i = 0 then 0 else Nat.gcd i 256
def lowFits (i : Nat) : Bool := bits .and .i64 (i : Int) (-(i : Int)) == (low i : Int) && decide (low i ≤ i) && (low i == 0 || decide (Pow (low i))) && (decide (i - low i < i) || i - low i == 0) && (low i ^^^ (i - low i)) == i
theorem lowFits_all : (List.range 256).all lowFits = true := by kernel_rfl
theorem low_fits (k : Nat) (h : k < 256) : bits .and .i64 (k : Int) (-(k : Int)) = (low k : Int) ∧ low k ≤ k ∧ fB k (low k) = stk 8 (low k) ∧ fB k (k - low k) = stk 8 (k - low k) ∧ stk 8 (low k) ^^^ stk 8 (k - low k) = stk 8 k := by
  have := List.all_eq_true.1 lowFits_all k (by simpa using h)
  simp only [lowFits, Bool.and_eq_true, Bool.or_eq_true, beq_iff_eq, decide_eq_true_eq] at this
  obtain ⟨⟨⟨⟨h1, h2⟩, h3⟩, h4⟩, h5⟩ := this
  refine ⟨h1, h2, fB_get _ _ (.inr (h3.elim .inr .inl)), fB_get _ _ (h4.elim .inl (fun h => .inr (.inr h))), ?_⟩
  rw [← stk_xor, h5]

theorem zeroTab (w : World) : (zeroValue 62).run Try.prog w = .ok (.agg (tabF fun _ => 0).toArray) w := by kernel_rfl

theorem and1_u32 (z : Nat) (h : z < 4294967296) : bits .and .u32 (z : Int) 1 = ((z % 2 : Nat) : Int) := by
  have h1 : (BitVec.ofInt 32 (z : Int)).toNat = z := by
    rw [BitVec.ofInt_natCast, BitVec.toNat_ofNat]; exact Nat.mod_eq_of_lt (by omega)
  have h2 : (BitVec.ofInt 32 1).toNat = 1 := by decide
  show IntKind.u32.wrap ((BitVec.ofInt 32 (z : Int) &&& BitVec.ofInt 32 1).toNat : Int) = _
  rw [BitVec.toNat_and, h1, h2, Nat.and_one_is_mod, IntKind.wrap_u32]
  omega

/-- Where the table lies, and what it holds. -/
def TabAt (w : World) (g : Nat) : Prop := Holds w g tabC 62

set_option maxHeartbeats 1000000 in
theorem pTable (w : World) : Calls Try.prog 23 #[] w fun e w' => ∃ g, w.heap.size ≤ g ∧ e = .returned (.pointer (some ⟨g, 0, none⟩)) ∧ TabAt w' g ∧ Below w.heap.size w w' := by
  have hz := zeroTab
  generalize hT : (tabF fun _ => 0).toArray = T0 at hz
  go_enter Try.func23, Try.ntmps23
  go_wp2
  have hH : Holds (w.alloc (.cells T0 62)) w.heap.size (tabF (fA 128)) 62 := by
    unfold Holds; rw [fA_first, hT]
    exact heap_alloc_new w _
  have hB : Below w.heap.size w (w.alloc (.cells T0 62)) := (Below.refl _ _).alloc (Nat.le_refl _) _
  have HHold := Lib.hid hH
  have HBel := Lib.hid hB
  clear hH hB hz hT
  generalize (w.alloc (.cells T0 62)) = wA at HHold HBel
  obtain ⟨g, hg⟩ : ∃ g, g = w.heap.size := ⟨_, rfl⟩
  rw [← hg] at HHold ⊢
  have HG : Hid (w.heap.size ≤ g) := by show w.heap.size ≤ g; omega
  clear hg
  go_loopw [2, 3] (fun v i wr => ∃ x b : Nat, v = .int .u32 x ∧ i = .int .i64 b ∧ x < 4294967296 ∧ (Pow b ∧ Hid (st1 x = stk 8 b) ∨ b = 0) ∧ Hid (Holds wr g (tabF (fA b)) 62) ∧ Hid (Below w.heap.size w wr)) (fun _ i _ => (intOf i).toNat)
  case atStart => exact ⟨1, 128, rfl, rfl, by omega, .inl ⟨by unfold Pow; omega, st1_first⟩, HHold, HBel⟩
  case round =>
    obtain ⟨x, b, rfl, rfl, hx, hpb, hh, hb⟩ := hrel
    by_cases hlt : 0 < (b : Int)
    · have hp : Pow b := hpb.elim (·.1) (fun h => by omega)
      have HX : Hid (st1 x = stk 8 b) := hpb.elim (·.2) (fun h => by omega)
      have hb256 : b < 256 := by unfold Pow at hp; omega
      obtain ⟨z, hz⟩ : ∃ z, z = stk 8 b := ⟨_, rfl⟩
      have hz0 : z < 4294967296 := hz ▸ stk_lt 8 b (by omega)
      have hcell : wr.cell? ⟨g, b, none⟩ = some (.int .u32 ((fA b b : Nat) : Int)) := hh.out.cell b _ (tabF_get _ b hb256)
      have hfro := hh.out.free b
      have HN : Hid (Holds (wr.setCell ⟨g, b, none⟩ (.int .u32 (z : Int))) g (tabF (fA (b / 2))) 62) := by
        have := hh.out.set b (.int .u32 (z : Int))
        rw [hz, fA_set b hp] at this
        rw [hz]; exact this
      have HB : Hid (Below w.heap.size w (wr.setCell ⟨g, b, none⟩ (.int .u32 (z : Int)))) := hb.out.setCell (p := ⟨g, b, none⟩) HG.out _
      have HXZ : Hid (z < 4294967296 ∧ (Pow (b / 2) ∧ Hid (st1 z = stk 8 (b / 2)) ∨ b / 2 = 0)) := by
        refine ⟨hz0, ?_⟩
        by_cases h1 : b = 1
        · exact .inr (by omega)
        · refine .inl ⟨by unfold Pow at hp ⊢; omega, ?_⟩
          show st1 z = stk 8 (b / 2)
          have := st1_stk8 (b / 2)
          rw [show 2 * (b / 2) = b from by unfold Pow at hp; omega] at this
          rw [hz]; exact this
      have hzx : Hid (st1 x = z) := by show st1 x = z; rw [HX.out, hz]
      clear hz HX hpb hp
      have ha := and1_u32 x hx
      by_cases ho : x % 2 = 1
      · have e2 := xor_u32P x hx
        rw [show (x / 2 ^^^ 2197175160) = z from by rw [← hzx.out, st1_odd ho]] at e2
        rw [ho] at ha
        have ha' : bits .and .u32 (x : Int) 1 = 1 := ha
        clear ha ho
        go_wp2
        go_roundw
        case rel => exact ⟨z, b / 2, by go_num, by go_num, HXZ.out.1, HXZ.out.2, HN, HB⟩
        case measure => simp [intOf]; omega
      · have e2 := xor_u32 (x / 2) 0 (by omega) (by omega)
        rw [show (x / 2 ^^^ 0) = z from by rw [← hzx.out, st1_not ho, Nat.xor_zero]] at e2
        have e3 : bits .xor .u32 ((x : Int) / 2) 0 = (z : Int) := e2
        clear e2
        rw [show x % 2 = 0 from by omega] at ha
        have ha' : bits .and .u32 (x : Int) 1 = 0 := ha
        clear ha ho
        go_wp2
        go_roundw
        case rel => exact ⟨z, b / 2, by go_num, by go_num, HXZ.out.1, HXZ.out.2, HN, HB⟩
        case measure => simp [intOf]; omega
    · obtain rfl : b = 0 := by omega
      have HH := Lib.hid hh.out
      have HBB := Lib.hid hb.out
      clear hh hb hpb hx HHold HBel
      go_wp2
      rw [← fB_first] at HH
      obtain ⟨wq, hwq⟩ : ∃ wq, wq = wr := ⟨_, rfl⟩
      rw [← hwq] at HH HBB ⊢
      clear hwq
      go_loopw [19] (fun i wr => ∃ k : Nat, k ≤ 256 ∧ i = .int .i64 k ∧ Hid (Holds wr g (tabF (fB k)) 62) ∧ Hid (Below w.heap.size w wr)) (fun i _ => 256 - (intOf i).toNat)
      case atStart => exact ⟨0, by omega, rfl, HH, HBB⟩
      case round =>
        obtain ⟨k, hk, rfl, hh, hb⟩ := hrel
        by_cases hlt : (k : Int) < 256
        · have hk256 : k < 256 := by omega
          obtain ⟨h1, h2, h3, h4, h5⟩ := low_fits k hk256
          obtain ⟨l, hl⟩ : ∃ l, l = low k := ⟨_, rfl⟩
          obtain ⟨m, hm⟩ : ∃ m, m = k - l := ⟨_, rfl⟩
          rw [← hl] at h1 h2 h3 h4 h5
          rw [← hm] at h4 h5
          have hsub : (k : Int) - (l : Int) = (m : Int) := by omega
          have hm256 : (m : Int) < 256 := by omega
          have hl256 : (l : Int) < 256 := by omega
          have hm0 : (0 : Int) ≤ m := by omega
          have hl0 : (0 : Int) ≤ l := by omega
          have hk0 : (0 : Int) ≤ k := by omega
          have hwm : IntKind.i64.wrap (m : Int) = (m : Int) := by rw [IntKind.wrap_i64]; omega
          have hA0 := stk_lt 8 l (by omega)
          have hB0 := stk_lt 8 m (by omega)
          have hcl : wr.cell? ⟨g, l, none⟩ = some (.int .u32 ((stk 8 l : Nat) : Int)) := by rw [hh.out.cell l _ (tabF_get _ l (by omega)), h3]
          have hcm : wr.cell? ⟨g, m, none⟩ = some (.int .u32 ((stk 8 m : Nat) : Int)) := by rw [hh.out.cell m _ (tabF_get _ m (by omega)), h4]
          have hck : wr.cell? ⟨g, k, none⟩ = some (.int .u32 ((fB k k : Nat) : Int)) := hh.out.cell k _ (tabF_get _ k hk256)
          have hfro := hh.out.free k
          have hx := xor_u32 (stk 8 l) (stk 8 m) hA0 hB0
          rw [h5] at hx
          have HN : Hid (Holds (wr.setCell ⟨g, k, none⟩ (.int .u32 ((stk 8 k : Nat) : Int))) g (tabF (fB (k + 1))) 62) := by
            have := hh.out.set k (.int .u32 ((stk 8 k : Nat) : Int))
            rw [fB_set k] at this
            exact this
          have HB : Hid (Below w.heap.size w (wr.setCell ⟨g, k, none⟩ (.int .u32 ((stk 8 k : Nat) : Int)))) := hb.out.setCell (p := ⟨g, k, none⟩) HG.out _
          generalize stk 8 k = D at *
          generalize stk 8 l = A at *
          generalize stk 8 m = B at *
          clear hl hm h2 h3 h4 h5
          go_wp2_with fail
          go_still_tail 11, (by kernel_rfl)
          change wpList _ _ _ _ _ wr.drew
          go_wp2
          go_roundw
          case rel => exact ⟨k + 1, by omega, by go_num, HN, HB.out.trans ⟨rfl, rfl, rfl, Nat.le_refl _, fun _ _ => rfl⟩⟩
          case measure => simp [intOf]; omega
        · obtain rfl : k = 256 := by omega
          go_wp2
          go_ret
          refine ⟨g, HG.out, rfl, ?_, hb.out⟩
          have := hh.out
          rw [fB_last] at this
          exact this

end Go.Proofs.Ytaiklhcgimpajaa
