/- The program's Row of layer 1 (pack): what it returns. -/
import Derived.Test.YtcjdbflhahpcoaaStrs
namespace Go.Proofs.Ytcjdbflhahpcoaa
open Go.RowKit Go.Proofs Go.Proofs.Pk
attribute [local simp] mk_get wrap64_u8 mk_extract ByteArray.mk_append_mk

set_option maxHeartbeats 400000 in
theorem pRow_many (ad : Option Addr) (len cap : Nat) (w : World) (h : 1000 < (len : Int)) :
    Calls Try.prog 20 #[.slice ad len cap] w (R2 w (.string ⟨#[]⟩) (errV 54 5)) := by
  go_enter Try.func20, Try.ntmps20
  go_wp2
  go_ret2
  exact R2.mk rfl rfl (Below.refl _ _)

/-- The bytes of the first k texts, behind their number. -/
def head (l : List (List UInt8)) (k : Nat) : List UInt8 := numL l.length ++ (l.take k).flatMap txtL
theorem head_zero (l : List (List UInt8)) : head l 0 = numL l.length := by simp [head]
theorem head_all (l : List (List UInt8)) (k : Nat) (h : l.length ≤ k) : head l k = rowL l := by rw [head, List.take_of_length_le h, rowL]
theorem head_succ (l : List (List UInt8)) (k : Nat) (h : k < l.length) : head l (k + 1) = head l k ++ txtL l[k] := by
  rw [head, head, List.take_succ_eq_append_getElem h, List.flatMap_append, List.append_assoc]; simp
theorem txtL_le (s : List UInt8) : (txtL s).length ≤ s.length + 8 := by rw [txtL_length]; have := nb_le s.length; omega
theorem head_le (l : List (List UInt8)) (hl : l.length ≤ 1000) (hs : ∀ s ∈ l, s.length ≤ 140737488351232) : ∀ k, k ≤ l.length → (head l k).length ≤ 8 + k * 140737488351240
  | 0, _ => by rw [head_zero]; have := numL_len_le l.length; omega
  | k + 1, h => by
    rw [head_succ l k h, List.length_append]
    have := head_le l hl hs k (by omega)
    have := txtL_le l[k]
    have := hs l[k] (List.getElem_mem h)
    omega
theorem head_mono (l : List (List UInt8)) (k : Nat) : (head l k).length ≤ (rowL l).length := by
  rw [head, rowL, List.length_append, List.length_append]
  have : (l.take k).flatMap txtL ++ (l.drop k).flatMap txtL = l.flatMap txtL := by rw [← List.flatMap_append, List.take_append_drop]
  have := congrArg List.length this
  rw [List.length_append] at this
  omega

set_option maxRecDepth 100000 in
set_option maxHeartbeats 2000000 in
theorem pRow_long (ad : Option Addr) (len cap : Nat) (l : List (List UInt8)) (w : World) (hst : Strs w ad len l) (hln : (len : Int) ≤ 1000) (hs : ∀ s ∈ l, s.length ≤ 140737488351232) (hbig : 1048576 < ((rowL l).length : Int)) :
    Calls Try.prog 20 #[.slice ad len cap] w (R2 w (.string ⟨#[]⟩) (errV 54 5)) := by
  have HST := Lib.hid hst
  have HS := Lib.hid hs
  have HL := Lib.hid hst.1
  have HB := Lib.hid hbig
  clear hst hs hbig
  go_enter Try.func20, Try.ntmps20
  go_wp2_with fail
  refine (numSize len _ (by unfold MaxN; omega)).mono ?_
  rintro e w0 ⟨rfl, rfl⟩
  go_wp2
  go_loop [4, 19] (fun z i => ∃ k : Nat, k ≤ len ∧ i = .int .i64 k ∧ z = .int .i64 (head l k).length) (fun _ i => len - (intOf i).toNat)
  case atStart =>
    refine ⟨0, Nat.zero_le _, rfl, ?_⟩
    rw [head_zero, numL_length, HL.out]; go_num
  case round =>
    obtain ⟨k, hk, rfl, rfl⟩ := hrel
    by_cases hlt : k < len
    · have hkl : k < l.length := by have := HL.out; omega
      rcases HST.out.2 with hbad | ⟨b, off, hv, hb, hc⟩
      · exfalso; rw [hbad] at hkl; simp at hkl
      subst hv
      have c1 := hc k hkl
      have hz := head_le l (by have := HL.out; omega) HS.out k (by omega)
      have ht := txtL_le l[k]
      have hsk := HS.out l[k] (List.getElem_mem hkl)
      have HSU := Lib.hid (head_succ l k hkl)
      have hT := Lib.hid (fun w => textSize l[k] w (by omega))
      generalize l[k] = s at *
      generalize (txtL s) = t at *
      have e1 : wrap64 (((head l k).length : Int) + (t.length : Int)) = ((head l k).length : Int) + (t.length : Int) := wrap64_in (by omega) (by omega)
      have hlt' : (k : Int) < len := by omega
      clear hc hz ht hsk hkl
      go_wp2_with fail
      refine (hT.out _).mono ?_
      rintro e w0 ⟨rfl, rfl⟩
      go_wp2
      go_round
      case rel => exact ⟨k + 1, by omega, by go_num, by rw [HSU.out, List.length_append]; go_num⟩
      case measure => simp [intOf]; omega
    · obtain rfl : k = len := by omega
      have hh : Hid (head l k = rowL l) := head_all l k (by have := HL.out; omega)
      rw [hh.out]
      have hbig := HB.out
      go_wp2
      go_ret2
      exact R2.mk rfl rfl (Below.refl _ _)
set_option maxRecDepth 100000 in
set_option maxHeartbeats 2000000 in
theorem pRow_ok (ad : Option Addr) (len cap : Nat) (l : List (List UInt8)) (w : World) (hst : Strs w ad len l) (hln : (len : Int) ≤ 1000) (hs : ∀ s ∈ l, s.length ≤ 140737488351232) (R : List UInt8) (hR : R = rowL l) (hbig : (R.length : Int) ≤ 1048576) :
    Calls Try.prog 20 #[.slice ad len cap] w (R2 w (.string ⟨R.toArray⟩) (errV 54 0)) := by
  have HST := Lib.hid hst
  have HS := Lib.hid hs
  have HL := Lib.hid hst.1
  have HB := Lib.hid hbig
  have HR := Lib.hid hR
  clear hst hs hbig hR
  go_enter Try.func20, Try.ntmps20
  go_wp2_with fail
  refine (numSize len _ (by unfold MaxN; omega)).mono ?_
  rintro e w0 ⟨rfl, rfl⟩
  go_wp2
  go_loop [4, 19] (fun z i => ∃ k : Nat, k ≤ len ∧ i = .int .i64 k ∧ z = .int .i64 (head l k).length) (fun _ i => len - (intOf i).toNat)
  case atStart =>
    refine ⟨0, Nat.zero_le _, rfl, ?_⟩
    rw [head_zero, numL_length, HL.out]; go_num
  case round =>
    obtain ⟨k, hk, rfl, rfl⟩ := hrel
    by_cases hlt : k < len
    · have hkl : k < l.length := by have := HL.out; omega
      rcases HST.out.2 with hbad | ⟨b, off, hv, hb, hc⟩
      · exfalso; rw [hbad] at hkl; simp at hkl
      subst hv
      have c1 := hc k hkl
      have hz := head_le l (by have := HL.out; omega) HS.out k (by omega)
      have ht := txtL_le l[k]
      have hsk := HS.out l[k] (List.getElem_mem hkl)
      have HSU := Lib.hid (head_succ l k hkl)
      have hT := Lib.hid (fun w => textSize l[k] w (by omega))
      generalize l[k] = s at *
      generalize (txtL s) = t at *
      have e1 : wrap64 (((head l k).length : Int) + (t.length : Int)) = ((head l k).length : Int) + (t.length : Int) := wrap64_in (by omega) (by omega)
      have hlt' : (k : Int) < len := by omega
      clear hc hz ht hsk hkl
      go_wp2_with fail
      refine (hT.out _).mono ?_
      rintro e w0 ⟨rfl, rfl⟩
      go_wp2
      go_round
      case rel => exact ⟨k + 1, by omega, by go_num, by rw [HSU.out, List.length_append]; go_num⟩
      case measure => simp [intOf]; omega
    · obtain rfl : k = len := by omega
      have hh : Hid (head l k = R) := (head_all l k (by have := HL.out; omega)).trans HR.out.symm
      rw [hh.out]
      have hbig := HB.out
      have hmono : Hid (∀ k, (head l k).length ≤ R.length) := fun k => by rw [HR.out]; exact head_mono l k
      go_wp2_with fail
      refine (Try.Builder_Grow_fresh w.heap.size w.heap.size R.length _ (Nat.le_refl _) (heap_alloc_new w _) (by simp) (by omega)).mono ?_
      rintro e w1 ⟨rfl, h1, b1⟩
      have H1 : Hid (Lib.IsBuilderF 58 5 w.heap.size w.heap.size (Lib.byteCells []) w1) := Lib.IsBuilderF.of (.inr h1)
      clear h1
      have hz1 : w.heap.size ≤ w1.heap.size := by have := b1.size; simp at this; omega
      go_wp2_with fail
      refine (writeNum w.heap.size w.heap.size [] k _ H1.out (by unfold MaxN; omega) (by simp) hz1).mono ?_
      rintro e w2 ⟨rfl, h2, b2⟩
      have H2 : Hid (Lib.IsBuilderF 58 5 w.heap.size w.heap.size (Lib.byteCells (head l 0)) w2) := by
        show Lib.IsBuilderF 58 5 w.heap.size w.heap.size (Lib.byteCells (head l 0)) w2
        rw [head_zero, HL.out]; exact h2
      clear h2
      have B2 : Below w.heap.size w w2 := ((Below.refl _ _).alloc (Nat.le_refl _) _).trans (b1.trans b2)
      clear b1 b2
      go_wp2
      go_loopw [38] (fun i wr => ∃ j : Nat, j ≤ k ∧ i = .int .i64 j ∧ Hid (Lib.IsBuilderF 58 5 w.heap.size w.heap.size (Lib.byteCells (head l j)) wr) ∧ Below w.heap.size w wr) (fun i _ => k - (intOf i).toNat)
      case atStart => exact ⟨0, Nat.zero_le _, rfl, H2, B2⟩
      case round =>
        obtain ⟨j, hj, rfl, hbu, hbel⟩ := hrel
        by_cases hlt2 : j < k
        · have hjl : j < l.length := by have := HL.out; omega
          rcases HST.out.2 with hbad | ⟨b, off, hv, hb, hc⟩
          · exfalso; rw [hbad] at hjl; simp at hjl
          subst hv
          have c1 := (hbel.cell (p := ⟨b, off + j, none⟩) hb).trans (hc j hjl)
          have hz := hmono.out j
          have hz' := hmono.out (j + 1)
          have HSU := Lib.hid (head_succ l j hjl)
          have hts : (l[j]).length ≤ 1048576 := by
            rw [HSU.out, List.length_append, txtL_length] at hz'
            omega
          have hT := Lib.hid (writeText w.heap.size w.heap.size (head l j) l[j] wr hbu.out (by unfold MaxN; omega) (by omega) hbel.size)
          generalize l[j] = s at *
          have hlt' : (j : Int) < k := by omega
          clear hc hz hz' hts hjl hbu
          go_wp2_with fail
          refine (hT.out).mono ?_
          rintro e w3 ⟨rfl, h3, b3⟩
          have H3 : Hid (Lib.IsBuilderF 58 5 w.heap.size w.heap.size (Lib.byteCells (head l (j + 1))) w3) := by
            show Lib.IsBuilderF 58 5 w.heap.size w.heap.size (Lib.byteCells (head l (j + 1))) w3
            rw [HSU.out]; exact h3
          clear h3
          go_wp2
          go_roundw
          case rel => exact ⟨j + 1, by omega, by go_num, H3, hbel.trans b3⟩
          case measure => simp [intOf]; omega
        · obtain rfl : j = k := by omega
          have H4 : Hid (Lib.IsBuilderF 58 5 w.heap.size w.heap.size (Lib.byteCells R) wr) := by
            show Lib.IsBuilderF 58 5 w.heap.size w.heap.size (Lib.byteCells R) wr
            rw [← hh.out]; exact hbu.out
          clear hbu
          go_wp2_with fail
          refine (Try.Builder_String_any_k w.heap.size w.heap.size _ _ H4.out hbel.size).mono ?_
          rintro e w3 ⟨rfl, h3, b3, _⟩
          clear h3
          go_wp2
          go_ret2
          exact R2.mk rfl rfl (hbel.trans b3)

/-- What Row of any texts returns. -/
def encR (l : List (List UInt8)) : List UInt8 × Nat := if l.length ≤ 1000 ∧ (rowL l).length ≤ MaxT then (rowL l, 0) else ([], 5)

/-- The program writes a row as the chapter says. -/
theorem pRow (ad : Option Addr) (len cap : Nat) (l : List (List UInt8)) (w : World) (hst : Strs w ad len l) (hs : ∀ s ∈ l, s.length ≤ 140737488351232) :
    Calls Try.prog 20 #[.slice ad len cap] w (R2 w (.string ⟨(encR l).1.toArray⟩) (errV 54 (encR l).2)) := by
  have hlen := hst.1
  unfold encR
  by_cases h1 : l.length ≤ 1000
  · by_cases h2 : (rowL l).length ≤ MaxT
    · rw [if_pos ⟨h1, h2⟩]
      exact pRow_ok ad len cap l w hst (by omega) hs (rowL l) rfl (by unfold MaxT at h2; omega)
    · rw [if_neg (fun h => h2 h.2)]
      exact pRow_long ad len cap l w hst (by omega) hs (by unfold MaxT at h2; omega)
  · rw [if_neg (fun h => h1 h.1)]
    exact pRow_many ad len cap w (by omega)
end Go.Proofs.Ytcjdbflhahpcoaa
