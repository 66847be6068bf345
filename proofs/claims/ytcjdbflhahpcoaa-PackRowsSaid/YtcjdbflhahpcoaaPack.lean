/- The program's Num, Text, ReadText of layer 1 (pack): what each returns. -/
import Derived.Test.YtcjdbflhahpcoaaWrite
import Derived.Test.YtcjdbflhahpcoaaReadP
import Derived.Deep.RegionWith
namespace Go.Proofs.Ytcjdbflhahpcoaa
open Go.RowKit Go.Proofs Go.Proofs.Pk
attribute [local simp] mk_get wrap64_u8 mk_extract

def R2 (w : World) (x y : Value) (e : Ending) (w' : World) : Prop := e = .returned (.tuple #[x, y]) ∧ Below w.heap.size w w'
theorem R2.mk {w w' : World} {x y x' y' : Value} (hx : x' = x) (hy : y' = y) (h : Below w.heap.size w w') : R2 w x y (.returned (.tuple #[x', y'])) w' := by
  subst hx hy; exact ⟨rfl, h⟩

theorem fresh (w : World) : Lib.IsBuilderF 58 5 w.heap.size w.heap.size (Lib.byteCells []) (w.alloc (.cells #[.pointer none, .slice none 0 0] 58)) :=
  Lib.IsBuilderF.of (Lib.fresh_isBuilder 58 5 w)

set_option maxHeartbeats 400000 in
theorem pNum_neg (n : Int) (w : World) (hn : n < 0) :
    Calls Try.prog 11 #[.int .i64 n] w (R2 w (.string ⟨#[]⟩) (errV 54 1)) := by
  go_enter Try.func11, Try.ntmps11
  go_wp2
  go_ret2
  exact R2.mk rfl rfl (Below.refl _ _)

set_option maxHeartbeats 400000 in
theorem pNum_big (n : Int) (w : World) (hn : 9007199254740991 < n) :
    Calls Try.prog 11 #[.int .i64 n] w (R2 w (.string ⟨#[]⟩) (errV 54 1)) := by
  go_enter Try.func11, Try.ntmps11
  go_wp2
  go_ret2
  exact R2.mk rfl rfl (Below.refl _ _)

set_option maxHeartbeats 400000 in
theorem pNum_ok (n : Nat) (w : World) (hn : n ≤ MaxN) :
    Calls Try.prog 11 #[.int .i64 n] w (R2 w (.string ⟨(numL n).toArray⟩) (errV 54 0)) := by
  have hm : (n : Int) ≤ 9007199254740991 := by unfold MaxN at hn; omega
  have H0 := Lib.hid (fresh w)
  have hz : w.heap.size ≤ (w.alloc (.cells #[.pointer none, .slice none 0 0] 58)).heap.size := by simp
  go_enter Try.func11, Try.ntmps11
  go_wp2_with fail
  refine (writeNum w.heap.size w.heap.size [] n _ H0.out (by unfold MaxN; omega) (by simp) (by simp)).mono ?_
  rintro e w1 ⟨rfl, h1, b1⟩
  have H1 := Lib.hid h1
  clear h1
  have hz1 : w.heap.size ≤ w1.heap.size := by have := b1.size; simp at this; omega
  go_wp2_with fail
  refine (Try.Builder_String_any_k w.heap.size w.heap.size _ _ H1.out hz1).mono ?_
  rintro e w2 ⟨rfl, h2, b2, _⟩
  clear h2
  go_wp2
  go_ret2
  exact R2.mk (by simp) rfl ((((Below.refl _ _).alloc (Nat.le_refl _) _).trans b1).trans b2)

theorem strCells_mk (l : List UInt8) : Lib.strCells ⟨l.toArray⟩ = Lib.byteCells l := rfl

set_option maxHeartbeats 400000 in
/-- The bytes of a text go into the builder. -/
theorem writeText (B b : Nat) (l s : List UInt8) (w : World) (h : Lib.IsBuilderF 58 5 B b (Lib.byteCells l) w) (hs : s.length ≤ MaxN) (hlen : l.length + 8 + s.length ≤ 140737488355328) (hBw : B ≤ w.heap.size) :
    Calls Try.prog 29 #[.pointer (some ⟨b, 0, none⟩), .string ⟨s.toArray⟩] w fun e w' => e = .returned (.tuple #[]) ∧ Lib.IsBuilderF 58 5 B b (Lib.byteCells (l ++ txtL s)) w' ∧ Below B w w' := by
  have H := Lib.hid h
  clear h
  go_enter Try.func29, Try.ntmps29
  go_wp2_with fail
  refine (writeNum B b l s.length _ H.out hs (by omega) hBw).mono ?_
  rintro e w1 ⟨rfl, h1, b1⟩
  have H1 := Lib.hid h1
  clear h1
  have hz1 : B ≤ w1.heap.size := by have := b1.size; omega
  go_wp2_with fail
  refine (Try.Builder_WriteString_k B b _ ⟨s.toArray⟩ _ H1.out (by have := numL_len_le s.length; rw [Lib.byteCells_length, List.length_append, mk_size]; omega) hz1).mono ?_
  rintro e w2 ⟨rfl, h2, b2, _⟩
  have H2 : Hid (Lib.IsBuilderF 58 5 B b (Lib.byteCells (l ++ txtL s)) w2) := .inr (by rw [txtL, ← List.append_assoc, Lib.byteCells_append (l ++ _), ← strCells_mk s]; exact h2)
  clear h2
  go_wp2
  go_end0
  exact ⟨rfl, H2.out, b1.trans b2⟩

set_option maxHeartbeats 400000 in
theorem pText_long (s : List UInt8) (w : World) (hs : 1048576 < (s.length : Int)) :
    Calls Try.prog 16 #[.string ⟨s.toArray⟩] w (R2 w (.string ⟨#[]⟩) (errV 54 5)) := by
  go_enter Try.func16, Try.ntmps16
  go_wp2
  go_ret2
  exact R2.mk rfl rfl (Below.refl _ _)

set_option maxHeartbeats 400000 in
theorem pText_ok (s : List UInt8) (w : World) (hs : (s.length : Int) ≤ 1048576) :
    Calls Try.prog 16 #[.string ⟨s.toArray⟩] w (R2 w (.string ⟨(txtL s).toArray⟩) (errV 54 0)) := by
  have hl : (txtL s).length ≤ s.length + 8 := by rw [txtL_length]; have := nb_le s.length; omega
  have HL := Lib.hid hl
  clear hl
  go_enter Try.func16, Try.ntmps16
  go_wp2_with fail
  refine (textSize s _ (by omega)).mono ?_
  rintro e w0 ⟨rfl, rfl⟩
  go_wp2_with fail
  refine (Try.Builder_Grow_fresh w.heap.size w.heap.size (txtL s).length _ (Nat.le_refl _) (heap_alloc_new w _) (by simp) (by have := HL.out; omega)).mono ?_
  rintro e w1 ⟨rfl, h1, b1⟩
  have H1 : Hid (Lib.IsBuilderF 58 5 w.heap.size w.heap.size (Lib.byteCells []) w1) := Lib.IsBuilderF.of (.inr h1)
  clear h1
  have hz1 : w.heap.size ≤ w1.heap.size := by have := b1.size; simp at this; omega
  go_wp2_with fail
  refine (writeText w.heap.size w.heap.size [] s _ H1.out (by unfold MaxN; omega) (by simp; omega) hz1).mono ?_
  rintro e w2 ⟨rfl, h2, b2⟩
  have H2 := Lib.hid h2
  clear h2
  have hz2 : w.heap.size ≤ w2.heap.size := by have := b2.size; omega
  go_wp2_with fail
  refine (Try.Builder_String_any_k w.heap.size w.heap.size _ _ H2.out hz2).mono ?_
  rintro e w3 ⟨rfl, h3, b3, _⟩
  clear h3
  go_wp2
  go_ret2
  exact R2.mk (by simp) rfl (((((Below.refl _ _).alloc (Nat.le_refl _) _).trans b1).trans b2).trans b3)

set_option maxHeartbeats 400000 in
theorem clone (s : List UInt8) (w : World) (hs : (s.length : Int) ≤ 1048576) :
    Calls Try.prog 30 #[.string ⟨s.toArray⟩] w fun e w' => e = .returned (.string ⟨s.toArray⟩) ∧ Below w.heap.size w w' := by
  go_enter Try.func30, Try.ntmps30
  go_wp2_with fail
  refine (Try.stringslite_Clone ⟨s.toArray⟩ _ (by rw [mk_size]; omega)).mono ?_
  rintro e w1 ⟨rfl, b1⟩
  go_wp2
  go_ret
  exact ⟨rfl, b1⟩

set_option maxHeartbeats 400000 in
theorem pReadText_ok (b : List UInt8) (w : World) (hb : b.length ≤ maxLen) (hc : (rdNum b).2.2 = 0) (h1 : ((rdNum b).1 : Int) ≤ 1048576) (h2 : ((rdNum b).1 : Int) ≤ (rdNum b).2.1.length) :
    Calls Try.prog 18 #[.string ⟨b.toArray⟩] w (R3 w (.string ⟨((rdNum b).2.1.take (rdNum b).1).toArray⟩) (.string ⟨((rdNum b).2.1.drop (rdNum b).1).toArray⟩) (errV 54 0)) := by
  have hR := pRead b w hb
  rw [hc] at hR
  have hl : (rdNum b).2.1.length ≤ maxLen := by
    have := rdNum_back b hc
    have := congrArg List.length this
    rw [List.length_append] at this; omega
  generalize (rdNum b).1 = n at *
  generalize (rdNum b).2.1 = r at *
  clear hc
  have HR := Lib.hid hR
  clear hR
  unfold maxLen at hl
  go_enter Try.func18, Try.ntmps18
  go_wp2_with fail
  refine HR.out.mono ?_
  rintro e w1 ⟨rfl, b1⟩
  simp only [errV, if_pos]
  go_wp2
  go_region_with (go_at_call 30; refine (clone (r.take n) _ (by simp; omega)).mono ?_; rintro e w2 ⟨rfl, b2⟩)
  all_goals
    go_wp2
    go_ret3
    refine R3.mk rfl ?_ rfl ?_
    · exact str_drop0 r n
    · exact b1.trans ((below_drewN (Below.refl _ _) 1).trans (b2.mono b1.size))

set_option maxHeartbeats 400000 in
theorem pReadText_no (b : List UInt8) (w : World) (hb : b.length ≤ maxLen) (c : Nat) (hc : (rdNum b).2.2 = c + 1) :
    Calls Try.prog 18 #[.string ⟨b.toArray⟩] w (R3 w (.string ⟨#[]⟩) (.string ⟨#[]⟩) (errV 54 (c + 1))) := by
  have hR := pRead b w hb
  rw [hc] at hR
  generalize (rdNum b).1 = n at *
  generalize (rdNum b).2.1 = r at *
  clear hc
  have HR := Lib.hid hR
  clear hR
  go_enter Try.func18, Try.ntmps18
  go_wp2_with fail
  refine HR.out.mono ?_
  rintro e w1 ⟨rfl, b1⟩
  rw [errV, if_neg (by omega)]
  go_wp2
  go_ret3
  exact R3.mk rfl rfl (by simp [errV]) b1

set_option maxHeartbeats 400000 in
theorem pReadText_long (b : List UInt8) (w : World) (hb : b.length ≤ maxLen) (hc : (rdNum b).2.2 = 0) (h1 : 1048576 < ((rdNum b).1 : Int)) :
    Calls Try.prog 18 #[.string ⟨b.toArray⟩] w (R3 w (.string ⟨#[]⟩) (.string ⟨#[]⟩) (errV 54 5)) := by
  have hR := pRead b w hb
  rw [hc] at hR
  generalize (rdNum b).1 = n at *
  generalize (rdNum b).2.1 = r at *
  clear hc
  have HR := Lib.hid hR
  clear hR
  go_enter Try.func18, Try.ntmps18
  go_wp2_with fail
  refine HR.out.mono ?_
  rintro e w1 ⟨rfl, b1⟩
  simp only [errV, if_pos]
  go_wp2
  go_ret3
  exact R3.mk rfl rfl rfl b1

set_option maxHeartbeats 400000 in
theorem pReadText_short (b : List UInt8) (w : World) (hb : b.length ≤ maxLen) (hc : (rdNum b).2.2 = 0) (h1 : ((rdNum b).1 : Int) ≤ 1048576) (h2 : ((rdNum b).2.1.length : Int) < (rdNum b).1) :
    Calls Try.prog 18 #[.string ⟨b.toArray⟩] w (R3 w (.string ⟨#[]⟩) (.string ⟨#[]⟩) (errV 54 2)) := by
  have hR := pRead b w hb
  rw [hc] at hR
  generalize (rdNum b).1 = n at *
  generalize (rdNum b).2.1 = r at *
  clear hc
  have HR := Lib.hid hR
  clear hR
  go_enter Try.func18, Try.ntmps18
  go_wp2_with fail
  refine HR.out.mono ?_
  rintro e w1 ⟨rfl, b1⟩
  simp only [errV, if_pos]
  go_wp2
  go_ret3
  exact R3.mk rfl rfl rfl b1

/-- The program reads a text as the chapter says. -/
theorem pReadText (b : List UInt8) (w : World) (hb : b.length ≤ maxLen) :
    Calls Try.prog 18 #[.string ⟨b.toArray⟩] w (R3 w (.string ⟨(rdTxt b).1.toArray⟩) (.string ⟨(rdTxt b).2.1.toArray⟩) (errV 54 (rdTxt b).2.2)) := by
  unfold rdTxt
  by_cases hc : (rdNum b).2.2 = 0
  · rw [if_neg (by omega)]
    by_cases h1 : MaxT < (rdNum b).1
    · rw [if_pos h1]; exact pReadText_long b w hb hc (by unfold MaxT at h1; omega)
    · rw [if_neg h1]
      by_cases h2 : (rdNum b).2.1.length < (rdNum b).1
      · rw [if_pos h2]; exact pReadText_short b w hb hc (by unfold MaxT at h1; omega) (by omega)
      · rw [if_neg h2]; exact pReadText_ok b w hb hc (by unfold MaxT at h1; omega) (by omega)
  · rw [if_pos hc]
    obtain ⟨c, hc'⟩ : ∃ c, (rdNum b).2.2 = c + 1 := ⟨_, (Nat.succ_pred_eq_of_ne_zero hc).symm⟩
    rw [hc']
    exact pReadText_no b w hb c hc'

theorem int_beq (a b : Nat) : ((a : Int) == (b : Int)) = (a == b) := by
  rw [Bool.eq_iff_iff, beq_iff_eq, beq_iff_eq]; omega
theorem ret_bool {a b : Bool} (h : a = b) : Ending.returned (.bool a) = .returned (.bool b) := by rw [h]
theorem assert_nil (w : World) : (Instr.typeAssert .nilIface 24 54 true).run Try.prog w = .ok (.tuple #[.int .i64 0, .bool false]) w := by kernel_rfl
theorem assert_err (c : Int) (w : World) : (Instr.typeAssert (.iface 54 (.int .i64 c)) 24 54 true).run Try.prog w = .ok (.tuple #[.int .i64 c, .bool true]) w := by kernel_rfl

set_option maxHeartbeats 400000 in
theorem is_00 (w : World) : Calls Try.prog 15 #[errV 54 0, .int .i64 0] w fun e w' => e = .returned (.bool true) ∧ w = w' := by
  simp only [errV, if_pos]
  go_enter Try.func15, Try.ntmps15
  go_wp2
  go_ret
  exact ⟨rfl, rfl⟩

set_option maxHeartbeats 400000 in
theorem is_0k (k : Nat) (w : World) (hk : ((k : Int) == 0) = false) : Calls Try.prog 15 #[errV 54 0, .int .i64 k] w fun e w' => e = .returned (.bool false) ∧ w = w' := by
  simp only [errV, if_pos]
  have ha := assert_nil
  have hb := assert_err
  go_enter Try.func15, Try.ntmps15
  go_wp2
  go_ret
  exact ⟨rfl, rfl⟩

set_option maxHeartbeats 400000 in
theorem is_c0 (c : Nat) (w : World) (hc : c ≠ 0) : Calls Try.prog 15 #[errV 54 c, .int .i64 0] w fun e w' => e = .returned (.bool false) ∧ w = w' := by
  rw [errV, if_neg hc]
  clear hc
  have ha := assert_nil
  have hb := assert_err
  go_enter Try.func15, Try.ntmps15
  go_wp2
  go_ret
  exact ⟨rfl, rfl⟩

set_option maxHeartbeats 400000 in
theorem is_ck (c k : Nat) (w : World) (hc : c ≠ 0) (hk : ((k : Int) == 0) = false) : Calls Try.prog 15 #[errV 54 c, .int .i64 k] w fun e w' => e = .returned (.bool (c == k)) ∧ w = w' := by
  rw [errV, if_neg hc]
  clear hc
  have ha := assert_nil
  have hb := assert_err
  go_enter Try.func15, Try.ntmps15
  go_wp2
  go_ret
  exact ⟨ret_bool (int_beq c k), rfl⟩

/-- Is an error the one of this number? -/
theorem is_any (c k : Nat) (w : World) : Calls Try.prog 15 #[errV 54 c, .int .i64 k] w fun e w' => e = .returned (.bool (c == k)) ∧ w = w' := by
  by_cases hc : c = 0
  · subst hc
    by_cases hk : k = 0
    · subst hk; exact is_00 w
    · have e : ((0 : Nat) == k) = false := by simpa using fun h => hk h.symm
      rw [e]; exact is_0k k w (by simpa using hk)
  · by_cases hk : k = 0
    · subst hk
      have e : (c == 0) = false := by simpa using hc
      rw [e]; exact is_c0 c w hc
    · exact is_ck c k w hc (by simpa using hk)

theorem ex1 (w : World) : Calls Try.prog 11 #[.int .i64 256] w (R2 w (.string ⟨#[2, 1, 0]⟩) .nilIface) := pNum_ok 256 w (by unfold MaxN; omega)
theorem ex2 (w : World) : Calls Try.prog 16 #[.string ⟨#[97, 98]⟩] w (R2 w (.string ⟨#[1, 2, 97, 98]⟩) .nilIface) := pText_ok [97, 98] w (by simp)
theorem ex3 (w : World) : Calls Try.prog 13 #[.string ⟨#[8]⟩] w (R3 w (.int .i64 0) (.string ⟨#[]⟩) (.iface 54 (.int .i64 3))) := pRead [8] w (by decide)
theorem ex4 (w : World) : Calls Try.prog 13 #[.string ⟨#[2, 0, 5]⟩] w (R3 w (.int .i64 0) (.string ⟨#[]⟩) (.iface 54 (.int .i64 3))) := pRead [2, 0, 5] w (by decide)
theorem ex5 (w : World) : Calls Try.prog 15 #[.iface 54 (.int .i64 3), .int .i64 3] w fun e w' => e = .returned (.bool true) ∧ w = w' := is_any 3 3 w

set_option maxHeartbeats 400000 in
/-- The chapter's examples come out as they stand. -/
theorem examples_any (w : World) : Calls Try.prog 10 #[] w fun e w' => e = .returned (.bool true) ∧ Below w.heap.size w w' := by
  go_enter Try.func10, Try.ntmps10
  go_wp2_with fail
  refine (ex1 _).mono ?_
  rintro e w1 ⟨rfl, b1⟩
  go_wp2_with fail
  refine (ex2 _).mono ?_
  rintro e w2 ⟨rfl, b2⟩
  go_wp2_with fail
  refine (ex3 _).mono ?_
  rintro e w3 ⟨rfl, b3⟩
  go_wp2_with fail
  refine (ex4 _).mono ?_
  rintro e w4 ⟨rfl, b4⟩
  go_wp2_with (go_at_call 15; refine (ex5 _).mono ?_; rintro e w' ⟨rfl, rfl⟩)
  go_ret
  exact ⟨rfl, b1.trans ((b2.mono b1.size).trans ((b3.mono (by have := b1.size; have := b2.size; omega)).trans (b4.mono (by have := b1.size; have := b2.size; have := b3.size; omega))))⟩
end Go.Proofs.Ytcjdbflhahpcoaa
