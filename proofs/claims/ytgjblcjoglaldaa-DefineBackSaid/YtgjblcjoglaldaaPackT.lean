/- pack.Text, pack.ReadText: what each returns. -/
import Derived.Test.YtgjblcjoglaldaaWrite
import Derived.Test.YtgjblcjoglaldaaPackN
import Derived.Test.YtgjblcjoglaldaaReadP
import Derived.Deep.RegionWith
namespace Go.Proofs.Ytgjblcjoglaldaa
open Go.RowKit Go.Proofs Go.Proofs.Pk
set_option maxRecDepth 10000
attribute [local simp] mk_get wrap64_u8 mk_extract ByteArray.mk_append_mk get_1k

set_option maxHeartbeats 400000 in
/-- The bytes of a text go into the builder. -/
theorem writeText (B b : Nat) (l s : List UInt8) (w : World) (h : Lib.IsBuilderF 54 5 B b (Lib.byteCells l) w) (hs : s.length ≤ MaxN) (hlen : l.length + 8 + s.length ≤ 140737488355328) (hBw : B ≤ w.heap.size) :
    Calls Try.prog 37 #[.pointer (some ⟨b, 0, none⟩), .string ⟨s.toArray⟩] w fun e w' => e = .returned (.tuple #[]) ∧ Lib.IsBuilderF 54 5 B b (Lib.byteCells (l ++ txtL s)) w' ∧ Below B w w' := by
  have H := Lib.hid h
  clear h
  go_enter Try.func37, Try.ntmps37
  go_wp2_with fail
  refine (writeNum B b l s.length _ H.out hs (by omega) hBw).mono ?_
  rintro e w1 ⟨rfl, h1, b1⟩
  have H1 := Lib.hid h1
  clear h1
  have hz1 : B ≤ w1.heap.size := by have := b1.size; omega
  go_wp2_with fail
  refine (Try.Builder_WriteString_k B b _ ⟨s.toArray⟩ _ H1.out (by have := numL_len_le s.length; rw [Lib.byteCells_length, List.length_append, mk_size]; omega) hz1).mono ?_
  rintro e w2 ⟨rfl, h2, b2, _⟩
  have H2 : Hid (Lib.IsBuilderF 54 5 B b (Lib.byteCells (l ++ txtL s)) w2) := .inr (by rw [txtL, ← List.append_assoc, Lib.byteCells_append (l ++ _), ← strCells_mk s]; exact h2)
  clear h2
  go_wp2
  go_end0
  exact ⟨rfl, H2.out, b1.trans b2⟩

set_option maxHeartbeats 400000 in
theorem pText_long (s : List UInt8) (w : World) (hs : 1048576 < (s.length : Int)) :
    Calls Try.prog 23 #[.string ⟨s.toArray⟩] w (R2 w (.string ⟨#[]⟩) (errV 49 5)) := by
  go_enter Try.func23, Try.ntmps23
  go_wp2
  go_ret2
  exact R2.mk rfl rfl (Below.refl _ _)

set_option maxHeartbeats 400000 in
theorem pText_ok (s : List UInt8) (w : World) (hs : (s.length : Int) ≤ 1048576) :
    Calls Try.prog 23 #[.string ⟨s.toArray⟩] w (R2 w (.string ⟨(txtL s).toArray⟩) (errV 49 0)) := by
  have hl : (txtL s).length ≤ s.length + 8 := by rw [txtL_length]; have := nb_le s.length; omega
  have HL := Lib.hid hl
  clear hl
  go_enter Try.func23, Try.ntmps23
  go_wp2_with fail
  refine (textSize s _ (by omega)).mono ?_
  rintro e w0 ⟨rfl, rfl⟩
  go_wp2_with fail
  refine (Try.Builder_Grow_fresh w.heap.size w.heap.size (txtL s).length _ (Nat.le_refl _) (heap_alloc_new w _) (by simp) (by have := HL.out; omega)).mono ?_
  rintro e w1 ⟨rfl, h1, b1⟩
  have H1 : Hid (Lib.IsBuilderF 54 5 w.heap.size w.heap.size (Lib.byteCells []) w1) := Lib.IsBuilderF.of (.inr h1)
  clear h1
  have hz1 : w.heap.size ≤ w1.heap.size := by have := b1.size; simp at this; omega
  go_wp2_with fail
  refine (writeText w.heap.size w.heap.size [] s _ H1.out (by unfold MaxN; omega) (by simp; omega) hz1).mono ?_
  rintro e w2 ⟨rfl, h2, b2⟩
  have H2 := Lib.hid h2
  clear h2
  have hz2 : w.heap.size ≤ w2.heap.size := by have := b2.size; omega
  go_wp2_with fail
  refine (Try.Builder_String_any_k w.heap.size w.heap.size _ _ H2.out hz2).mono ?_
  rintro e w3 ⟨rfl, h3, b3, _⟩
  clear h3
  go_wp2
  go_ret2
  exact R2.mk (by simp) rfl (((((Below.refl _ _).alloc (Nat.le_refl _) _).trans b1).trans b2).trans b3)

set_option maxHeartbeats 400000 in
theorem clone (s : List UInt8) (w : World) (hs : (s.length : Int) ≤ 1048576) :
    Calls Try.prog 41 #[.string ⟨s.toArray⟩] w fun e w' => e = .returned (.string ⟨s.toArray⟩) ∧ Below w.heap.size w w' := by
  go_enter Try.func41, Try.ntmps41
  go_wp2_with fail
  refine (Try.stringslite_Clone ⟨s.toArray⟩ _ (by rw [mk_size]; omega)).mono ?_
  rintro e w1 ⟨rfl, b1⟩
  go_wp2
  go_ret
  exact ⟨rfl, b1⟩

set_option maxHeartbeats 400000 in
theorem pReadText_ok (b : List UInt8) (w : World) (hb : b.length ≤ maxLen) (hc : (rdNum b).2.2 = 0) (h1 : ((rdNum b).1 : Int) ≤ 1048576) (h2 : ((rdNum b).1 : Int) ≤ (rdNum b).2.1.length) :
    Calls Try.prog 32 #[.string ⟨b.toArray⟩] w (R3 w (.string ⟨((rdNum b).2.1.take (rdNum b).1).toArray⟩) (.string ⟨((rdNum b).2.1.drop (rdNum b).1).toArray⟩) (errV 49 0)) := by
  have hR := pRead b w hb
  rw [hc] at hR
  have hl : (rdNum b).2.1.length ≤ maxLen := by
    have := rdNum_back b hc
    have := congrArg List.length this
    rw [List.length_append] at this; omega
  generalize (rdNum b).1 = n at *
  generalize (rdNum b).2.1 = r at *
  clear hc
  have HR := Lib.hid hR
  clear hR
  unfold maxLen at hl
  go_enter Try.func32, Try.ntmps32
  go_wp2_with fail
  refine HR.out.mono ?_
  rintro e w1 ⟨rfl, b1⟩
  simp only [errV, if_pos]
  go_wp2
  go_region_with (go_at_call 41; refine (clone (r.take n) _ (by simp; omega)).mono ?_; rintro e w2 ⟨rfl, b2⟩)
  all_goals
    go_wp2
    go_ret3
    refine R3.mk rfl ?_ rfl ?_
    · exact str_drop0 r n
    · exact b1.trans ((belowN (Below.refl _ _) 1).trans (b2.mono b1.size))

set_option maxHeartbeats 400000 in
theorem pReadText_no (b : List UInt8) (w : World) (hb : b.length ≤ maxLen) (c : Nat) (hc : (rdNum b).2.2 = c + 1) :
    Calls Try.prog 32 #[.string ⟨b.toArray⟩] w (R3 w (.string ⟨#[]⟩) (.string ⟨#[]⟩) (errV 49 (c + 1))) := by
  have hR := pRead b w hb
  rw [hc] at hR
  generalize (rdNum b).1 = n at *
  generalize (rdNum b).2.1 = r at *
  clear hc
  have HR := Lib.hid hR
  clear hR
  go_enter Try.func32, Try.ntmps32
  go_wp2_with fail
  refine HR.out.mono ?_
  rintro e w1 ⟨rfl, b1⟩
  rw [errV, if_neg (by omega)]
  go_wp2
  go_ret3
  exact R3.mk rfl rfl (by simp [errV]) b1

set_option maxHeartbeats 400000 in
theorem pReadText_long (b : List UInt8) (w : World) (hb : b.length ≤ maxLen) (hc : (rdNum b).2.2 = 0) (h1 : 1048576 < ((rdNum b).1 : Int)) :
    Calls Try.prog 32 #[.string ⟨b.toArray⟩] w (R3 w (.string ⟨#[]⟩) (.string ⟨#[]⟩) (errV 49 5)) := by
  have hR := pRead b w hb
  rw [hc] at hR
  generalize (rdNum b).1 = n at *
  generalize (rdNum b).2.1 = r at *
  clear hc
  have HR := Lib.hid hR
  clear hR
  go_enter Try.func32, Try.ntmps32
  go_wp2_with fail
  refine HR.out.mono ?_
  rintro e w1 ⟨rfl, b1⟩
  simp only [errV, if_pos]
  go_wp2
  go_ret3
  exact R3.mk rfl rfl rfl b1

set_option maxHeartbeats 400000 in
theorem pReadText_short (b : List UInt8) (w : World) (hb : b.length ≤ maxLen) (hc : (rdNum b).2.2 = 0) (h1 : ((rdNum b).1 : Int) ≤ 1048576) (h2 : ((rdNum b).2.1.length : Int) < (rdNum b).1) :
    Calls Try.prog 32 #[.string ⟨b.toArray⟩] w (R3 w (.string ⟨#[]⟩) (.string ⟨#[]⟩) (errV 49 2)) := by
  have hR := pRead b w hb
  rw [hc] at hR
  generalize (rdNum b).1 = n at *
  generalize (rdNum b).2.1 = r at *
  clear hc
  have HR := Lib.hid hR
  clear hR
  go_enter Try.func32, Try.ntmps32
  go_wp2_with fail
  refine HR.out.mono ?_
  rintro e w1 ⟨rfl, b1⟩
  simp only [errV, if_pos]
  go_wp2
  go_ret3
  exact R3.mk rfl rfl rfl b1

/-- The program reads a text as the chapter says. -/
theorem pReadText (b : List UInt8) (w : World) (hb : b.length ≤ maxLen) :
    Calls Try.prog 32 #[.string ⟨b.toArray⟩] w (R3 w (.string ⟨(rdTxt b).1.toArray⟩) (.string ⟨(rdTxt b).2.1.toArray⟩) (errV 49 (rdTxt b).2.2)) := by
  unfold rdTxt
  by_cases hc : (rdNum b).2.2 = 0
  · rw [if_neg (by omega)]
    by_cases h1 : MaxT < (rdNum b).1
    · rw [if_pos h1]; exact pReadText_long b w hb hc (by unfold MaxT at h1; omega)
    · rw [if_neg h1]
      by_cases h2 : (rdNum b).2.1.length < (rdNum b).1
      · rw [if_pos h2]; exact pReadText_short b w hb hc (by unfold MaxT at h1; omega) (by omega)
      · rw [if_neg h2]; exact pReadText_ok b w hb hc (by unfold MaxT at h1; omega) (by omega)
  · rw [if_pos hc]
    obtain ⟨c, hc'⟩ : ∃ c, (rdNum b).2.2 = c + 1 := ⟨_, (Nat.succ_pred_eq_of_ne_zero hc).symm⟩
    rw [hc']
    exact pReadText_no b w hb c hc'

theorem pText (s : List UInt8) (w : World) : Calls Try.prog 23 #[.string ⟨s.toArray⟩] w (R2 w (.string ⟨(encT s).1.toArray⟩) (errV 49 (encT s).2)) := by
  unfold encT
  by_cases h : s.length ≤ MaxT
  · rw [if_pos h]; exact pText_ok s w (by unfold MaxT at h; omega)
  · rw [if_neg h]; exact pText_long s w (by unfold MaxT at h; omega)

end Go.Proofs.Ytgjblcjoglaldaa
