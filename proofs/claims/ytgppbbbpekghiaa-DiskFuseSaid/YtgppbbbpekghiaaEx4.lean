/- The examples of chapter 4 come out as they stand. -/
import Derived.Test.YtgppbbbpekghiaaPDu
namespace Go.Proofs.Ytgppbbbpekghiaa
open Go.RowKit Go.Proofs Go.Proofs.Pk
set_option maxRecDepth 10000
attribute [local simp] mk_get wrap64_u8 mk_extract ByteArray.mk_append_mk get_1k

def ex0 : Dsk := Dsk.new 2
def ex1 : Dsk := (ex0.write 0 [97, 98]).1
def ex2 : Dsk := ex1.sync.1
def ex3 : Dsk := (ex2.write 0 [99, 100, 101, 102]).1
def ex4 : Dsk := ex3.crash [] 0 1
def ex5 : Dsk := ex4.setFuse 1
def ex6 : Dsk := (ex5.write 1 [120]).1
def ex7 : Dsk := (ex6.write 1 [121]).1
def ex8 : Dsk := ex7.crash [1] (-1) 0
def exS : List UInt8 := [99, 98, 0] ++ List.replicate 61 0
def exT : List UInt8 := [120] ++ List.replicate 63 0
theorem ex_e : (ex0.write 0 [97, 98]).2 = 0 ∧ ex1.sync.2 = 0 ∧ (ex2.write 0 [99, 100, 101, 102]).2 = 0 ∧ ex4.read 0 = (exS, 0) ∧ (ex5.write 1 [120]).2 = 0 ∧ (ex6.write 1 [121]).2 = 6 ∧ ex7.read 1 = ([], 6) ∧ ex8.read 1 = (exT, 0) ∧ ex8.L.length = 2 ∧ ex8.n = 3 := by decide +kernel
theorem ex_n : ex0.C.length ≤ 1000000 ∧ ex0.n ≤ 1000000 ∧ ex2.C.length ≤ 1000000 ∧ ex2.n ≤ 1000000 ∧ ex5.C.length ≤ 1000000 ∧ ex5.n ≤ 1000000 ∧ ex6.C.length ≤ 1000000 ∧ ex6.n ≤ 1000000 := by decide +kernel

section
variable {B p : Nat} {w0 w : World} {X : Nat → Prop}
theorem xe1 (h : Al B w0 w p ex0 X) : Calls Try.prog 14 #[.pointer (some ⟨p, 0, none⟩), .int .i64 0, .string ⟨#[97, 98]⟩] w fun e w' => e = .returned .nilIface ∧ ∃ X', Al B w0 w' p ex1 X' :=
  (aWr h 0 [97, 98] ex_n.1 ex_n.2.1).mono fun e w' ⟨he, ⟨X', h', _⟩, _⟩ => ⟨by rw [he, ex_e.1]; rfl, X', h'⟩
theorem xe2 (h : Al B w0 w p ex1 X) : Calls Try.prog 16 #[.pointer (some ⟨p, 0, none⟩)] w fun e w' => e = .returned .nilIface ∧ ∃ X', Al B w0 w' p ex2 X' :=
  (aSy h).mono fun e w' ⟨he, ⟨X', h', _⟩, _⟩ => ⟨by rw [he, ex_e.2.1]; rfl, X', h'⟩
theorem xe3 (h : Al B w0 w p ex2 X) : Calls Try.prog 14 #[.pointer (some ⟨p, 0, none⟩), .int .i64 0, .string ⟨#[99, 100, 101, 102]⟩] w fun e w' => e = .returned .nilIface ∧ ∃ X', Al B w0 w' p ex3 X' :=
  (aWr h 0 [99, 100, 101, 102] ex_n.2.2.1 ex_n.2.2.2.1).mono fun e w' ⟨he, ⟨X', h', _⟩, _⟩ => ⟨by rw [he, ex_e.2.2.1]; rfl, X', h'⟩
theorem xe4 (h : Al B w0 w p ex3 X) : Calls Try.prog 20 #[.pointer (some ⟨p, 0, none⟩), .slice none 0 0, .int .i64 0, .int .i64 1] w fun e w' => e = .returned (.tuple #[]) ∧ ∃ X', Al B w0 w' p ex4 X' :=
  (aCr h none 0 0 [] 0 1 (ints_nil _ _) (.inl rfl)).mono fun e w' ⟨he, ⟨X', h', _⟩, _⟩ => ⟨he, X', h'⟩
theorem xe5 (h : Al B w0 w p ex4 X) : Calls Try.prog 22 #[.pointer (some ⟨p, 0, none⟩), .int .i64 0] w fun e w' => e = .returned (.tuple #[.string ⟨exS.toArray⟩, .nilIface]) ∧ Al B w0 w' p ex4 X :=
  (aRd h 0).mono fun e w' ⟨he, h', _⟩ => ⟨by rw [he, ex_e.2.2.2.1]; rfl, h'⟩
theorem xe6 (h : Al B w0 w p ex4 X) : Calls Try.prog 18 #[.pointer (some ⟨p, 0, none⟩), .int .i64 1] w fun e w' => e = .returned (.tuple #[]) ∧ Al B w0 w' p ex5 X :=
  (aFu h 1 (by decide)).mono fun e w' ⟨he, h', _⟩ => ⟨he, h'⟩
theorem xe7 (h : Al B w0 w p ex5 X) : Calls Try.prog 14 #[.pointer (some ⟨p, 0, none⟩), .int .i64 1, .string ⟨#[120]⟩] w fun e w' => e = .returned .nilIface ∧ ∃ X', Al B w0 w' p ex6 X' :=
  (aWr h 1 [120] ex_n.2.2.2.2.1 ex_n.2.2.2.2.2.1).mono fun e w' ⟨he, ⟨X', h', _⟩, _⟩ => ⟨by rw [he, ex_e.2.2.2.2.1]; rfl, X', h'⟩
theorem xe8 (h : Al B w0 w p ex6 X) : Calls Try.prog 14 #[.pointer (some ⟨p, 0, none⟩), .int .i64 1, .string ⟨#[121]⟩] w fun e w' => e = .returned (.iface 56 (.int .i64 6)) ∧ ∃ X', Al B w0 w' p ex7 X' :=
  (aWr h 1 [121] ex_n.2.2.2.2.2.2.1 ex_n.2.2.2.2.2.2.2).mono fun e w' ⟨he, ⟨X', h', _⟩, _⟩ => ⟨by rw [he, ex_e.2.2.2.2.2.1]; rfl, X', h'⟩
theorem xe9 (h : Al B w0 w p ex7 X) : Calls Try.prog 22 #[.pointer (some ⟨p, 0, none⟩), .int .i64 1] w fun e w' => e = .returned (.tuple #[.string ⟨#[]⟩, .iface 56 (.int .i64 6)]) ∧ Al B w0 w' p ex7 X :=
  (aRd h 1).mono fun e w' ⟨he, h', _⟩ => ⟨by rw [he, ex_e.2.2.2.2.2.2.1]; rfl, h'⟩
theorem xe10 (h : Al B w0 w p ex7 X) : Calls Try.prog 20 #[.pointer (some ⟨p, 0, none⟩), .slice (some ⟨w.heap.size, 0, none⟩) 1 1, .int .i64 (-1), .int .i64 0] (w.alloc (.cells #[.int .i64 1] 3)) fun e w' => e = .returned (.tuple #[]) ∧ ∃ X', Al B w0 w' p ex8 X' := by
  have hN := Holds.new w [.int .i64 1] 3
  have h2 := h.below (w' := w.alloc (.cells #[.int .i64 1] 3)) ((Below.refl _ _).alloc (Nat.le_refl _) _)
  refine (aCr h2 (some ⟨w.heap.size, 0, none⟩) 1 1 [1] (-1) 0 ⟨rfl, .inr ⟨w.heap.size, 0, rfl, hN.lt, fun i hi => ?_⟩⟩ (.inr fun b off e hx => ?_)).mono fun e w' ⟨he, ⟨X', h', _⟩, _⟩ => ⟨he, X', h'⟩
  · obtain rfl : i = 0 := by simp at hi; omega
    exact hN.cell 0 _ rfl
  · injection e with e; injection e with e _ _
    have := (h.lt b hx).2; omega
theorem xe11 (h : Al B w0 w p ex8 X) : Calls Try.prog 22 #[.pointer (some ⟨p, 0, none⟩), .int .i64 1] w fun e w' => e = .returned (.tuple #[.string ⟨exT.toArray⟩, .nilIface]) ∧ Al B w0 w' p ex8 X :=
  (aRd h 1).mono fun e w' ⟨he, h', _⟩ => ⟨by rw [he, ex_e.2.2.2.2.2.2.2.1]; rfl, h'⟩
theorem xe12 (h : Al B w0 w p ex8 X) : Calls Try.prog 12 #[.pointer (some ⟨p, 0, none⟩)] w fun e w' => e = .returned (.int .i64 2) ∧ Al B w0 w' p ex8 X :=
  (aQ h (pSize w B p ex8 X h.dsk)).mono fun e w' ⟨he, h', _⟩ => ⟨by rw [he, ex_e.2.2.2.2.2.2.2.2.1]; rfl, h'⟩
theorem xe13 (h : Al B w0 w p ex8 X) : Calls Try.prog 25 #[.pointer (some ⟨p, 0, none⟩)] w fun e w' => e = .returned (.int .i64 3) ∧ Al B w0 w' p ex8 X :=
  (aQ h (pWrites w B p ex8 X h.dsk)).mono fun e w' ⟨he, h', _⟩ => ⟨by rw [he, ex_e.2.2.2.2.2.2.2.2.2]; rfl, h'⟩
end
theorem xe0 (w : World) : Calls Try.prog 9 #[.int .i64 2] w fun e w' => ∃ p X, e = .returned (.tuple #[.pointer (some ⟨p, 0, none⟩), .nilIface]) ∧ Al w.heap.size w w' p ex0 X := aNw (w0 := w) 2 (by omega) (by omega) (Below.refl _ _)
theorem xe00 (w : World) : Calls Try.prog 9 #[.int .i64 0] w fun e w' => e = .returned (.tuple #[.pointer none, .iface 56 (.int .i64 1)]) ∧ Below w.heap.size w w' := pNw_arg 0 (by omega) w
theorem is11 (w : World) : Calls Try.prog 11 #[.iface 56 (.int .i64 1), .int .i64 1] w fun e w' => e = .returned (.bool true) ∧ w = w' := is_any 1 1 w
theorem is66 (w : World) : Calls Try.prog 11 #[.iface 56 (.int .i64 6), .int .i64 6] w fun e w' => e = .returned (.bool true) ∧ w = w' := is_any 6 6 w

theorem exS_3 : exS.length = 64 ∧ exS.take 3 = [99, 98, 0] := by decide +kernel
theorem exT_1 : exT.length = 64 ∧ exT.head? = some 120 := by decide +kernel

set_option maxHeartbeats 2000000 in
/-- The chapter's examples come out as they stand. -/
theorem examples_any (w : World) : Calls Try.prog 8 #[] w fun e w' => e = .returned (.bool true) ∧ Below w.heap.size w w' := by
  have x5 := fun (B p : Nat) (w0 w : World) (X : Nat → Prop) (h : Al B w0 w p ex4 X) => xe5 h
  have x11 := fun (B p : Nat) (w0 w : World) (X : Nat → Prop) (h : Al B w0 w p ex8 X) => xe11 h
  obtain ⟨r, hr, hr1⟩ : ∃ r : List UInt8, exS = 99 :: 98 :: 0 :: r ∧ r.length = 61 := ⟨List.replicate 61 0, rfl, rfl⟩
  obtain ⟨t, ht, ht1⟩ : ∃ t : List UInt8, exT = 120 :: t ∧ t.length = 63 := ⟨List.replicate 63 0, rfl, rfl⟩
  rw [hr] at x5
  rw [ht] at x11
  have H5 := Lib.hid x5
  have H11 := Lib.hid x11
  clear hr ht x5 x11
  go_enter Try.func8, Try.ntmps8
  go_wp2_with fail
  refine (xe0 _).mono ?_
  rintro e w1 ⟨p, X, rfl, h⟩
  go_wp2_with fail
  refine (xe00 _).mono ?_
  rintro e w2 ⟨rfl, b⟩
  have h := h.below b
  clear b
  go_wp2_with fail
  refine (is11 _).mono ?_
  rintro e w3 ⟨rfl, rfl⟩
  go_wp2_with fail
  refine (xe1 h).mono ?_
  rintro e w4 ⟨rfl, X1, h1⟩
  clear h
  go_wp2_with fail
  refine (xe2 h1).mono ?_
  rintro e w5 ⟨rfl, X2, h2⟩
  clear h1
  go_wp2_with fail
  refine (xe3 h2).mono ?_
  rintro e w6 ⟨rfl, X3, h3⟩
  clear h2
  go_wp2_with fail
  refine (xe4 h3).mono ?_
  rintro e w7 ⟨rfl, X4, h4⟩
  clear h3
  go_wp2_with fail
  refine (H5.out _ _ _ _ _ h4).mono ?_
  rintro e w8 ⟨rfl, h5⟩
  clear h4
  go_wp2_with fail
  refine (xe6 h5).mono ?_
  rintro e w9 ⟨rfl, h6⟩
  clear h5
  go_wp2_with fail
  refine (xe7 h6).mono ?_
  rintro e w10 ⟨rfl, X7, h7⟩
  clear h6
  go_wp2_with fail
  refine (xe8 h7).mono ?_
  rintro e w11 ⟨rfl, X8, h8⟩
  clear h7
  go_wp2_with fail
  refine (xe9 h8).mono ?_
  rintro e w12 ⟨rfl, h9⟩
  clear h8
  go_wp2_with fail
  refine (xe10 h9).mono ?_
  rintro e w13 ⟨rfl, X10, h10⟩
  clear h9
  go_wp2_with fail
  refine (H11.out _ _ _ _ _ h10).mono ?_
  rintro e w14 ⟨rfl, h11⟩
  clear h10
  go_wp2_with fail
  refine (is66 _).mono ?_
  rintro e w15 ⟨rfl, rfl⟩
  go_wp2_with fail
  refine (is66 _).mono ?_
  rintro e w15 ⟨rfl, rfl⟩
  go_wp2_with fail
  refine (xe12 h11).mono ?_
  rintro e w16 ⟨rfl, h12⟩
  go_wp2_with fail
  refine (xe13 h12).mono ?_
  rintro e w17 ⟨rfl, h13⟩
  go_wp2
  go_ret
  exact ⟨rfl, h13.bel⟩

end Go.Proofs.Ytgppbbbpekghiaa
