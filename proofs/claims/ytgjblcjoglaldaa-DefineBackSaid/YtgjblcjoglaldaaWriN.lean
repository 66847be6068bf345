/- The writers of package pack: how many bytes a number needs, and its bytes put into a strings.Builder. -/
import Derived.Test.YtgjblcjoglaldaaShelf
import Derived.Test.YtgjblcjoglaldaaGen
namespace Go.Proofs.Ytgjblcjoglaldaa
open Go.RowKit Go.Proofs Go.Proofs.Pk
set_option maxRecDepth 10000
attribute [local simp] mk_get wrap64_u8 mk_extract ByteArray.mk_append_mk get_1k

set_option maxHeartbeats 400000 in
theorem numBytes (n : Nat) (w : World) (hn : n ≤ MaxN) :
    Calls Try.prog 45 #[.int .i64 n] w fun e w' => e = .returned (.int .i64 (nb n)) ∧ w = w' := by
  have HB := Lib.hid (nb_bits n hn)
  have hl : Lib.bitLen n ≤ 64 := Lib.bitLen_le n 64 (by omega) (by unfold MaxN at hn; omega)
  have hm : (n : Int) ≤ 9007199254740991 := by unfold MaxN at hn; omega
  go_enter Try.func45, Try.ntmps45
  go_wp2_with fail
  refine (Try.bits_Len _ _ (by omega) (by omega)).mono ?_
  rintro e w' ⟨rfl, rfl⟩
  go_wp2
  go_ret
  exact ⟨ret_int (by rw [← HB.out]; omega), rfl⟩

theorem writeByte (B b : Nat) (l : List UInt8) (c : UInt8) (x : Int) (w : World) (h : Lib.IsBuilderF 54 5 B b (Lib.byteCells l) w) (hx : x = c.toNat) (hlen : l.length + 1 ≤ 140737488355328) (hBw : B ≤ w.heap.size) :
    Calls Try.prog 46 #[.pointer (some ⟨b, 0, none⟩), .int .u8 x] w fun e w' => e = .returned .nilIface ∧ Lib.IsBuilderF 54 5 B b (Lib.byteCells (l ++ [c])) w' ∧ Below B w w' := by
  subst hx
  refine (Try.Builder_WriteByte_k B b (Lib.byteCells l) _ w h (by rw [Lib.byteCells_length]; exact hlen) hBw).mono ?_
  rintro e w' ⟨rfl, h1, h2, _⟩
  exact ⟨rfl, .inr (by rw [Lib.byteCells_append]; exact h1), h2⟩

theorem numL_0 (n : Nat) (h : nb n = 0) : numL n = [0] := by
  rw [numL, h]; simp [big]

theorem numL_1 (n : Nat) (h : nb n = 1) : numL n = [1, UInt8.ofNat n] := by
  rw [numL, h]; simp [big]

theorem numL_2 (n : Nat) (h : nb n = 2) : numL n = [2, UInt8.ofNat (n / 256), UInt8.ofNat n] := by
  rw [numL, h]; simp [big]

theorem numL_3 (n : Nat) (h : nb n = 3) : numL n = [3, UInt8.ofNat (n / 65536), UInt8.ofNat (n / 256), UInt8.ofNat n] := by
  rw [numL, h]; simp [big, Nat.div_div_eq_div_mul]

theorem numL_4 (n : Nat) (h : nb n = 4) : numL n = [4, UInt8.ofNat (n / 16777216), UInt8.ofNat (n / 65536), UInt8.ofNat (n / 256), UInt8.ofNat n] := by
  rw [numL, h]; simp [big, Nat.div_div_eq_div_mul]

theorem numL_5 (n : Nat) (h : nb n = 5) : numL n = [5, UInt8.ofNat (n / 4294967296), UInt8.ofNat (n / 16777216), UInt8.ofNat (n / 65536), UInt8.ofNat (n / 256), UInt8.ofNat n] := by
  rw [numL, h]; simp [big, Nat.div_div_eq_div_mul]

theorem numL_6 (n : Nat) (h : nb n = 6) : numL n = [6, UInt8.ofNat (n / 1099511627776), UInt8.ofNat (n / 4294967296), UInt8.ofNat (n / 16777216), UInt8.ofNat (n / 65536), UInt8.ofNat (n / 256), UInt8.ofNat n] := by
  rw [numL, h]; simp [big, Nat.div_div_eq_div_mul]

theorem numL_7 (n : Nat) (h : nb n = 7) : numL n = [7, UInt8.ofNat (n / 281474976710656), UInt8.ofNat (n / 1099511627776), UInt8.ofNat (n / 4294967296), UInt8.ofNat (n / 16777216), UInt8.ofNat (n / 65536), UInt8.ofNat (n / 256), UInt8.ofNat n] := by
  rw [numL, h]; simp [big, Nat.div_div_eq_div_mul]

set_option maxHeartbeats 400000 in
theorem writeNum0 (B b : Nat) (l : List UInt8) (n : Nat) (w : World) (h : Lib.IsBuilderF 54 5 B b (Lib.byteCells l) w) (hn : n ≤ MaxN) (hk : (nb n : Int) = 0) (hlen : l.length + 8 ≤ 140737488355328) (hBw : B ≤ w.heap.size) :
    Calls Try.prog 39 #[.pointer (some ⟨b, 0, none⟩), .int .i64 n] w fun e w' => e = .returned (.tuple #[]) ∧ Lib.IsBuilderF 54 5 B b (Lib.byteCells (l ++ numL n)) w' ∧ Below B w w' := by
  have hm : (n : Int) ≤ 9007199254740991 := by unfold MaxN at hn; omega
  have HN := Lib.hid (numL_0 n (by omega))
  have H := Lib.hid h
  clear h
  go_enter Try.func39, Try.ntmps39
  go_wp2_with fail
  refine (numBytes _ _ (by unfold MaxN; omega)).mono ?_
  rintro e w0 ⟨rfl, rfl⟩
  have hz0 : B ≤ w.heap.size := hBw
  go_wp2_with fail
  refine (writeByte B b (l) (0 : UInt8) _ _ H.out (by rfl) (by omega) hz0).mono ?_
  rintro e w1 ⟨rfl, h1, b1⟩
  have H1 := Lib.hid h1
  clear h1
  have hz1 : B ≤ w1.heap.size := by have := b1.size; omega
  go_wp2
  go_end0
  exact ⟨rfl, by rw [HN.out]; simpa only [List.append_assoc, List.cons_append, List.nil_append] using H1.out, b1⟩

set_option maxHeartbeats 400000 in
theorem writeNum1 (B b : Nat) (l : List UInt8) (n : Nat) (w : World) (h : Lib.IsBuilderF 54 5 B b (Lib.byteCells l) w) (hn : n ≤ MaxN) (hk : (nb n : Int) = 1) (hlen : l.length + 8 ≤ 140737488355328) (hBw : B ≤ w.heap.size) :
    Calls Try.prog 39 #[.pointer (some ⟨b, 0, none⟩), .int .i64 n] w fun e w' => e = .returned (.tuple #[]) ∧ Lib.IsBuilderF 54 5 B b (Lib.byteCells (l ++ numL n)) w' ∧ Below B w w' := by
  have hm : (n : Int) ≤ 9007199254740991 := by unfold MaxN at hn; omega
  have HN := Lib.hid (numL_1 n (by omega))
  have H := Lib.hid h
  clear h
  go_enter Try.func39, Try.ntmps39
  go_wp2_with fail
  refine (numBytes _ _ (by unfold MaxN; omega)).mono ?_
  rintro e w0 ⟨rfl, rfl⟩
  have hz0 : B ≤ w.heap.size := hBw
  go_wp2_with fail
  refine (writeByte B b (l) (1 : UInt8) _ _ H.out (by rfl) (by omega) hz0).mono ?_
  rintro e w1 ⟨rfl, h1, b1⟩
  have H1 := Lib.hid h1
  clear h1
  have hz1 : B ≤ w1.heap.size := by have := b1.size; omega
  go_wp2_with fail
  refine (writeByte B b (l ++ [(1 : UInt8)]) (UInt8.ofNat n) _ _ H1.out (by have := ofNat_int n; omega) (by simp only [List.length_append, List.length_cons, List.length_nil]; omega) hz1).mono ?_
  rintro e w2 ⟨rfl, h2, b2⟩
  have H2 := Lib.hid h2
  clear h2
  have hz2 : B ≤ w2.heap.size := by have := b2.size; omega
  go_wp2
  go_end0
  exact ⟨rfl, by rw [HN.out]; simpa only [List.append_assoc, List.cons_append, List.nil_append] using H2.out, (b1.trans b2)⟩

set_option maxHeartbeats 400000 in
theorem writeNum2 (B b : Nat) (l : List UInt8) (n : Nat) (w : World) (h : Lib.IsBuilderF 54 5 B b (Lib.byteCells l) w) (hn : n ≤ MaxN) (hk : (nb n : Int) = 2) (hlen : l.length + 8 ≤ 140737488355328) (hBw : B ≤ w.heap.size) :
    Calls Try.prog 39 #[.pointer (some ⟨b, 0, none⟩), .int .i64 n] w fun e w' => e = .returned (.tuple #[]) ∧ Lib.IsBuilderF 54 5 B b (Lib.byteCells (l ++ numL n)) w' ∧ Below B w w' := by
  have hm : (n : Int) ≤ 9007199254740991 := by unfold MaxN at hn; omega
  have HN := Lib.hid (numL_2 n (by omega))
  have H := Lib.hid h
  clear h
  go_enter Try.func39, Try.ntmps39
  go_wp2_with fail
  refine (numBytes _ _ (by unfold MaxN; omega)).mono ?_
  rintro e w0 ⟨rfl, rfl⟩
  have hz0 : B ≤ w.heap.size := hBw
  go_wp2_with fail
  refine (writeByte B b (l) (2 : UInt8) _ _ H.out (by rfl) (by omega) hz0).mono ?_
  rintro e w1 ⟨rfl, h1, b1⟩
  have H1 := Lib.hid h1
  clear h1
  have hz1 : B ≤ w1.heap.size := by have := b1.size; omega
  go_wp2_with fail
  refine (writeByte B b (l ++ [(2 : UInt8)]) (UInt8.ofNat (n / 256)) _ _ H1.out (by have := ofNat_int (n / 256); omega) (by simp only [List.length_append, List.length_cons, List.length_nil]; omega) hz1).mono ?_
  rintro e w2 ⟨rfl, h2, b2⟩
  have H2 := Lib.hid h2
  clear h2
  have hz2 : B ≤ w2.heap.size := by have := b2.size; omega
  go_wp2_with fail
  refine (writeByte B b (l ++ [(2 : UInt8)] ++ [(UInt8.ofNat (n / 256))]) (UInt8.ofNat n) _ _ H2.out (by have := ofNat_int n; omega) (by simp only [List.length_append, List.length_cons, List.length_nil]; omega) hz2).mono ?_
  rintro e w3 ⟨rfl, h3, b3⟩
  have H3 := Lib.hid h3
  clear h3
  have hz3 : B ≤ w3.heap.size := by have := b3.size; omega
  go_wp2
  go_end0
  exact ⟨rfl, by rw [HN.out]; simpa only [List.append_assoc, List.cons_append, List.nil_append] using H3.out, ((b1.trans b2).trans b3)⟩

set_option maxHeartbeats 400000 in
theorem writeNum3 (B b : Nat) (l : List UInt8) (n : Nat) (w : World) (h : Lib.IsBuilderF 54 5 B b (Lib.byteCells l) w) (hn : n ≤ MaxN) (hk : (nb n : Int) = 3) (hlen : l.length + 8 ≤ 140737488355328) (hBw : B ≤ w.heap.size) :
    Calls Try.prog 39 #[.pointer (some ⟨b, 0, none⟩), .int .i64 n] w fun e w' => e = .returned (.tuple #[]) ∧ Lib.IsBuilderF 54 5 B b (Lib.byteCells (l ++ numL n)) w' ∧ Below B w w' := by
  have hm : (n : Int) ≤ 9007199254740991 := by unfold MaxN at hn; omega
  have HN := Lib.hid (numL_3 n (by omega))
  have H := Lib.hid h
  clear h
  go_enter Try.func39, Try.ntmps39
  go_wp2_with fail
  refine (numBytes _ _ (by unfold MaxN; omega)).mono ?_
  rintro e w0 ⟨rfl, rfl⟩
  have hz0 : B ≤ w.heap.size := hBw
  go_wp2_with fail
  refine (writeByte B b (l) (3 : UInt8) _ _ H.out (by rfl) (by omega) hz0).mono ?_
  rintro e w1 ⟨rfl, h1, b1⟩
  have H1 := Lib.hid h1
  clear h1
  have hz1 : B ≤ w1.heap.size := by have := b1.size; omega
  go_wp2_with fail
  refine (writeByte B b (l ++ [(3 : UInt8)]) (UInt8.ofNat (n / 65536)) _ _ H1.out (by have := ofNat_int (n / 65536); omega) (by simp only [List.length_append, List.length_cons, List.length_nil]; omega) hz1).mono ?_
  rintro e w2 ⟨rfl, h2, b2⟩
  have H2 := Lib.hid h2
  clear h2
  have hz2 : B ≤ w2.heap.size := by have := b2.size; omega
  go_wp2_with fail
  refine (writeByte B b (l ++ [(3 : UInt8)] ++ [(UInt8.ofNat (n / 65536))]) (UInt8.ofNat (n / 256)) _ _ H2.out (by have := ofNat_int (n / 256); omega) (by simp only [List.length_append, List.length_cons, List.length_nil]; omega) hz2).mono ?_
  rintro e w3 ⟨rfl, h3, b3⟩
  have H3 := Lib.hid h3
  clear h3
  have hz3 : B ≤ w3.heap.size := by have := b3.size; omega
  go_wp2_with fail
  refine (writeByte B b (l ++ [(3 : UInt8)] ++ [(UInt8.ofNat (n / 65536))] ++ [(UInt8.ofNat (n / 256))]) (UInt8.ofNat n) _ _ H3.out (by have := ofNat_int n; omega) (by simp only [List.length_append, List.length_cons, List.length_nil]; omega) hz3).mono ?_
  rintro e w4 ⟨rfl, h4, b4⟩
  have H4 := Lib.hid h4
  clear h4
  have hz4 : B ≤ w4.heap.size := by have := b4.size; omega
  go_wp2
  go_end0
  exact ⟨rfl, by rw [HN.out]; simpa only [List.append_assoc, List.cons_append, List.nil_append] using H4.out, (((b1.trans b2).trans b3).trans b4)⟩

set_option maxHeartbeats 400000 in
theorem writeNum4 (B b : Nat) (l : List UInt8) (n : Nat) (w : World) (h : Lib.IsBuilderF 54 5 B b (Lib.byteCells l) w) (hn : n ≤ MaxN) (hk : (nb n : Int) = 4) (hlen : l.length + 8 ≤ 140737488355328) (hBw : B ≤ w.heap.size) :
    Calls Try.prog 39 #[.pointer (some ⟨b, 0, none⟩), .int .i64 n] w fun e w' => e = .returned (.tuple #[]) ∧ Lib.IsBuilderF 54 5 B b (Lib.byteCells (l ++ numL n)) w' ∧ Below B w w' := by
  have hm : (n : Int) ≤ 9007199254740991 := by unfold MaxN at hn; omega
  have HN := Lib.hid (numL_4 n (by omega))
  have H := Lib.hid h
  clear h
  go_enter Try.func39, Try.ntmps39
  go_wp2_with fail
  refine (numBytes _ _ (by unfold MaxN; omega)).mono ?_
  rintro e w0 ⟨rfl, rfl⟩
  have hz0 : B ≤ w.heap.size := hBw
  go_wp2_with fail
  refine (writeByte B b (l) (4 : UInt8) _ _ H.out (by rfl) (by omega) hz0).mono ?_
  rintro e w1 ⟨rfl, h1, b1⟩
  have H1 := Lib.hid h1
  clear h1
  have hz1 : B ≤ w1.heap.size := by have := b1.size; omega
  go_wp2_with fail
  refine (writeByte B b (l ++ [(4 : UInt8)]) (UInt8.ofNat (n / 16777216)) _ _ H1.out (by have := ofNat_int (n / 16777216); omega) (by simp only [List.length_append, List.length_cons, List.length_nil]; omega) hz1).mono ?_
  rintro e w2 ⟨rfl, h2, b2⟩
  have H2 := Lib.hid h2
  clear h2
  have hz2 : B ≤ w2.heap.size := by have := b2.size; omega
  go_wp2_with fail
  refine (writeByte B b (l ++ [(4 : UInt8)] ++ [(UInt8.ofNat (n / 16777216))]) (UInt8.ofNat (n / 65536)) _ _ H2.out (by have := ofNat_int (n / 65536); omega) (by simp only [List.length_append, List.length_cons, List.length_nil]; omega) hz2).mono ?_
  rintro e w3 ⟨rfl, h3, b3⟩
  have H3 := Lib.hid h3
  clear h3
  have hz3 : B ≤ w3.heap.size := by have := b3.size; omega
  go_wp2_with fail
  refine (writeByte B b (l ++ [(4 : UInt8)] ++ [(UInt8.ofNat (n / 16777216))] ++ [(UInt8.ofNat (n / 65536))]) (UInt8.ofNat (n / 256)) _ _ H3.out (by have := ofNat_int (n / 256); omega) (by simp only [List.length_append, List.length_cons, List.length_nil]; omega) hz3).mono ?_
  rintro e w4 ⟨rfl, h4, b4⟩
  have H4 := Lib.hid h4
  clear h4
  have hz4 : B ≤ w4.heap.size := by have := b4.size; omega
  go_wp2_with fail
  refine (writeByte B b (l ++ [(4 : UInt8)] ++ [(UInt8.ofNat (n / 16777216))] ++ [(UInt8.ofNat (n / 65536))] ++ [(UInt8.ofNat (n / 256))]) (UInt8.ofNat n) _ _ H4.out (by have := ofNat_int n; omega) (by simp only [List.length_append, List.length_cons, List.length_nil]; omega) hz4).mono ?_
  rintro e w5 ⟨rfl, h5, b5⟩
  have H5 := Lib.hid h5
  clear h5
  have hz5 : B ≤ w5.heap.size := by have := b5.size; omega
  go_wp2
  go_end0
  exact ⟨rfl, by rw [HN.out]; simpa only [List.append_assoc, List.cons_append, List.nil_append] using H5.out, ((((b1.trans b2).trans b3).trans b4).trans b5)⟩

set_option maxHeartbeats 400000 in
theorem writeNum5 (B b : Nat) (l : List UInt8) (n : Nat) (w : World) (h : Lib.IsBuilderF 54 5 B b (Lib.byteCells l) w) (hn : n ≤ MaxN) (hk : (nb n : Int) = 5) (hlen : l.length + 8 ≤ 140737488355328) (hBw : B ≤ w.heap.size) :
    Calls Try.prog 39 #[.pointer (some ⟨b, 0, none⟩), .int .i64 n] w fun e w' => e = .returned (.tuple #[]) ∧ Lib.IsBuilderF 54 5 B b (Lib.byteCells (l ++ numL n)) w' ∧ Below B w w' := by
  have hm : (n : Int) ≤ 9007199254740991 := by unfold MaxN at hn; omega
  have HN := Lib.hid (numL_5 n (by omega))
  have H := Lib.hid h
  clear h
  go_enter Try.func39, Try.ntmps39
  go_wp2_with fail
  refine (numBytes _ _ (by unfold MaxN; omega)).mono ?_
  rintro e w0 ⟨rfl, rfl⟩
  have hz0 : B ≤ w.heap.size := hBw
  go_wp2_with fail
  refine (writeByte B b (l) (5 : UInt8) _ _ H.out (by rfl) (by omega) hz0).mono ?_
  rintro e w1 ⟨rfl, h1, b1⟩
  have H1 := Lib.hid h1
  clear h1
  have hz1 : B ≤ w1.heap.size := by have := b1.size; omega
  go_wp2_with fail
  refine (writeByte B b (l ++ [(5 : UInt8)]) (UInt8.ofNat (n / 4294967296)) _ _ H1.out (by have := ofNat_int (n / 4294967296); omega) (by simp only [List.length_append, List.length_cons, List.length_nil]; omega) hz1).mono ?_
  rintro e w2 ⟨rfl, h2, b2⟩
  have H2 := Lib.hid h2
  clear h2
  have hz2 : B ≤ w2.heap.size := by have := b2.size; omega
  go_wp2_with fail
  refine (writeByte B b (l ++ [(5 : UInt8)] ++ [(UInt8.ofNat (n / 4294967296))]) (UInt8.ofNat (n / 16777216)) _ _ H2.out (by have := ofNat_int (n / 16777216); omega) (by simp only [List.length_append, List.length_cons, List.length_nil]; omega) hz2).mono ?_
  rintro e w3 ⟨rfl, h3, b3⟩
  have H3 := Lib.hid h3
  clear h3
  have hz3 : B ≤ w3.heap.size := by have := b3.size; omega
  go_wp2_with fail
  refine (writeByte B b (l ++ [(5 : UInt8)] ++ [(UInt8.ofNat (n / 4294967296))] ++ [(UInt8.ofNat (n / 16777216))]) (UInt8.ofNat (n / 65536)) _ _ H3.out (by have := ofNat_int (n / 65536); omega) (by simp only [List.length_append, List.length_cons, List.length_nil]; omega) hz3).mono ?_
  rintro e w4 ⟨rfl, h4, b4⟩
  have H4 := Lib.hid h4
  clear h4
  have hz4 : B ≤ w4.heap.size := by have := b4.size; omega
  go_wp2_with fail
  refine (writeByte B b (l ++ [(5 : UInt8)] ++ [(UInt8.ofNat (n / 4294967296))] ++ [(UInt8.ofNat (n / 16777216))] ++ [(UInt8.ofNat (n / 65536))]) (UInt8.ofNat (n / 256)) _ _ H4.out (by have := ofNat_int (n / 256); omega) (by simp only [List.length_append, List.length_cons, List.length_nil]; omega) hz4).mono ?_
  rintro e w5 ⟨rfl, h5, b5⟩
  have H5 := Lib.hid h5
  clear h5
  have hz5 : B ≤ w5.heap.size := by have := b5.size; omega
  go_wp2_with fail
  refine (writeByte B b (l ++ [(5 : UInt8)] ++ [(UInt8.ofNat (n / 4294967296))] ++ [(UInt8.ofNat (n / 16777216))] ++ [(UInt8.ofNat (n / 65536))] ++ [(UInt8.ofNat (n / 256))]) (UInt8.ofNat n) _ _ H5.out (by have := ofNat_int n; omega) (by simp only [List.length_append, List.length_cons, List.length_nil]; omega) hz5).mono ?_
  rintro e w6 ⟨rfl, h6, b6⟩
  have H6 := Lib.hid h6
  clear h6
  have hz6 : B ≤ w6.heap.size := by have := b6.size; omega
  go_wp2
  go_end0
  exact ⟨rfl, by rw [HN.out]; simpa only [List.append_assoc, List.cons_append, List.nil_append] using H6.out, (((((b1.trans b2).trans b3).trans b4).trans b5).trans b6)⟩

set_option maxHeartbeats 400000 in
theorem writeNum6 (B b : Nat) (l : List UInt8) (n : Nat) (w : World) (h : Lib.IsBuilderF 54 5 B b (Lib.byteCells l) w) (hn : n ≤ MaxN) (hk : (nb n : Int) = 6) (hlen : l.length + 8 ≤ 140737488355328) (hBw : B ≤ w.heap.size) :
    Calls Try.prog 39 #[.pointer (some ⟨b, 0, none⟩), .int .i64 n] w fun e w' => e = .returned (.tuple #[]) ∧ Lib.IsBuilderF 54 5 B b (Lib.byteCells (l ++ numL n)) w' ∧ Below B w w' := by
  have hm : (n : Int) ≤ 9007199254740991 := by unfold MaxN at hn; omega
  have HN := Lib.hid (numL_6 n (by omega))
  have H := Lib.hid h
  clear h
  go_enter Try.func39, Try.ntmps39
  go_wp2_with fail
  refine (numBytes _ _ (by unfold MaxN; omega)).mono ?_
  rintro e w0 ⟨rfl, rfl⟩
  have hz0 : B ≤ w.heap.size := hBw
  go_wp2_with fail
  refine (writeByte B b (l) (6 : UInt8) _ _ H.out (by rfl) (by omega) hz0).mono ?_
  rintro e w1 ⟨rfl, h1, b1⟩
  have H1 := Lib.hid h1
  clear h1
  have hz1 : B ≤ w1.heap.size := by have := b1.size; omega
  go_wp2_with fail
  refine (writeByte B b (l ++ [(6 : UInt8)]) (UInt8.ofNat (n / 1099511627776)) _ _ H1.out (by have := ofNat_int (n / 1099511627776); omega) (by simp only [List.length_append, List.length_cons, List.length_nil]; omega) hz1).mono ?_
  rintro e w2 ⟨rfl, h2, b2⟩
  have H2 := Lib.hid h2
  clear h2
  have hz2 : B ≤ w2.heap.size := by have := b2.size; omega
  go_wp2_with fail
  refine (writeByte B b (l ++ [(6 : UInt8)] ++ [(UInt8.ofNat (n / 1099511627776))]) (UInt8.ofNat (n / 4294967296)) _ _ H2.out (by have := ofNat_int (n / 4294967296); omega) (by simp only [List.length_append, List.length_cons, List.length_nil]; omega) hz2).mono ?_
  rintro e w3 ⟨rfl, h3, b3⟩
  have H3 := Lib.hid h3
  clear h3
  have hz3 : B ≤ w3.heap.size := by have := b3.size; omega
  go_wp2_with fail
  refine (writeByte B b (l ++ [(6 : UInt8)] ++ [(UInt8.ofNat (n / 1099511627776))] ++ [(UInt8.ofNat (n / 4294967296))]) (UInt8.ofNat (n / 16777216)) _ _ H3.out (by have := ofNat_int (n / 16777216); omega) (by simp only [List.length_append, List.length_cons, List.length_nil]; omega) hz3).mono ?_
  rintro e w4 ⟨rfl, h4, b4⟩
  have H4 := Lib.hid h4
  clear h4
  have hz4 : B ≤ w4.heap.size := by have := b4.size; omega
  go_wp2_with fail
  refine (writeByte B b (l ++ [(6 : UInt8)] ++ [(UInt8.ofNat (n / 1099511627776))] ++ [(UInt8.ofNat (n / 4294967296))] ++ [(UInt8.ofNat (n / 16777216))]) (UInt8.ofNat (n / 65536)) _ _ H4.out (by have := ofNat_int (n / 65536); omega) (by simp only [List.length_append, List.length_cons, List.length_nil]; omega) hz4).mono ?_
  rintro e w5 ⟨rfl, h5, b5⟩
  have H5 := Lib.hid h5
  clear h5
  have hz5 : B ≤ w5.heap.size := by have := b5.size; omega
  go_wp2_with fail
  refine (writeByte B b (l ++ [(6 : UInt8)] ++ [(UInt8.ofNat (n / 1099511627776))] ++ [(UInt8.ofNat (n / 4294967296))] ++ [(UInt8.ofNat (n / 16777216))] ++ [(UInt8.ofNat (n / 65536))]) (UInt8.ofNat (n / 256)) _ _ H5.out (by have := ofNat_int (n / 256); omega) (by simp only [List.length_append, List.length_cons, List.length_nil]; omega) hz5).mono ?_
  rintro e w6 ⟨rfl, h6, b6⟩
  have H6 := Lib.hid h6
  clear h6
  have hz6 : B ≤ w6.heap.size := by have := b6.size; omega
  go_wp2_with fail
  refine (writeByte B b (l ++ [(6 : UInt8)] ++ [(UInt8.ofNat (n / 1099511627776))] ++ [(UInt8.ofNat (n / 4294967296))] ++ [(UInt8.ofNat (n / 16777216))] ++ [(UInt8.ofNat (n / 65536))] ++ [(UInt8.ofNat (n / 256))]) (UInt8.ofNat n) _ _ H6.out (by have := ofNat_int n; omega) (by simp only [List.length_append, List.length_cons, List.length_nil]; omega) hz6).mono ?_
  rintro e w7 ⟨rfl, h7, b7⟩
  have H7 := Lib.hid h7
  clear h7
  have hz7 : B ≤ w7.heap.size := by have := b7.size; omega
  go_wp2
  go_end0
  exact ⟨rfl, by rw [HN.out]; simpa only [List.append_assoc, List.cons_append, List.nil_append] using H7.out, ((((((b1.trans b2).trans b3).trans b4).trans b5).trans b6).trans b7)⟩

set_option maxHeartbeats 400000 in
theorem writeNum7 (B b : Nat) (l : List UInt8) (n : Nat) (w : World) (h : Lib.IsBuilderF 54 5 B b (Lib.byteCells l) w) (hn : n ≤ MaxN) (hk : (nb n : Int) = 7) (hlen : l.length + 8 ≤ 140737488355328) (hBw : B ≤ w.heap.size) :
    Calls Try.prog 39 #[.pointer (some ⟨b, 0, none⟩), .int .i64 n] w fun e w' => e = .returned (.tuple #[]) ∧ Lib.IsBuilderF 54 5 B b (Lib.byteCells (l ++ numL n)) w' ∧ Below B w w' := by
  have hm : (n : Int) ≤ 9007199254740991 := by unfold MaxN at hn; omega
  have HN := Lib.hid (numL_7 n (by omega))
  have H := Lib.hid h
  clear h
  go_enter Try.func39, Try.ntmps39
  go_wp2_with fail
  refine (numBytes _ _ (by unfold MaxN; omega)).mono ?_
  rintro e w0 ⟨rfl, rfl⟩
  have hz0 : B ≤ w.heap.size := hBw
  go_wp2_with fail
  refine (writeByte B b (l) (7 : UInt8) _ _ H.out (by rfl) (by omega) hz0).mono ?_
  rintro e w1 ⟨rfl, h1, b1⟩
  have H1 := Lib.hid h1
  clear h1
  have hz1 : B ≤ w1.heap.size := by have := b1.size; omega
  go_wp2_with fail
  refine (writeByte B b (l ++ [(7 : UInt8)]) (UInt8.ofNat (n / 281474976710656)) _ _ H1.out (by have := ofNat_int (n / 281474976710656); omega) (by simp only [List.length_append, List.length_cons, List.length_nil]; omega) hz1).mono ?_
  rintro e w2 ⟨rfl, h2, b2⟩
  have H2 := Lib.hid h2
  clear h2
  have hz2 : B ≤ w2.heap.size := by have := b2.size; omega
  go_wp2_with fail
  refine (writeByte B b (l ++ [(7 : UInt8)] ++ [(UInt8.ofNat (n / 281474976710656))]) (UInt8.ofNat (n / 1099511627776)) _ _ H2.out (by have := ofNat_int (n / 1099511627776); omega) (by simp only [List.length_append, List.length_cons, List.length_nil]; omega) hz2).mono ?_
  rintro e w3 ⟨rfl, h3, b3⟩
  have H3 := Lib.hid h3
  clear h3
  have hz3 : B ≤ w3.heap.size := by have := b3.size; omega
  go_wp2_with fail
  refine (writeByte B b (l ++ [(7 : UInt8)] ++ [(UInt8.ofNat (n / 281474976710656))] ++ [(UInt8.ofNat (n / 1099511627776))]) (UInt8.ofNat (n / 4294967296)) _ _ H3.out (by have := ofNat_int (n / 4294967296); omega) (by simp only [List.length_append, List.length_cons, List.length_nil]; omega) hz3).mono ?_
  rintro e w4 ⟨rfl, h4, b4⟩
  have H4 := Lib.hid h4
  clear h4
  have hz4 : B ≤ w4.heap.size := by have := b4.size; omega
  go_wp2_with fail
  refine (writeByte B b (l ++ [(7 : UInt8)] ++ [(UInt8.ofNat (n / 281474976710656))] ++ [(UInt8.ofNat (n / 1099511627776))] ++ [(UInt8.ofNat (n / 4294967296))]) (UInt8.ofNat (n / 16777216)) _ _ H4.out (by have := ofNat_int (n / 16777216); omega) (by simp only [List.length_append, List.length_cons, List.length_nil]; omega) hz4).mono ?_
  rintro e w5 ⟨rfl, h5, b5⟩
  have H5 := Lib.hid h5
  clear h5
  have hz5 : B ≤ w5.heap.size := by have := b5.size; omega
  go_wp2_with fail
  refine (writeByte B b (l ++ [(7 : UInt8)] ++ [(UInt8.ofNat (n / 281474976710656))] ++ [(UInt8.ofNat (n / 1099511627776))] ++ [(UInt8.ofNat (n / 4294967296))] ++ [(UInt8.ofNat (n / 16777216))]) (UInt8.ofNat (n / 65536)) _ _ H5.out (by have := ofNat_int (n / 65536); omega) (by simp only [List.length_append, List.length_cons, List.length_nil]; omega) hz5).mono ?_
  rintro e w6 ⟨rfl, h6, b6⟩
  have H6 := Lib.hid h6
  clear h6
  have hz6 : B ≤ w6.heap.size := by have := b6.size; omega
  go_wp2_with fail
  refine (writeByte B b (l ++ [(7 : UInt8)] ++ [(UInt8.ofNat (n / 281474976710656))] ++ [(UInt8.ofNat (n / 1099511627776))] ++ [(UInt8.ofNat (n / 4294967296))] ++ [(UInt8.ofNat (n / 16777216))] ++ [(UInt8.ofNat (n / 65536))]) (UInt8.ofNat (n / 256)) _ _ H6.out (by have := ofNat_int (n / 256); omega) (by simp only [List.length_append, List.length_cons, List.length_nil]; omega) hz6).mono ?_
  rintro e w7 ⟨rfl, h7, b7⟩
  have H7 := Lib.hid h7
  clear h7
  have hz7 : B ≤ w7.heap.size := by have := b7.size; omega
  go_wp2_with fail
  refine (writeByte B b (l ++ [(7 : UInt8)] ++ [(UInt8.ofNat (n / 281474976710656))] ++ [(UInt8.ofNat (n / 1099511627776))] ++ [(UInt8.ofNat (n / 4294967296))] ++ [(UInt8.ofNat (n / 16777216))] ++ [(UInt8.ofNat (n / 65536))] ++ [(UInt8.ofNat (n / 256))]) (UInt8.ofNat n) _ _ H7.out (by have := ofNat_int n; omega) (by simp only [List.length_append, List.length_cons, List.length_nil]; omega) hz7).mono ?_
  rintro e w8 ⟨rfl, h8, b8⟩
  have H8 := Lib.hid h8
  clear h8
  have hz8 : B ≤ w8.heap.size := by have := b8.size; omega
  go_wp2
  go_end0
  exact ⟨rfl, by rw [HN.out]; simpa only [List.append_assoc, List.cons_append, List.nil_append] using H8.out, (((((((b1.trans b2).trans b3).trans b4).trans b5).trans b6).trans b7).trans b8)⟩

/-- The bytes of a number go into the builder. -/
theorem writeNum (B b : Nat) (l : List UInt8) (n : Nat) (w : World) (h : Lib.IsBuilderF 54 5 B b (Lib.byteCells l) w) (hn : n ≤ MaxN) (hlen : l.length + 8 ≤ 140737488355328) (hBw : B ≤ w.heap.size) :
    Calls Try.prog 39 #[.pointer (some ⟨b, 0, none⟩), .int .i64 n] w fun e w' => e = .returned (.tuple #[]) ∧ Lib.IsBuilderF 54 5 B b (Lib.byteCells (l ++ numL n)) w' ∧ Below B w w' := by
  have h7 := nb_le n
  have hc : nb n = 0 ∨ nb n = 1 ∨ nb n = 2 ∨ nb n = 3 ∨ nb n = 4 ∨ nb n = 5 ∨ nb n = 6 ∨ nb n = 7 := by omega
  rcases hc with e | e | e | e | e | e | e | e
  · exact writeNum0 B b l n w h hn (by omega) hlen hBw
  · exact writeNum1 B b l n w h hn (by omega) hlen hBw
  · exact writeNum2 B b l n w h hn (by omega) hlen hBw
  · exact writeNum3 B b l n w h hn (by omega) hlen hBw
  · exact writeNum4 B b l n w h hn (by omega) hlen hBw
  · exact writeNum5 B b l n w h hn (by omega) hlen hBw
  · exact writeNum6 B b l n w h hn (by omega) hlen hBw
  · exact writeNum7 B b l n w h hn (by omega) hlen hBw

end Go.Proofs.Ytgjblcjoglaldaa
