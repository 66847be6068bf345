/- pack.Num: what it returns. -/
import Derived.Test.YtgjblcjoglaldaaWriN
namespace Go.Proofs.Ytgjblcjoglaldaa
open Go.RowKit Go.Proofs Go.Proofs.Pk
set_option maxRecDepth 10000
attribute [local simp] mk_get wrap64_u8 mk_extract ByteArray.mk_append_mk get_1k

theorem errV_succ (c : Nat) : errV 49 (c + 1) = .iface 49 (.int .i64 ((c : Int) + 1)) := by simp [errV]

theorem errV_zero : errV 49 0 = .nilIface := rfl

theorem fresh (w : World) : Lib.IsBuilderF 54 5 w.heap.size w.heap.size (Lib.byteCells []) (w.alloc (.cells #[.pointer none, .slice none 0 0] 54)) :=
  Lib.IsBuilderF.of (Lib.fresh_isBuilder 54 5 w)

set_option maxHeartbeats 400000 in
theorem pNum_neg (n : Int) (w : World) (hn : n < 0) :
    Calls Try.prog 26 #[.int .i64 n] w (R2 w (.string ⟨#[]⟩) (errV 49 1)) := by
  go_enter Try.func26, Try.ntmps26
  go_wp2
  go_ret2
  exact R2.mk rfl rfl (Below.refl _ _)

set_option maxHeartbeats 400000 in
theorem pNum_big (n : Int) (w : World) (hn : 9007199254740991 < n) :
    Calls Try.prog 26 #[.int .i64 n] w (R2 w (.string ⟨#[]⟩) (errV 49 1)) := by
  go_enter Try.func26, Try.ntmps26
  go_wp2
  go_ret2
  exact R2.mk rfl rfl (Below.refl _ _)

set_option maxHeartbeats 400000 in
theorem pNum_ok (n : Nat) (w : World) (hn : n ≤ MaxN) :
    Calls Try.prog 26 #[.int .i64 n] w (R2 w (.string ⟨(numL n).toArray⟩) (errV 49 0)) := by
  have hm : (n : Int) ≤ 9007199254740991 := by unfold MaxN at hn; omega
  have H0 := Lib.hid (fresh w)
  have hz : w.heap.size ≤ (w.alloc (.cells #[.pointer none, .slice none 0 0] 54)).heap.size := by simp
  go_enter Try.func26, Try.ntmps26
  go_wp2_with fail
  refine (writeNum w.heap.size w.heap.size [] n _ H0.out (by unfold MaxN; omega) (by simp) (by simp)).mono ?_
  rintro e w1 ⟨rfl, h1, b1⟩
  have H1 := Lib.hid h1
  clear h1
  have hz1 : w.heap.size ≤ w1.heap.size := by have := b1.size; simp at this; omega
  go_wp2_with fail
  refine (Try.Builder_String_any_k w.heap.size w.heap.size _ _ H1.out hz1).mono ?_
  rintro e w2 ⟨rfl, h2, b2, _⟩
  clear h2
  go_wp2
  go_ret2
  exact R2.mk (by simp) rfl ((((Below.refl _ _).alloc (Nat.le_refl _) _).trans b1).trans b2)

theorem pNum (n : Int) (w : World) : Calls Try.prog 26 #[.int .i64 n] w (R2 w (.string ⟨(encN n).1.toArray⟩) (errV 49 (encN n).2)) := by
  unfold encN
  by_cases h : 0 ≤ n ∧ n ≤ 9007199254740991
  · rw [if_pos h]
    obtain ⟨k, rfl⟩ := Int.eq_ofNat_of_zero_le h.1
    rw [Int.toNat_natCast]
    exact pNum_ok k w (by unfold MaxN; omega)
  · rw [if_neg h]
    by_cases h0 : n < 0
    · exact pNum_neg n w h0
    · exact pNum_big n w (by omega)

end Go.Proofs.Ytgjblcjoglaldaa
