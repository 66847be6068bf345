/- The reference of layer 14, as layer 16 asks it: is one table right? -/
import Derived.Test.YtgcepbpdicadnaaMe16
namespace Go.Proofs.Ytgcepbpdicadnaa
open Go.RowKit Go.Proofs Go.Proofs.Pk
set_option maxRecDepth 10000
attribute [local simp] mk_get wrap64_u8 mk_extract ByteArray.mk_append_mk get_1k

set_option maxHeartbeats 4000000 in
theorem rMeta16 (m : MetaV) (w : World) : Calls Try.prog 44 #[.agg (metaC m).toArray] w fun r w' => r = .returned (.bool (metaOk m)) ∧ Kept (fun _ => False) w w' := by
  obtain ⟨a, c, x, y, d⟩ := m
  show Calls Try.prog 44 #[.agg #[.int .i64 a, .int .i64 c, .string ⟨x.toArray⟩, .string ⟨y.toArray⟩, .int .i64 d]] w _
  have HK : Hid (Kept (fun _ => False) w (w.alloc (.cells #[.int .i64 a, .int .i64 c, .string ⟨x.toArray⟩, .string ⟨y.toArray⟩, .int .i64 d] 49))) := (Kept.refl _ w).alloc _
  have hno : ¬(1 ≤ a ∧ a ≤ 9007199254740991 ∧ 0 ≤ c ∧ c < 4 ∧ x ≠ [] ∧ x.length ≤ 80 ∧ y ≠ [] ∧ y.length ≤ 80 ∧ ¬y < x ∧ 1 ≤ d ∧ d ≤ 1048576) → Hid (metaOk (a, c, x, y, d) = false) := fun h => decide_eq_false h
  have hyes : (1 ≤ a ∧ a ≤ 9007199254740991 ∧ 0 ≤ c ∧ c < 4 ∧ x ≠ [] ∧ x.length ≤ 80 ∧ y ≠ [] ∧ y.length ≤ 80 ∧ ¬y < x ∧ 1 ≤ d ∧ d ≤ 1048576) → Hid (metaOk (a, c, x, y, d) = true) := fun h => decide_eq_true h
  generalize metaOk (a, c, x, y, d) = r at hno hyes ⊢
  have HNO := Lib.hid hno
  have HYES := Lib.hid hyes
  clear hno hyes
  by_cases h0 : 1 ≤ a
  case neg =>
    have HV := HNO.out (fun h => h0 h.1)
    have f0 : decide (1 ≤ a) = false := decide_eq_false h0
    clear HNO HYES h0
    go_enter Try.func44, Try.ntmps44
    go_wp2
    go_ret
    exact ⟨by rw [HV.out]; rfl, HK.out⟩
  have f0 : decide (1 ≤ a) = true := decide_eq_true h0
  by_cases h1 : a ≤ 9007199254740991
  case neg =>
    have HV := HNO.out (fun h => h1 h.2.1)
    have f1 : decide (a ≤ 9007199254740991) = false := decide_eq_false h1
    clear HNO HYES h1
    go_enter Try.func44, Try.ntmps44
    go_wp2
    go_ret
    exact ⟨by rw [HV.out]; rfl, HK.out⟩
  have f1 : decide (a ≤ 9007199254740991) = true := decide_eq_true h1
  by_cases h2 : 0 ≤ c
  case neg =>
    have HV := HNO.out (fun h => h2 h.2.2.1)
    have f2 : decide (0 ≤ c) = false := decide_eq_false h2
    clear HNO HYES h2
    go_enter Try.func44, Try.ntmps44
    go_wp2
    go_ret
    exact ⟨by rw [HV.out]; rfl, HK.out⟩
  have f2 : decide (0 ≤ c) = true := decide_eq_true h2
  by_cases h3 : c < 4
  case neg =>
    have HV := HNO.out (fun h => h3 h.2.2.2.1)
    have f3 : decide (c < 4) = false := decide_eq_false h3
    clear HNO HYES h3
    go_enter Try.func44, Try.ntmps44
    go_wp2
    go_ret
    exact ⟨by rw [HV.out]; rfl, HK.out⟩
  have f3 : decide (c < 4) = true := decide_eq_true h3
  by_cases h4 : x ≠ []
  case neg =>
    have HV := HNO.out (fun h => h4 h.2.2.2.2.1)
    have f4 : (x == []) = true := by simpa using h4
    clear HNO HYES h4
    go_enter Try.func44, Try.ntmps44
    go_wp2
    go_ret
    exact ⟨by rw [HV.out]; rfl, HK.out⟩
  have f4 : (x == []) = false := by simpa using h4
  by_cases h5 : x.length ≤ 80
  case neg =>
    have HV := HNO.out (fun h => h5 h.2.2.2.2.2.1)
    have f5 : decide ((x.length : Int) ≤ 80) = false := decide_eq_false (by omega)
    clear HNO HYES h5
    go_enter Try.func44, Try.ntmps44
    go_wp2
    go_ret
    exact ⟨by rw [HV.out]; rfl, HK.out⟩
  have f5 : decide ((x.length : Int) ≤ 80) = true := decide_eq_true (by omega)
  by_cases h6 : y ≠ []
  case neg =>
    have HV := HNO.out (fun h => h6 h.2.2.2.2.2.2.1)
    have f6 : (y == []) = true := by simpa using h6
    clear HNO HYES h6
    go_enter Try.func44, Try.ntmps44
    go_wp2
    go_ret
    exact ⟨by rw [HV.out]; rfl, HK.out⟩
  have f6 : (y == []) = false := by simpa using h6
  by_cases h7 : y.length ≤ 80
  case neg =>
    have HV := HNO.out (fun h => h7 h.2.2.2.2.2.2.2.1)
    have f7 : decide ((y.length : Int) ≤ 80) = false := decide_eq_false (by omega)
    clear HNO HYES h7
    go_enter Try.func44, Try.ntmps44
    go_wp2
    go_ret
    exact ⟨by rw [HV.out]; rfl, HK.out⟩
  have f7 : decide ((y.length : Int) ≤ 80) = true := decide_eq_true (by omega)
  by_cases h8 : ¬y < x
  case neg =>
    have HV := HNO.out (fun h => h8 h.2.2.2.2.2.2.2.2.1)
    have f8 : (Op.bytesLess x y || x == y) = false := by rw [leq16]; exact decide_eq_false h8
    clear HNO HYES h8
    go_enter Try.func44, Try.ntmps44
    go_wp2
    go_ret
    exact ⟨by rw [HV.out]; rfl, HK.out⟩
  have f8 : (Op.bytesLess x y || x == y) = true := by rw [leq16]; exact decide_eq_true h8
  by_cases h9 : 1 ≤ d
  case neg =>
    have HV := HNO.out (fun h => h9 h.2.2.2.2.2.2.2.2.2.1)
    have f9 : decide (1 ≤ d) = false := decide_eq_false h9
    clear HNO HYES h9
    go_enter Try.func44, Try.ntmps44
    go_wp2
    go_ret
    exact ⟨by rw [HV.out]; rfl, HK.out⟩
  have f9 : decide (1 ≤ d) = true := decide_eq_true h9
  by_cases h10 : d ≤ 1048576
  case neg =>
    have HV := HNO.out (fun h => h10 h.2.2.2.2.2.2.2.2.2.2)
    have f10 : decide (d ≤ 1048576) = false := decide_eq_false h10
    clear HNO HYES h10
    go_enter Try.func44, Try.ntmps44
    go_wp2
    go_ret
    exact ⟨by rw [HV.out]; rfl, HK.out⟩
  have f10 : decide (d ≤ 1048576) = true := decide_eq_true h10
  have HV := HYES.out ⟨h0, h1, h2, h3, h4, h5, h6, h7, h8, h9, h10⟩
  clear HNO HYES
  clear h4 h6 h8
  go_enter Try.func44, Try.ntmps44
  go_wp2
  go_ret
  exact ⟨by rw [HV.out]; rfl, HK.out⟩

end Go.Proofs.Ytgcepbpdicadnaa
