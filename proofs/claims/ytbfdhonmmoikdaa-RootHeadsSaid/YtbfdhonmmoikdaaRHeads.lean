/- RootHeads walked: heads are written and read as the chapter says. -/
import Derived.Test.YtbfdhonmmoikdaaEx6
import Derived.BigQuiet
namespace Go.Proofs.Ytbfdhonmmoikdaa
open Go.RowKit Go.Proofs Go.Proofs.Pk
set_option maxRecDepth 10000
attribute [local simp] mk_get wrap64_u8 mk_extract ByteArray.mk_append_mk get_1k

theorem headV_cases (seq size : Int) : (∃ s z : Nat, seq = (s : Int) ∧ size = (z : Int) ∧ 1 ≤ s ∧ s ≤ MaxN ∧ z ≤ 512 ∧ headV seq size = (headB s z, 0)) ∨ ((seq < 1 ∨ 9007199254740991 < seq ∨ size < 0 ∨ 512 < size) ∧ headV seq size = ([], 1)) := by
  unfold headV
  by_cases h : 1 ≤ seq ∧ seq ≤ 9007199254740991 ∧ 0 ≤ size ∧ size ≤ 512
  · rw [if_pos h]
    exact .inl ⟨seq.toNat, size.toNat, by omega, by omega, by omega, by unfold MaxN; omega, by omega, rfl⟩
  · rw [if_neg h]; exact .inr ⟨by omega, rfl⟩
theorem r6HeadV (seq size : Int) (w : World) : Calls Try.prog 19 #[.int .i64 seq, .int .i64 size] w (R2 w (.string ⟨(headV seq size).1.toArray⟩) (.bool ((headV seq size).2 == 0))) := by
  rcases headV_cases seq size with ⟨s, z, e1, e2, h1, h2, h3, hv⟩ | ⟨h, hv⟩
  · rw [hv]; exact (r6Head seq size w).2 s z e1 e2 h1 h2 h3
  · rw [hv]; exact (r6Head seq size w).1 h
theorem is11 (w : World) : Calls Try.prog 15 #[.iface 54 (.int .i64 1), .int .i64 1] w fun e w' => e = .returned (.bool true) ∧ w = w' := is_any 1 1 w

set_option maxHeartbeats 1000000 in
theorem sHeads (seq size : Int) (b : List UInt8) (W : World) (_h1 : -9223372036854775808 ≤ seq ∧ seq ≤ 9223372036854775807) (_h2 : -9223372036854775808 ≤ size ∧ size ≤ 9223372036854775807) (hb : (b.length : Int) ≤ 140737488351232) :
    Calls Try.prog 4 #[.int .i64 seq, .int .i64 size, .string ⟨b.toArray⟩] W fun e w' => e = .returned (.bool true) ∧ Below W.heap.size W w' := by
  have HX := Lib.hid (examples_any W)
  have HPH := Lib.hid (fun w => pHead seq size w)
  have HRH := Lib.hid (fun w => r6HeadV seq size w)
  have HPR := Lib.hid (fun w => pReadHead b w hb)
  have HRR := Lib.hid (fun w => r6ReadHead b w hb)
  have hhv : (headV seq size).2 = 0 ∨ (headV seq size).2 = 1 := by
    rcases headV_cases seq size with ⟨s, z, e1, e2, h1, h2, h3, hv⟩ | ⟨h, hv⟩ <;> rw [hv]
    · exact .inl rfl
    · exact .inr rfl
  have HIS := Lib.hid (fun w => is_any (rdHead b).2.2 (rdHead b).2.2 w)
  generalize (rdHead b).2.2 = c at HPR HRR HIS
  generalize (rdHead b).2.1 = z at HPR HRR
  generalize (rdHead b).1 = s at HPR HRR
  generalize (headV seq size).2 = v at HPH HRH hhv
  generalize (headV seq size).1 = A at HPH HRH
  clear _h1 _h2 hb
  have hcc : (c == c) = true := beq_self_eq_true c
  rw [hcc] at HIS
  clear hcc
  rcases hhv with rfl | rfl
  all_goals
    go_enter Try.func4, Try.ntmps4
    go_wp2_with fail
    refine HX.out.mono ?_
    rintro e w1 ⟨rfl, hb1⟩
    go_wp2_with fail
    refine (HPH.out w1).mono ?_
    rintro e w2 ⟨rfl, hb2⟩
    go_wp2_with fail
    refine (HRH.out w2).mono ?_
    rintro e w3 ⟨rfl, hb3⟩
    go_wp2_with fail
    refine (HPR.out w3).mono ?_
    rintro e w4 ⟨rfl, hb4⟩
    go_wp2_with fail
    refine (HRR.out w4).mono ?_
    rintro e w5 ⟨rfl, hb5⟩
    go_wp2_with fail
    refine (HIS.out w5).mono ?_
    rintro e w6 ⟨rfl, rfl⟩
    have HB5 : Hid (Below W.heap.size W w5) := by
      have q2 := hb1.trans (hb2.mono hb1.size)
      have q3 := q2.trans (hb3.mono q2.size)
      have q4 := q3.trans (hb4.mono q3.size)
      exact q4.trans (hb5.mono q4.size)
    clear hb1 hb2 hb3 hb4 hb5 HX HPH HRH HPR HRR HIS
    simp only [show errV 54 1 = .iface 54 (.int .i64 1) from rfl, show errV 54 0 = .nilIface from rfl, show ((1 : Nat) == 0) = false from rfl, show ((0 : Nat) == 0) = true from rfl]
    go_wp2_with fail
    first
      | (refine (is11 w5).mono ?_; rintro e w6 ⟨rfl, rfl⟩; go_wp2)
      | skip
    go_ret
    exact ⟨rfl, HB5.out⟩

end Go.Proofs.Ytbfdhonmmoikdaa
