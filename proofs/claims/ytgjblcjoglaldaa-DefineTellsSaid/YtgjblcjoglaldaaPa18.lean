/- Layer 18's landed program: within, rightByte, Name. -/
import Derived.Test.YtgjblcjoglaldaaDfX
import Derived.Test.YtgjblcjoglaldaaDfP
import Derived.Sort.Walk0
import Derived.BigQuiet
import Derived.Deep.CutRange
namespace Go.Proofs.Ytgjblcjoglaldaa
open Go.RowKit Go.Proofs Go.Proofs.Pk
set_option maxRecDepth 10000
attribute [local simp] mk_get wrap64_u8 mk_extract ByteArray.mk_append_mk get_1k

set_option maxHeartbeats 2000000 in
theorem within18 (n a b : Int) (w : World) : Calls Try.prog 21 #[.int .i64 n, .int .i64 a, .int .i64 b] w fun e w' => e = .returned (.bool (decide (a ≤ n ∧ n ≤ b))) ∧ w' = w := by
  obtain ⟨r, hr⟩ : ∃ r, Hid (r = decide (a ≤ n ∧ n ≤ b)) := ⟨_, rfl⟩
  rw [← hr.out]
  by_cases c1 : a ≤ n
  · by_cases c2 : n ≤ b
    · obtain rfl : r = true := by rw [hr.out]; simp [c1, c2]
      go_enter Try.func21, Try.ntmps21
      go_wp2
      go_ret
      exact ⟨rfl, rfl⟩
    · obtain rfl : r = false := by rw [hr.out]; simp [c2]
      have d2 : decide (n ≤ b) = false := decide_eq_false c2
      go_enter Try.func21, Try.ntmps21
      go_wp2
      go_ret
      exact ⟨rfl, rfl⟩
  · obtain rfl : r = false := by rw [hr.out]; simp [c1]
    have d1 : decide (a ≤ n) = false := decide_eq_false c1
    go_enter Try.func21, Try.ntmps21
    go_wp2
    go_ret
    exact ⟨rfl, rfl⟩

set_option maxHeartbeats 4000000 in
theorem byte18 (b : UInt8) (w : World) : Calls Try.prog 22 #[.int .u8 (b.toNat : Int)] w fun e w' => e = .returned (.bool (okB b)) ∧ w' = w := by
  obtain ⟨z, hz⟩ : ∃ z : Int, z = (b.toNat : Int) := ⟨_, rfl⟩
  obtain ⟨o, ho⟩ : ∃ o, Hid (o = okB b) := ⟨_, rfl⟩
  have hoz : Hid (o = !((decide (z < 97) || decide (122 < z)) && (decide (z < 48) || decide (57 < z)) && (z != 45))) := by show o = _; rw [ho.out, ok_ints, hz]
  rw [← hz, ← ho.out]
  clear hz ho
  by_cases c1 : 97 ≤ z
  · by_cases c2 : z ≤ 122
    · obtain rfl : o = true := by rw [hoz.out]; simp [show ¬z < 97 by omega, show ¬122 < z by omega]
      go_enter Try.func22, Try.ntmps22
      go_wp2
      go_ret
      exact ⟨rfl, rfl⟩
    · obtain rfl : o = false := by rw [hoz.out]; simp [show 122 < z by omega, show 57 < z by omega]; omega
      have d2 : decide (z ≤ 122) = false := decide_eq_false c2
      have d3 : (48 : Int) ≤ z := by omega
      have d4 : ¬z ≤ 57 := by omega
      have d5 : decide (z ≤ 57) = false := decide_eq_false d4
      have d6 : (z == 45) = false := by simp; omega
      go_enter Try.func22, Try.ntmps22
      go_wp2
      go_ret
      exact ⟨rfl, rfl⟩
  · have d1 : decide (97 ≤ z) = false := decide_eq_false c1
    by_cases c3 : 48 ≤ z
    · by_cases c4 : z ≤ 57
      · obtain rfl : o = true := by rw [hoz.out]; simp [show ¬z < 48 by omega, show ¬57 < z by omega]
        go_enter Try.func22, Try.ntmps22
        go_wp2
        go_ret
        exact ⟨rfl, rfl⟩
      · obtain rfl : o = false := by rw [hoz.out]; simp [show z < 97 by omega, show 57 < z by omega]; omega
        have d5 : decide (z ≤ 57) = false := decide_eq_false c4
        have d6 : (z == 45) = false := by simp; omega
        go_enter Try.func22, Try.ntmps22
        go_wp2
        go_ret
        exact ⟨rfl, rfl⟩
    · have d3 : decide (48 ≤ z) = false := decide_eq_false c3
      obtain ⟨q, hq⟩ : ∃ q, Hid (q = (z == 45)) := ⟨_, rfl⟩
      have hoq : o = q := by rw [hoz.out, hq.out]; simp [show z < 97 by omega, show z < 48 by omega, bne]
      subst hoq
      have d6 : (z == 45) = o := hq.out.symm
      go_enter Try.func22, Try.ntmps22
      go_wp2
      go_ret
      exact ⟨rfl, rfl⟩

set_option maxHeartbeats 8000000 in
theorem pName18 (s : DTxt) (w : World) (hl : (s.length : Int) ≤ 140737488351232) :
    Calls Try.prog 9 #[.string ⟨s.toArray⟩] w fun e w' => e = .returned (.bool (nameD s)) ∧ Kept (fun _ => False) w w' := by
  obtain ⟨r, hr⟩ : ∃ r, Hid (r = nameD s) := ⟨_, rfl⟩
  rw [← hr.out]
  have HK0 : Hid (Kept (fun _ => False) w w ∧ ∀ b ∈ s.take 0, okB b = true) := ⟨Kept.refl _ _, by simp⟩
  obtain ⟨q, hq⟩ : ∃ q, Hid (q = decide ((1 : Int) ≤ (s.length : Int) ∧ (s.length : Int) ≤ 20)) := ⟨_, rfl⟩
  have hqr : Hid (r = (s.all okB && q)) := by
    show r = _
    rw [hr.out, hq.out]
    unfold nameD
    congr 1
    rw [Bool.eq_iff_iff, decide_eq_true_eq, decide_eq_true_eq]
    omega
  have HW := Lib.hid (within18 (s.length : Int) 1 20)
  go_enter Try.func9, Try.ntmps9
  go_wp2_with fail
  refine (HW.out _).mono ?_
  rintro e w1 ⟨rfl, hww⟩
  subst hww
  rw [← hq.out]
  clear HW hq hr
  cases q with
  | false =>
    obtain rfl : r = false := by rw [hqr.out]; simp
    go_wp2
    go_ret
    exact ⟨rfl, HK0.out.1⟩
  | true =>
    have hrs : Hid (r = s.all okB) := by show r = _; rw [hqr.out]; simp
    clear hqr
    go_wp2
    obtain ⟨wq, hwq⟩ : ∃ wq, wq = w1 := ⟨_, rfl⟩
    rw [← hwq]
    rw [← hwq] at HK0
    have HWQ := Lib.hid hwq
    clear hwq
    go_loopw [10] (fun i wr => ∃ x : Nat, x ≤ s.length ∧ i = .int .i64 (x : Int) ∧ Hid (Kept (fun _ => False) wq wr ∧ ∀ b ∈ s.take x, okB b = true)) (fun i _ => s.length - (intOf i).toNat)
    case atStart => exact ⟨0, Nat.zero_le _, rfl, HK0⟩
    case round =>
      clear HK0
      obtain ⟨x, hx, rfl, hC⟩ := hrel
      have x0 : (0 : Int) ≤ (x : Int) := by omega
      by_cases hlt : x < s.length
      case neg =>
        have xN : ¬(x : Int) < (s.length : Int) := by omega
        obtain rfl : r = true := by
          have h1 := hC.out.2
          rw [List.take_of_length_le (by omega)] at h1
          rw [hrs.out]; exact List.all_eq_true.2 h1
        have HK := Lib.hid hC.out.1
        clear hC hrs
        go_wp2
        go_ret
        exact ⟨rfl, by rw [← HWQ.out]; exact HK.out⟩
      have xN : (x : Int) < (s.length : Int) := by omega
      have hwx : IntKind.i64.wrap ((x : Int) + 1) = (x : Int) + 1 := IntWalk.i64_in _ (by omega)
      obtain ⟨b, hb⟩ : ∃ b, Hid (b = s[x]) := ⟨s[x], rfl⟩
      have HT : Hid (s.take (x + 1) = s.take x ++ [b]) := by show _ = _; rw [hb.out]; exact List.take_succ_eq_append_getElem hlt
      have HB := Lib.hid (byte18 b)
      go_wp2_with (go_at_call 22; fail)
      first | rw [← hb.out] | skip
      refine (HB.out _).mono ?_
      rintro e wb ⟨rfl, hwb⟩
      subst hwb
      clear HB
      obtain ⟨o, ho⟩ : ∃ o, Hid (o = okB b) := ⟨_, rfl⟩
      rw [← ho.out]
      cases o with
      | false =>
        obtain rfl : r = false := by
          rw [hrs.out]
          exact List.all_eq_false.2 ⟨b, by rw [hb.out]; exact List.getElem_mem hlt, by rw [← ho.out]; simp⟩
        have HK := Lib.hid hC.out.1
        clear hC HT hrs ho hb
        go_wp2
        go_ret
        exact ⟨rfl, by rw [← HWQ.out]; exact HK.out⟩
      | true =>
        have HN : Hid (Kept (fun _ => False) wq wb ∧ ∀ b ∈ s.take (x + 1), okB b = true) := by
          refine ⟨hC.out.1, fun c hc => ?_⟩
          rw [HT.out] at hc
          rcases List.mem_append.1 hc with hc | hc
          · exact hC.out.2 c hc
          · rw [List.mem_singleton.1 hc]; exact ho.out.symm
        clear hC HT ho hb
        go_wp2
        go_roundw
        case rel => exact ⟨x + 1, hlt, by first | rfl | go_num, HN⟩
        case measure => simp [intOf]; omega

end Go.Proofs.Ytgjblcjoglaldaa
