/- Package block: number, text, shared. -/
import Derived.Test.YtbiifeahdinjjaaGen
import Derived.Test.YtbiifeahdinjjaaMid
import Derived.Test.YtbiifeahdinjjaaBkM
import Derived.Test.YtbiifeahdinjjaaPackT
import Derived.Test.YtbiifeahdinjjaaR2a
import Derived.Test.YtbiifeahdinjjaaBkN
import Derived.BigQuiet
namespace Go.Proofs.Ytbiifeahdinjjaa
open Go.RowKit Go.Proofs Go.Proofs.Pk
set_option maxRecDepth 10000
attribute [local simp] mk_get wrap64_u8 mk_extract ByteArray.mk_append_mk get_1k

theorem pNum12 (n : Nat) (w : World) (hn : n ≤ MaxN) : Calls Try.prog 21 #[.int .i64 (n : Int)] w fun e w' => e = .returned (.string ⟨(numL n).toArray⟩) ∧ Kept (fun _ => False) w w' := by
  have H := Lib.hid (pNum_ok n w hn)
  go_enter Try.func21, Try.ntmps21
  go_wp2_with fail
  refine H.out.mono ?_
  rintro e wx ⟨rfl, hb⟩
  have HB := Lib.hid hb
  clear hb H
  go_wp2
  go_ret
  exact ⟨rfl, Kept.of_below _ HB.out⟩
theorem pTxt12 (s : Txt) (w : World) (hs : (s.length : Int) ≤ 1048576) : Calls Try.prog 23 #[.string ⟨s.toArray⟩] w fun e w' => e = .returned (.string ⟨(txtL s).toArray⟩) ∧ Kept (fun _ => False) w w' := by
  have H := Lib.hid (pText_ok s w hs)
  go_enter Try.func23, Try.ntmps23
  go_wp2_with fail
  refine H.out.mono ?_
  rintro e wx ⟨rfl, hb⟩
  have HB := Lib.hid hb
  clear hb H
  go_wp2
  go_ret
  exact ⟨rfl, Kept.of_below _ HB.out⟩

set_option maxHeartbeats 4000000 in
theorem pShared (i : Nat) (a b : Txt) (w : World) (hi : (i : Int) ≤ 1000) (ha : (a.length : Int) ≤ 140737488351232) (hb : (b.length : Int) ≤ 140737488351232) :
    Calls Try.prog 22 #[.int .i64 (i : Int), .string ⟨a.toArray⟩, .string ⟨b.toArray⟩] w fun e w' => e = .returned (.int .i64 (shareB a i b : Int)) ∧ Kept (fun _ => False) w w' := by
  by_cases hm : i % 4 = 0
  · have hmod : ((i : Int).tmod 4 == 0) = true := by rw [beq_iff_eq, Int.tmod_eq_emod_of_nonneg (by omega)]; omega
    have hz : Hid (shareB a i b = 0) := share_zero hm
    go_enter Try.func22, Try.ntmps22
    go_wp2
    go_ret
    exact ⟨by rw [hz.out]; rfl, Kept.refl _ _⟩
  have hmod : ((i : Int).tmod 4 == 0) = false := by rw [beq_eq_false_iff_ne, Int.tmod_eq_emod_of_nonneg (by omega)]; omega
  have hz : Hid (shareB a i b = lcpL a b) := by show _ = _; unfold shareB; rw [if_neg hm]
  obtain ⟨n, hn⟩ : ∃ n : Nat, Hid (n = min a.length b.length) := ⟨_, rfl⟩
  have n0 : (0 : Int) ≤ (n : Int) := by omega
  have HI : Hid (a.take 0 = b.take 0 ∧ 0 ≤ n ∧ Kept (fun _ => False) w w) := ⟨by simp, Nat.zero_le _, Kept.refl _ _⟩
  obtain ⟨w0, hw0⟩ : ∃ w0, w0 = w := ⟨_, rfl⟩
  rw [← hw0]
  rw [← hw0] at HI
  clear hw0
  go_enter Try.func22, Try.ntmps22
  go_wp2
  go_loopw [7] (fun i wr => ∃ j : Nat, i = .int .i64 (j : Int) ∧ Hid (a.take j = b.take j ∧ j ≤ n ∧ Kept (fun _ => False) w0 wr)) (fun i _ => n - (intOf i).toNat)
  case atStart => exact ⟨0, rfl, HI⟩
  case round =>
    obtain ⟨j, rfl, hI⟩ := hrel
    clear HI
    have j0 : (0 : Int) ≤ (j : Int) := by omega
    have hjn := hI.out.2.1
    have hla : n ≤ a.length ∧ n ≤ b.length := by rw [hn.out]; omega
    have hfin : lcpL a b = j → Hid (shareB a i b = j) := fun h => by show _ = _; rw [hz.out, h]
    have hK := Lib.hid (fun k => hI.out.2.2.drewN k)
    by_cases h1 : j < a.length
    case neg =>
      have jn : ¬(j : Int) < (a.length : Int) := by omega
      have dA : decide ((j : Int) < (a.length : Int)) = false := decide_eq_false jn
      have HV := hfin (lcp_end hI.out.1 (by omega) (by omega) (by have := hn.out; omega))
      clear hI hfin hla
      go_wp2_with fail
      go_quiet (fail)
      go_wp2
      go_ret
      exact ⟨by rw [HV.out]; rfl, hK.out _⟩
    have jA : (j : Int) < (a.length : Int) := by omega
    have dA : decide ((j : Int) < (a.length : Int)) = true := decide_eq_true jA
    by_cases h2 : j < b.length
    case neg =>
      have jn : ¬(j : Int) < (b.length : Int) := by omega
      have dB : decide ((j : Int) < (b.length : Int)) = false := decide_eq_false jn
      have HV := hfin (lcp_end hI.out.1 (by omega) (by omega) (by have := hn.out; omega))
      clear hI hfin hla
      go_wp2_with fail
      go_quiet (fail)
      go_wp2
      go_ret
      exact ⟨by rw [HV.out]; rfl, hK.out _⟩
    have jB : (j : Int) < (b.length : Int) := by omega
    have dB : decide ((j : Int) < (b.length : Int)) = true := decide_eq_true jB
    have hwj : IntKind.i64.wrap ((j : Int) + 1) = (j : Int) + 1 := IntWalk.i64_in _ (by omega)
    obtain ⟨c, hc⟩ : ∃ c, a[j] = c := ⟨_, rfl⟩
    obtain ⟨d, hd⟩ : ∃ d, b[j] = d := ⟨_, rfl⟩
    clear hla
    by_cases h3 : c = d
    · have HN : Hid (a.take (j + 1) = b.take (j + 1) ∧ j + 1 ≤ n) := ⟨take_more hI.out.1 h1 h2 (by rw [hc, hd, h3]), by have := hn.out; omega⟩
      have hq : ((c.toNat : Int) == (d.toNat : Int)) = true := by rw [h3]; simp
      clear hI h3 hfin
      go_wp2_with fail
      go_quiet (fail)
      go_wp2
      go_roundw
      case rel => exact ⟨j + 1, by first | rfl | go_num, HN.out.1, HN.out.2, hK.out _⟩
      case measure => simp [intOf]; have := HN.out.2; omega
    · have HV := hfin (lcp_end hI.out.1 (by omega) (by omega) (.inr (.inr ⟨h1, h2, by rw [hc, hd]; exact h3⟩)))
      have hq : ((c.toNat : Int) == (d.toNat : Int)) = false := by
        rw [beq_eq_false_iff_ne]
        intro e
        exact h3 (UInt8.toNat_inj.1 (by omega))
      clear hI hfin
      go_wp2_with fail
      go_quiet (fail)
      go_wp2
      go_ret
      exact ⟨by rw [HV.out]; rfl, hK.out _⟩

end Go.Proofs.Ytbiifeahdinjjaa
