/- The law VersionLive. -/
import Derived.Test.YtjdolimeibpacaaBx14
import Derived.BigQuiet
namespace Go.Proofs.Ytjdolimeibpacaa
open Go.RowKit Go.Proofs Go.Proofs.Pk
set_option maxRecDepth 10000
attribute [local simp] mk_get wrap64_u8 mk_extract ByteArray.mk_append_mk get_1k

/-- How many tables the first levels have. -/
def lvlSum (v : VerV) : Nat → Nat
  | 0 => 0
  | n + 1 => lvlSum v n + (levelV v (n : Int)).length
theorem lvl_le (v : VerV) (n : Int) : (levelV v n).length ≤ v.1.length := List.length_filter_le _ _
theorem lvlSum_le (v : VerV) : ∀ n, lvlSum v n ≤ n * v.1.length
  | 0 => by simp [lvlSum]
  | n + 1 => by have := lvlSum_le v n; have := lvl_le v (n : Int); unfold lvlSum; rw [Nat.add_mul]; omega
theorem lvlSum_right {v : VerV} (h : rightV v = true) : lvlSum v 4 = v.1.length := by
  rw [← levels_right h]
  simp only [lvlSum, Nat.zero_add]
  rfl

set_option maxHeartbeats 4000000 in
theorem live14 {N : Int} (K : VnK N) (ad : Option Addr) (len cap : Nat) (ad2 : Option Addr) (len2 cap2 : Nat) (v : VerV) (w : World) (h0 : VerW w ad len cap ad2 len2 cap2 v) :
    Calls Try.prog 6 #[verC ad len cap ad2 len2 cap2 v.2.2] w fun e w' => e = .returned (.bool true) ∧ Kept (fun _ => False) w w' := by
  have hlen := h0.1.1
  have hlen2 := h0.2.2.1.1
  have b1 : (len : Int) * 56 ≤ 140737488351232 := h0.2.1.2.2.1
  have b2 : (len2 : Int) * 8 ≤ 140737488351232 := h0.2.2.2.1.2.2.1
  have HB := Lib.hid (VBox.new (Kept.refl _ w) h0)
  obtain ⟨s, hs⟩ : ∃ s, s = v.2.2 := ⟨_, rfl⟩
  obtain ⟨rv, hrv⟩ : ∃ rv, Hid (rv = rightV v) := ⟨_, rfl⟩
  have HS := Lib.hid hs
  clear h0
  unfold verC
  rw [← hs] at HB ⊢
  clear hs
  go_enter Try.func6, Try.ntmps6
  go_upto_region 1 with fail
  obtain ⟨g, hg⟩ : ∃ g, g = w.heap.size := ⟨_, rfl⟩
  rw [← hg] at HB ⊢
  generalize w.alloc (.cells #[.slice ad len cap, .slice ad2 len2 cap2, .int .i64 s] 25) = wa at HB ⊢
  clear hg
  have HX := Lib.hid (examples14 K wa)
  go_wp2_with fail
  refine HX.out.mono ?_
  rintro e w1 ⟨rfl, hk⟩
  have HB1 := Lib.hid (HB.out.quiet hk)
  clear hk HX HB
  obtain ⟨d0, d1, d2⟩ := HB1.out.cells
  have HL := Lib.hid (K.live w1 ad len cap ad2 len2 cap2 v HB1.out.ver)
  unfold verC at HL
  rw [← HS.out] at d2 HL
  go_wp2_with fail
  refine HL.out.mono ?_
  rintro e w2 ⟨al, ll, lc, l, rfl, hil, hlv, hk⟩
  have HB2 := Lib.hid (And.intro (HB1.out.quiet hk) hil)
  have HV := Lib.hid hlv
  have hll : ll = len + len2 := by have := hil.1; have := lives_len hlv; omega
  have hwl : IntKind.i64.wrap ((len : Int) + (len2 : Int)) = (ll : Int) := by rw [IntWalk.i64_in _ (by omega)]; omega
  clear hk HL HB1 d0 d1 d2 hil hlv
  obtain ⟨d0, d1, d2⟩ := HB2.out.1.cells
  have HR := Lib.hid (K.right w2 ad len cap ad2 len2 cap2 v HB2.out.1.ver)
  unfold verC at HR
  rw [← HS.out] at d2 HR
  rw [← hrv.out] at HR
  go_wp2_with fail
  refine HR.out.mono ?_
  rintro e w3 ⟨rfl, hk⟩
  have HI : Hid (VBox w w3 g ad len cap ad2 len2 cap2 v ∧ Ints w3 al ll l) := ⟨HB2.out.1.quiet hk, ints_keptV HB2.out.2 hk⟩
  clear hk HR HB2 d0 d1 d2
  go_wp2
  obtain ⟨w3', hw3'⟩ : ∃ w3', w3' = w3 := ⟨_, rfl⟩
  rw [← hw3'] at HI ⊢
  clear hw3'
  go_loopw [6] (fun i wr => ∃ j : Nat, (1 ≤ j ∧ (j ≤ ll ∨ j = 1)) ∧ i = .int .i64 (j : Int) ∧ Hid (VBox w wr g ad len cap ad2 len2 cap2 v ∧ Ints wr al ll l)) (fun i _ => ll - (intOf i).toNat)
  case atStart => exact ⟨1, ⟨Nat.le_refl _, .inr rfl⟩, rfl, HI⟩
  case round =>
    obtain ⟨j, ⟨hj1, hj⟩, rfl, hI⟩ := hrel
    clear HI
    have j0 : (0 : Int) ≤ (j : Int) := by omega
    have hwj : IntKind.i64.wrap ((j : Int) + 1) = (j : Int) + 1 := IntWalk.i64_in _ (by omega)
    by_cases hlt : j < ll
    · have jN : (j : Int) < (ll : Int) := by omega
      have hjl : j < l.length := by have := hI.out.2.1; omega
      obtain ⟨i, hij⟩ : ∃ i, Hid (j = i + 1) := ⟨j - 1, by show _ = _; omega⟩
      have hil : i < l.length := by have := hij.out; omega
      have hwi : IntKind.i64.wrap ((j : Int) - 1) = (i : Int) := by rw [IntWalk.i64_in _ (by omega)]; have := hij.out; omega
      have i0 : (0 : Int) ≤ (i : Int) := by omega
      have iN : (i : Int) < (ll : Int) := by have := hij.out; omega
      have hstep := lives_step HV.out (i := i) (j := j) (by have := hij.out; omega) hjl
      have hap : rv = true → l[i] ≠ l[j] := fun h => lives_apart HV.out (by rw [← hrv.out]; exact h) (by have := hij.out; omega) hjl
      obtain ⟨b, off, rfl, hb, c0⟩ := ints_at hI.out.2 j hjl
      obtain ⟨b', off', he, hb', c1⟩ := ints_at hI.out.2 i hil
      injection he with he
      injection he with e1 e2
      subst e1; subst e2
      obtain ⟨x, hx⟩ : ∃ x : Int, x = l[j] := ⟨_, rfl⟩
      obtain ⟨y, hy⟩ : ∃ y : Int, y = l[i] := ⟨_, rfl⟩
      rw [← hx] at c0 hstep hap
      rw [← hy] at c1 hstep hap
      have dl : decide (x < y) = false := decide_eq_false (by omega)
      have HN := Lib.hid (fun k => And.intro (hI.out.1.quiet ((Kept.refl _ wr).drewN k)) (ints_keptV hI.out.2 ((Kept.refl _ wr).drewN k)))
      clear hI hx hy hstep hil hjl
      cases rv with
      | true =>
        have hq : (x == y) = false := by rw [beq_eq_false_iff_ne]; exact fun e => hap rfl e.symm
        clear hap
        go_wp2_with fail
        go_quiet (fail)
        go_wp2
        go_roundw
        case rel => exact ⟨j + 1, ⟨by omega, .inl (by omega)⟩, by first | rfl | go_num, HN.out _⟩
        case measure => simp [intOf]; omega
      | false =>
        clear hap
        go_wp2_with fail
        go_quiet (fail)
        go_wp2
        go_roundw
        case rel => exact ⟨j + 1, ⟨by omega, .inl (by omega)⟩, by first | rfl | go_num, HN.out _⟩
        case measure => simp [intOf]; omega
    · have jN : ¬(j : Int) < (ll : Int) := by omega
      have HJ : Hid (VBox w wr g ad len cap ad2 len2 cap2 v) := hI.out.1
      clear hI
      go_wp2
      obtain ⟨wq, hwq⟩ : ∃ wq, wq = wr := ⟨_, rfl⟩
      rw [← hwq] at HJ ⊢
      clear hwq
      go_loopw [7, 8] (fun m n wr => ∃ k : Nat, k ≤ 4 ∧ m = .int .i64 (lvlSum v k : Int) ∧ n = .int .i64 (k : Int) ∧ Hid (VBox w wr g ad len cap ad2 len2 cap2 v)) (fun _ n _ => 4 - (intOf n).toNat)
      case atStart => exact ⟨0, by omega, rfl, rfl, HJ⟩
      case round =>
        obtain ⟨k, hk4, rfl, rfl, hJ⟩ := hrel
        clear HJ
        have k0 : (0 : Int) ≤ (k : Int) := by omega
        have hwk : IntKind.i64.wrap ((k : Int) + 1) = (k : Int) + 1 := IntWalk.i64_in _ (by omega)
        have hsl := lvlSum_le v k
        have hs4 : lvlSum v k ≤ 4 * v.1.length := Nat.le_trans hsl (Nat.mul_le_mul_right _ hk4)
        by_cases hlk : k < 4
        · have kN : (k : Int) < 4 := by omega
          obtain ⟨d0, d1, d2⟩ := hJ.out.cells
          have HLv := Lib.hid (K.level _ ad len cap ad2 len2 cap2 v (k : Int) hJ.out.ver (by unfold FitV; omega))
          unfold verC at HLv
          rw [← HS.out] at d2 HLv
          have hll := lvl_le v (k : Int)
          have hsum : lvlSum v (k + 1) = lvlSum v k + (levelV v (k : Int)).length := rfl
          go_wp2_with fail
          refine HLv.out.mono ?_
          rintro e w5 ⟨ax, lx, cx, rfl, hmx, hk⟩
          have HJ5 := Lib.hid (hJ.out.quiet hk)
          have hlx := hmx.1
          have hwm : IntKind.i64.wrap ((lvlSum v k : Int) + (lx : Int)) = (lvlSum v (k + 1) : Int) := by rw [IntWalk.i64_in _ (by omega)]; omega
          clear hk HLv hJ d0 d1 d2 hmx hsum
          go_wp2
          go_roundw
          case rel => exact ⟨k + 1, by omega, by first | rfl | go_num, by first | rfl | go_num, HJ5⟩
          case measure => simp [intOf]; omega
        · obtain rfl : k = 4 := by omega
          obtain ⟨d0, d1, d2⟩ := hJ.out.cells
          have HK := Lib.hid hJ.out.kept
          have hfin : rv = true → ((lvlSum v 4 : Nat) : Int) == (len : Int) := fun h => by
            rw [beq_iff_eq]
            have := lvlSum_right (v := v) (by rw [← hrv.out]; exact h)
            omega
          clear hJ
          generalize lvlSum v 4 = z at hfin
          cases rv with
          | true =>
            have hq := hfin rfl
            clear hfin
            go_wp2
            go_ret
            exact ⟨rfl, HK.out⟩
          | false =>
            clear hfin
            go_wp2
            go_ret
            exact ⟨rfl, HK.out⟩

end Go.Proofs.Ytjdolimeibpacaa
