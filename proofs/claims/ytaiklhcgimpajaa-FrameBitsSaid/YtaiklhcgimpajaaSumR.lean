/- The reference's Sum and four: what they return. -/
import Derived.Test.YtaiklhcgimpajaaProg
import Derived.Test.YtaiklhcgimpajaaGen
import Derived.Test.YtaiklhcgimpajaaCrc
namespace Go.Proofs.Ytaiklhcgimpajaa
open Go.RowKit Go.Proofs Go.Proofs.Pk
set_option maxRecDepth 10000
attribute [local simp] mk_get wrap64_u8 mk_extract ByteArray.mk_append_mk get_1k

theorem xor_u32 (a b : Nat) (ha : a < 4294967296) (hb : b < 4294967296) : bits .xor .u32 (a : Int) (b : Int) = ((a ^^^ b : Nat) : Int) := by
  have h1 : (BitVec.ofInt 32 (a : Int)).toNat = a := by
    rw [BitVec.ofInt_natCast, BitVec.toNat_ofNat]; exact Nat.mod_eq_of_lt (by omega)
  have h2 : (BitVec.ofInt 32 (b : Int)).toNat = b := by
    rw [BitVec.ofInt_natCast, BitVec.toNat_ofNat]; exact Nat.mod_eq_of_lt (by omega)
  show IntKind.u32.wrap ((BitVec.ofInt 32 (a : Int) ^^^ BitVec.ofInt 32 (b : Int)).toNat : Int) = _
  rw [BitVec.toNat_xor, h1, h2]
  have := Nat.xor_lt_two_pow (n := 32) ha hb
  rw [IntKind.wrap_u32]
  omega

theorem xor_u32P (z : Nat) (h : z < 4294967296) : bits .xor .u32 ((z : Int) / 2) 2197175160 = ((z / 2 ^^^ 2197175160 : Nat) : Int) := xor_u32 (z / 2) 2197175160 (by omega) (by omega)
theorem xor_u32F (x : Nat) (h : x < 4294967296) : bits .xor .u32 (x : Int) 4294967295 = ((x ^^^ 4294967295 : Nat) : Int) := xor_u32 x 4294967295 h (by omega)

theorem st1_odd {v : Nat} (h : v % 2 = 1) : st1 v = v / 2 ^^^ 2197175160 := by unfold st1; rw [if_pos h]; rfl
theorem st1_not {v : Nat} (h : ¬v % 2 = 1) : st1 v = v / 2 := by unfold st1; rw [if_neg h]

set_option maxHeartbeats 400000 in
theorem rSum (s : List UInt8) (w : World) (hs : (s.length : Int) ≤ 281474976710656) :
    Calls Try.prog 13 #[.string ⟨s.toArray⟩] w fun e w' => e = .returned (.int .u32 (crcSum s)) ∧ w = w' := by
  go_enter Try.func13, Try.ntmps13
  go_wp2
  go_loop [3, 4] (fun v i => ∃ k : Nat, k ≤ s.length ∧ v = .int .u32 (crcRun 4294967295 (s.take k)) ∧ i = .int .i64 k) (fun _ i => s.length - (intOf i).toNat)
  case atStart => exact ⟨0, by omega, rfl, rfl⟩
  case round =>
    obtain ⟨k, hk, rfl, rfl⟩ := hrel
    by_cases hlt : (k : Int) < s.length
    · have hkl : k < s.length := by omega
      obtain ⟨x, hx⟩ : ∃ x, x = crcRun 4294967295 (s.take k) := ⟨_, rfl⟩
      rw [← hx]
      have hx0 : x < 4294967296 := hx ▸ crcRun_lt _ _ (by omega)
      have hc8 := (s[k]).toNat_lt
      have e1 := xor_u32 x (s[k]).toNat hx0 (by omega)
      have HX := Lib.hid hx
      clear hx
      go_wp2
      obtain ⟨y, hy⟩ : ∃ y, y = x ^^^ (s[k]).toNat := ⟨_, rfl⟩
      rw [← hy]
      have hy0 : y < 4294967296 := hy ▸ Nat.xor_lt_two_pow (n := 32) hx0 (by omega)
      have HY := Lib.hid hy
      clear hy e1
      go_loop [3, 5] (fun v i => ∃ j : Nat, j ≤ 8 ∧ v = .int .u32 (stk j y) ∧ i = .int .i64 j) (fun _ i => 8 - (intOf i).toNat)
      case atStart => exact ⟨0, by omega, rfl, rfl⟩
      case round =>
        obtain ⟨j, hj, rfl, rfl⟩ := hrel
        obtain ⟨z, hz⟩ : ∃ z, z = stk j y := ⟨_, rfl⟩
        rw [← hz]
        have hz0 : z < 4294967296 := hz ▸ stk_lt j y hy0
        by_cases hj8 : (j : Int) < 8
        · have hzs : Hid (stk (j + 1) y = st1 z) := by show stk (j + 1) y = st1 z; rw [stk_snoc, hz]
          clear hz
          by_cases ho : z % 2 = 1
          · have e2 := xor_u32P z hz0
            have ho' : (((z : Int) % 2) == 1) = true := by rw [beq_iff_eq]; omega
            go_wp2
            go_round
            case rel => exact ⟨j + 1, by omega, by rw [hzs.out, st1_odd ho], by go_num⟩
            case measure => simp [intOf]; omega
          · have ho' : (((z : Int) % 2) == 1) = false := by rw [beq_eq_false_iff_ne]; omega
            go_wp2
            go_round
            case rel => exact ⟨j + 1, by omega, by rw [hzs.out, st1_not ho]; go_num, by go_num⟩
            case measure => simp [intOf]; omega
        · obtain rfl : j = 8 := by omega
          have HZ : Hid (z = crcRun 4294967295 (s.take (k + 1))) := by
            show z = crcRun 4294967295 (s.take (k + 1))
            rw [List.take_succ_eq_append_getElem hkl, crcRun_snoc, ← HX.out, hz, HY.out]; rfl
          clear hz
          go_wp2
          go_round
          case rel => exact ⟨k + 1, by omega, by rw [HZ.out], by go_num⟩
          case measure => simp [intOf]; omega
    · have hks : k = s.length := by omega
      have HX : Hid (crcSum s = crcRun 4294967295 (s.take k) ^^^ 4294967295) := by
        show crcSum s = _
        rw [hks, List.take_length]; rfl
      obtain ⟨x, hx⟩ : ∃ x, x = crcRun 4294967295 (s.take k) := ⟨_, rfl⟩
      rw [← hx] at HX ⊢
      have hx0 : x < 4294967296 := hx ▸ crcRun_lt _ _ (by omega)
      have e1 := xor_u32F x hx0
      clear hx hks
      go_wp2
      go_ret
      exact ⟨ret_int (by rw [HX.out]), rfl⟩

end Go.Proofs.Ytaiklhcgimpajaa
