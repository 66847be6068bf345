/- The reference of layer 11: Hash, place. -/
import Derived.Test.YtjhninkdpmdpbaaProg
import Derived.Test.YtjhninkdpmdpbaaBlM
import Derived.Test.YtjhninkdpmdpbaaGen
import Derived.Laws.BitsAllLaws
import Derived.Deep.Cut
namespace Go.Proofs.Ytjhninkdpmdpbaa
open Go.RowKit Go.Proofs Go.Proofs.Pk
set_option maxRecDepth 10000
attribute [local simp] mk_get wrap64_u8 mk_extract ByteArray.mk_append_mk get_1k

theorem u64_in {n : Nat} (h : n < 18446744073709551616) : IntKind.u64.wrap (n : Int) = (n : Int) := by rw [IntKind.wrap_u64]; omega
theorem u64_mod (n : Nat) : IntKind.u64.wrap (n : Int) = ((n % 18446744073709551616 : Nat) : Int) := by rw [IntKind.wrap_u64]; omega

theorem hash_step (h : Nat) (c : UInt8) (hh : h < 18446744073709551616) : bits .xor .u64 (h : Int) (c.toNat : Int) = ((h ^^^ c.toNat : Nat) : Int) ∧ IntKind.u64.wrap (((h ^^^ c.toNat : Nat) : Int) * 1099511628211) = ((hashF h c : Nat) : Int) := by
  have hc := c.toNat_lt
  refine ⟨u64_xor_nat h c.toNat hh (by omega), ?_⟩
  unfold hashF
  rw [IntKind.wrap_u64]
  omega

set_option maxHeartbeats 1000000 in
theorem rHash (k : TxtB) (w : World) (hkl : (k.length : Int) ≤ 140737488351232) : Calls Try.prog 13 #[.string ⟨k.toArray⟩] w fun e w' => e = .returned (.int .u64 (hashN k : Int)) ∧ w = w' := by
  obtain ⟨n, hn⟩ : ∃ n : Nat, Hid (n = k.length) := ⟨_, rfl⟩
  have hnk : (k.length : Int) = (n : Int) := by rw [hn.out]
  have h0 : Hid ((14695981039346656037 : Int) = ((hashN (k.take 0) : Nat) : Int)) := by
    show _ = _
    rw [List.take_zero, hashN_nil]; rfl
  go_enter Try.func13, Try.ntmps13
  go_wp2
  go_loop [3, 4] (fun v i => ∃ j : Nat, j ≤ n ∧ v = .int .u64 ((hashN (k.take j) : Nat) : Int) ∧ i = .int .i64 (j : Int)) (fun _ i => n - (intOf i).toNat)
  case atStart => exact ⟨0, Nat.zero_le _, by rw [h0.out], rfl⟩
  case round =>
    obtain ⟨j, hj, rfl, rfl⟩ := hrel
    clear h0
    have j0 : (0 : Int) ≤ (j : Int) := by omega
    by_cases hlt : j < n
    · have hjk : j < k.length := by rw [← hn.out]; exact hlt
      have jn : (j : Int) < (n : Int) := by omega
      have hwj : IntKind.i64.wrap ((j : Int) + 1) = (j : Int) + 1 := IntWalk.i64_in _ (by omega)
      have hs := hash_take k hjk
      have hlt64 := hashN_lt (k.take j)
      obtain ⟨h, hh⟩ : ∃ h : Nat, h = hashN (k.take j) := ⟨_, rfl⟩
      rw [← hh] at hs hlt64 ⊢
      obtain ⟨c, hc⟩ : ∃ c, k[j] = c := ⟨_, rfl⟩
      rw [hc] at hs
      have HS := Lib.hid hs
      obtain ⟨e1, e2⟩ := hash_step h c hlt64
      have hwc : IntKind.u64.wrap (c.toNat : Int) = (c.toNat : Int) := u64_in (by have := c.toNat_lt; omega)
      obtain ⟨y, hy⟩ : ∃ y : Nat, y = h ^^^ c.toNat := ⟨_, rfl⟩
      rw [← hy] at e1 e2
      clear hs hh hy hlt64
      go_wp2
      go_round
      case rel => exact ⟨j + 1, by omega, by rw [HS.out], by first | rfl | go_num⟩
      case measure => simp [intOf]; omega
    · obtain rfl : j = n := by omega
      have jn : ¬(j : Int) < (j : Int) := by omega
      have hall : Hid (hashN (k.take j) = hashN k) := by
        show _ = _
        rw [List.take_of_length_le (by rw [hn.out]; exact Nat.le_refl _)]
      obtain ⟨z, hz⟩ : ∃ z : Nat, Hid (z = hashN k) := ⟨_, rfl⟩
      rw [hall.out, ← hz.out]
      clear hall
      go_wp2
      go_ret
      exact ⟨by rw [← hz.out]; rfl, rfl⟩

/-- The two halves of a hash, exchanged. -/
theorem swap_or (h : Nat) (hh : h < 18446744073709551616) : bits .or .u64 (((h % 4294967296) * 4294967296 : Nat) : Int) ((h / 4294967296 : Nat) : Int) = (((h % 4294967296) * 4294967296 + h / 4294967296 : Nat) : Int) := by
  rw [u64_or_nat _ _ (by omega) (by omega)]
  congr 1
  have := Nat.two_pow_add_eq_or_of_lt (i := 32) (b := h / 4294967296) (by omega) (h % 4294967296)
  rw [show (2 : Nat) ^ 32 = 4294967296 from by decide] at this
  rw [Nat.mul_comm, ← this]
theorem shl_32 (h : Nat) : IntKind.u64.wrap ((h : Int) * 4294967296) = (((h % 4294967296) * 4294967296 : Nat) : Int) := by rw [IntKind.wrap_u64]; omega

set_option maxHeartbeats 1000000 in
theorem rPlace (k : TxtB) (i m : Nat) (w : World) (hkl : (k.length : Int) ≤ 140737488351232) (hi : i ≤ 30) (hm : 0 < m) (hm2 : m ≤ 2251799813685248) :
    Calls Try.prog 17 #[.string ⟨k.toArray⟩, .int .i64 (i : Int), .int .i64 (m : Int)] w fun e w' => e = .returned (.int .i64 (placeN k i m : Int)) ∧ w = w' := by
  have HH := Lib.hid (rHash k w hkl)
  have hh := hashN_lt k
  obtain ⟨P, hP⟩ : ∃ P : Nat, Hid (P = placeN k i m) := ⟨_, rfl⟩
  have hPN : P = ((hashN k + i * gapN (hashN k)) % 18446744073709551616) % m := hP.out
  obtain ⟨h, hhh⟩ : ∃ h : Nat, h = hashN k := ⟨_, rfl⟩
  rw [← hhh] at HH hh hPN
  clear hhh hkl
  have a1 := shl_32 h
  have a2 := swap_or h hh
  obtain ⟨A, hA⟩ : ∃ A : Nat, A = (h % 4294967296) * 4294967296 := ⟨_, rfl⟩
  obtain ⟨B, hB⟩ : ∃ B : Nat, B = h / 4294967296 := ⟨_, rfl⟩
  have a3 : (h : Int) / 4294967296 = (B : Int) := by omega
  rw [← hA] at a1
  rw [← hA, ← hB] at a2
  obtain ⟨g0, hg0⟩ : ∃ g0 : Nat, g0 = A + B := ⟨_, rfl⟩
  rw [← hg0] at a2
  have hg0l : g0 < 18446744073709551616 := by omega
  have hwi : IntKind.u64.wrap (i : Int) = (i : Int) := u64_in (by omega)
  have hwm : IntKind.u64.wrap (m : Int) = (m : Int) := u64_in (by omega)
  have hm0 : ¬m = 0 := by omega
  have hg : gapN h = if g0 % 2 = 0 then g0 + 1 else g0 := by unfold gapN; rw [← hA, ← hB, ← hg0]
  rw [hg] at hPN
  clear hg hA hB
  have tail : ∀ g : Nat, P = ((h + i * g) % 18446744073709551616) % m → IntKind.u64.wrap ((i : Int) * (g : Int)) = ((i * g % 18446744073709551616 : Nat) : Int) ∧ IntKind.u64.wrap ((h : Int) + ((i * g % 18446744073709551616 : Nat) : Int)) = (((h + i * g) % 18446744073709551616 : Nat) : Int) ∧ (((h + i * g) % 18446744073709551616 : Nat) : Int).tmod (m : Int) = (P : Int) := fun g hp => by
    refine ⟨?_, ?_, ?_⟩
    · rw [← Int.natCast_mul, u64_mod]
    · rw [← Int.natCast_add, u64_mod]
      congr 1
      omega
    · rw [Int.tmod_eq_emod_of_nonneg (by omega), hp]; rfl
  have hPm : P < m := by rw [hPN]; exact Nat.mod_lt _ hm
  have hwP : IntKind.i64.wrap (P : Int) = (P : Int) := IntWalk.i64_in _ (by omega)
  by_cases he : g0 % 2 = 0
  · rw [if_pos he] at hPN
    obtain ⟨t1, t2, t3⟩ := tail (g0 + 1) hPN
    have b1 : ((g0 : Int) % 2 == 0) = true := by rw [beq_iff_eq]; omega
    have b2 : IntKind.u64.wrap ((g0 : Int) + 1) = ((g0 + 1 : Nat) : Int) := by rw [IntKind.wrap_u64]; omega
    obtain ⟨g, hgg⟩ : ∃ g : Nat, g = g0 + 1 := ⟨_, rfl⟩
    rw [← hgg] at t1 t2 t3 b2
    obtain ⟨Z, hZ⟩ : ∃ Z : Nat, Z = i * g % 18446744073709551616 := ⟨_, rfl⟩
    obtain ⟨Y, hY⟩ : ∃ Y : Nat, Y = (h + i * g) % 18446744073709551616 := ⟨_, rfl⟩
    rw [← hZ] at t1 t2
    rw [← hY] at t2 t3
    clear tail hPN hZ hY hgg hPm hg0 hh hg0l he
    go_enter Try.func17, Try.ntmps17
    go_wp2_with fail
    refine HH.out.mono ?_
    clear HH
    rintro e wx ⟨rfl, rfl⟩
    go_wp2
    go_ret
    exact ⟨by rw [← hP.out]; rfl, rfl⟩
  · rw [if_neg he] at hPN
    obtain ⟨t1, t2, t3⟩ := tail g0 hPN
    have b1 : ((g0 : Int) % 2 == 0) = false := by rw [beq_eq_false_iff_ne]; omega
    obtain ⟨Z, hZ⟩ : ∃ Z : Nat, Z = i * g0 % 18446744073709551616 := ⟨_, rfl⟩
    obtain ⟨Y, hY⟩ : ∃ Y : Nat, Y = (h + i * g0) % 18446744073709551616 := ⟨_, rfl⟩
    rw [← hZ] at t1 t2
    rw [← hY] at t2 t3
    clear tail hPN hZ hY hPm hg0 hh hg0l he
    go_enter Try.func17, Try.ntmps17
    go_wp2_with fail
    refine HH.out.mono ?_
    clear HH
    rintro e wx ⟨rfl, rfl⟩
    go_wp2
    go_ret
    exact ⟨by rw [← hP.out]; rfl, rfl⟩

end Go.Proofs.Ytjhninkdpmdpbaa
