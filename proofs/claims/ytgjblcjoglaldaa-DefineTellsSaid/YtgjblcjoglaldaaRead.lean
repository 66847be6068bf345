/- The reference's ReadNum: what it returns. -/
import Derived.Test.YtgjblcjoglaldaaProg
import Derived.Test.YtgjblcjoglaldaaGen
namespace Go.Proofs.Ytgjblcjoglaldaa
open Go.RowKit Go.Proofs Go.Proofs.Pk
set_option maxRecDepth 10000
attribute [local simp] mk_get wrap64_u8 mk_extract ByteArray.mk_append_mk get_1k

set_option maxHeartbeats 400000 in
theorem rRead_0 (r : List UInt8) (w : World) (_hb : r.length + 1 ≤ maxLen) :
    Calls Try.prog 31 #[.string ⟨((0 : UInt8) :: r).toArray⟩] w (R3 w (.int .i64 0) (.string ⟨r.toArray⟩) (.int .i64 0)) := by
  unfold maxLen at _hb
  go_enter Try.func31, Try.ntmps31
  go_wp2
  go_loop [6, 7] (fun n i => n = .int .i64 0 ∧ i = .int .i64 0) (fun _ _ => 0)
  case atStart => exact ⟨rfl, rfl⟩
  case round =>
    obtain ⟨rfl, rfl⟩ := hrel
    go_wp2
    go_quiet (fail)
    go_wp2
    go_ret3
    exact R3.mk rfl (by simp) rfl (belowN (Below.refl _ _) _)

set_option maxHeartbeats 400000 in
theorem rRead_go (c : UInt8) (t : List UInt8) (w : World) (hb : t.length + 1 ≤ maxLen) (h : (c.toNat : Int) ≤ 7) (h1 : (c.toNat : Int) ≤ t.length) (hc : 0 < (c.toNat : Int)) (ht : 0 < t.length) (hd : (((t[0]'ht).toNat : Int) == 0) = false)
    (hM : (val (t.take c.toNat) : Int) ≤ 9007199254740991) :
    Calls Try.prog 31 #[.string ⟨(c :: t).toArray⟩] w (R3 w (.int .i64 (val (t.take c.toNat))) (.string ⟨(t.drop c.toNat).toArray⟩) (.int .i64 0)) := by
  unfold maxLen at hb
  have HM := Lib.hid hM
  clear hM
  go_enter Try.func31, Try.ntmps31
  go_wp2
  go_loop [6, 7] (fun n i => ∃ k : Nat, (k : Int) ≤ c.toNat ∧ n = .int .i64 (val (t.take k)) ∧ i = .int .i64 k) (fun _ i => c.toNat - (intOf i).toNat)
  case atStart => exact ⟨0, by omega, rfl, rfl⟩
  case round =>
    obtain ⟨k, hk, rfl, rfl⟩ := hrel
    by_cases hlt : (k : Int) < c.toNat
    · have hkl : k < t.length := by omega
      have hv : (val (t.take k) : Int) < 281474976710656 := by
        have := val_lt _ (t.take k) rfl
        have h6 : (t.take k).length ≤ 6 := by rw [List.length_take]; omega
        have := Nat.pow_le_pow_right (n := 256) (by omega) h6
        omega
      have hkk : 1 + (k : Int) < t.length + 1 := by omega
      have hc8 := (t[k]).toNat_lt
      have e1 : wrap64 (256 * (val (t.take k) : Int)) = 256 * (val (t.take k) : Int) := wrap64_in (by omega) (by omega)
      have e2 : wrap64 (256 * (val (t.take k) : Int) + ((t[k]).toNat : Int)) = 256 * (val (t.take k) : Int) + ((t[k]).toNat : Int) := wrap64_in (by omega) (by omega)
      clear hv hc8
      go_wp2
      go_round
      case rel => exact ⟨k + 1, by omega, by rw [val_take t k hkl]; go_num, by go_num⟩
      case measure => simp [intOf]; omega
    · have hkc : k = c.toNat := by omega
      subst hkc
      have hM := HM.out
      go_wp2
      go_quiet (fail)
      go_wp2
      go_ret3
      refine R3.mk rfl ?_ rfl (belowN (Below.refl _ _) _)
      exact str_drop1 c t c.toNat

theorem rRead_nil (w : World) :
    Calls Try.prog 31 #[.string ⟨([] : List UInt8).toArray⟩] w (R3 w (.int .i64 0) (.string ⟨#[]⟩) (.int .i64 2)) := by
  go_enter Try.func31, Try.ntmps31
  go_wp2
  go_ret3
  exact R3.mk rfl rfl rfl (Below.refl _ _)

set_option maxHeartbeats 400000 in
theorem rRead_big (c : UInt8) (r : List UInt8) (w : World) (h : 7 < (c.toNat : Int)) :
    Calls Try.prog 31 #[.string ⟨(c :: r).toArray⟩] w (R3 w (.int .i64 0) (.string ⟨#[]⟩) (.int .i64 3)) := by
  go_enter Try.func31, Try.ntmps31
  go_wp2
  go_ret3
  exact R3.mk rfl rfl rfl (Below.refl _ _)

set_option maxHeartbeats 400000 in
theorem rRead_short (c : UInt8) (r : List UInt8) (w : World) (h : (c.toNat : Int) ≤ 7) (h1 : (r.length : Int) < c.toNat) :
    Calls Try.prog 31 #[.string ⟨(c :: r).toArray⟩] w (R3 w (.int .i64 0) (.string ⟨#[]⟩) (.int .i64 2)) := by
  go_enter Try.func31, Try.ntmps31
  go_wp2
  go_ret3
  exact R3.mk rfl rfl rfl (Below.refl _ _)

set_option maxHeartbeats 400000 in
theorem rRead_lead (c : UInt8) (t : List UInt8) (w : World) (hb : t.length + 1 ≤ maxLen) (h : (c.toNat : Int) ≤ 7) (h1 : (c.toNat : Int) ≤ t.length) (hc : 0 < (c.toNat : Int)) (ht : 0 < t.length) (hd : (((t[0]'ht).toNat : Int) == 0) = true) :
    Calls Try.prog 31 #[.string ⟨(c :: t).toArray⟩] w (R3 w (.int .i64 0) (.string ⟨#[]⟩) (.int .i64 3)) := by
  unfold maxLen at hb
  go_enter Try.func31, Try.ntmps31
  go_wp2
  go_ret3
  exact R3.mk rfl rfl rfl (Below.refl _ _)

set_option maxHeartbeats 400000 in
theorem rRead_much (c : UInt8) (t : List UInt8) (w : World) (hb : t.length + 1 ≤ maxLen) (h : (c.toNat : Int) ≤ 7) (h1 : (c.toNat : Int) ≤ t.length) (hc : 0 < (c.toNat : Int)) (ht : 0 < t.length) (hd : (((t[0]'ht).toNat : Int) == 0) = false)
    (hM : 9007199254740991 < (val (t.take c.toNat) : Int)) :
    Calls Try.prog 31 #[.string ⟨(c :: t).toArray⟩] w (R3 w (.int .i64 0) (.string ⟨#[]⟩) (.int .i64 3)) := by
  unfold maxLen at hb
  have HM := Lib.hid hM
  clear hM
  go_enter Try.func31, Try.ntmps31
  go_wp2
  go_loop [6, 7] (fun n i => ∃ k : Nat, (k : Int) ≤ c.toNat ∧ n = .int .i64 (val (t.take k)) ∧ i = .int .i64 k) (fun _ i => c.toNat - (intOf i).toNat)
  case atStart => exact ⟨0, by omega, rfl, rfl⟩
  case round =>
    obtain ⟨k, hk, rfl, rfl⟩ := hrel
    by_cases hlt : (k : Int) < c.toNat
    · have hkl : k < t.length := by omega
      have hv : (val (t.take k) : Int) < 281474976710656 := by
        have := val_lt _ (t.take k) rfl
        have h6 : (t.take k).length ≤ 6 := by rw [List.length_take]; omega
        have := Nat.pow_le_pow_right (n := 256) (by omega) h6
        omega
      have hkk : 1 + (k : Int) < t.length + 1 := by omega
      have hc8 := (t[k]).toNat_lt
      have e1 : wrap64 (256 * (val (t.take k) : Int)) = 256 * (val (t.take k) : Int) := wrap64_in (by omega) (by omega)
      have e2 : wrap64 (256 * (val (t.take k) : Int) + ((t[k]).toNat : Int)) = 256 * (val (t.take k) : Int) + ((t[k]).toNat : Int) := wrap64_in (by omega) (by omega)
      clear hv hc8
      go_wp2
      go_round
      case rel => exact ⟨k + 1, by omega, by rw [val_take t k hkl]; go_num, by go_num⟩
      case measure => simp [intOf]; omega
    · have hkc : k = c.toNat := by omega
      subst hkc
      have hM := HM.out
      go_wp2
      go_ret3
      exact R3.mk rfl rfl rfl (Below.refl _ _)

/-- The reference reads a number as the chapter says. -/
theorem rRead (b : List UInt8) (w : World) (hb : b.length ≤ maxLen) :
    Calls Try.prog 31 #[.string ⟨b.toArray⟩] w (R3 w (.int .i64 (rdNum b).1) (.string ⟨(rdNum b).2.1.toArray⟩) (.int .i64 (rdNum b).2.2)) := by
  cases b with
  | nil => exact rRead_nil w
  | cons c t =>
    simp only [List.length_cons] at hb
    rw [rdNum_cons]
    by_cases h7 : 7 < c.toNat
    · rw [if_pos h7]; exact rRead_big c t w (by omega)
    rw [if_neg h7]
    by_cases hs : t.length < c.toNat
    · rw [if_pos hs]; exact rRead_short c t w (by omega) (by omega)
    rw [if_neg hs]
    by_cases h0 : c.toNat = 0
    · obtain rfl : c = 0 := UInt8.toNat_inj.1 (by simpa using h0)
      rw [if_neg (by simp), if_neg (by simp [val])]
      exact rRead_0 t w hb
    · have ht : 0 < t.length := by omega
      have hh := head_beq t ht
      by_cases hz : t.head? = some 0
      · rw [if_pos ⟨by omega, hz⟩]
        exact rRead_lead c t w hb (by omega) (by omega) (by omega) ht (by rw [hh]; simpa using hz)
      · rw [if_neg (fun h => hz h.2)]
        have hd : (((t[0]'ht).toNat : Int) == 0) = false := by rw [hh]; simpa using hz
        by_cases hM : MaxN < val (t.take c.toNat)
        · rw [if_pos hM]
          exact rRead_much c t w hb (by omega) (by omega) (by omega) ht hd (by unfold MaxN at hM; omega)
        · rw [if_neg hM]
          exact rRead_go c t w hb (by omega) (by omega) (by omega) ht hd (by unfold MaxN at hM; omega)

end Go.Proofs.Ytgjblcjoglaldaa
