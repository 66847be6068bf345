/- The reference of layer 11: May. -/
import Derived.Test.YtjhninkdpmdpbaaRBh
import Derived.Sort.Walk0
namespace Go.Proofs.Ytjhninkdpmdpbaa
open Go.RowKit Go.Proofs Go.Proofs.Pk
set_option maxRecDepth 10000
attribute [local simp] mk_get wrap64_u8 mk_extract ByteArray.mk_append_mk get_1k

theorem may_short {f k : TxtB} (h : f.length < 2) : mayN f k = true := by unfold mayN; rw [if_pos (.inl h)]
theorem may_odd {f k : TxtB} (h : lastB f = 0 ∨ 30 < lastB f) : mayN f k = true := by unfold mayN; rw [if_pos (.inr h)]
theorem may_all {f k : TxtB} (h0 : ¬f.length < 2) (h1 : ¬lastB f = 0) (h2 : ¬30 < lastB f) : mayN f k = allB f k (8 * (f.length - 1)) 0 (lastB f) := by
  unfold mayN; rw [if_neg]; rintro (h | h | h) <;> contradiction
theorem all_step {f k : TxtB} {m j : Nat} (h : allB f k m 0 j = true) (hb : getB f (placeN k j m) = true) : allB f k m 0 (j + 1) = true := by
  rw [allB_iff] at h ⊢
  intro i h1 h2
  by_cases e : i = j
  · subst e; exact hb
  · exact h i h1 (by omega)
theorem all_not {f k : TxtB} {m j n : Nat} (hj : j < n) (hb : getB f (placeN k j m) = false) : allB f k m 0 n = false := by
  rw [Bool.eq_false_iff]
  intro h
  rw [allB_iff] at h
  rw [h j (Nat.zero_le _) (by omega)] at hb
  cases hb
theorem last_at {f : TxtB} {n : Nat} (h : f.length = n + 1) : ∃ hn : n < f.length, (f[n]).toNat = lastB f := by
  have e : f.length - 1 = n := by omega
  refine ⟨by omega, ?_⟩
  unfold lastB
  simp only [e, List.getD_eq_getElem?_getD]
  rw [List.getElem?_eq_getElem (by omega)]; rfl
theorem bit_of {f : TxtB} {p : Nat} (h : p / 8 < f.length) : getB f p = ((f[p / 8]).toNat / 2 ^ (p % 8) % 2 == 1) := by
  unfold getB
  rw [List.getD_eq_getElem?_getD, List.getElem?_eq_getElem h, Option.getD_some, Nat.testBit_eq_decide_div_mod_eq]
  rfl

/-- The bit as Go asks it. -/
theorem bit_ask (c : UInt8) (R : Nat) (b : Bool) (h : b = (c.toNat / 2 ^ R % 2 == 1)) : (((c.toNat : Int) / 2 ^ R).tmod 2 == 0) = !b := by
  have e : ((c.toNat : Int) / 2 ^ R) = ((c.toNat / 2 ^ R : Nat) : Int) := by rw [Int.natCast_ediv]; simp
  rw [e, Int.tmod_eq_emod_of_nonneg (Int.natCast_nonneg _), h]
  generalize c.toNat / 2 ^ R = z
  rcases Nat.mod_two_eq_zero_or_one z with h1 | h1
  · rw [h1]
    have : ((z : Int) % 2) = 0 := by omega
    rw [this]; rfl
  · rw [h1]
    have : ((z : Int) % 2) = 1 := by omega
    rw [this]; rfl

set_option maxHeartbeats 2000000 in
theorem rMay (f k : TxtB) (w : World) (hfl : (f.length : Int) ≤ 140737488351232) (hkl : (k.length : Int) ≤ 140737488351232) :
    Calls Try.prog 15 #[.string ⟨f.toArray⟩, .string ⟨k.toArray⟩] w fun e w' => e = .returned (.bool (mayN f k)) ∧ w = w' := by
  have q1 : IntKind.i64.wrap ((f.length : Int) - 1) = (f.length : Int) - 1 := IntWalk.i64_in _ (by omega)
  by_cases hs : f.length < 2
  · rw [may_short hs]
    have h1 : (f.length : Int) - 1 < 1 := by omega
    clear hs
    go_enter Try.func15, Try.ntmps15
    go_wp2
    go_ret
    exact ⟨rfl, rfl⟩
  obtain ⟨n, hn⟩ : ∃ n : Nat, f.length = n + 1 := ⟨f.length - 1, by omega⟩
  obtain ⟨hnl, hft⟩ := last_at hn
  have hni : (f.length : Int) = (n : Int) + 1 := by omega
  have q2 : IntKind.i64.wrap (n : Int) = (n : Int) := IntWalk.i64_in _ (by omega)
  have h1 : ¬(n : Int) < 1 := by omega
  have n0 : (0 : Int) ≤ (n : Int) := by omega
  obtain ⟨L, hL⟩ : ∃ L : Nat, L = lastB f := ⟨_, rfl⟩
  rw [← hL] at hft
  have hL256 : L < 256 := by rw [← hft]; exact (f[n]).toNat_lt
  by_cases hz : L = 0
  · rw [may_odd (.inl (by rw [← hL]; exact hz))]
    subst hz
    clear hL
    go_enter Try.func15, Try.ntmps15
    go_wp2
    go_ret
    exact ⟨rfl, rfl⟩
  have z1 : ((L : Int) == 0) = false := by rw [beq_eq_false_iff_ne]; omega
  by_cases hb : 30 < L
  · rw [may_odd (.inr (by rw [← hL]; exact hb))]
    have z2 : (30 : Int) < (L : Int) := by omega
    clear hL
    go_enter Try.func15, Try.ntmps15
    go_wp2
    go_ret
    exact ⟨rfl, rfl⟩
  have z2 : ¬(30 : Int) < (L : Int) := by omega
  have hm : mayN f k = allB f k (8 * n) 0 L := by rw [may_all hs (by rw [← hL]; exact hz) (by rw [← hL]; exact hb), ← hL, show f.length - 1 = n from by omega]
  rw [hm]
  have HP := Lib.hid (fun (j : Nat) (hj : j ≤ 30) (W : World) => rPlace k j (8 * n) W hkl hj (by omega) (by omega))
  have HF := Lib.hid hn
  have hwL : IntKind.i64.wrap (L : Int) = (L : Int) := IntWalk.i64_in _ (by omega)
  have q3 : IntKind.i64.wrap (8 * (n : Int)) = 8 * (n : Int) := IntWalk.i64_in _ (by omega)
  have HL := Lib.hid (And.intro hz hb)
  have HI : Hid (allB f k (8 * n) 0 0 = true) := rfl
  clear hL hm hn hs hz hb
  go_enter Try.func15, Try.ntmps15
  go_wp2
  go_loop [6] (fun i => ∃ j : Nat, j ≤ L ∧ i = .int .i64 (j : Int) ∧ Hid (allB f k (8 * n) 0 j = true)) (fun i => L - (intOf i).toNat)
  case atStart => exact ⟨0, Nat.zero_le _, rfl, HI⟩
  case round =>
    obtain ⟨j, hj, rfl, hI⟩ := hrel
    clear HI
    have j0 : (0 : Int) ≤ (j : Int) := by omega
    by_cases hlt : j < L
    · have jn : (j : Int) < (L : Int) := by omega
      have hwj : IntKind.i64.wrap ((j : Int) + 1) = (j : Int) + 1 := IntWalk.i64_in _ (by omega)
      have hPl := HP.out j (by have := HL.out.2; omega) w
      have hPm := placeN_lt k j (m := 8 * n) (by omega)
      obtain ⟨P, hP⟩ : ∃ P : Nat, Hid (P = placeN k j (8 * n)) := ⟨_, rfl⟩
      rw [← hP.out] at hPl hPm
      rw [show (((8 * n : Nat)) : Int) = 8 * (n : Int) from by omega] at hPl
      have HPl := Lib.hid hPl
      have hp8 : P / 8 < f.length := by have := HF.out; omega
      have hbit := bit_of hp8
      obtain ⟨Q, hQ⟩ : ∃ Q : Nat, Hid (Q = P / 8) := ⟨_, rfl⟩
      obtain ⟨R, hR⟩ : ∃ R : Nat, Hid (R = P % 8) := ⟨_, rfl⟩
      have hQl : Q < f.length := by rw [hQ.out]; exact hp8
      have hQi : (Q : Int) < (n : Int) + 1 := by omega
      have hQ0 : (0 : Int) ≤ (Q : Int) := by omega
      have hmin : min R 8 = R := by have := hR.out; omega
      obtain ⟨c, hc⟩ : ∃ c, f[Q] = c := ⟨_, rfl⟩
      have hcc : f[P / 8] = c := by rw [← hc]; congr 1; exact hQ.out.symm
      have d1 : (P : Int).tdiv 8 = (Q : Int) := by have := hQ.out; rw [Int.tdiv_eq_ediv_of_nonneg (by omega)]; omega
      have d2 : (P : Int).tmod 8 = (R : Int) := by have := hR.out; rw [Int.tmod_eq_emod_of_nonneg (by omega)]; omega
      rw [hcc, ← hR.out] at hbit
      have hcond := bit_ask c R _ hbit
      have HB : Hid (getB f (placeN k j (8 * n)) = getB f P) := by show _ = _; rw [hP.out]
      obtain ⟨b, hb⟩ : ∃ b : Bool, b = getB f P := ⟨_, rfl⟩
      rw [← hb] at hcond HB
      clear hPl hbit hb hcc hp8 hPm hP hQ hR
      cases b with
      | true =>
        have HN := Lib.hid (all_step hI.out HB.out)
        rw [Bool.not_true] at hcond
        clear hI HB
        go_wp2_with fail
        refine HPl.out.mono ?_
        clear HPl
        rintro e wx ⟨rfl, rfl⟩
        go_wp2
        refine ⟨⟨j + 1, by omega, by first | rfl | go_num, HN⟩, ?_⟩
        simp [intOf]
        omega
      | false =>
        have HN := Lib.hid (all_not hlt HB.out)
        rw [Bool.not_false] at hcond
        clear hI HB
        go_wp2_with fail
        refine HPl.out.mono ?_
        clear HPl
        rintro e wx ⟨rfl, rfl⟩
        go_wp2
        go_ret
        exact ⟨by rw [HN.out]; rfl, rfl⟩
    · obtain rfl : j = L := by omega
      have jn : ¬(j : Int) < (j : Int) := by omega
      go_wp2
      go_ret
      exact ⟨by rw [hI.out]; rfl, rfl⟩

end Go.Proofs.Ytjhninkdpmdpbaa
