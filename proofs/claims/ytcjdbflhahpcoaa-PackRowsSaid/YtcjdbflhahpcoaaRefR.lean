/- The reference's Row and ReadRow of layer 1 (pack): what they return. -/
import Derived.Test.YtcjdbflhahpcoaaAll
import Derived.Test.YtcjdbflhahpcoaaTexts
namespace Go.Proofs.Ytcjdbflhahpcoaa
open Go.RowKit Go.Proofs Go.Proofs.Pk
attribute [local simp] mk_get wrap64_u8 mk_extract ByteArray.mk_append_mk

set_option maxHeartbeats 400000 in
theorem rRow_many (ad : Option Addr) (len cap : Nat) (w : World) (h : 1000 < (len : Int)) :
    Calls Try.prog 21 #[.slice ad len cap] w (R2 w (.string ⟨#[]⟩) (.bool false)) := by
  go_enter Try.func21, Try.ntmps21
  go_wp2
  go_ret2
  exact R2.mk rfl rfl (Below.refl _ _)

theorem head_mono2 (l : List (List UInt8)) (k : Nat) : (head l (k + 1)).length ≤ (rowL l).length := head_mono l (k + 1)

set_option maxRecDepth 100000 in
set_option maxHeartbeats 2000000 in
theorem rRow_few (ad : Option Addr) (len cap : Nat) (l : List (List UInt8)) (w : World) (hst : Strs w ad len l) (hln : (len : Int) ≤ 1000) (hs : ∀ s ∈ l, s.length ≤ 140737488351232)
    (X : List UInt8) (g : Bool) (hX : (if (rowL l).length ≤ MaxT then (rowL l, true) else ([], false)) = (X, g)) :
    Calls Try.prog 21 #[.slice ad len cap] w (R2 w (.string ⟨X.toArray⟩) (.bool g)) := by
  have HST := Lib.hid hst
  have HS := Lib.hid hs
  have HL := Lib.hid hst.1
  have HX := Lib.hid hX
  clear hst hs hX
  have HN := Lib.hid (fun w => rNum_ok len w (by unfold MaxN; omega))
  have hnl : (numL len).length ≤ 8 := numL_len_le len
  have HH : Hid (numL len = head l 0) := by
    show numL len = head l 0
    rw [head_zero, HL.out]
  generalize numL len = N at *
  go_enter Try.func21, Try.ntmps21
  go_wp2_with fail
  refine (HN.out _).mono ?_
  rintro e w1 ⟨rfl, b1⟩
  go_wp2
  go_loopw [4, 6] (fun z i wr => ∃ (k : Nat) (O : List UInt8), k ≤ len ∧ i = .int .i64 k ∧ z = .string ⟨O.toArray⟩ ∧ Hid (O = head l k) ∧ (O.length : Int) ≤ 1048576 ∧ Below w.heap.size w wr) (fun _ i _ => len - (intOf i).toNat)
  case atStart => exact ⟨0, N, Nat.zero_le _, rfl, rfl, HH, by omega, b1⟩
  case round =>
    obtain ⟨k, O, hk, rfl, rfl, hO, hOl, hbel⟩ := hrel
    by_cases hlt : k < len
    · have hkl : k < l.length := by have := HL.out; omega
      rcases HST.out.2 with hbad | ⟨b, off, hv, hb, hc⟩
      · exfalso; rw [hbad] at hkl; simp at hkl
      subst hv
      have c1 := (hbel.cell (p := ⟨b, off + k, none⟩) hb).trans (hc k hkl)
      have HSU := Lib.hid (head_succ l k hkl)
      have HM := Lib.hid (head_mono2 l k)
      have hlt' : (k : Int) < len := by omega
      by_cases hsl : ((l[k]).length : Int) ≤ 1048576
      · have HT := Lib.hid (fun w => rText_ok l[k] w hsl)
        have ht := txtL_le l[k]
        generalize l[k] = s at *
        generalize htx : txtL s = t at *
        have htl : (t.length : Int) ≤ 1048584 := by omega
        have HTX := Lib.hid htx
        clear hc hkl ht htx
        by_cases hsum : (O.length : Int) + t.length ≤ 1048576
        · go_wp2_with fail
          refine (HT.out _).mono ?_
          rintro e w2 ⟨rfl, b2⟩
          have hO' : Hid (O ++ t = head l (k + 1)) := by
            show O ++ t = head l (k + 1)
            rw [HSU.out, hO.out]
          have hsum' : ((O ++ t).length : Int) ≤ 1048576 := by rw [List.length_append]; omega
          have HS2 := Lib.hid hsum'
          clear hsum'
          go_wp2
          go_roundw
          case rel => exact ⟨k + 1, O ++ t, by omega, by go_num, rfl, hO', HS2.out, hbel.trans (b2.mono hbel.size)⟩
          case measure => simp [intOf]; omega
        · have hno : Hid (X = [] ∧ g = false) := by
            show X = [] ∧ g = false
            have := HX.out
            rw [if_neg (by have h1 := HM.out; rw [HSU.out, List.length_append, ← hO.out] at h1; unfold MaxT; omega)] at this
            obtain ⟨h1, h2⟩ := Prod.mk.inj this
            exact ⟨h1.symm, h2.symm⟩
          have hsum' : 1048576 < (O.length : Int) + t.length := by omega
          clear hsum
          go_wp2_with fail
          refine (HT.out _).mono ?_
          rintro e w2 ⟨rfl, b2⟩
          go_wp2
          go_ret2
          obtain ⟨rfl, rfl⟩ := hno.out
          exact R2.mk rfl rfl (hbel.trans (b2.mono hbel.size))
      · have HT := Lib.hid (fun w => rText_long l[k] w (by omega))
        have hno : Hid (X = [] ∧ g = false) := by
          show X = [] ∧ g = false
          have := HX.out
          rw [if_neg (by have h1 := mem_row (List.getElem_mem hkl); rw [rowL_length]; unfold MaxT; omega)] at this
          obtain ⟨h1, h2⟩ := Prod.mk.inj this
          exact ⟨h1.symm, h2.symm⟩
        clear HSU HM
        generalize l[k] = s at *
        clear hc hkl hsl
        go_wp2_with fail
        refine (HT.out _).mono ?_
        rintro e w2 ⟨rfl, b2⟩
        go_wp2
        go_ret2
        obtain ⟨rfl, rfl⟩ := hno.out
        exact R2.mk rfl rfl (hbel.trans (b2.mono hbel.size))
    · obtain rfl : k = len := by omega
      have hyes : Hid (X = O ∧ g = true) := by
        show X = O ∧ g = true
        have e1 := head_all l k (by have := HL.out; omega)
        have := HX.out
        rw [← e1, ← hO.out, if_pos (by unfold MaxT; omega)] at this
        obtain ⟨h1, h2⟩ := Prod.mk.inj this
        exact ⟨h1.symm, h2.symm⟩
      go_wp2
      go_ret2
      obtain ⟨rfl, rfl⟩ := hyes.out
      exact R2.mk rfl rfl hbel

/-- The reference writes a row as the chapter says. -/
theorem rRow (ad : Option Addr) (len cap : Nat) (l : List (List UInt8)) (w : World) (hst : Strs w ad len l) (hs : ∀ s ∈ l, s.length ≤ 140737488351232) :
    Calls Try.prog 21 #[.slice ad len cap] w (R2 w (.string ⟨(encR l).1.toArray⟩) (.bool ((encR l).2 == 0))) := by
  have hlen := hst.1
  unfold encR
  by_cases h1 : l.length ≤ 1000
  · have h := rRow_few ad len cap l w hst (by omega) hs
    by_cases h2 : (rowL l).length ≤ MaxT
    · rw [if_pos ⟨h1, h2⟩]
      exact h _ _ (if_pos h2)
    · rw [if_neg (fun h => h2 h.2)]
      exact h _ _ (if_neg h2)
  · rw [if_neg (fun h => h1 h.1)]
    exact rRow_many ad len cap w (by omega)
end Go.Proofs.Ytcjdbflhahpcoaa
