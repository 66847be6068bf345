/- The law's own comparison of two slices of texts. -/
import Derived.Test.YtiglkadejbjdcaaProg
import Derived.Test.YtiglkadejbjdcaaAppend
import Derived.BigQuiet
namespace Go.Proofs.Ytiglkadejbjdcaa
open Go.RowKit Go.Proofs Go.Proofs.Pk
attribute [local simp] mk_get wrap64_u8 mk_extract ByteArray.mk_append_mk get_1k

set_option maxHeartbeats 400000 in
theorem texts9_len (ad ae : Option Addr) (la ca lb cb : Nat) (w : World) (hne : (la : Int) ≠ lb) :
    Calls Try.prog 18 #[.slice ad la ca, .slice ae lb cb] w fun e w' => e = .returned (.bool false) ∧ Below w.heap.size w w' := by
  have hn : ((la : Int) != (lb : Int)) = true := by rw [bne_iff_ne]; exact hne
  go_enter Try.func18, Try.ntmps18
  go_wp2
  go_ret
  exact ⟨rfl, Below.refl _ _⟩

set_option maxHeartbeats 400000 in
theorem texts9_none (ad ae : Option Addr) (ca cb : Nat) (w : World) :
    Calls Try.prog 18 #[.slice ad 0 ca, .slice ae 0 cb] w fun e w' => e = .returned (.bool true) ∧ Below w.heap.size w w' := by
  go_enter Try.func18, Try.ntmps18
  go_wp2
  refine wp_loop_rounds 1 ?_
  rw [rounds_succ]
  go_wp2
  go_ret
  exact ⟨rfl, Below.refl _ _⟩

set_option maxHeartbeats 1000000 in
theorem texts9_some (b off b2 off2 len ca cb : Nat) (l m : List (List UInt8)) (w : World) (hl : l.length = len) (hm : m.length = len) (hb : b < w.heap.size) (hb2 : b2 < w.heap.size) (h1 : (len : Int) ≤ 140737488351232)
    (hc : ∀ i (h : i < l.length), w.cell? ⟨b, off + i, none⟩ = some (.string ⟨(l[i]).toArray⟩)) (hd : ∀ i (h : i < m.length), w.cell? ⟨b2, off2 + i, none⟩ = some (.string ⟨(m[i]).toArray⟩)) :
    Calls Try.prog 18 #[.slice (some ⟨b, off, none⟩) len ca, .slice (some ⟨b2, off2, none⟩) len cb] w fun e w' => e = .returned (.bool (decide (l = m))) ∧ Below w.heap.size w w' := by
  have HC := Lib.hid hc
  have HD := Lib.hid hd
  have HL := Lib.hid hl
  have HM := Lib.hid hm
  clear hc hd hl hm
  go_enter Try.func18, Try.ntmps18
  go_wp2
  go_loopw [5] (fun i wr => ∃ k : Nat, k ≤ len ∧ i = .int .i64 k ∧ Hid (Like l m k) ∧ Below w.heap.size w wr) (fun i _ => len - (intOf i).toNat)
  case atStart => exact ⟨0, Nat.zero_le _, rfl, (rfl : l.take 0 = m.take 0), Below.refl _ _⟩
  case round =>
    obtain ⟨k, hk, rfl, hlk, hbel⟩ := hrel
    by_cases hlt : k < len
    · have hi1 : k < l.length := by have := HL.out; omega
      have hi2 : k < m.length := by have := HM.out; omega
      have c1 := (hbel.cell (p := ⟨b, off + k, none⟩) hb).trans (HC.out k hi1)
      have c2 := (hbel.cell (p := ⟨b2, off2 + k, none⟩) hb2).trans (HD.out k hi2)
      obtain ⟨x, hx⟩ : ∃ x, x = l[k] := ⟨_, rfl⟩
      obtain ⟨y, hy⟩ : ∃ y, y = m[k] := ⟨_, rfl⟩
      rw [← hx] at c1
      rw [← hy] at c2
      have hlt' : (k : Int) < len := by omega
      by_cases hxy : x = y
      · have HR : Hid (Like l m (k + 1)) := hlk.step hi1 hi2 (by rw [← hx, ← hy, hxy])
        clear hlk hx hy hi1 hi2
        subst hxy
        go_wp2
        go_quiet (fail)
        go_wp2
        go_roundw
        case rel => exact ⟨k + 1, by omega, by go_num, HR, belowN hbel _⟩
        case measure => simp [intOf]; omega
      · have hne : (x == y) = false := by simpa using hxy
        have hlm : Hid (decide (l = m) = false) := by
          show decide (l = m) = false
          rw [decide_eq_false_iff_not]
          intro e
          subst e
          exact hxy (by rw [hx, hy])
        clear hlk hx hy hi1 hi2 hxy
        go_wp2
        go_quiet (fail)
        go_wp2
        go_ret
        exact ⟨by rw [hlm.out]; rfl, belowN hbel _⟩
    · have hlm : Hid (decide (l = m) = true) := by
        show decide (l = m) = true
        have e1 := HL.out
        have e2 := HM.out
        have := hlk.out
        unfold Like at this
        rw [List.take_of_length_le (by omega), List.take_of_length_le (by omega)] at this
        simpa using this
      have hge : (len : Int) ≤ k := by omega
      clear hlk
      go_wp2
      go_ret
      exact ⟨by rw [hlm.out]; rfl, hbel⟩

/-- The law's comparison says whether two lists are alike. -/
theorem texts9_any (ad ae : Option Addr) (la ca lb cb : Nat) (l m : List (List UInt8)) (w : World) (ha : Strs w ad la l) (hb : Strs w ae lb m) (h1 : (la : Int) ≤ 140737488351232) :
    Calls Try.prog 18 #[.slice ad la ca, .slice ae lb cb] w fun e w' => e = .returned (.bool (decide (l = m))) ∧ Below w.heap.size w w' := by
  by_cases hne : la = lb
  · subst hne
    rcases ha.2 with rfl | ⟨b, off, rfl, hb1, hc⟩
    · have : m = [] := List.eq_nil_of_length_eq_zero (hb.1.trans ha.1.symm)
      subst this
      have : la = 0 := by have := ha.1; simpa using this.symm
      subst this
      exact texts9_none ad ae ca cb w
    · rcases hb.2 with rfl | ⟨b2, off2, rfl, hb2, hd⟩
      · have : l = [] := List.eq_nil_of_length_eq_zero (ha.1.trans hb.1.symm)
        subst this
        have : la = 0 := by have := ha.1; simpa using this.symm
        subst this
        exact texts9_none _ _ ca cb w
      · exact texts9_some b off b2 off2 la ca cb l m w ha.1 hb.1 hb1 hb2 h1 hc hd
  · have : decide (l = m) = false := by
      rw [decide_eq_false_iff_not]
      rintro rfl
      exact hne (ha.1.symm.trans hb.1)
    rw [this]
    exact texts9_len ad ae la ca lb cb w (by omega)

end Go.Proofs.Ytiglkadejbjdcaa
