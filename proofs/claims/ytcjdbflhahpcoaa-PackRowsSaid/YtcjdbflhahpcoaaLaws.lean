/- The laws of layer 1 (pack) over numbers and texts: what each call does. -/
import Derived.Test.YtcjdbflhahpcoaaPack
namespace Go.Proofs.Ytcjdbflhahpcoaa
open Go.RowKit Go.Proofs Go.Proofs.Pk
attribute [local simp] mk_get wrap64_u8 mk_extract ByteArray.mk_append_mk

/-- What Num of any int returns. -/
def encN (n : Int) : List UInt8 × Nat := if 0 ≤ n ∧ n ≤ 9007199254740991 then (numL n.toNat, 0) else ([], 1)
def encT (s : List UInt8) : List UInt8 × Nat := if s.length ≤ MaxT then (txtL s, 0) else ([], 5)
theorem encN_ok {n : Nat} (h : n ≤ MaxN) : encN n = (numL n, 0) := by
  unfold MaxN at h; unfold encN; rw [if_pos (by omega)]; simp
theorem encT_ok {s : List UInt8} (h : s.length ≤ MaxT) : encT s = (txtL s, 0) := by unfold encT; rw [if_pos h]

theorem pNum (n : Int) (w : World) : Calls Try.prog 11 #[.int .i64 n] w (R2 w (.string ⟨(encN n).1.toArray⟩) (errV 54 (encN n).2)) := by
  unfold encN
  by_cases h : 0 ≤ n ∧ n ≤ 9007199254740991
  · rw [if_pos h]
    obtain ⟨k, rfl⟩ := Int.eq_ofNat_of_zero_le h.1
    rw [Int.toNat_natCast]
    exact pNum_ok k w (by unfold MaxN; omega)
  · rw [if_neg h]
    by_cases h0 : n < 0
    · exact pNum_neg n w h0
    · exact pNum_big n w (by omega)
theorem pText (s : List UInt8) (w : World) : Calls Try.prog 16 #[.string ⟨s.toArray⟩] w (R2 w (.string ⟨(encT s).1.toArray⟩) (errV 54 (encT s).2)) := by
  unfold encT
  by_cases h : s.length ≤ MaxT
  · rw [if_pos h]; exact pText_ok s w (by unfold MaxT at h; omega)
  · rw [if_neg h]; exact pText_long s w (by unfold MaxT at h; omega)

theorem errV_succ (c : Nat) : errV 54 (c + 1) = .iface 54 (.int .i64 ((c : Int) + 1)) := by simp [errV]
theorem errV_zero : errV 54 0 = .nilIface := rfl

set_option maxHeartbeats 1000000 in
theorem sizes_no (n m : Int) (s : List UInt8) (w : World) (x y t : List UInt8) (c d g : Nat) (hx : ∀ w, Calls Try.prog 11 #[.int .i64 n] w (R2 w (.string ⟨x.toArray⟩) (errV 54 c))) (hy : ∀ w, Calls Try.prog 11 #[.int .i64 m] w (R2 w (.string ⟨y.toArray⟩) (errV 54 d)))
    (ht : ∀ w, Calls Try.prog 16 #[.string ⟨s.toArray⟩] w (R2 w (.string ⟨t.toArray⟩) (errV 54 g))) (hne : c ≠ 0 ∨ d ≠ 0 ∨ g ≠ 0) :
    Calls Try.prog 9 #[.int .i64 n, .int .i64 m, .string ⟨s.toArray⟩] w fun e w' => e = .returned (.bool true) ∧ Below w.heap.size w w' := by
  have HX := Lib.hid hx; clear hx
  have HY := Lib.hid hy; clear hy
  have HT := Lib.hid ht; clear ht
  rcases c with _ | c <;> rcases d with _ | d <;> rcases g with _ | g
  · simp at hne
  all_goals
    clear hne
    simp only [errV_zero, errV_succ] at HX HY HT
    go_enter Try.func9, Try.ntmps9
    go_wp2_with fail
    refine (examples_any _).mono ?_
    rintro e w1 ⟨rfl, b1⟩
    go_wp2_with fail
    refine (HX.out _).mono ?_
    rintro e w2 ⟨rfl, b2⟩
    go_wp2_with fail
    refine (HY.out _).mono ?_
    rintro e w3 ⟨rfl, b3⟩
    go_wp2_with fail
    refine (HT.out _).mono ?_
    rintro e w4 ⟨rfl, b4⟩
    go_wp2
    go_ret
    exact ⟨rfl, b1.trans ((b2.mono b1.size).trans ((b3.mono (by have := b1.size; have := b2.size; omega)).trans (b4.mono (by have := b1.size; have := b2.size; have := b3.size; omega))))⟩

theorem below4 {w w1 w2 w3 w4 : World} (b1 : Below w.heap.size w w1) (b2 : Below w1.heap.size w1 w2) (b3 : Below w2.heap.size w2 w3) (b4 : Below w3.heap.size w3 w4) : Below w.heap.size w w4 :=
  b1.trans ((b2.mono b1.size).trans ((b3.mono (by have := b1.size; have := b2.size; omega)).trans (b4.mono (by have := b1.size; have := b2.size; have := b3.size; omega))))

theorem nb_div' (k : Nat) (h0 : k ≠ 0) (h : k ≤ 9007199254740991) : nb k = nb (k / 256) + 1 := by
  unfold nb; repeat' split
  all_goals omega

set_option maxHeartbeats 1000000 in
theorem sizes_yes (n m : Nat) (s : List UInt8) (w : World) (hn : n ≤ MaxN) (hm : m ≤ MaxN) (hs : s.length ≤ MaxT) :
    Calls Try.prog 9 #[.int .i64 n, .int .i64 m, .string ⟨s.toArray⟩] w fun e w' => e = .returned (.bool true) ∧ Below w.heap.size w w' := by
  have HX := Lib.hid (fun w => pNum_ok n w hn)
  have HY := Lib.hid (fun w => pNum_ok m w hm)
  have HT := Lib.hid (fun w => pText_ok s w (by unfold MaxT at hs; omega))
  have HS := Lib.hid (fun w => pNum_ok s.length w (by unfold MaxT at hs; unfold MaxN; omega))
  simp only [errV_zero] at HX HY HT HS
  have HN := Lib.hid hn
  have h7 := nb_le n
  have l1 := Lib.hid (numL_length n)
  have l2 := Lib.hid (numL_length m)
  have hmono : Hid (n ≤ m → nb n ≤ nb m) := nb_mono
  have hb : (n : Int) ≤ 9007199254740991 := by unfold MaxN at hn; omega
  obtain ⟨X, eX⟩ : ∃ X, X = numL n := ⟨_, rfl⟩
  obtain ⟨Y, eY⟩ : ∃ Y, Y = numL m := ⟨_, rfl⟩
  obtain ⟨T, eT⟩ : ∃ T, T = txtL s := ⟨_, rfl⟩
  obtain ⟨L, eL⟩ : ∃ L, L = numL s.length := ⟨_, rfl⟩
  rw [← eX] at HX l1
  rw [← eY] at HY l2
  rw [← eT] at HT
  rw [← eL] at HS
  have hT : Hid (T = L ++ s) := by
    show T = L ++ s
    rw [eT, eL, txtL]
  have hXl : (X.length : Int) ≤ 8 := by rw [l1.out]; omega
  have hYl : (Y.length : Int) ≤ 8 := by rw [l2.out]; have := nb_le m; omega
  have hLl : (L.length : Int) ≤ 8 := by rw [eL]; have := numL_len_le s.length; omega
  have hsl : (s.length : Int) ≤ 1048576 := by unfold MaxT at hs; omega
  rw [hT.out] at HT
  clear hn hm hs eX eY eT eL hT
  go_enter Try.func9, Try.ntmps9
  go_wp2_with fail
  refine (examples_any _).mono ?_
  rintro e w1 ⟨rfl, b1⟩
  go_wp2_with fail
  refine (HX.out _).mono ?_
  rintro e w2 ⟨rfl, b2⟩
  go_wp2_with fail
  refine (HY.out _).mono ?_
  rintro e w3 ⟨rfl, b3⟩
  go_wp2_with fail
  refine (HT.out _).mono ?_
  rintro e w4 ⟨rfl, b4⟩
  go_wp2
  go_loopw [14, 15] (fun z k wr => ∃ a c : Nat, z = .int .i64 a ∧ k = .int .i64 c ∧ Hid (a + nb c = nb n + 1) ∧ c ≤ n ∧ wr = w4) (fun _ k _ => (intOf k).toNat)
  case atStart => exact ⟨1, n, rfl, rfl, by show _ = _; omega, Nat.le_refl _, rfl⟩
  case round =>
    obtain ⟨a, c, rfl, rfl, he, hcn, rfl⟩ := hrel
    have ha : (a : Int) ≤ 8 := by have := he.out; omega
    by_cases hc : 0 < (c : Int)
    · have hcn' : (c : Int) ≤ n := by omega
      have R : Hid (a + 1 + nb (c / 256) = nb n + 1) := by
        show a + 1 + nb (c / 256) = nb n + 1
        have := he.out
        rw [nb_div' c (by omega) (by omega)] at this
        omega
      clear he
      go_wp2
      go_roundw
      case rel => exact ⟨a + 1, c / 256, by go_num, by go_num, R.out, by omega, by first | rfl | trivial⟩
      case measure => simp [intOf]; omega
    · obtain rfl : c = 0 := by omega
      have ea : a = X.length := by
        have := he.out
        have e0 : nb 0 = 0 := rfl
        have := l1.out
        omega
      clear he
      subst ea
      have B := Lib.hid (below4 b1 b2 b3 b4)
      clear b1 b2 b3 b4
      by_cases hle : (n : Int) ≤ m
      · have hlen : (X.length : Int) ≤ Y.length := by
          have := hmono.out (by omega)
          have := l1.out
          have := l2.out
          omega
        go_wp2_with fail
        refine (HS.out _).mono ?_
        rintro e w5 ⟨rfl, b5⟩
        go_wp2
        go_ret
        exact ⟨rfl, B.out.trans (b5.mono B.out.size)⟩
      · go_wp2_with fail
        refine (HS.out _).mono ?_
        rintro e w5 ⟨rfl, b5⟩
        go_wp2
        go_ret
        exact ⟨rfl, B.out.trans (b5.mono B.out.size)⟩

/-- PackSizes returns true. -/
theorem sizes_walk (n m : Int) (s : List UInt8) (w : World) (_hn : -9223372036854775808 ≤ n ∧ n ≤ 9223372036854775807) (_hm : -9223372036854775808 ≤ m ∧ m ≤ 9223372036854775807) (_hs : (s.length : Int) ≤ 140737488351232) :
    Calls Try.prog 9 #[.int .i64 n, .int .i64 m, .string ⟨s.toArray⟩] w fun e w' => e = .returned (.bool true) ∧ Below w.heap.size w w' := by
  have hN : ∀ n : Int, (encN n).2 = 0 → ∃ k : Nat, n = k ∧ k ≤ MaxN := fun n h => by
    unfold encN at h
    split at h
    · rename_i hh; exact ⟨n.toNat, by omega, by unfold MaxN; omega⟩
    · simp at h
  by_cases hh : (encN n).2 ≠ 0 ∨ (encN m).2 ≠ 0 ∨ (encT s).2 ≠ 0
  · exact sizes_no n m s w _ _ _ _ _ _ (pNum n) (pNum m) (pText s) hh
  · obtain ⟨n', rfl, h1⟩ := hN n (by omega)
    obtain ⟨m', rfl, h2⟩ := hN m (by omega)
    refine sizes_yes n' m' s w h1 h2 ?_
    have : (encT s).2 = 0 := by omega
    unfold encT at this
    split at this
    · assumption
    · simp at this
end Go.Proofs.Ytcjdbflhahpcoaa
