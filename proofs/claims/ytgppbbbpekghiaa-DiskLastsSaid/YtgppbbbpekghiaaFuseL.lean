/- The law DiskFuse, walked. -/
import Derived.Test.YtgppbbbpekghiaaLawH
import Derived.Deep.Cut
import Derived.Deep.CutRange
namespace Go.Proofs.Ytgppbbbpekghiaa
open Go.RowKit Go.Proofs Go.Proofs.Pk
set_option maxRecDepth 10000
attribute [local simp] mk_get wrap64_u8 mk_extract ByteArray.mk_append_mk get_1k

theorem crashL_none (b : Int) (L : List (List UInt8)) : ∀ (C : List (Nat × List UInt8)) (i : Nat), crashL [] (-1) b L i C = L
  | [], _ => rfl
  | x :: C, i => by
    rw [crashL, show crashOne [] (-1) b L i x = L from by unfold crashOne; rw [if_neg (by omega), if_neg (by simp)], crashL_none b L C]

/-- Of the n writes that the fuse lets through j are made. -/
structure FS (S : Dsk) (n j : Nat) : Prop where
  L : S.L = List.replicate 4 (List.replicate 64 0)
  off : S.off = false
  fuse : S.fuse = (n : Int) - (j : Int)
  many : S.n = j
  C : S.C.length = j

section
variable {B p : Nat} {w0 w : World} {X : Nat → Prop} {S : Dsk} {n j : Nat}
theorem fs_wr (h : Al B w0 w p S X) (hF : FS S n j) (hj : j < n) (hn : n ≤ 50) (k : Nat) (hk : k < 4) (s : List UInt8) (hs : s.length ≤ 64) :
    Calls Try.prog 14 #[.pointer (some ⟨p, 0, none⟩), .int .i64 (k : Int), .string ⟨s.toArray⟩] w fun e w' => e = .returned .nilIface ∧ ∃ X' S', Al B w0 w' p S' X' ∧ FS S' n (j + 1) := by
  have hL : S.L.length = 4 := by rw [hF.L]; rfl
  have hc : reachC S (k : Int) = 0 := reachC_ok hF.off _ (by omega)
  have hw := write_done (s := s) hc (by omega) (by have := hF.fuse; omega)
  refine (aWr h k s (by have := hF.C; omega) (by have := hF.many; omega)).mono fun e w' ⟨he, ⟨X', h', _⟩, _⟩ => ?_
  rw [hw] at he h'
  refine ⟨he, X', _, h', hF.L, hF.off, ?_, ?_, ?_⟩
  · show (if 0 < S.fuse then S.fuse - 1 else S.fuse) = _
    have := hF.fuse; rw [if_pos (by omega)]; omega
  · show S.n + 1 = _; rw [hF.many]
  · show (S.C ++ [_]).length = _; rw [List.length_append, hF.C]; rfl
theorem fs_off (h : Al B w0 w p S X) (hF : FS S n n) (hn : n ≤ 50) (k : Nat) (hk : k < 4) (s : List UInt8) (hs : s.length ≤ 64) :
    Calls Try.prog 14 #[.pointer (some ⟨p, 0, none⟩), .int .i64 (k : Int), .string ⟨s.toArray⟩] w fun e w' => e = .returned (.iface 56 (.int .i64 6)) ∧ ∃ X', Al B w0 w' p { S with off := true } X' := by
  have hL : S.L.length = 4 := by rw [hF.L]; rfl
  have hc : reachC S (k : Int) = 0 := reachC_ok hF.off _ (by omega)
  have hw := write_fuse (s := s) hc (by omega) (by have := hF.fuse; omega)
  refine (aWr h k s (by have := hF.C; omega) (by have := hF.many; omega)).mono fun e w' ⟨he, ⟨X', h', _⟩, _⟩ => ?_
  rw [hw] at he h'
  exact ⟨he, X', h'⟩
theorem fs_dead (h : Al B w0 w p S X) (ho : S.off = true) (hn : S.C.length ≤ 50) (hN : S.n ≤ 50) (k : Int) (s : List UInt8) :
    Calls Try.prog 14 #[.pointer (some ⟨p, 0, none⟩), .int .i64 k, .string ⟨s.toArray⟩] w fun e w' => e = .returned (.iface 56 (.int .i64 6)) ∧ ∃ X', Al B w0 w' p S X' := by
  have hw := write_bad (k := k) s (c := 5) (reachC_off ho k)
  refine (aWr h k s (by omega) (by omega)).mono fun e w' ⟨he, ⟨X', h', _⟩, _⟩ => ?_
  rw [hw] at he h'
  exact ⟨he, X', h'⟩
theorem fs_sync (h : Al B w0 w p S X) (ho : S.off = true) :
    Calls Try.prog 16 #[.pointer (some ⟨p, 0, none⟩)] w fun e w' => e = .returned (.iface 56 (.int .i64 6)) ∧ ∃ X', Al B w0 w' p S X' := by
  have hw : S.sync = (S, 6) := by unfold Dsk.sync; rw [if_pos ho]
  refine (aSy h).mono fun e w' ⟨he, ⟨X', h', _⟩, _⟩ => ?_
  rw [hw] at he h'
  exact ⟨he, X', h'⟩
theorem aDown (h : Al B w0 w p S X) (b : Bool) (ho : S.off = b) : Calls Try.prog 24 #[.pointer (some ⟨p, 0, none⟩)] w fun e w' => e = .returned (.bool b) ∧ Al B w0 w' p S X :=
  (aQ h (pDown w B p S X h.dsk)).mono fun e w' ⟨he, h', _⟩ => ⟨by rw [he, ho], h'⟩
theorem aWrites (h : Al B w0 w p S X) (m : Nat) (ho : S.n = m) : Calls Try.prog 25 #[.pointer (some ⟨p, 0, none⟩)] w fun e w' => e = .returned (.int .i64 m) ∧ Al B w0 w' p S X :=
  (aQ h (pWrites w B p S X h.dsk)).mono fun e w' ⟨he, h', _⟩ => ⟨by rw [he, ho], h'⟩
/-- A disk as a new one: no fuse, power, nothing in the cache. -/
structure FZ (S : Dsk) : Prop where
  L : S.L = List.replicate 4 (List.replicate 64 0)
  off : S.off = false
  fuse : S.fuse = -1
  C : S.C = []
  many : S.n ≤ 50
theorem fz_cr (h : Al B w0 w p S X) (hL : S.L = List.replicate 4 (List.replicate 64 0)) (hn : S.n ≤ 50) :
    Calls Try.prog 20 #[.pointer (some ⟨p, 0, none⟩), .slice none 0 0, .int .i64 (-1), .int .i64 0] w fun e w' => e = .returned (.tuple #[]) ∧ ∃ X' S', Al B w0 w' p S' X' ∧ FZ S' :=
  (aCr h none 0 0 [] (-1) 0 (ints_nil _ _) (.inl rfl)).mono fun e w' ⟨he, ⟨X', h', _⟩, _⟩ => ⟨he, X', _, h', by show crashL _ _ _ _ _ _ = _; rw [crashL_none, hL], rfl, rfl, rfl, hn⟩
theorem fz_rd (h : Al B w0 w p S X) (hF : FZ S) :
    Calls Try.prog 22 #[.pointer (some ⟨p, 0, none⟩), .int .i64 0] w fun e w' => e = .returned (.tuple #[.string ⟨(padL []).toArray⟩, .nilIface]) ∧ Al B w0 w' p S X := by
  have hr : S.read 0 = (padL [], 0) := by
    have := Dsk.read_ok (S := S) hF.off 0 (by rw [hF.L]; decide)
    rw [hF.C, lastW_nil] at this
    simp only [hF.L] at this
    exact this
  refine (aRd h 0).mono fun e w' ⟨he, h', _⟩ => ?_
  rw [hr] at he
  exact ⟨he, h'⟩
theorem fz_wr (h : Al B w0 w p S X) (hF : FZ S) (s : List UInt8) (hs : s.length ≤ 64) :
    Calls Try.prog 14 #[.pointer (some ⟨p, 0, none⟩), .int .i64 0, .string ⟨s.toArray⟩] w fun e w' => e = .returned .nilIface ∧ ∃ X' S', Al B w0 w' p S' X' := by
  have hL : S.L.length = 4 := by rw [hF.L]; rfl
  have hc : reachC S ((0 : Nat) : Int) = 0 := reachC_ok hF.off _ (by omega)
  have hw := write_done (s := s) hc (by omega) (by rw [hF.fuse]; decide)
  refine (aWr h ((0 : Nat) : Int) s (by rw [hF.C]; decide) (by have := hF.many; omega)).mono fun e w' ⟨he, ⟨X', h', _⟩, _⟩ => ?_
  rw [hw] at he
  exact ⟨he, X', _, h'⟩
end

set_option maxHeartbeats 2000000 in
theorem fuseW (n : Int) (s : List UInt8) (w : World) (hn : -9223372036854775808 ≤ n ∧ n ≤ 9223372036854775807) (hs : (s.length : Int) ≤ 140737488351232) :
    Calls Try.prog 5 #[.int .i64 n, .string ⟨s.toArray⟩] w fun e w' => e = .returned (.bool true) ∧ Below w.heap.size w w' := by
  go_enter Try.func5, Try.ntmps5
  go_wp2_with fail
  refine (examples_any _).mono ?_
  rintro e w1 ⟨rfl, b1⟩
  go_wp2_with fail
  refine (pick_any n 51 _ hn (by decide) (by decide)).mono ?_
  rintro e w2 ⟨rfl, rfl⟩
  have hm := pkN_lt n 51 (by decide)
  generalize pkN n 51 = m at hm ⊢
  clear hn
  go_upto_region 3 with (fail)
  go_cut [1] from 14 (fun s1 wx => s1 = .string ⟨(s.take 64).toArray⟩ ∧ wx = w1)
  case first =>
    by_cases hl : s.length ≤ 64
    · have ht : s.take 64 = s := List.take_of_length_le hl
      have hl' : (s.length : Int) ≤ 64 := by omega
      have HT := Lib.hid ht
      clear ht hl
      go_wp2
      all_goals
        go_meet
        case rel => exact ⟨by rw [HT.out]; try simp, rfl⟩
    · have hl' : ¬(s.length : Int) ≤ 64 := by omega
      have hl2 : 64 < (s.length : Int) := by omega
      have hl3 : 64 ≤ s.length := by omega
      go_wp2
      all_goals
        go_meet
        case rel => exact ⟨rfl, rfl⟩
  case rest =>
    obtain ⟨rfl, hwx⟩ := hcut
    subst hwx
    have ht : (s.take 64).length ≤ 64 := by rw [List.length_take]; omega
    generalize s.take 64 = t at ht ⊢
    clear hs
    go_wp2_with fail
    refine (aNw (w0 := wc) 4 (by decide) (by decide) (Below.refl _ _)).mono ?_
    rintro e w2 ⟨p, X, rfl, h⟩
    go_wp2_with fail
    refine (aFu h (m : Int) (by omega)).mono ?_
    rintro e w3 ⟨rfl, h3, _⟩
    have HF : Hid (∃ X S, Al wc.heap.size wc w3 p S X ∧ FS S m 0) := ⟨X, _, h3, rfl, rfl, by show max (m : Int) (-1) = _; omega, rfl, rfl⟩
    clear h h3
    go_wp2_with fail
    go_loopw [8] (fun i wr => ∃ j : Nat, j ≤ m ∧ i = .int .i64 j ∧ Hid (∃ X S, Al wc.heap.size wc wr p S X ∧ FS S m j)) (fun i _ => m - (intOf i).toNat)
    case atStart => exact ⟨0, Nat.zero_le _, rfl, HF⟩
    case round =>
      obtain ⟨j, hj, rfl, hr⟩ := hrel
      obtain ⟨X1, S1, h1, hF⟩ := hr.out
      clear hr
      by_cases hlt : (j : Int) < m
      · have hjm : j < m := by omega
        have htm : (j : Int).tmod 4 = ((j % 4 : Nat) : Int) := by rw [Int.tmod_eq_emod_of_nonneg (by omega)]; rfl
        have hk4 : j % 4 < 4 := Nat.mod_lt _ (by decide)
        have hw3 : IntKind.i64.wrap ((j % 4 : Nat) : Int) = ((j % 4 : Nat) : Int) := IntWalk.i64_in _ (by omega)
        have hw2 : IntKind.i64.wrap ((j : Int) + 1) = ((j + 1 : Nat) : Int) := by rw [IntWalk.i64_in _ (by omega)]; omega
        have HW := Lib.hid (fs_wr h1 hF hjm (by omega) (j % 4) hk4 t ht)
        generalize j % 4 = k4 at htm hw3 HW
        clear hk4 h1 hF
        go_wp2_with fail
        refine HW.out.mono ?_
        rintro e w4 ⟨rfl, X2, S2, h2, hF2⟩
        have HF2 : Hid (∃ X S, Al wc.heap.size wc w4 p S X ∧ FS S m (j + 1)) := ⟨X2, S2, h2, hF2⟩
        go_wp2_with fail
        refine (aDown h2 false hF2.off).mono ?_
        rintro e w5 ⟨rfl, h5⟩
        have HF5 : Hid (∃ X S, Al wc.heap.size wc w5 p S X ∧ FS S m (j + 1)) := ⟨X2, S2, h5, hF2⟩
        clear h2 hF2 h5 HF2
        go_wp2
        go_roundw
        case rel => exact ⟨j + 1, by omega, by first | rfl | go_num, HF5⟩
        case measure => simp [intOf]; omega
      · obtain rfl : j = m := by omega
        have HL : Hid (S1.L = List.replicate 4 (List.replicate 64 0)) := hF.L
        go_wp2_with fail
        refine (fs_off h1 hF (by omega) 0 (by decide) t ht).mono ?_
        rintro e w4 ⟨rfl, X2, h2⟩
        go_wp2_with fail
        refine (fs_sync h2 rfl).mono ?_
        rintro e w5 ⟨rfl, X3, h3⟩
        go_wp2_with fail
        refine (fs_dead h3 rfl (by show S1.C.length ≤ 50; have := hF.C; omega) (by show S1.n ≤ 50; have := hF.many; omega) 1 t).mono ?_
        rintro e w6 ⟨rfl, X4, h4⟩
        clear h1 h2 h3
        go_wp2_with fail
        refine (is66 _).mono ?_
        rintro e w7 ⟨rfl, rfl⟩
        go_wp2_with fail
        refine (is66 _).mono ?_
        rintro e w7 ⟨rfl, rfl⟩
        go_wp2_with fail
        refine (is66 _).mono ?_
        rintro e w7 ⟨rfl, rfl⟩
        go_wp2_with fail
        refine (aDown h4 true rfl).mono ?_
        rintro e w7 ⟨rfl, h5⟩
        go_wp2_with fail
        refine (aWrites h5 j hF.many).mono ?_
        rintro e w8 ⟨rfl, h6⟩
        go_wp2_with fail
        refine (fz_cr h6 HL.out (by show S1.n ≤ 50; have := hF.many; omega)).mono ?_
        rintro e w9 ⟨rfl, X7, S7, h7, hZ⟩
        clear h4 h5 h6 hF
        go_wp2_with fail
        refine (fz_rd h7 hZ).mono ?_
        rintro e w10 ⟨rfl, h8⟩
        go_wp2_with fail
        refine (padded_any [] (by decide) _).mono ?_
        rintro e w11 ⟨rfl, b11⟩
        have h9 := h8.below b11
        go_wp2_with fail
        refine (aDown h9 false hZ.off).mono ?_
        rintro e w12 ⟨rfl, h10⟩
        go_wp2_with fail
        refine (fz_wr h10 hZ t ht).mono ?_
        rintro e w13 ⟨rfl, X8, S8, h11⟩
        have hB := Lib.hid (belowT b1 h11.bel)
        clear h7 h8 h9 h10 h11 b11
        go_wp2
        go_ret
        exact ⟨by simp, hB.out⟩

end Go.Proofs.Ytgppbbbpekghiaa
