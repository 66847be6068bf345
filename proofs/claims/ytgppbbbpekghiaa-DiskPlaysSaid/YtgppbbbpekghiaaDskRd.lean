/- The reference's Read: what it returns. -/
import Derived.Test.YtgppbbbpekghiaaDskR
import Derived.Deep.QuietTactic
import Derived.BigQuiet
namespace Go.Proofs.Ytgppbbbpekghiaa
open Go.RowKit Go.Proofs Go.Proofs.Pk
attribute [local simp] mk_get wrap64_u8 mk_extract ByteArray.mk_append_mk get_1k

/-- Two results, and the world is as it was but for draws. -/
def Q2 (w : World) (x y : Value) (e : Ending) (w' : World) : Prop := e = .returned (.tuple #[x, y]) ∧ ∃ m, w' = w.drewN m
theorem Q2.mk {w : World} {x y x' y' : Value} (hx : x' = x) (hy : y' = y) (m : Nat) : Q2 w x y (.returned (.tuple #[x', y'])) (w.drewN m) := by
  subst hx hy; exact ⟨rfl, m, rfl⟩
theorem Q2.mk0 {w : World} {x y x' y' : Value} (hx : x' = x) (hy : y' = y) : Q2 w x y (.returned (.tuple #[x', y'])) w := by
  subst hx hy; exact ⟨rfl, 0, rfl⟩

theorem flatC_length (C : List (Nat × List UInt8)) : (flatC C).length = 2 * C.length := by
  induction C with
  | nil => rfl
  | cons x C ih =>
    have e : flatC (x :: C) = .int .i64 (x.1 : Int) :: .string ⟨x.2.toArray⟩ :: flatC C := rfl
    rw [e, List.length_cons, List.length_cons, ih, List.length_cons]; omega
theorem flatC_get0 : ∀ (C : List (Nat × List UInt8)) (j : Nat) (h : j < C.length), (flatC C)[2 * j]? = some (.int .i64 ((C[j]).1 : Int))
  | x :: C, 0, _ => by simp [flatC]
  | x :: C, j + 1, h => by
    rw [show 2 * (j + 1) = 2 * j + 2 from by omega]
    have := flatC_get0 C j (by simpa using h)
    simpa [flatC] using this
theorem flatC_get1 : ∀ (C : List (Nat × List UInt8)) (j : Nat) (h : j < C.length), (flatC C)[2 * j + 1]? = some (.string ⟨(C[j]).2.toArray⟩)
  | x :: C, 0, _ => by simp [flatC]
  | x :: C, j + 1, h => by
    rw [show 2 * (j + 1) + 1 = 2 * j + 1 + 2 from by omega]
    have := flatC_get1 C j (by simpa using h)
    simpa [flatC] using this

set_option maxHeartbeats 400000 in
theorem rRd_off (k : Int) (w : World) (B p : Nat) (S : Dsk) (X : Nat → Prop) (h : RefD w B p S X) (ho : S.off = true) :
    Calls Try.prog 23 #[.pointer (some ⟨p, 0, none⟩), .int .i64 k] w (Q2 w (.string ⟨#[]⟩) (.int .i64 6)) := by
  obtain ⟨vL, vC, h⟩ := h
  have c3 := h.obj.cell 3 _ rfl
  rw [ho] at c3
  clear h ho
  go_enter Try.func23, Try.ntmps23
  go_wp2
  go_ret2
  exact Q2.mk0 rfl rfl

set_option maxHeartbeats 400000 in
theorem rRd_arg (k : Int) (w : World) (B p : Nat) (S : Dsk) (X : Nat → Prop) (h : RefD w B p S X) (ho : S.off = false) (hk : k < 0 ∨ (S.L.length : Int) ≤ k) :
    Calls Try.prog 23 #[.pointer (some ⟨p, 0, none⟩), .int .i64 k] w (Q2 w (.string ⟨#[]⟩) (.int .i64 1)) := by
  obtain ⟨vL, vC, h⟩ := h
  have c3 := h.obj.cell 3 _ rfl
  have c0 := h.obj.cell 0 _ rfl
  rw [ho] at c3
  obtain ⟨ad, cap, hv⟩ : ∃ ad cap, vL = .slice ad S.L.length cap := by
    rcases h.last.2 with ⟨hv, h0⟩ | ⟨g, cap, cur, hv, _⟩
    · exact ⟨none, 0, by rw [hv, h0]⟩
    · exact ⟨_, _, hv⟩
  rw [hv] at c0
  clear h ho hv
  by_cases hneg : k < 0
  · have h1 : decide (k < 0) = true := by simpa using hneg
    clear hk hneg
    go_enter Try.func23, Try.ntmps23
    go_wp2
    all_goals
      go_ret2
      exact Q2.mk0 rfl rfl
  · have h1 : decide (k < 0) = false := by simpa using hneg
    have h2 : (S.L.length : Int) ≤ k := by omega
    clear hk
    go_enter Try.func23, Try.ntmps23
    go_wp2
    all_goals
      go_ret2
      exact Q2.mk0 rfl rfl

set_option maxRecDepth 100000 in
set_option maxHeartbeats 1000000 in
theorem rRd_ok (k : Nat) (w : World) (B p : Nat) (S : Dsk) (X : Nat → Prop) (h : RefD w B p S X) (hS : S.Ok) (ho : S.off = false) (hk : k < S.L.length) :
    Calls Try.prog 23 #[.pointer (some ⟨p, 0, none⟩), .int .i64 (k : Int)] w (Q2 w (.string ⟨((lastW S.C k).getD (S.L[k])).toArray⟩) (.int .i64 0)) := by
  obtain ⟨vL, vC, h⟩ := h
  have c3 := h.obj.cell 3 _ rfl
  have c0 := h.obj.cell 0 _ rfl
  have c1 := h.obj.cell 1 _ rfl
  rw [ho] at c3
  obtain ⟨gL, capL, hv⟩ : ∃ gL capL, vL = .slice (some ⟨gL, 0, none⟩) S.L.length capL := by
    rcases h.last.2 with ⟨hv, h0⟩ | ⟨g, cap, cur, hv, _⟩
    · omega
    · exact ⟨_, _, hv⟩
  subst hv
  have cL : w.cell? ⟨gL, k, none⟩ = some (.string ⟨(S.L[k]).toArray⟩) := by
    rw [h.last.cellAt k (by omega)]; simp [strV, hk]
  obtain ⟨ad, capC, hv⟩ : ∃ ad capC, vC = .slice ad S.C.length capC := by
    rcases h.cache.2 with ⟨hv, h0⟩ | ⟨g, cap, cur, hv, _⟩
    · exact ⟨none, 0, by rw [hv, h0]⟩
    · exact ⟨_, _, hv⟩
  subst hv
  have hk4 : (k : Int) < 4000 := by have := hS.few; omega
  have hkL : (k : Int) < S.L.length := by omega
  have h1 : decide ((k : Int) < 0) = false := by rw [decide_eq_false_iff_not]; omega
  have HCa := Lib.hid h.cache
  have HOk := Lib.hid hS.cach
  clear h hS ho
  generalize hx : S.L[k] = x at cL ⊢
  clear hx
  obtain ⟨nL, hnL⟩ : ∃ n, n = S.L.length := ⟨_, rfl⟩
  rw [← hnL] at c0 hkL
  clear hk hnL
  generalize S.C = C at c1 HCa HOk ⊢
  have hCl : (C.length : Int) ≤ 9223372036854775807 := by
    rcases HCa.out.2 with ⟨_, h0⟩ | ⟨g, cap, cur, _, _, _, h1, h2, _⟩
    · omega
    · unfold maxLen at h2; omega
  go_enter Try.func23, Try.ntmps23
  go_wp2
  go_loop [6] (fun i => ∃ j : Nat, j ≤ C.length ∧ i = .int .i64 ((j : Int) - 1) ∧ Hid (lastW C k = lastW (C.take j) k)) (fun i => (intOf i + 1).toNat)
  case atStart => exact ⟨C.length, Nat.le_refl _, by go_num, by show lastW C k = _; rw [List.take_length]⟩
  case round =>
    obtain ⟨j, hj, rfl, hl⟩ := hrel
    cases j with
    | zero =>
      have hn : Hid (lastW C k = none) := hl.out
      rw [show (((0 : Nat) : Int) - 1) = -1 from rfl]
      clear hl
      go_wp2
      go_ret2
      exact Q2.mk0 (by rw [hn.out]; rfl) rfl
    | succ j =>
      rw [show (((j + 1 : Nat) : Int) - 1) = (j : Int) from by omega]
      have hjC : j < C.length := by omega
      rcases HCa.out.2 with ⟨_, hbad⟩ | ⟨gC, cap', cur', hv, _⟩
      · omega
      injection hv with hv1 hv2 hv3
      subst hv1
      have e0 : w.cell? ⟨gC, j * 2, none⟩ = some (.int .i64 ((C[j]).1 : Int)) := by
        rw [Nat.mul_comm, HCa.out.cellAt (2 * j) (by omega)]; exact flatC_get0 C j hjC
      have e1 : w.cell? ⟨gC, j * 2 + 1, none⟩ = some (.string ⟨(C[j]).2.toArray⟩) := by
        rw [Nat.mul_comm, HCa.out.cellAt (2 * j + 1) (by omega)]; exact flatC_get1 C j hjC
      have hs := hl.out
      rw [lastW_take C j hjC] at hs
      have HS := Lib.hid hs
      generalize hy : C[j] = y at e0 e1 HS
      obtain ⟨a, b⟩ := y
      simp only [] at e0 e1 HS
      have hjl : (j : Int) < C.length := by omega
      clear hs hl hy hj hjC hv3
      by_cases hak : a = k
      · subst hak
        have HR : Hid (lastW C a = some b) := by show lastW C a = some b; have := HS.out; rwa [if_pos rfl] at this
        clear HS
        go_wp2
        go_ret2
        exact Q2.mk0 (by rw [HR.out]; rfl) rfl
      · have hne : ((a : Int) == (k : Int)) = false := by rw [beq_eq_false_iff_ne]; omega
        have HR : Hid (lastW C k = lastW (C.take j) k) := by show lastW C k = _; have := HS.out; rwa [if_neg hak] at this
        clear HS
        go_wp2
        go_round
        case rel => exact ⟨j, by omega, rfl, HR⟩
        case measure => simp [intOf]

/-- Read answers as the chapter says, and changes nothing. -/
theorem rRd (k : Int) (w : World) (B p : Nat) (S : Dsk) (X : Nat → Prop) (h : RefD w B p S X) (hS : S.Ok) :
    Calls Try.prog 23 #[.pointer (some ⟨p, 0, none⟩), .int .i64 k] w (Q2 w (.string ⟨(S.read k).1.toArray⟩) (.int .i64 (S.read k).2)) := by
  cases ho : S.off with
  | true => rw [Dsk.read_off ho]; exact rRd_off k w B p S X h ho
  | false =>
    by_cases hk : k < 0 ∨ (S.L.length : Int) ≤ k
    · rw [Dsk.read_arg ho k hk]; exact rRd_arg k w B p S X h ho hk
    · obtain ⟨n, rfl⟩ := Int.eq_ofNat_of_zero_le (show 0 ≤ k by omega)
      rw [Dsk.read_ok ho n (by omega)]
      exact rRd_ok n w B p S X h hS ho (by omega)

end Go.Proofs.Ytgppbbbpekghiaa
