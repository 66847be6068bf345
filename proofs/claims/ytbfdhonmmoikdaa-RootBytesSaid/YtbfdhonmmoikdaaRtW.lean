/- Package root: write and number, and a row of bytes in memory written over in places. -/
import Derived.Test.YtbfdhonmmoikdaaRtH
import Derived.Test.YtbfdhonmmoikdaaMid
namespace Go.Proofs.Ytbfdhonmmoikdaa
open Go.RowKit Go.Proofs Go.Proofs.Pk
set_option maxRecDepth 10000
attribute [local simp] mk_get wrap64_u8 mk_extract ByteArray.mk_append_mk get_1k

/-- Bytes written over from a place on. -/
def layB (D : List UInt8) (o : Nat) (l : List UInt8) : List UInt8 := D.take o ++ (l ++ D.drop (o + l.length))
theorem layB_length (D : List UInt8) (o : Nat) (l : List UInt8) (h : o + l.length ≤ D.length) : (layB D o l).length = D.length := by
  unfold layB; simp; omega
theorem lay_bytes (D : List UInt8) (o : Nat) (l : List UInt8) : lay (Lib.byteCells D) o (Lib.byteCells l) = Lib.byteCells (layB D o l) := by
  unfold lay layB
  rw [bc_length, Lib.byteCells_append, Lib.byteCells_append, bc_take, bc_drop]
theorem layB_nil (D : List UInt8) (o : Nat) : layB D o [] = D := by unfold layB; simp
theorem layB_set (D : List UInt8) (o : Nat) (l : List UInt8) (c : UInt8) (h : o + 1 + l.length ≤ D.length) : (layB D (o + 1) l).set o c = layB D o (c :: l) := by
  unfold layB
  have h1 : D.take (o + 1) = D.take o ++ [D[o]'(by omega)] := List.take_succ_eq_append_getElem (by omega)
  rw [h1, List.append_assoc, List.set_append_right _ _ (by rw [List.length_take]; omega)]
  rw [List.length_take, Nat.min_eq_left (by omega), Nat.sub_self]
  simp only [List.cons_append, List.nil_append, List.set_cons_zero, List.length_cons]
  rw [show o + 1 + l.length = o + (l.length + 1) from by omega]
theorem bc_set (D : List UInt8) (o : Nat) (c : UInt8) : (Lib.byteCells D).set o (.int .u8 (c.toNat : Int)) = Lib.byteCells (D.set o c) := by
  simp [Lib.byteCells, List.map_set]
theorem big_get : ∀ (m n j : Nat) (hj : j < m), (big m n)[j]'(by rw [big_length]; exact hj) = UInt8.ofNat (n / 256 ^ (m - 1 - j))
  | 0, _, _, hj => by omega
  | m + 1, n, j, hj => by
    by_cases h : j = m
    · subst h
      simp only [big]
      rw [List.getElem_append_right (by rw [big_length]; exact Nat.le_refl _)]
      simp [big_length]
    · have hjm : j < m := by omega
      simp only [big]
      rw [List.getElem_append_left (by rw [big_length]; exact hjm), big_get m (n / 256) j hjm, Nat.div_div_eq_div_mul]
      rw [show 256 * 256 ^ (m - 1 - j) = 256 ^ (m + 1 - 1 - j) from by rw [Nat.mul_comm, ← Nat.pow_succ]; congr 1; omega]

/-- A slice of a held row of bytes as a text. -/
theorem conv_held (w : World) (g cap N : Nat) (e : TypeId) (D : List UInt8) (h : Holds w g (Lib.byteCells D) e) (hN : N ≤ D.length) :
    (convert 50 9 (.slice (some ⟨g, 0, none⟩) N cap)).run Try.prog w = .ok (.string ⟨(D.take N).toArray⟩) w := by
  have hl : (D.take N).length = N := by rw [List.length_take]; omega
  have := run_convert_bytes_arg (P := Try.prog) w 50 5 Try.underlying50 Try.underlying5 g 0 N cap ((D.take N).map fun c => (c.toNat : Int)) (by simp; omega) (fun i hi => by
    have hiT : i < D.length := by omega
    have := h.cell i (.int .u8 ((D[i]).toNat)) (by simp [Lib.byteCells, hiT])
    simpa [hiT, hi, List.getD, List.getElem?_take] using this) 9 Try.underlying9
  rw [str_nums] at this
  exact this

theorem pNumber (l : List UInt8) (w : World) (hl : l.length ≤ 7) :
    Calls Try.prog 30 #[.string ⟨l.toArray⟩] w fun e w' => e = .returned (.int .i64 (val l : Nat)) ∧ w' = w := by
  have HL : Hid (l.length ≤ 7) := hl
  have hli : (l.length : Int) ≤ 7 := by omega
  clear hl
  go_enter Try.func30, Try.ntmps30
  go_wp2
  go_loop [3, 7] (fun n i => ∃ k : Nat, (k : Int) ≤ l.length ∧ n = .int .i64 (val (l.take k)) ∧ i = .int .i64 k) (fun _ i => l.length - (intOf i).toNat)
  case atStart => exact ⟨0, by omega, rfl, rfl⟩
  case round =>
    obtain ⟨k, hk, rfl, rfl⟩ := hrel
    by_cases hlt : (k : Int) < l.length
    · have hkl : k < l.length := by omega
      go_wp2
      go_round
      case rel => exact ⟨k + 1, by omega, by rw [val_take l k hkl]; exact congrArg _ (or_byte _ _ (val6 l k (by have := HL.out; omega))), by go_num⟩
      case measure => simp [intOf]; omega
    · have hkc : k = l.length := by omega
      subst hkc
      go_wp2
      go_ret
      exact ⟨rfl, rfl⟩

set_option maxHeartbeats 1000000 in
theorem pWrite (g o m cap n : Nat) (D : List UInt8) (e : TypeId) (w : World) (h : Holds w g (Lib.byteCells D) e) (hm : m ≤ 7) (ho : o + m ≤ D.length) (hD : D.length ≤ 4096) (hn : n < 72057594037927936) :
    Calls Try.prog 29 #[.slice (some ⟨g, o, none⟩) m cap, .int .i64 (n : Int)] w fun e' w' => e' = .returned (.tuple #[]) ∧ Holds w' g (Lib.byteCells (layB D o (big m n))) e ∧ Kept (fun k => k = g) w w' := by
  have HM : Hid (m ≤ 7 ∧ o + m ≤ D.length ∧ D.length ≤ 4096 ∧ n < 72057594037927936) := ⟨hm, ho, hD, hn⟩
  have hm1 : (m : Int) ≤ 7 := by omega
  have H0 : Hid (Holds w g (Lib.byteCells (layB D (o + m) ((big m n).drop m))) e) := by
    show Holds _ _ _ _
    rw [List.drop_eq_nil_of_le (by rw [big_length]; exact Nat.le_refl _), layB_nil]; exact h
  clear h ho hD hm hn
  go_enter Try.func29, Try.ntmps29
  go_wp2
  obtain ⟨wq, hwq⟩ : ∃ wq, wq = w := ⟨_, rfl⟩
  have HS : Hid (Kept (fun k => k = g) w wq) := by rw [hwq]; exact Kept.refl _ _
  have H1 : Hid (Holds wq g (Lib.byteCells (layB D (o + m) ((big m n).drop m))) e) := by rw [hwq]; exact H0
  rw [← hwq]
  clear hwq H0
  go_loopw [1, 4] (fun x i wr => ∃ (j : Nat) (q : Nat), j ≤ m ∧ q = n / 256 ^ (m - j) ∧ x = .int .i64 (q : Int) ∧ i = .int .i64 ((j : Int) - 1) ∧ Hid (Holds wr g (Lib.byteCells (layB D (o + j) ((big m n).drop j))) e) ∧ Hid (Kept (fun k => k = g) w wr)) (fun _ i _ => (intOf i + 1).toNat)
  case atStart => exact ⟨m, n, Nat.le_refl _, by rw [Nat.sub_self]; simp, rfl, by go_num, H1, HS⟩
  case round =>
    obtain ⟨j, q, hj, hq, rfl, rfl, hh, hk⟩ := hrel
    cases j with
    | zero =>
      clear hq
      have hh2 := hh.out
      rw [Nat.add_zero, List.drop_zero] at hh2
      have HH := Lib.hid hh2
      clear hh hh2
      go_wp2
      go_end0
      exact ⟨rfl, HH.out, hk.out⟩
    | succ J =>
      have hmm := HM.out
      have hJl : J < (big m n).length := by rw [big_length]; omega
      have hdrop : (big m n).drop J = (big m n)[J] :: (big m n).drop (J + 1) := List.drop_eq_getElem_cons hJl
      have hbg := big_get m n J (by omega)
      rw [show m - 1 - J = m - (J + 1) from by omega, ← hq] at hbg
      have hset := layB_set D (o + J) ((big m n).drop (J + 1)) ((big m n)[J]) (by rw [List.length_drop, big_length]; omega)
      rw [← hdrop, hbg] at hset
      have hq2 : q / 256 = n / 256 ^ (m - J) := by
        rw [hq, Nat.div_div_eq_div_mul, ← Nat.pow_succ]; congr 2; omega
      have hqn : q < 72057594037927936 := by rw [hq]; exact Nat.lt_of_le_of_lt (Nat.div_le_self _ _) hmm.2.2.2
      have hlen : (layB D (o + (J + 1)) ((big m n).drop (J + 1))).length = D.length := layB_length _ _ _ (by rw [List.length_drop, big_length]; omega)
      obtain ⟨E, hE⟩ : ∃ E, E = layB D (o + (J + 1)) ((big m n).drop (J + 1)) := ⟨_, rfl⟩
      rw [← Nat.add_assoc] at hE
      rw [← hE] at hset
      have hh2 := hh.out
      rw [← Nat.add_assoc] at hh2 hlen
      rw [← hE] at hh2 hlen
      have hc : wr.cell? ⟨g, o + J, none⟩ = some (.int .u8 ((E[o + J]'(by omega)).toNat : Int)) := hh2.cell _ _ (by unfold Lib.byteCells; rw [List.getElem?_map, List.getElem?_eq_getElem (by omega)]; rfl)
      have hf : wr.frozen? ⟨g, o + J, none⟩ = false := hh2.free _
      have hwu : IntKind.u8.wrap (q : Int) = ((UInt8.ofNat q).toNat : Int) := u8_wrap q
      have hi1 : IntKind.i64.wrap ((J : Int) - 1) = (J : Int) - 1 := IntWalk.i64_in _ (by omega)
      have e1 : ((J + 1 : Nat) : Int) - 1 = (J : Int) := by omega
      have hJ0 : (0 : Int) ≤ (J : Int) := Int.natCast_nonneg _
      have hJm : (J : Int) < (m : Int) := by omega
      have H2 : Hid (Holds (wr.setCell ⟨g, o + J, none⟩ (.int .u8 ((UInt8.ofNat q).toNat : Int))) g (Lib.byteCells (layB D (o + J) ((big m n).drop J))) e) := by
        show Holds _ _ _ _
        rw [← hset, ← bc_set]
        exact hh2.set (o + J) _
      have K2 : Hid (Kept (fun k => k = g) w (wr.setCell ⟨g, o + J, none⟩ (.int .u8 ((UInt8.ofNat q).toNat : Int)))) := hk.out.setCell rfl _
      have HQ2 := Lib.hid hq2
      rw [e1]
      generalize (E[o + J]'(by omega)).toNat = z at hc
      clear hh hh2 hset hlen hE hdrop hbg hq hq2 hk hmm hJl
      go_wp2
      go_roundw
      case rel => exact ⟨J, q / 256, by omega, HQ2.out, by first | rfl | (congr 1; simp) , by go_num, H2, K2⟩
      case measure => simp [intOf]

end Go.Proofs.Ytbfdhonmmoikdaa
