/- The reference's Num: what it returns. -/
import Derived.Test.YtgjblcjoglaldaaProg
import Derived.Test.YtgjblcjoglaldaaGen
namespace Go.Proofs.Ytgjblcjoglaldaa
open Go.RowKit Go.Proofs Go.Proofs.Pk
set_option maxRecDepth 10000
attribute [local simp] mk_get wrap64_u8 mk_extract ByteArray.mk_append_mk get_1k

theorem info5 : (Try.prog.info? 5).map (fun i => (i.zero, i.size, i.bytes)) = some (some (.int .u8 0), 1, 1) := by kernel_rfl

/-- What has been gathered of n: m is left, the bytes l stand, the least first. -/
def Got (n m : Nat) (l : List UInt8) : Prop := nb n = nb m + l.length ∧ big (nb n) n = big (nb m) m ++ l.reverse ∧ m ≤ n

theorem Got.start (n : Nat) : Got n n [] := ⟨by simp, by simp, Nat.le_refl _⟩

theorem Got.step {n m : Nat} {l : List UInt8} (h : Got n m l) (h0 : m ≠ 0) (hn : n ≤ MaxN) : Got n (m / 256) (l ++ [UInt8.ofNat m]) := by
  obtain ⟨a, b, c⟩ := h
  have e := nb_div m h0 (Nat.le_trans c hn)
  refine ⟨by rw [a, e]; simp; omega, ?_, by omega⟩
  rw [b, e, big, List.reverse_append]
  simp

theorem Got.stop {n : Nat} {l : List UInt8} (h : Got n 0 l) : numL n = UInt8.ofNat l.length :: l.reverse := by
  obtain ⟨a, b, _⟩ := h
  have e : nb 0 = 0 := rfl
  rw [numL, b, a, e]
  simp [big]

/-- What stands in the second list when j digits are still to be put there. -/
def Put (l : List UInt8) (j : Nat) (T : List UInt8) : Prop := T = UInt8.ofNat l.length :: (l.drop j).reverse

theorem Put.step {l T : List UInt8} {k : Nat} (h : Put l (k + 1) T) (hk : k < l.length) : Put l k (T ++ [l[k]]) := by
  unfold Put at *
  rw [h, List.drop_eq_getElem_cons hk, List.reverse_cons]
  simp

theorem Put.len {l T : List UInt8} {j : Nat} (h : Put l j T) : T.length ≤ l.length + 1 := by
  rw [h]; simp

theorem start_owns (wr : World) (k : Nat) (hk : k < 256) : (wr.alloc (.cells #[.int .u8 (k : Int)] 5)).ownsRow wr.heap.size 5 1 (.slice (some ⟨wr.heap.size, 0, none⟩) 1 1) [UInt8.ofNat k].length (Lib.byteCells [UInt8.ofNat k]) :=
  ⟨by simp [Lib.byteCells], .inr ⟨wr.heap.size, 1, #[.int .u8 (k : Int)], rfl, Nat.le_refl _, heap_alloc_new wr _, by simp, by decide, rfl, by
    have e : ((UInt8.ofNat k).toNat : Int) = k := by rw [ofNat_int]; omega
    simp [Lib.byteCells]; omega⟩⟩

theorem conv_own (w : World) (B g cap : Nat) (T : List UInt8) (N : Nat) (hN : N = T.length) (h : w.ownsRow B 5 1 (.slice (some ⟨g, 0, none⟩) N cap) N (Lib.byteCells T)) :
    (convert 52 9 (.slice (some ⟨g, 0, none⟩) N cap)).run Try.prog w = .ok (.string ⟨T.toArray⟩) w := by
  have hc := h.cells rfl
  have := run_convert_bytes_arg (P := Try.prog) w 52 5 Try.underlying52 Try.underlying5 g 0 N cap (T.map fun c => (c.toNat : Int)) (by simp [hN]) (fun i hi => by
    have hiT : i < T.length := by omega
    have := hc i (.int .u8 ((T[i]).toNat)) (by simp [Lib.byteCells, hiT])
    rw [add0] at this
    simpa [hiT, List.getD] using this) 9 Try.underlying9
  rw [str_nums] at this
  exact this

set_option maxRecDepth 10000 in
set_option maxHeartbeats 1000000 in
theorem rNum_pos (n : Nat) (w : World) (h0 : 0 < (n : Int)) (hn : (n : Int) ≤ 9007199254740991) :
    Calls Try.prog 40 #[.int .i64 n] w (R2 w (.string ⟨(numL n).toArray⟩) (.bool true)) := by
  have HN : Hid (n ≤ MaxN) := by show n ≤ MaxN; unfold MaxN; omega
  obtain ⟨i0, hi, hz0, hz1, hz2⟩ := info_parts info5
  go_enter Try.func40, Try.ntmps40
  go_wp2
  go_loopw [0, 4] (fun x v wr => ∃ (m : Nat) (l : List UInt8), x = .int .i64 m ∧ Got n m l ∧ l.length ≤ 7 ∧ wr.ownsRow w.heap.size 5 1 v l.length (Lib.byteCells l) ∧ Below w.heap.size w wr)
    (fun x _ _ => (intOf x).toNat)
  case atStart => exact ⟨n, [], rfl, Got.start n, by simp, World.ownsRow_nil _ _ _ _, Below.refl _ _⟩
  case round =>
    obtain ⟨m, l, rfl, hg, hl7, hown, hbel⟩ := hrel
    by_cases hm : 0 < (m : Int)
    · have hmn : (m : Int) ≤ n := by have := hg.2.2; omega
      have HG := Lib.hid hg
      clear hg
      go_wp2_with (at_builtin; refine wpList_append_own _ rfl (.tmp 15) (.tmp 19) 52 rfl w.heap.size 5 i0 (.int .u8 0) 1 1 Try.underlying52 hi hz0 hz1 hz2 rfl (by decide) _ _ _ rfl (hown.alloc _) ⟨wr.heap.size, 0, none⟩ 1 1 [.int .u8 ((m : Int) % 256)] rfl rfl ?c1 ?c2 ?c3 ?c4 ?c5 ?_)
      case c1 =>
        intro j u hj
        match j, hj with
        | 0, hj => simp at hj; subst hj; simp [Addr.add]
      case c2 => intro u hu; simp at hu; subst hu; rfl
      case c3 => unfold maxLen; omega
      case c4 => omega
      case c5 => have := hbel.size; simp; omega
      · intro v' w1 hown' hgrow _
        have R : Hid (Got n (m / 256) (l ++ [UInt8.ofNat m])) := HG.out.step (by omega) HN.out
        have hb1 : Below w.heap.size w w1 := (hbel.alloc hbel.size _).grown hgrow (by simp; have := hbel.size; omega) (fun k hk => (hown.lt k hk).1)
        have ho : Hid (w1.ownsRow w.heap.size 5 1 v' (l ++ [UInt8.ofNat m]).length (Lib.byteCells (l ++ [UInt8.ofNat m]))) := by
          show w1.ownsRow w.heap.size 5 1 v' (l ++ [UInt8.ofNat m]).length (Lib.byteCells (l ++ [UInt8.ofNat m]))
          rw [byteCells_snoc1 l (UInt8.ofNat m) ((m : Int) % 256) (by have := ofNat_int m; omega), List.length_append]
          exact hown'
        clear hown' hgrow hown
        go_wp2
        go_roundw
        case rel => exact ⟨m / 256, l ++ [UInt8.ofNat m], by go_num, R.out, by have := R.out.1; have := nb_le n; omega, ho.out, hb1⟩
        case measure => simp [intOf]; omega
    · obtain rfl : m = 0 := by omega
      have hl1 : 0 < l.length := by
        have := hg.1
        have e : nb 0 = 0 := rfl
        have : nb n ≠ 0 := fun h => by have := nb_zero h; omega
        omega
      have HS : Hid (numL n = UInt8.ofNat l.length :: l.reverse) := hg.stop
      clear hg
      rcases hown.2 with ⟨_, hbad⟩ | ⟨g, cap, cur, hv, hBg, hgg, hlc, _⟩
      · omega
      subst hv
      have hcells := hown.cells rfl
      have hgl : g < wr.heap.size := (hown.lt g rfl).2
      clear hown hgg
      go_wp2
      obtain ⟨wA, hwA⟩ : ∃ wA, wA = wr := ⟨_, rfl⟩
      subst hwA
      go_loopw [5, 6] (fun o i w2 => ∃ (j : Nat) (T : List UInt8), j ≤ l.length ∧ i = .int .i64 ((j : Int) - 1) ∧ Hid (Put l j T) ∧ w2.ownsRow wA.heap.size 5 1 o T.length (Lib.byteCells T) ∧ Below wA.heap.size wA w2)
        (fun _ i _ => (intOf i + 1).toNat)
      case atStart => exact ⟨l.length, [UInt8.ofNat l.length], Nat.le_refl _, rfl, by show Put _ _ _; simp [Put], start_owns wA l.length (by omega), (Below.refl _ _).alloc (Nat.le_refl _) _⟩
      case round =>
        obtain ⟨j, T, hj, rfl, hP, ho, hb2⟩ := hrel
        have hT : T.length ≤ 8 := by have := hP.len; omega
        cases j with
        | zero =>
          rw [show (((0 : Nat) : Int) - 1) = -1 from rfl]
          have hTn : Hid (T = numL n) := by
            show T = numL n
            rw [HS.out]; exact hP
          clear hP
          rcases ho.2 with ⟨_, hbad⟩ | ⟨g2, cap2, cur2, hv, hBg2, hgg2, hlc2, _⟩
          · exfalso
            have := congrArg List.length hTn.out
            have := numL_length n
            omega
          subst hv
          obtain ⟨N, hN⟩ : ∃ N, N = T.length := ⟨_, rfl⟩
          have hconv := conv_own wr wA.heap.size g2 cap2 T T.length rfl ho
          clear hN hcells ho hgg2
          go_wp2
          go_ret2
          exact R2.mk (by rw [hTn.out]; rfl) rfl (hbel.trans (hb2.mono hbel.size))
        | succ k =>
          rw [show (((k + 1 : Nat) : Int) - 1) = (k : Int) from by omega]
          have hk : k < l.length := by omega
          have hc : wr.cell? ⟨g, k, none⟩ = some (.int .u8 ((l[k]).toNat)) := by
            have := hcells k (.int .u8 ((l[k]).toNat)) (by simp [Lib.byteCells, hk])
            rw [add0] at this
            rw [hb2.cell (p := ⟨g, k, none⟩) hgl]
            exact this
          have HC := Lib.hid hcells
          have HP : Hid (Put l k (T ++ [l[k]])) := hP.step hk
          clear hcells hP
          have hkl : (k : Int) < l.length := by omega
          go_wp2_with (at_builtin; refine wpList_append_own _ rfl (.tmp 34) (.tmp 39) 52 rfl wA.heap.size 5 i0 (.int .u8 0) 1 1 Try.underlying52 hi hz0 hz1 hz2 rfl (by decide) _ _ _ rfl (ho.alloc _) ⟨wr.heap.size, 0, none⟩ 1 1 [.int .u8 ((l[k]).toNat)] rfl rfl ?d1 ?d2 ?d3 ?d4 ?d5 ?_)
          case d1 =>
            intro j u hj
            match j, hj with
            | 0, hj => simp at hj; subst hj; simp [Addr.add]
          case d2 => intro u hu; simp at hu; subst hu; rfl
          case d3 => unfold maxLen; omega
          case d4 => omega
          case d5 => have := hb2.size; simp; omega
          · intro v' w1 hown' hgrow _
            have hb1 : Below wA.heap.size wA w1 := (hb2.alloc hb2.size _).grown hgrow (by simp; have := hb2.size; omega) (fun k hk => (ho.lt k hk).1)
            have ho' : Hid (w1.ownsRow wA.heap.size 5 1 v' (T ++ [l[k]]).length (Lib.byteCells (T ++ [l[k]]))) := by
              show w1.ownsRow wA.heap.size 5 1 v' (T ++ [l[k]]).length (Lib.byteCells (T ++ [l[k]]))
              rw [byteCells_snoc1 T (l[k]) _ rfl, List.length_append]
              exact hown'
            clear hown' hgrow ho
            go_wp2
            go_roundw
            case rel => exact ⟨k, T ++ [l[k]], by omega, rfl, HP, ho'.out, hb1⟩
            case measure => simp [intOf]

set_option maxHeartbeats 400000 in
theorem rNum_neg (n : Int) (w : World) (hn : n < 0) :
    Calls Try.prog 40 #[.int .i64 n] w (R2 w (.string ⟨#[]⟩) (.bool false)) := by
  go_enter Try.func40, Try.ntmps40
  go_wp2
  go_ret2
  exact R2.mk rfl rfl (Below.refl _ _)

set_option maxHeartbeats 400000 in
theorem rNum_big (n : Int) (w : World) (hn : 9007199254740991 < n) :
    Calls Try.prog 40 #[.int .i64 n] w (R2 w (.string ⟨#[]⟩) (.bool false)) := by
  go_enter Try.func40, Try.ntmps40
  go_wp2
  go_ret2
  exact R2.mk rfl rfl (Below.refl _ _)

set_option maxHeartbeats 400000 in
theorem rNum_0 (w : World) :
    Calls Try.prog 40 #[.int .i64 0] w (R2 w (.string ⟨#[0]⟩) (.bool true)) := by
  have hconv : (convert 52 9 (.slice (some ⟨w.heap.size, 0, none⟩) 1 1)).run Try.prog (w.alloc (.cells #[.int .u8 0] 5)) = .ok (.string ⟨#[0]⟩) (w.alloc (.cells #[.int .u8 0] 5)) := conv_own _ w.heap.size w.heap.size 1 [UInt8.ofNat 0] 1 rfl (start_owns w 0 (by omega))
  go_enter Try.func40, Try.ntmps40
  go_wp2
  refine wp_loop_rounds 1 ?_
  rw [rounds_succ]
  go_wp2
  refine wp_loop_rounds 1 ?_
  rw [rounds_succ]
  go_wp2
  go_ret2
  exact R2.mk rfl rfl ((Below.refl _ _).alloc (Nat.le_refl _) _)

/-- The reference writes a number as the chapter says. -/
theorem rNum_ok (n : Nat) (w : World) (hn : n ≤ MaxN) :
    Calls Try.prog 40 #[.int .i64 n] w (R2 w (.string ⟨(numL n).toArray⟩) (.bool true)) := by
  by_cases h0 : n = 0
  · subst h0; exact rNum_0 w
  · exact rNum_pos n w (by omega) (by unfold MaxN at hn; omega)

end Go.Proofs.Ytgjblcjoglaldaa
