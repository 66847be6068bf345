/- The law FrameTakes, walked (bytes of at most 2^40: what is read of them is a list in memory). -/
import Derived.Test.YtaiklhcgimpajaaEx3
import Derived.Test.YtaiklhcgimpajaaAllR
import Derived.Deep.QuietTactic
import Derived.BigQuiet
namespace Go.Proofs.Ytaiklhcgimpajaa
open Go.RowKit Go.Proofs Go.Proofs.Pk
attribute [local simp] mk_get wrap64_u8 mk_extract ByteArray.mk_append_mk get_1k

/-- The cells from m on are the texts as they were. -/
def Rest (T : List (List UInt8)) (m : Nat) (X : List Value) : Prop := X.drop m = (T.map strV).drop m

theorem Rest.start (T : List (List UInt8)) : Rest T 0 (T.map strV) := rfl

theorem Rest.at {T : List (List UInt8)} {m : Nat} {X : List Value} (h : Rest T m X) (hm : m < T.length) (hX : m < X.length) : X[m] = .string ⟨(T[m]).toArray⟩ := by
  have e := congrArg (fun l : List Value => l[0]?) h
  simp only [List.getElem?_drop, Nat.add_zero] at e
  rw [List.getElem?_eq_getElem hX, List.getElem?_map, List.getElem?_eq_getElem hm] at e
  exact Option.some.inj e

theorem Rest.step {T : List (List UInt8)} {m : Nat} {X : List Value} (h : Rest T m X) (v : Value) : Rest T (m + 1) (X.set m v) := by
  unfold Rest at *
  rw [List.drop_set, if_pos (by omega), ← List.drop_drop, ← List.drop_drop, h]

set_option maxRecDepth 100000 in
set_option maxHeartbeats 2000000 in
theorem takes_main (b x y : List UInt8) (E G : Value) (c d : Int) (T : List (List UInt8)) (n : Int) (w : World) (hTl : (T.length : Int) ≤ 4398046511104)
    (h1 : ∀ w, Calls Try.prog 15 #[.string ⟨b.toArray⟩] w (R3 w (.string ⟨x.toArray⟩) (.string ⟨y.toArray⟩) E))
    (h2 : ∀ w, Calls Try.prog 16 #[.string ⟨b.toArray⟩] w (R3 w (.string ⟨x.toArray⟩) (.string ⟨y.toArray⟩) (.int .i64 c)))
    (h3 : ∀ w, Calls Try.prog 14 #[E, .int .i64 c] w fun e w' => e = .returned (.bool true) ∧ w = w')
    (h4 : ∀ w, Calls Try.prog 17 #[.string ⟨b.toArray⟩] w (RR3 w T (.int .i64 n) (.int .i64 d)))
    (h5 : ∀ w, Calls Try.prog 18 #[.string ⟨b.toArray⟩] w (RR3 w T (.int .i64 n) G))
    (h6 : ∀ w, Calls Try.prog 14 #[G, .int .i64 d] w fun e w' => e = .returned (.bool true) ∧ w = w') :
    Calls Try.prog 4 #[.string ⟨b.toArray⟩] w fun e w' => e = .returned (.bool true) ∧ Below w.heap.size w w' := by
  have H1 := Lib.hid h1; clear h1
  have H2 := Lib.hid h2; clear h2
  have H3 := Lib.hid h3; clear h3
  have H4 := Lib.hid h4; clear h4
  have H5 := Lib.hid h5; clear h5
  have H6 := Lib.hid h6; clear h6
  go_enter Try.func4, Try.ntmps4
  go_wp2_with fail
  refine (examples_any _).mono ?_
  rintro e w1 ⟨rfl, b1⟩
  go_wp2_with fail
  refine (H1.out _).mono ?_
  rintro e w2 ⟨rfl, c2⟩
  have b2 := belowS b1 c2
  clear b1 c2
  go_wp2_with fail
  refine (H2.out _).mono ?_
  rintro e w3 ⟨rfl, c3⟩
  have b3 := belowS b2 c3
  clear b2 c3
  go_wp2_with fail
  refine (H3.out _).mono ?_
  rintro e w' ⟨rfl, rfl⟩
  go_wp2_with fail
  refine (H4.out _).mono ?_
  intro e w4 h4
  obtain ⟨ae, cape, rfl, hs4, c4⟩ := h4.strs
  have S4 := Lib.hid hs4
  have b4 := belowS b3 c4
  clear h4 hs4 c4 b3
  go_wp2
  go_loopw [14] (fun t wr => ∃ k : Nat, k ≤ 2 ∧ t = .int .i64 k ∧ Below w4.heap.size w4 wr) (fun t _ => 2 - (intOf t).toNat)
  case atStart => exact ⟨0, by omega, rfl, Below.refl _ _⟩
  case round =>
    obtain ⟨k, hk, rfl, hbel⟩ := hrel
    by_cases hlt : (k : Int) < 2
    · go_wp2_with fail
      refine (H5.out _).mono ?_
      intro e w5 h5
      obtain ⟨am, capm, rfl, hs5, ho5, c5⟩ := h5.owned
      have b5 := hbel.trans (c5.mono hbel.size)
      obtain ⟨Bm, hBm⟩ : ∃ B, B = wr.heap.size := ⟨_, rfl⟩
      have hBw : w4.heap.size ≤ Bm := by rw [hBm]; exact hbel.size
      rw [← hBm] at ho5
      have O5 := Lib.hid ho5
      clear h5 hs5 ho5 c5 hbel hBm
      go_wp2_with fail
      refine (H6.out _).mono ?_
      rintro e w' ⟨rfl, rfl⟩
      go_wp2
      go_loopw [19] (fun j wq => ∃ (m : Nat) (X : List Value), m ≤ T.length ∧ j = .int .i64 m ∧ Hid (wq.ownsRow Bm 9 1 (.slice am T.length capm) T.length X) ∧ Hid (Rest T m X) ∧ Hid (Below w4.heap.size w4 wq)) (fun j _ => T.length - (intOf j).toNat)
      case atStart => exact ⟨0, _, Nat.zero_le _, rfl, O5.out, Rest.start T, b5⟩
      case round =>
        obtain ⟨m, X, hm, rfl, ho, hrest, hq⟩ := hrel
        by_cases hmt : m < T.length
        · have hXl : X.length = T.length := by have := ho.out.1; omega
          rcases ho.out.2 with ⟨_, hbad⟩ | ⟨g', cap', cur', hv, hBg, hgg, _⟩
          · omega
          injection hv with hv1 hv2 hv3
          subst hv1
          have hcell : wr.cell? ⟨g', m, none⟩ = some (.string ⟨(T[m]).toArray⟩) := by
            rw [ho.out.cellAt m (by omega), ← hrest.out.at hmt (by omega)]; simp
          rcases (S4.out.below hq.out).2 with hbad | ⟨b2, off2, hv2, hb2, hc2⟩
          · exfalso; rw [hbad] at hmt; simp at hmt
          subst hv2
          have c2 := hc2 m hmt
          generalize hx : T[m] = z at hcell c2
          have hmt' : (m : Int) < T.length := by omega
          have HBg := Lib.hid hBg
          clear hgg hv3 hc2 hx hXl hBg
          go_wp2_with fail
          go_quiet (fail)
          have ho2 := owns_below ho.out (belowN (Below.refl _ _) nq)
          have hcell2 : (wr.drewN nq).cell? ⟨g', m, none⟩ = some (.string ⟨z.toArray⟩) := hcell
          have hfro : (wr.drewN nq).frozen? ⟨g', m, none⟩ = false := ho2.frozenAt m
          have HO := Lib.hid (ho2.stored m (.string ⟨#[63]⟩)).1
          have HR := Lib.hid (hrest.out.step (.string ⟨#[63]⟩))
          have HB := Lib.hid ((belowN hq.out nq).setCell (p := ⟨g', m, none⟩) (Nat.le_trans hBw HBg.out) (.string ⟨#[63]⟩))
          clear ho2
          go_wp2
          go_roundw
          case rel => exact ⟨m + 1, X.set m (.string ⟨#[63]⟩), by omega, by go_num, HO.out, HR.out, HB.out⟩
          case measure => simp [intOf]; omega
        · have hge : (T.length : Int) ≤ m := by omega
          clear ho
          go_wp2
          go_roundw
          case rel => exact ⟨k + 1, by omega, by go_num, hq.out⟩
          case measure => simp [intOf]; omega
    · obtain rfl : k = 2 := by omega
      have b5 := b4.trans (hbel.mono b4.size)
      go_wp2
      go_ret
      exact ⟨rfl, b5⟩

theorem takes (b : List UInt8) (w : World) (hb : (b.length : Int) ≤ 4398046511104) :
    Calls Try.prog 4 #[.string ⟨b.toArray⟩] w fun e w' => e = .returned (.bool true) ∧ Below w.heap.size w w' := by
  obtain ⟨T, hT, hg⟩ := rdEvery_goes b
  refine takes_main b _ _ _ _ _ _ (rdEvery b).1 _ w (by have := hg.2.1; rw [hT] at this; omega) (fun w => fTake b w (by unfold maxLen; omega)) (fun w => rTake b w (by unfold maxLen; omega)) (fun w => ?_) (fun w => rAll b w hb) (fun w => fAll b w hb) (fun w => ?_)
  · have := is_any (rdFrm b).2.2 (rdFrm b).2.2 w
    rwa [show ((rdFrm b).2.2 == (rdFrm b).2.2) = true from by simp] at this
  · have := is_any (rdEvery b).2.2 (rdEvery b).2.2 w
    rwa [show ((rdEvery b).2.2 == (rdEvery b).2.2) = true from by simp] at this

theorem takesU (b : List UInt8) (w : World) (hb : (b.length : Int) ≤ 1048576) :
    Calls Try.prog 4 #[.string ⟨b.toArray⟩] w fun e w' => e = .returned (.bool true) ∧ Below w.heap.size w w' := takes b w (by omega)

end Go.Proofs.Ytaiklhcgimpajaa
