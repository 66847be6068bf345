/- The law PackRows of layer 1 (pack), walked: any texts are written, and any bytes are read as some, as the reference has it; what comes is its owner's. -/
import Derived.Test.YtcjdbflhahpcoaaRefQ
namespace Go.Proofs.Ytcjdbflhahpcoaa
open Go.RowKit Go.Proofs Go.Proofs.Pk
attribute [local simp] mk_get wrap64_u8 mk_extract ByteArray.mk_append_mk

theorem RR.owned {w w' : World} {T : List (List UInt8)} {x : Value} {e : Ending} (h : RR w T x e w') : ∃ ad cap, e = .returned (.tuple #[.slice ad T.length cap, x]) ∧ Strs w' ad T.length T ∧
    w'.ownsRow w.heap.size 9 1 (.slice ad T.length cap) T.length (T.map strV) ∧ Below w.heap.size w w' := by
  obtain ⟨v, rfl, ho, hb⟩ := h
  rcases ho.2 with ⟨hv, h0⟩ | ⟨g, cap, cur, hv, h1, h2, h3, h4, h5, h6⟩
  · subst hv
    have : T = [] := List.eq_nil_of_length_eq_zero h0
    subst this
    exact ⟨_, _, rfl, ⟨rfl, .inl rfl⟩, ho, hb⟩
  · subst hv
    refine ⟨_, _, rfl, ⟨rfl, .inr ⟨g, 0, rfl, (Array.getElem?_eq_some_iff.1 h2).1, fun i hi => ?_⟩⟩, ho, hb⟩
    rw [Nat.zero_add, ho.cellAt i (by omega)]
    simp [strV, hi]

set_option maxRecDepth 100000 in
set_option maxHeartbeats 2000000 in
theorem rows_main (ad : Option Addr) (len cap : Nat) (l : List (List UInt8)) (b A : List UInt8) (V : Value) (g : Bool) (T : List (List UInt8)) (c : Int) (F : Value) (w : World) (hst : Strs w ad len l) (hTl : (T.length : Int) ≤ 1000)
    (h1 : ∀ w', Below w.heap.size w w' → Calls Try.prog 20 #[.slice ad len cap] w' (R2 w' (.string ⟨A.toArray⟩) V)) (h2 : ∀ w', Below w.heap.size w w' → Calls Try.prog 21 #[.slice ad len cap] w' (R2 w' (.string ⟨A.toArray⟩) (.bool g)))
    (h3 : ∀ w, Calls Try.prog 22 #[.string ⟨b.toArray⟩] w (RR w T (.int .i64 c))) (h4 : ∀ w, Calls Try.prog 23 #[.string ⟨b.toArray⟩] w (RR w T F)) (h5 : ∀ w, Calls Try.prog 15 #[F, .int .i64 c] w fun e w' => e = .returned (.bool true) ∧ w = w')
    (hV : (V = .nilIface ∧ g = true) ∨ (V = .iface 54 (.int .i64 5) ∧ g = false)) :
    Calls Try.prog 5 #[.slice ad len cap, .string ⟨b.toArray⟩] w fun e w' => e = .returned (.bool true) ∧ Below w.heap.size w w' := by
  have H1 := Lib.hid h1; clear h1
  have H2 := Lib.hid h2; clear h2
  have H3 := Lib.hid h3; clear h3
  have H4 := Lib.hid h4; clear h4
  have H5 := Lib.hid h5; clear h5
  have HS := Lib.hid hst; clear hst
  have HV := Lib.hid hV; clear hV
  go_enter Try.func5, Try.ntmps5
  go_wp2_with fail
  refine (examples_any _).mono ?_
  rintro e w1 ⟨rfl, b1⟩
  go_wp2_with fail
  refine (H1.out _ b1).mono ?_
  rintro e w2 ⟨rfl, c2⟩
  have b2 := belowS b1 c2
  clear b1 c2
  go_wp2_with fail
  refine (H2.out _ b2).mono ?_
  rintro e w3 ⟨rfl, c3⟩
  have b3 := belowS b2 c3
  clear b2 c3
  go_wp2_with fail
  refine (H3.out _).mono ?_
  intro e w4 h4
  obtain ⟨ae, cape, rfl, hs4, c4⟩ := h4.strs
  have S4 := Lib.hid hs4
  have b4 := belowS b3 c4
  clear h4 hs4 c4 b3
  go_wp2
  go_loopw [12] (fun t wr => ∃ k : Nat, k ≤ 2 ∧ t = .int .i64 k ∧ Below w4.heap.size w4 wr) (fun t _ => 2 - (intOf t).toNat)
  case atStart => exact ⟨0, by omega, rfl, Below.refl _ _⟩
  case round =>
    obtain ⟨k, hk, rfl, hbel⟩ := hrel
    by_cases hlt : (k : Int) < 2
    · go_wp2_with fail
      refine (H4.out _).mono ?_
      intro e w5 h5
      obtain ⟨am, capm, rfl, hs5, ho5, c5⟩ := h5.owned
      have S5 := Lib.hid hs5
      have b5 := hbel.trans (c5.mono hbel.size)
      have O5 := Lib.hid ho5
      have Z5 := Lib.hid c5.size
      clear h5 hs5 ho5 c5
      go_wp2_with fail
      refine (texts_any am ae T.length capm T.length cape T T _ S5.out (S4.out.below b5) (by omega)).mono ?_
      rintro e w6 ⟨rfl, c6⟩
      rw [decide_eq_true rfl]
      have b6 := b5.trans (c6.mono b5.size)
      have O6 : Hid (w6.ownsRow wr.heap.size 9 1 (.slice am T.length capm) T.length (T.map strV)) := owns_below O5.out c6
      have Z6 : Hid (wr.heap.size ≤ w6.heap.size) := Nat.le_trans Z5.out c6.size
      obtain ⟨Bm, hBm⟩ : ∃ B, B = wr.heap.size := ⟨_, rfl⟩
      have hBw : w4.heap.size ≤ Bm := by rw [hBm]; exact hbel.size
      rw [← hBm] at O6 Z6
      clear b5 c6 S5 O5 Z5 hbel hBm
      go_wp2_with fail
      refine (H5.out _).mono ?_
      rintro e w' ⟨rfl, rfl⟩
      go_wp2
      go_loopw [17] (fun j wq => ∃ (m : Nat) (X : List Value), m ≤ T.length ∧ j = .int .i64 m ∧ wq.ownsRow Bm 9 1 (.slice am T.length capm) T.length X ∧ Below w4.heap.size w4 wq) (fun j _ => T.length - (intOf j).toNat)
      case atStart => exact ⟨0, _, Nat.zero_le _, rfl, O6.out, b6⟩
      case round =>
        obtain ⟨m, X, hm, rfl, ho, hq⟩ := hrel
        have hXl : X.length = T.length := by have := ho.1; omega
        by_cases hmt : m < T.length
        · rcases ho.2 with ⟨_, hbad⟩ | ⟨g', cap', cur', hv, hBg, hgg, _⟩
          · omega
          injection hv with hv1 hv2 hv3
          subst hv1
          have hcell : wr.cell? ⟨g', m, none⟩ = some X[m] := by
            rw [ho.cellAt m (by omega)]; simp
          have hfro : wr.frozen? ⟨g', m, none⟩ = false := ho.frozenAt m
          have HO := Lib.hid (ho.stored m (.string ⟨#[63]⟩)).1
          have HB := Lib.hid (hq.setCell (p := ⟨g', m, none⟩) (Nat.le_trans hBw hBg) (.string ⟨#[63]⟩))
          have hmt' : (m : Int) < T.length := by omega
          clear ho hq hgg hv3
          go_wp2
          go_roundw
          case rel => exact ⟨m + 1, X.set m (.string ⟨#[63]⟩), by omega, by go_num, HO.out, HB.out⟩
          case measure => simp [intOf]; omega
        · have hge : (T.length : Int) ≤ m := by omega
          clear ho
          go_wp2
          go_roundw
          case rel => exact ⟨k + 1, by omega, by go_num, hq⟩
          case measure => simp [intOf]; omega
    · obtain rfl : k = 2 := by omega
      have b5 := b4.trans (hbel.mono b4.size)
      rcases HV.out with ⟨rfl, rfl⟩ | ⟨rfl, rfl⟩
      · go_wp2
        go_ret
        exact ⟨rfl, b5⟩
      · go_wp2_with (go_at_call 15; refine (ex55 _).mono ?_; rintro e w' ⟨rfl, rfl⟩)
        go_ret
        exact ⟨rfl, b5⟩

/-- PackRows returns true. -/
theorem rows_walk (ad : Option Addr) (len cap : Nat) (l : List (List UInt8)) (b : List UInt8) (w : World) (hst : Strs w ad len l) (hb : (len : Int) ≤ 140737488351232 ∧ ∀ s ∈ l, s.length ≤ 140737488351232) (_hbl : (b.length : Int) ≤ 140737488351232) :
    Calls Try.prog 5 #[.slice ad len cap, .string ⟨b.toArray⟩] w fun e w' => e = .returned (.bool true) ∧ Below w.heap.size w w' := by
  have h5 : ∀ w, Calls Try.prog 15 #[errV 54 (rdRow b).2, .int .i64 (rdRow b).2] w fun e w' => e = .returned (.bool true) ∧ w = w' := fun w => by
    have := is_any (rdRow b).2 (rdRow b).2 w
    rw [beq_self_eq_true] at this
    exact this
  refine rows_main ad len cap l b _ _ _ _ _ _ w hst (by have := rdRow_len b; omega) (fun w' h => pRow ad len cap l w' (hst.below h) hb.2) (fun w' h => rRow ad len cap l w' (hst.below h) hb.2) (rReadRow b) (pReadRow b) h5 ?_
  unfold encR
  split
  · exact .inl ⟨rfl, rfl⟩
  · exact .inr ⟨rfl, rfl⟩
end Go.Proofs.Ytcjdbflhahpcoaa
