/- The law PackAll of layer 1 (pack), walked: texts that are written are read as they were, and with bytes behind refused. -/
import Derived.Test.YtcjdbflhahpcoaaRRow
namespace Go.Proofs.Ytcjdbflhahpcoaa
open Go.RowKit Go.Proofs Go.Proofs.Pk
attribute [local simp] mk_get wrap64_u8 mk_extract ByteArray.mk_append_mk

theorem RR.strs {w w' : World} {T : List (List UInt8)} {x : Value} {e : Ending} (h : RR w T x e w') : ∃ ad cap, e = .returned (.tuple #[.slice ad T.length cap, x]) ∧ Strs w' ad T.length T ∧ Below w.heap.size w w' := by
  obtain ⟨v, rfl, ho, hb⟩ := h
  rcases ho.2 with ⟨hv, h0⟩ | ⟨g, cap, cur, hv, h1, h2, h3, h4, h5, h6⟩
  · subst hv
    have : T = [] := List.eq_nil_of_length_eq_zero h0
    subst this
    exact ⟨_, _, rfl, ⟨rfl, .inl rfl⟩, hb⟩
  · subst hv
    refine ⟨_, _, rfl, ⟨rfl, .inr ⟨g, 0, rfl, (Array.getElem?_eq_some_iff.1 h2).1, fun i hi => ?_⟩⟩, hb⟩
    rw [Nat.zero_add, ho.cellAt i (by omega)]
    simp [strV, hi]

theorem belowS {w w1 w2 : World} (b1 : Below w.heap.size w w1) (b2 : Below w1.heap.size w1 w2) : Below w.heap.size w w2 := b1.trans (b2.mono b1.size)
theorem ex53 (w : World) : Calls Try.prog 15 #[.iface 54 (.int .i64 5), .int .i64 3] w fun e w' => e = .returned (.bool false) ∧ w = w' := is_any 5 3 w
theorem ex55 (w : World) : Calls Try.prog 15 #[.iface 54 (.int .i64 5), .int .i64 5] w fun e w' => e = .returned (.bool true) ∧ w = w' := is_any 5 5 w

set_option maxHeartbeats 1000000 in
theorem all_no (ad : Option Addr) (len cap : Nat) (more : List UInt8) (w : World) (hrow : ∀ w', Below w.heap.size w w' → Calls Try.prog 20 #[.slice ad len cap] w' (R2 w' (.string ⟨#[]⟩) (.iface 54 (.int .i64 5)))) :
    Calls Try.prog 8 #[.slice ad len cap, .string ⟨more.toArray⟩] w fun e w' => e = .returned (.bool true) ∧ Below w.heap.size w w' := by
  have HR := Lib.hid hrow
  clear hrow
  go_enter Try.func8, Try.ntmps8
  go_wp2_with fail
  refine (examples_any _).mono ?_
  rintro e w1 ⟨rfl, b1⟩
  go_wp2_with fail
  refine (HR.out _ b1).mono ?_
  rintro e w2 ⟨rfl, b2⟩
  go_wp2
  go_ret
  exact ⟨rfl, belowS b1 b2⟩

set_option maxHeartbeats 1000000 in
/-- nothing behind -/
theorem all_0 (ad : Option Addr) (len cap : Nat) (l : List (List UInt8)) (R : List UInt8) (w : World) (hst : Strs w ad len l) (hlen : (len : Int) ≤ 140737488351232) (hRl : (R.length : Int) ≤ 1048576)
    (hrow : ∀ w', Below w.heap.size w w' → Calls Try.prog 20 #[.slice ad len cap] w' (R2 w' (.string ⟨R.toArray⟩) .nilIface)) (hrd : ∀ w, Calls Try.prog 23 #[.string ⟨R.toArray⟩] w (RR w l .nilIface)) :
    Calls Try.prog 8 #[.slice ad len cap, .string ⟨([] : List UInt8).toArray⟩] w fun e w' => e = .returned (.bool true) ∧ Below w.heap.size w w' := by
  have HR := Lib.hid hrow
  have HD := Lib.hid hrd
  have HS := Lib.hid hst
  clear hrow hrd hst
  go_enter Try.func8, Try.ntmps8
  go_wp2_with fail
  refine (examples_any _).mono ?_
  rintro e w1 ⟨rfl, b1⟩
  go_wp2_with fail
  refine (HR.out _ b1).mono ?_
  rintro e w2 ⟨rfl, c2⟩
  have b2 := belowS b1 c2
  clear b1 c2
  go_wp2_with fail
  refine (HD.out _).mono ?_
  intro e w3 h3
  obtain ⟨ae, cape, rfl, hs3, c3⟩ := h3.strs
  have b3 := belowS b2 c3
  have S3 := Lib.hid hs3
  clear h3 b2 c3 hs3
  go_wp2_with fail
  refine (texts_any ad ae len cap l.length cape l l _ (HS.out.below b3) S3.out hlen).mono ?_
  rintro e w4 ⟨rfl, c4⟩
  have b4 := belowS b3 c4
  rw [decide_eq_true rfl]
  clear b3 c4
  go_wp2_with fail
  refine (HD.out _).mono ?_
  intro e w5 h5
  obtain ⟨af, capf, rfl, hs5, c5⟩ := h5.strs
  have b5 := belowS b4 c5
  clear h5 b4 c5 hs5
  go_wp2
  go_ret
  exact ⟨rfl, b5⟩

set_option maxHeartbeats 1000000 in
/-- bytes behind, and room for them -/
theorem all_3 (ad : Option Addr) (len cap : Nat) (l : List (List UInt8)) (R more : List UInt8) (w : World) (hst : Strs w ad len l) (hlen : (len : Int) ≤ 140737488351232) (hRl : (R.length : Int) ≤ 1048576) (hml : (more.length : Int) ≤ 140737488351232) (hm : more.isEmpty = false)
    (hrow : ∀ w', Below w.heap.size w w' → Calls Try.prog 20 #[.slice ad len cap] w' (R2 w' (.string ⟨R.toArray⟩) .nilIface)) (hrd : ∀ w, Calls Try.prog 23 #[.string ⟨R.toArray⟩] w (RR w l .nilIface))
    (hre : ∀ w, Calls Try.prog 23 #[.string ⟨(R ++ more).toArray⟩] w (RR w [] (.iface 54 (.int .i64 3)))) :
    Calls Try.prog 8 #[.slice ad len cap, .string ⟨more.toArray⟩] w fun e w' => e = .returned (.bool true) ∧ Below w.heap.size w w' := by
  have HR := Lib.hid hrow
  have HD := Lib.hid hrd
  have HE := Lib.hid hre
  have HS := Lib.hid hst
  clear hrow hrd hst hre
  go_enter Try.func8, Try.ntmps8
  go_wp2_with fail
  refine (examples_any _).mono ?_
  rintro e w1 ⟨rfl, b1⟩
  go_wp2_with fail
  refine (HR.out _ b1).mono ?_
  rintro e w2 ⟨rfl, c2⟩
  have b2 := belowS b1 c2
  clear b1 c2
  go_wp2_with fail
  refine (HD.out _).mono ?_
  intro e w3 h3
  obtain ⟨ae, cape, rfl, hs3, c3⟩ := h3.strs
  have b3 := belowS b2 c3
  have S3 := Lib.hid hs3
  clear h3 b2 c3 hs3
  go_wp2_with fail
  refine (texts_any ad ae len cap l.length cape l l _ (HS.out.below b3) S3.out hlen).mono ?_
  rintro e w4 ⟨rfl, c4⟩
  have b4 := belowS b3 c4
  rw [decide_eq_true rfl]
  clear b3 c4
  go_wp2_with fail
  refine (HE.out _).mono ?_
  intro e w5 h5
  obtain ⟨af, capf, rfl, hs5, c5⟩ := h5.strs
  have b5 := belowS b4 c5
  clear h5 b4 c5 hs5
  go_wp2_with fail
  refine (ex5 _).mono ?_
  rintro e w' ⟨rfl, rfl⟩
  go_wp2
  go_ret
  exact ⟨rfl, b5⟩

set_option maxHeartbeats 1000000 in
/-- more bytes behind than may be -/
theorem all_5 (ad : Option Addr) (len cap : Nat) (l : List (List UInt8)) (R more : List UInt8) (w : World) (hst : Strs w ad len l) (hlen : (len : Int) ≤ 140737488351232) (hRl : (R.length : Int) ≤ 1048576) (hml : (more.length : Int) ≤ 140737488351232) (hm : more.isEmpty = false) (hbig : 1048576 < (R.length : Int) + more.length)
    (hrow : ∀ w', Below w.heap.size w w' → Calls Try.prog 20 #[.slice ad len cap] w' (R2 w' (.string ⟨R.toArray⟩) .nilIface)) (hrd : ∀ w, Calls Try.prog 23 #[.string ⟨R.toArray⟩] w (RR w l .nilIface))
    (hre : ∀ w, Calls Try.prog 23 #[.string ⟨(R ++ more).toArray⟩] w (RR w [] (.iface 54 (.int .i64 5)))) :
    Calls Try.prog 8 #[.slice ad len cap, .string ⟨more.toArray⟩] w fun e w' => e = .returned (.bool true) ∧ Below w.heap.size w w' := by
  have HR := Lib.hid hrow
  have HD := Lib.hid hrd
  have HE := Lib.hid hre
  have HS := Lib.hid hst
  clear hrow hrd hst hre
  go_enter Try.func8, Try.ntmps8
  go_wp2_with fail
  refine (examples_any _).mono ?_
  rintro e w1 ⟨rfl, b1⟩
  go_wp2_with fail
  refine (HR.out _ b1).mono ?_
  rintro e w2 ⟨rfl, c2⟩
  have b2 := belowS b1 c2
  clear b1 c2
  go_wp2_with fail
  refine (HD.out _).mono ?_
  intro e w3 h3
  obtain ⟨ae, cape, rfl, hs3, c3⟩ := h3.strs
  have b3 := belowS b2 c3
  have S3 := Lib.hid hs3
  clear h3 b2 c3 hs3
  go_wp2_with fail
  refine (texts_any ad ae len cap l.length cape l l _ (HS.out.below b3) S3.out hlen).mono ?_
  rintro e w4 ⟨rfl, c4⟩
  have b4 := belowS b3 c4
  rw [decide_eq_true rfl]
  clear b3 c4
  go_wp2_with fail
  refine (HE.out _).mono ?_
  intro e w5 h5
  obtain ⟨af, capf, rfl, hs5, c5⟩ := h5.strs
  have b5 := belowS b4 c5
  clear h5 b4 c5 hs5
  go_wp2_with fail
  refine (ex53 _).mono ?_
  rintro e w' ⟨rfl, rfl⟩
  go_wp2_with fail
  refine (ex55 _).mono ?_
  rintro e w' ⟨rfl, rfl⟩
  go_wp2
  go_ret
  exact ⟨rfl, b5⟩

/-- PackAll returns true. -/
theorem all_walk (ad : Option Addr) (len cap : Nat) (l : List (List UInt8)) (more : List UInt8) (w : World) (hst : Strs w ad len l) (hb : (len : Int) ≤ 140737488351232 ∧ ∀ s ∈ l, s.length ≤ 140737488351232) (hml : (more.length : Int) ≤ 140737488351232) :
    Calls Try.prog 8 #[.slice ad len cap, .string ⟨more.toArray⟩] w fun e w' => e = .returned (.bool true) ∧ Below w.heap.size w w' := by
  have hrow := fun w' (hb' : Below w.heap.size w w') => pRow ad len cap l w' (hst.below hb') hb.2
  unfold encR at hrow
  by_cases hh : l.length ≤ 1000 ∧ (rowL l).length ≤ MaxT
  · rw [if_pos hh] at hrow
    have hrd : ∀ w, Calls Try.prog 23 #[.string ⟨(rowL l).toArray⟩] w (RR w l .nilIface) := fun w => by
      have h := pReadRow (rowL l) w
      have e := rdRow_rowL l hh.1 hh.2 []
      rw [List.append_nil, List.length_nil, Nat.add_zero, if_neg (by omega), if_pos rfl] at e
      rw [e] at h
      exact h
    have hR : ((rowL l).length : Int) ≤ 1048576 := by have := hh.2; unfold MaxT at this; omega
    by_cases hm : more = []
    · subst hm
      exact all_0 ad len cap l _ w hst hb.1 hR hrow hrd
    · have hme : more.isEmpty = false := by cases more with
        | nil => exact absurd rfl hm
        | cons => rfl
      by_cases hbig : MaxT < (rowL l).length + more.length
      · refine all_5 ad len cap l _ more w hst hb.1 hR hml hme (by unfold MaxT at hbig; omega) hrow hrd fun w => ?_
        have h := pReadRow (rowL l ++ more) w
        rw [rdRow_rowL l hh.1 hh.2 more, if_pos hbig] at h
        exact h
      · refine all_3 ad len cap l _ more w hst hb.1 hR hml hme hrow hrd fun w => ?_
        have h := pReadRow (rowL l ++ more) w
        rw [rdRow_rowL l hh.1 hh.2 more, if_neg hbig, if_neg hm] at h
        exact h
  · rw [if_neg hh] at hrow
    exact all_no ad len cap more w hrow
end Go.Proofs.Ytcjdbflhahpcoaa
