/- The program's ReadRow of layer 1 (pack): what it returns, and that what comes is its own. -/
import Derived.Test.YtcjdbflhahpcoaaRow
import Derived.Laws.OwnMore
namespace Go.Proofs.Ytcjdbflhahpcoaa
open Go.RowKit Go.Proofs Go.Proofs.Pk
attribute [local simp] mk_get wrap64_u8 mk_extract ByteArray.mk_append_mk

theorem info9 : (Try.prog.info? 9).map (fun i => (i.zero, i.size, i.bytes)) = some (some (.string ⟨#[]⟩), 1, 16) := by kernel_rfl

def strV (s : List UInt8) : Value := .string ⟨s.toArray⟩

/-- A list of texts in new memory of the call's own, and an error x. -/
def RR (w : World) (T : List (List UInt8)) (x : Value) (e : Ending) (w' : World) : Prop :=
  ∃ v, e = .returned (.tuple #[v, x]) ∧ w'.ownsRow w.heap.size 9 1 v T.length (T.map strV) ∧ Below w.heap.size w w'
theorem RR.mk {w w' : World} {T : List (List UInt8)} {v x x' : Value} (hx : x' = x) (ho : w'.ownsRow w.heap.size 9 1 v T.length (T.map strV)) (h : Below w.heap.size w w') : RR w T x (.returned (.tuple #[v, x'])) w' := by
  subst hx; exact ⟨v, rfl, ho, h⟩
theorem RR.none {w w' : World} {x x' : Value} (hx : x' = x) (h : Below w.heap.size w w') : RR w [] x (.returned (.tuple #[.slice none 0 0, x'])) w' :=
  RR.mk hx (World.ownsRow_nil _ _ _ _) h

theorem owns_below {w w' : World} {B n : Nat} {e : TypeId} {v : Value} {X : List Value} (h : w.ownsRow B e 1 v n X) (hb : Below w.heap.size w w') : w'.ownsRow B e 1 v n X :=
  h.kept (row := none) ⟨hb.os, hb.tape, hb.output, hb.size, fun k hk _ => hb.block k hk⟩ (by cases hv : v.ownBlock <;> simp)

set_option maxHeartbeats 400000 in
theorem pRR_long (b : List UInt8) (w : World) (h : 1048576 < (b.length : Int)) :
    Calls Try.prog 23 #[.string ⟨b.toArray⟩] w (RR w [] (errV 54 5)) := by
  go_enter Try.func23, Try.ntmps23
  go_wp2
  go_ret2
  exact RR.none rfl (Below.refl _ _)

set_option maxHeartbeats 400000 in
theorem pRR_no (b : List UInt8) (w : World) (h : (b.length : Int) ≤ 1048576) (c : Nat) (hc : (rdNum b).2.2 = c + 1) :
    Calls Try.prog 23 #[.string ⟨b.toArray⟩] w (RR w [] (errV 54 (c + 1))) := by
  have hR := pRead b w (by unfold maxLen; omega)
  rw [hc, errV_succ] at hR
  rw [errV_succ]
  generalize (rdNum b).1 = n at *
  generalize (rdNum b).2.1 = r at *
  clear hc
  have HR := Lib.hid hR
  clear hR
  go_enter Try.func23, Try.ntmps23
  go_wp2_with fail
  refine HR.out.mono ?_
  rintro e w1 ⟨rfl, b1⟩
  go_wp2
  go_ret2
  exact RR.none rfl b1

set_option maxHeartbeats 400000 in
theorem pRR_many (b : List UInt8) (w : World) (h : (b.length : Int) ≤ 1048576) (hc : (rdNum b).2.2 = 0) (hn : 1000 < ((rdNum b).1 : Int)) :
    Calls Try.prog 23 #[.string ⟨b.toArray⟩] w (RR w [] (errV 54 5)) := by
  have hR := pRead b w (by unfold maxLen; omega)
  rw [hc, errV_zero] at hR
  generalize (rdNum b).1 = n at *
  generalize (rdNum b).2.1 = r at *
  clear hc
  have HR := Lib.hid hR
  clear hR
  go_enter Try.func23, Try.ntmps23
  go_wp2_with fail
  refine HR.out.mono ?_
  rintro e w1 ⟨rfl, b1⟩
  go_wp2
  go_ret2
  exact RR.none rfl b1

theorem take_set (X : List Value) (k : Nat) (v : Value) (h : k < X.length) : (X.set k v).take (k + 1) = X.take k ++ [v] := by
  rw [List.take_succ_eq_append_getElem (by simpa using h)]
  congr 1
  · rw [List.take_set]; exact List.set_eq_of_length_le (by rw [List.length_take]; omega)
  · simp
theorem map_snoc (T : List (List UInt8)) (x : List UInt8) : (T ++ [x]).map strV = T.map strV ++ [.string ⟨x.toArray⟩] := by simp [strV]

set_option maxRecDepth 100000 in
set_option maxHeartbeats 2000000 in
theorem pRR_main (b : List UInt8) (w : World) (h : (b.length : Int) ≤ 1048576) (n : Nat) (r : List UInt8) (hR : Calls Try.prog 13 #[.string ⟨b.toArray⟩] w (R3 w (.int .i64 n) (.string ⟨r.toArray⟩) .nilIface)) (hr : r.length ≤ b.length) (hn : (n : Int) ≤ 1000) (U : List (List UInt8)) (d : Nat) (hU : rdTexts n r = (U, d)) :
    Calls Try.prog 23 #[.string ⟨b.toArray⟩] w (RR w U (errV 54 d)) := by
  obtain ⟨i0, hi, hz0, hz1, hz2⟩ := info_parts info9
  have HR := Lib.hid hR
  clear hR
  have HU := Lib.hid hU
  clear hU
  go_enter Try.func23, Try.ntmps23
  go_wp2_with fail
  refine HR.out.mono ?_
  rintro e w1 ⟨rfl, b1⟩
  go_wp2_with (with_reducible refine wpList_make_full _ rfl (.tmp 25) (.tmp 25) 42 rfl w.heap.size 9 i0 (.string ⟨#[]⟩) 1 Try.underlying42 hi hz0 hz1 .i64 .i64 _ _ n rfl rfl rfl rfl ?c2 ?c3 ?c4 ?_)
  case c2 => rw [hz2]; omega
  case c3 => unfold maxLen; omega
  case c4 => exact b1.size
  intro w2 hown hg
  go_wp2
  have hgw : Hid (w.heap.size ≤ w1.heap.size) := b1.size
  have B2 : Below w.heap.size w w2 := b1.grown hg b1.size (fun k hk => by cases hk)
  obtain ⟨g, hgg⟩ : ∃ g, g = w1.heap.size := ⟨_, rfl⟩
  rw [← hgg] at hown hgw
  simp only [← hgg]
  clear hg b1 hgg
  go_loopw [5, 6, 29] (fun q x i wr => ∃ (k : Nat) (T : List (List UInt8)) (s : List UInt8) (X : List Value), i = .int .i64 k ∧ q = .string ⟨s.toArray⟩ ∧ x = .nilIface ∧ Hid (Goes n r k T s) ∧
      wr.ownsRow w.heap.size 9 1 (.slice (some ⟨g, 0, none⟩) n n) n X ∧ Hid (X.take k = T.map strV) ∧ Below w.heap.size w wr)
    (fun _ _ i _ => n - (intOf i).toNat)
  case atStart => exact ⟨0, [], r, _, rfl, rfl, rfl, Goes.start n r, hown, (by show List.take 0 _ = _; simp), B2⟩
  case round =>
    obtain ⟨k, T, s, X, rfl, rfl, rfl, hgo, ho, hX, hbel⟩ := hrel
    have hkn := hgo.out.2.1
    have hsl : s.length ≤ 1048576 := by have := hgo.out.2.2.2; omega
    have hXl : X.length = n := by have := ho.1; omega
    by_cases hlt : k < n
    · have hlt' : (k : Int) < n := by omega
      by_cases hc : (rdTxt s).2.2 = 0
      · have hT := pReadText s wr (by unfold maxLen; omega)
        rw [hc, errV_zero] at hT
        have HT := Lib.hid hT
        have HG : Hid (Goes n r (k + 1) (T ++ [(rdTxt s).1]) (rdTxt s).2.1) := hgo.out.step hlt hc
        generalize (rdTxt s).1 = x at *
        generalize (rdTxt s).2.1 = s' at *
        clear hT hc hgo
        go_wp2_with fail
        refine HT.out.mono ?_
        rintro e w3 ⟨rfl, b3⟩
        have ho3 := owns_below ho b3
        have hcell : w3.cell? ⟨g, k, none⟩ = some X[k] := by
          rw [ho3.cellAt k (by omega)]; simp
        have hfro : w3.frozen? ⟨g, k, none⟩ = false := ho3.frozenAt k
        have hst := (ho3.stored k (.string ⟨x.toArray⟩)).1
        have HX : Hid ((X.set k (.string ⟨x.toArray⟩)).take (k + 1) = (T ++ [x]).map strV) := by
          show (X.set k (.string ⟨x.toArray⟩)).take (k + 1) = (T ++ [x]).map strV
          rw [take_set X k _ (by omega), hX.out, map_snoc]
        have HO := Lib.hid hst
        have HB3 : Hid (Below w.heap.size w (w3.setCell ⟨g, k, none⟩ (.string ⟨x.toArray⟩))) := (hbel.trans (b3.mono hbel.size)).setCell (p := ⟨g, k, none⟩) hgw.out _
        clear hst ho3 ho hX
        go_wp2
        go_roundw
        case rel => exact ⟨k + 1, T ++ [x], s', X.set k (.string ⟨x.toArray⟩), by go_num, rfl, rfl, HG, HO.out, HX, HB3.out⟩
        case measure => simp [intOf]; omega
      · have hT := pReadText s wr (by unfold maxLen; omega)
        have HF := Lib.hid (hgo.out.fail hlt hc)
        rw [(rdTxt_err s hc).1, (rdTxt_err s hc).2] at hT
        obtain ⟨c, hc'⟩ : ∃ c, (rdTxt s).2.2 = c + 1 := ⟨_, (Nat.succ_pred_eq_of_ne_zero hc).symm⟩
        rw [hc'] at hT HF
        rw [errV_succ] at hT
        have HT := Lib.hid hT
        clear hT hc hgo hc'
        go_wp2_with fail
        refine HT.out.mono ?_
        rintro e w3 ⟨rfl, b3⟩
        have ho3 := owns_below ho b3
        have hcell : w3.cell? ⟨g, k, none⟩ = some X[k] := by
          rw [ho3.cellAt k (by omega)]; simp
        have hfro : w3.frozen? ⟨g, k, none⟩ = false := ho3.frozenAt k
        have HB3 : Hid (Below w.heap.size w (w3.setCell ⟨g, k, none⟩ (.string ⟨#[]⟩))) := (hbel.trans (b3.mono hbel.size)).setCell (p := ⟨g, k, none⟩) hgw.out _
        clear ho3 ho hX
        go_wp2
        go_ret2
        obtain ⟨rfl, rfl⟩ := Prod.mk.inj (HU.out.symm.trans HF.out)
        exact RR.none (by simp [errV]) HB3.out
    · obtain rfl : k = n := by omega
      have HO := Lib.hid hgo.out.over
      have hTl : T.length = k := hgo.out.1
      have hXT : X = T.map strV := by have := hX.out; rwa [List.take_of_length_le (by omega)] at this
      have HOW : Hid (wr.ownsRow w.heap.size 9 1 (.slice (some ⟨g, 0, none⟩) k k) T.length (T.map strV)) := by
        show wr.ownsRow w.heap.size 9 1 (.slice (some ⟨g, 0, none⟩) k k) T.length (T.map strV)
        rw [← hXT, hTl]; exact ho
      clear hgo hX ho hXT hTl hXl
      by_cases hs : s = []
      · subst hs
        have HE := Lib.hid (HO.out.trans (if_pos rfl))
        clear HO
        go_wp2
        go_ret2
        obtain ⟨rfl, rfl⟩ := Prod.mk.inj (HU.out.symm.trans HE.out)
        exact RR.mk rfl HOW.out hbel
      · have hse : s.isEmpty = false := by cases s with
          | nil => exact absurd rfl hs
          | cons => rfl
        have HE := Lib.hid (HO.out.trans (if_neg hs))
        clear hs HO
        go_wp2
        go_ret2
        obtain ⟨rfl, rfl⟩ := Prod.mk.inj (HU.out.symm.trans HE.out)
        exact RR.none rfl hbel

/-- The program reads a row as the chapter says. -/
theorem pReadRow (b : List UInt8) (w : World) : Calls Try.prog 23 #[.string ⟨b.toArray⟩] w (RR w (rdRow b).1 (errV 54 (rdRow b).2)) := by
  unfold rdRow
  by_cases h : MaxT < b.length
  · rw [if_pos h]; exact pRR_long b w (by unfold MaxT at h; omega)
  rw [if_neg h]
  have hb : (b.length : Int) ≤ 1048576 := by unfold MaxT at h; omega
  by_cases hc : (rdNum b).2.2 = 0
  · rw [if_neg (by omega)]
    by_cases hn : 1000 < (rdNum b).1
    · rw [if_pos hn]; exact pRR_many b w hb hc (by omega)
    · rw [if_neg hn]
      have hR := pRead b w (by unfold maxLen; omega)
      rw [hc] at hR
      exact pRR_main b w hb _ _ hR (rdNum_len b) (by omega) _ _ rfl
  · rw [if_pos hc]
    obtain ⟨c, hc'⟩ : ∃ c, (rdNum b).2.2 = c + 1 := ⟨_, (Nat.succ_pred_eq_of_ne_zero hc).symm⟩
    rw [hc']
    exact pRR_no b w hb c hc'
end Go.Proofs.Ytcjdbflhahpcoaa
