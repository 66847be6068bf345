/- The reference's ReadRow of layer 1 (pack): what it returns. -/
import Derived.Test.YtcjdbflhahpcoaaRefR
namespace Go.Proofs.Ytcjdbflhahpcoaa
open Go.RowKit Go.Proofs Go.Proofs.Pk
attribute [local simp] mk_get wrap64_u8 mk_extract ByteArray.mk_append_mk

set_option maxHeartbeats 400000 in
theorem rRR_long (b : List UInt8) (w : World) (h : 1048576 < (b.length : Int)) :
    Calls Try.prog 22 #[.string ⟨b.toArray⟩] w (RR w [] (.int .i64 5)) := by
  go_enter Try.func22, Try.ntmps22
  go_wp2
  go_ret2
  exact RR.none rfl (Below.refl _ _)

set_option maxHeartbeats 400000 in
theorem rRR_no (b : List UInt8) (w : World) (h : (b.length : Int) ≤ 1048576) (c : Nat) (hc : (rdNum b).2.2 = c + 1) :
    Calls Try.prog 22 #[.string ⟨b.toArray⟩] w (RR w [] (.int .i64 ((c : Int) + 1))) := by
  have hR := rRead b w (by unfold maxLen; omega)
  have hE := rdNum_err b (by omega)
  rw [hE.1, hE.2, hc] at hR
  rw [show (((c + 1 : Nat) : Int)) = (c : Int) + 1 from by omega] at hR
  have HR := Lib.hid hR
  clear hR hE hc
  have h1 : (((c : Int) + 1) == 0) = false := by rw [beq_eq_false_iff_ne]; omega
  have h2 : (((c : Int) + 1) != 0) = true := by rw [bne_iff_ne]; omega
  go_enter Try.func22, Try.ntmps22
  go_wp2_with fail
  refine HR.out.mono ?_
  rintro e w1 ⟨rfl, b1⟩
  go_wp2
  refine wp_loop_rounds 1 ?_
  rw [rounds_succ]
  go_wp2
  go_ret2
  exact RR.none rfl b1

set_option maxHeartbeats 400000 in
theorem rRR_many (b : List UInt8) (w : World) (h : (b.length : Int) ≤ 1048576) (hc : (rdNum b).2.2 = 0) (hn : 1000 < ((rdNum b).1 : Int)) :
    Calls Try.prog 22 #[.string ⟨b.toArray⟩] w (RR w [] (.int .i64 5)) := by
  have hR := rRead b w (by unfold maxLen; omega)
  rw [hc] at hR
  generalize (rdNum b).1 = n at *
  generalize (rdNum b).2.1 = r at *
  clear hc
  have HR := Lib.hid hR
  clear hR
  go_enter Try.func22, Try.ntmps22
  go_wp2_with fail
  refine HR.out.mono ?_
  rintro e w1 ⟨rfl, b1⟩
  go_wp2
  refine wp_loop_rounds 1 ?_
  rw [rounds_succ]
  go_wp2
  go_ret2
  exact RR.none rfl b1

/-- Where the reading of n texts stands: all went well and T were read, or one was refused. -/
def Stands (n : Nat) (r : List UInt8) (k c : Nat) (T : List (List UInt8)) (s : List UInt8) (X : List Value) : Prop :=
  s.length ≤ r.length ∧ ((c = 0 ∧ Goes n r k T s ∧ X = T.map strV) ∨ (c ≠ 0 ∧ rdTexts n r = ([], c)))

set_option maxRecDepth 100000 in
set_option maxHeartbeats 2000000 in
theorem rRR_main (b : List UInt8) (w : World) (h : (b.length : Int) ≤ 1048576) (n : Nat) (r : List UInt8) (hR : Calls Try.prog 14 #[.string ⟨b.toArray⟩] w (R3 w (.int .i64 n) (.string ⟨r.toArray⟩) (.int .i64 0))) (hr : r.length ≤ b.length) (hn : (n : Int) ≤ 1000) (U : List (List UInt8)) (d : Nat) (hU : rdTexts n r = (U, d)) :
    Calls Try.prog 22 #[.string ⟨b.toArray⟩] w (RR w U (.int .i64 d)) := by
  obtain ⟨i0, hi, hz0, hz1, hz2⟩ := info_parts info9
  have HR := Lib.hid hR
  clear hR
  have HU := Lib.hid hU
  clear hU
  go_enter Try.func22, Try.ntmps22
  go_wp2_with fail
  refine HR.out.mono ?_
  rintro e w1 ⟨rfl, b1⟩
  go_wp2
  go_loopw [5, 6, 7, 8] (fun q x v i wr => ∃ (k c m : Nat) (T : List (List UInt8)) (s : List UInt8) (X : List Value), k ≤ n ∧ i = .int .i64 k ∧ q = .string ⟨s.toArray⟩ ∧ x = .int .i64 c ∧ Hid (Stands n r k c T s X) ∧
      wr.ownsRow w.heap.size 9 1 v m X ∧ m ≤ k ∧ Below w.heap.size w wr)
    (fun _ _ _ i _ => n - (intOf i).toNat)
  case atStart => exact ⟨0, 0, 0, [], r, [], Nat.zero_le _, rfl, rfl, rfl, ⟨Nat.le_refl _, .inl ⟨rfl, Goes.start n r, rfl⟩⟩, World.ownsRow_nil _ _ _ _, Nat.le_refl _, b1⟩
  case round =>
    obtain ⟨k, c, m, T, s, X, hk, rfl, rfl, rfl, hst, ho, hmk, hbel⟩ := hrel
    have hsl : s.length ≤ 1048576 := by have := hst.out.1; omega
    rcases c with _ | c
    · by_cases hlt : k < n
      · have hlt' : (k : Int) < n := by omega
        have hgo : Goes n r k T s := by
          rcases hst.out.2 with ⟨_, h, _⟩ | ⟨h, _⟩
          · exact h
          · exact absurd rfl h
        have hXT : X = T.map strV := by
          rcases hst.out.2 with ⟨_, _, h⟩ | ⟨h, _⟩
          · exact h
          · exact absurd rfl h
        have HT := Lib.hid (rReadText s wr (by unfold maxLen; omega))
        have HSt : Hid (Stands n r (k + 1) (rdTxt s).2.2 (T ++ [(rdTxt s).1]) (rdTxt s).2.1 (X ++ [.string ⟨(rdTxt s).1.toArray⟩])) := by
          have hl := rdTxt_len s
          refine ⟨by have := hst.out.1; omega, ?_⟩
          by_cases hc : (rdTxt s).2.2 = 0
          · exact .inl ⟨hc, hgo.step hlt hc, by rw [hXT, map_snoc]⟩
          · exact .inr ⟨hc, hgo.fail hlt hc⟩
        generalize (rdTxt s).1 = x at *
        generalize (rdTxt s).2.1 = s' at *
        generalize (rdTxt s).2.2 = c' at *
        clear hst hgo hXT
        go_wp2_with fail
        refine HT.out.mono ?_
        rintro e w3 ⟨rfl, b3⟩
        have ho3 := owns_below ho b3
        have hbel3 : Below w.heap.size w w3 := hbel.trans (b3.mono hbel.size)
        clear ho b3 hbel HT
        go_wp2_with (at_builtin; refine wpList_append_own _ rfl (.tmp 40) (.tmp 42) 42 rfl w.heap.size 9 i0 (.string ⟨#[]⟩) 1 16 Try.underlying42 hi hz0 hz1 hz2 rfl (by decide) _ _ _ rfl (ho3.alloc _) ⟨w3.heap.size, 0, none⟩ 1 1 [.string ⟨x.toArray⟩] rfl rfl ?d1 ?d2 ?d3 ?d4 ?d5 ?_)
        case d1 =>
          intro j u hj
          match j, hj with
          | 0, hj => simp at hj; subst hj; simp [Addr.add]
        case d2 => intro u hu; simp at hu; subst hu; rfl
        case d3 => unfold maxLen; omega
        case d4 => omega
        case d5 => have := hbel3.size; simp; omega
        · intro v' w4 hown' hgrow _
          have hb4 : Below w.heap.size w w4 := (hbel3.alloc hbel3.size _).grown hgrow (by simp; have := hbel3.size; omega) (fun k hk => (ho3.lt k hk).1)
          have HO := Lib.hid hown'
          clear hown' hgrow ho3
          go_wp2
          go_roundw
          case rel => exact ⟨k + 1, c', m + 1, T ++ [x], s', _, by omega, by go_num, rfl, rfl, HSt, HO.out, by omega, hb4⟩
          case measure => simp [intOf]; omega
      · obtain rfl : k = n := by omega
        have hgo : Goes k r k T s := by
          rcases hst.out.2 with ⟨_, h, _⟩ | ⟨h, _⟩
          · exact h
          · exact absurd rfl h
        have hXT : X = T.map strV := by
          rcases hst.out.2 with ⟨_, _, h⟩ | ⟨h, _⟩
          · exact h
          · exact absurd rfl h
        have hmT : m = T.length := by have := ho.1; rw [hXT] at this; simpa using this.symm
        subst hXT
        subst hmT
        have HO := Lib.hid hgo.over
        have HOW := Lib.hid ho
        rw [show (((0 : Nat) : Int)) = 0 from rfl]
        clear hst hgo ho
        by_cases hs : s = []
        · subst hs
          have HE := Lib.hid (HO.out.trans (if_pos rfl))
          clear HO
          go_wp2
          go_ret2
          obtain ⟨rfl, rfl⟩ := Prod.mk.inj (HU.out.symm.trans HE.out)
          exact RR.mk rfl HOW.out hbel
        · have hse : s.isEmpty = false := by cases s with
            | nil => exact absurd rfl hs
            | cons => rfl
          have HE := Lib.hid (HO.out.trans (if_neg hs))
          clear hs HO
          go_wp2
          go_ret2
          obtain ⟨rfl, rfl⟩ := Prod.mk.inj (HU.out.symm.trans HE.out)
          exact RR.none rfl hbel
    · have hE : Hid (rdTexts n r = ([], c + 1)) := by
        show rdTexts n r = ([], c + 1)
        rcases hst.out.2 with ⟨h, _⟩ | ⟨_, h⟩
        · exact absurd h (by omega)
        · exact h
      have h1 : (((c : Int) + 1) == 0) = false := by rw [beq_eq_false_iff_ne]; omega
      have h2 : (((c : Int) + 1) != 0) = true := by rw [bne_iff_ne]; omega
      rw [show (((c + 1 : Nat) : Int)) = (c : Int) + 1 from by omega]
      clear hst ho
      by_cases hlt : (k : Int) < n
      all_goals
        go_wp2
        go_ret2
        obtain ⟨rfl, rfl⟩ := Prod.mk.inj (HU.out.symm.trans hE.out)
        exact RR.none (by simp) hbel

/-- The reference reads a row as the chapter says. -/
theorem rReadRow (b : List UInt8) (w : World) : Calls Try.prog 22 #[.string ⟨b.toArray⟩] w (RR w (rdRow b).1 (.int .i64 (rdRow b).2)) := by
  unfold rdRow
  by_cases h : MaxT < b.length
  · rw [if_pos h]; exact rRR_long b w (by unfold MaxT at h; omega)
  rw [if_neg h]
  have hb : (b.length : Int) ≤ 1048576 := by unfold MaxT at h; omega
  by_cases hc : (rdNum b).2.2 = 0
  · rw [if_neg (by omega)]
    by_cases hn : 1000 < (rdNum b).1
    · rw [if_pos hn]; exact rRR_many b w hb hc (by omega)
    · rw [if_neg hn]
      have hR := rRead b w (by unfold maxLen; omega)
      rw [hc] at hR
      exact rRR_main b w hb _ _ hR (rdNum_len b) (by omega) _ _ rfl
  · rw [if_pos hc]
    obtain ⟨c, hc'⟩ : ∃ c, (rdNum b).2.2 = c + 1 := ⟨_, (Nat.succ_pred_eq_of_ne_zero hc).symm⟩
    rw [hc']
    exact rRR_no b w hb c hc'
end Go.Proofs.Ytcjdbflhahpcoaa
