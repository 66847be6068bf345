/- frame.All: what it returns. -/
import Derived.Test.YtaiklhcgimpajaaFrP
import Derived.Test.YtaiklhcgimpajaaIsE
import Derived.Test.YtaiklhcgimpajaaRR
namespace Go.Proofs.Ytaiklhcgimpajaa
open Go.RowKit Go.Proofs Go.Proofs.Pk
set_option maxRecDepth 10000
attribute [local simp] mk_get wrap64_u8 mk_extract ByteArray.mk_append_mk get_1k

theorem owns_le {w : World} {B B' : Nat} {e : TypeId} {size : Nat} {v : Value} {n : Nat} {xs : List Value} (h : w.ownsRow B e size v n xs) (hle : B' ≤ B) : w.ownsRow B' e size v n xs := by
  refine ⟨h.1, ?_⟩
  rcases h.2 with h0 | ⟨g, cap, cur, rfl, h1, h2⟩
  · exact .inl h0
  · exact .inr ⟨g, cap, cur, rfl, Nat.le_trans hle h1, h2⟩

theorem rdFrm_none : rdFrm [] = ([], [], 2) := by decide

set_option maxRecDepth 100000 in
set_option maxHeartbeats 2000000 in
theorem pAll_main (b : List UInt8) (w : World) (h : (b.length : Int) ≤ 4398046511104) (U : List (List UInt8)) (q : List UInt8) (d : Nat) (hU : rdEvery b = (U, q, d)) :
    Calls Try.prog 18 #[.string ⟨b.toArray⟩] w (RR3 w U (.int .i64 ((b.length : Int) - q.length)) (errV 49 d)) := by
  obtain ⟨i0, hi, hz0, hz1, hz2⟩ := info_parts info9
  have HU := Lib.hid hU
  have HT := Lib.hid (fun w => pTable w)
  have HK := Lib.hid (fun g r w hb hT => pTakeAt g r w hb hT)
  have HI := Lib.hid (fun c w => is_errs c 2 w (by omega))
  clear hU
  go_enter Try.func18, Try.ntmps18
  go_wp2_with fail
  refine (HT.out _).mono ?_
  rintro e w1 ⟨g, hg, rfl, ht, hb1⟩
  have B1 := Lib.hid hb1
  have HA := Lib.hid ht
  clear hg ht hb1
  go_wp2
  go_loopw [6, 7] (fun v x wr => ∃ (T : List (List UInt8)) (r : List UInt8), x = .string ⟨r.toArray⟩ ∧ Hid (AGoes b T r) ∧ Hid (wr.ownsRow w1.heap.size 9 1 v T.length (T.map strV)) ∧ Hid (Below w1.heap.size w1 wr))
    (fun _ x _ => strLen x)
  case atStart => exact ⟨[], b, rfl, AGoes.start b, World.ownsRow_nil _ _ _ _, Below.refl _ _⟩
  case round =>
    obtain ⟨T, r, rfl, hg, ho, hbel⟩ := hrel
    have hrl := hg.out.2.1
    have hrl2 : (r.length : Int) ≤ b.length := by omega
    have hTl : (T.length : Int) ≤ b.length := by omega
    have HAr : Hid (TabAt wr g) := HA.out.below hbel.out
    have HT := Lib.hid (HK.out g r wr (by unfold maxLen; omega) HAr.out)
    by_cases hr : r = []
    · subst hr
      have HE := Lib.hid hg.out.over
      rw [rdFrm_none] at HT
      clear hg hrl
      go_wp2_with fail
      refine HT.out.mono ?_
      rintro e w3 ⟨rfl, b3⟩
      dsimp only
      have HO := Lib.hid (owns_below ho.out b3)
      have HB : Hid (Below w1.heap.size w1 w3) := hbel.out.trans (b3.mono hbel.out.size)
      clear ho b3 hbel HT HAr
      go_wp2_with fail
      refine (HI.out 2 _).mono ?_
      rintro e w4 ⟨rfl, rfl⟩
      go_wp2
      go_ret3
      obtain ⟨rfl, h2⟩ := Prod.mk.inj (HU.out.symm.trans HE.out)
      obtain ⟨rfl, rfl⟩ := Prod.mk.inj h2
      exact RR3.mk (by simp) rfl (owns_le HO.out B1.out.size) (belowT B1.out HB.out)
    · have hre : r.isEmpty = false := by cases r with
        | nil => exact absurd rfl hr
        | cons => rfl
      have hlen := fun h => rdFrm_len r h
      by_cases hc : (rdFrm r).2.2 = 0
      · have HG := Lib.hid (hg.out.step hr hc)
        have HM : Hid ((rdFrm r).2.1.length < r.length) := by show (rdFrm r).2.1.length < r.length; have := (hlen hc).1; omega
        rw [hc, errV_zero] at HT
        generalize (rdFrm r).1 = x at *
        generalize (rdFrm r).2.1 = s' at *
        clear hc hlen hg hr hrl
        go_wp2_with fail
        refine HT.out.mono ?_
        rintro e w3 ⟨rfl, b3⟩
        dsimp only
        have HO3 := Lib.hid (owns_below ho.out b3)
        have HB3 : Hid (Below w1.heap.size w1 w3) := hbel.out.trans (b3.mono hbel.out.size)
        clear ho b3 hbel HT HAr
        go_wp2_with fail
        refine (HI.out 0 _).mono ?_
        rintro e w4 ⟨rfl, rfl⟩
        go_wp2_with (at_builtin; refine wpList_append_own _ rfl (.tmp 39) (.tmp 41) 37 rfl w1.heap.size 9 i0 (.string ⟨#[]⟩) 1 16 Try.underlying37 hi hz0 hz1 hz2 rfl (by decide) _ _ _ rfl (HO3.out.alloc _) ⟨w3.heap.size, 0, none⟩ 1 1 [.string ⟨x.toArray⟩] rfl rfl ?d1 ?d2 ?d3 ?d4 ?d5 ?_)
        case d1 =>
          intro j u hj
          match j, hj with
          | 0, hj => simp at hj; subst hj; simp [Addr.add]
        case d2 => intro u hu; simp at hu; subst hu; rfl
        case d3 => unfold maxLen; omega
        case d4 => omega
        case d5 => have := HB3.out.size; simp; omega
        · intro v' w4 hown' hgrow _
          have hb4 : Hid (Below w1.heap.size w1 w4) := (HB3.out.alloc HB3.out.size _).grown hgrow (by simp; have := HB3.out.size; omega) (fun k hk => (HO3.out.lt k hk).1)
          have HO : Hid (w4.ownsRow w1.heap.size 9 1 v' (T ++ [x]).length ((T ++ [x]).map strV)) := by
            show w4.ownsRow w1.heap.size 9 1 v' (T ++ [x]).length ((T ++ [x]).map strV)
            rw [map_snoc, List.length_append]; exact hown'
          clear hown' hgrow HO3
          go_wp2
          go_roundw
          case rel => exact ⟨T ++ [x], s', rfl, HG.out, HO, hb4⟩
          case measure => simp only [strLen, mk_size]; exact HM.out
      · have HE := Lib.hid (hg.out.fail hr hc)
        obtain ⟨c, hc'⟩ : ∃ c, (rdFrm r).2.2 = c + 1 := ⟨_, (Nat.succ_pred_eq_of_ne_zero hc).symm⟩
        have HJ : Hid (∀ w, Calls Try.prog 27 #[.iface 49 (.int .i64 ((c : Int) + 1)), .iface 49 (.int .i64 2)] w fun e w' => e = .returned (.bool (c + 1 == 2)) ∧ w = w') := fun w => by
          have := HI.out (c + 1) w
          rw [errV_succ] at this
          exact this
        rw [hc'] at HT HE
        rw [errV_succ] at HT
        generalize (rdFrm r).1 = x at *
        generalize (rdFrm r).2.1 = s' at *
        clear hc hc' hlen hg hr hrl
        go_wp2_with fail
        refine HT.out.mono ?_
        rintro e w3 ⟨rfl, b3⟩
        dsimp only
        have HO := Lib.hid (owns_below ho.out b3)
        have HB : Hid (Below w1.heap.size w1 w3) := hbel.out.trans (b3.mono hbel.out.size)
        clear ho b3 hbel HT HAr
        obtain ⟨t, ht⟩ : ∃ t, t = (c + 1 == 2) := ⟨_, rfl⟩
        rw [← ht] at HJ
        clear ht
        go_wp2_with fail
        refine (HJ.out _).mono ?_
        rintro e w4 ⟨rfl, rfl⟩
        cases t with
        | true =>
          go_wp2
          go_ret3
          obtain ⟨rfl, h2⟩ := Prod.mk.inj (HU.out.symm.trans HE.out)
          obtain ⟨rfl, rfl⟩ := Prod.mk.inj h2
          exact RR3.mk rfl (errV_succ _).symm (owns_le HO.out B1.out.size) (belowT B1.out HB.out)
        | false =>
          go_wp2
          go_ret3
          obtain ⟨rfl, h2⟩ := Prod.mk.inj (HU.out.symm.trans HE.out)
          obtain ⟨rfl, rfl⟩ := Prod.mk.inj h2
          exact RR3.mk rfl (errV_succ _).symm (owns_le HO.out B1.out.size) (belowT B1.out HB.out)

/-- The program takes all frames as the chapter says. -/
theorem pAll (b : List UInt8) (w : World) (h : (b.length : Int) ≤ 4398046511104) :
    Calls Try.prog 18 #[.string ⟨b.toArray⟩] w (RR3 w (rdEvery b).1 (.int .i64 ((b.length : Int) - (rdEvery b).2.1.length)) (errV 49 (rdEvery b).2.2)) :=
  pAll_main b w h _ _ _ rfl

end Go.Proofs.Ytaiklhcgimpajaa
