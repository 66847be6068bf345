/- The reference's All of layer 3: what it returns. -/
import Derived.Test.YtaiklhcgimpajaaRefF
import Derived.Test.YtaiklhcgimpajaaRR
namespace Go.Proofs.Ytaiklhcgimpajaa
open Go.RowKit Go.Proofs Go.Proofs.Pk
set_option maxRecDepth 10000
attribute [local simp] mk_get wrap64_u8 mk_extract ByteArray.mk_append_mk get_1k

set_option maxRecDepth 100000 in
set_option maxHeartbeats 2000000 in
theorem rAll_main (b : List UInt8) (w : World) (h : (b.length : Int) ≤ 4398046511104) (U : List (List UInt8)) (q : List UInt8) (d : Nat) (hU : rdEvery b = (U, q, d)) :
    Calls Try.prog 17 #[.string ⟨b.toArray⟩] w (RR3 w U (.int .i64 ((b.length : Int) - q.length)) (.int .i64 d)) := by
  obtain ⟨i0, hi, hz0, hz1, hz2⟩ := info_parts info9
  have HU := Lib.hid hU
  clear hU
  go_enter Try.func17, Try.ntmps17
  go_wp2
  go_loopw [5, 6] (fun v x wr => ∃ (T : List (List UInt8)) (r : List UInt8), x = .string ⟨r.toArray⟩ ∧ Hid (AGoes b T r) ∧ wr.ownsRow w.heap.size 9 1 v T.length (T.map strV) ∧ Below w.heap.size w wr)
    (fun _ x _ => strLen x)
  case atStart => exact ⟨[], b, rfl, AGoes.start b, World.ownsRow_nil _ _ _ _, Below.refl _ _⟩
  case round =>
    obtain ⟨T, r, rfl, hg, ho, hbel⟩ := hrel
    have hrl := hg.out.2.1
    have hrl2 : (r.length : Int) ≤ b.length := by omega
    have hTl : (T.length : Int) ≤ b.length := by omega
    by_cases hr : r = []
    · subst hr
      have HE := Lib.hid hg.out.over
      have HO := Lib.hid ho
      clear hg ho hrl
      go_wp2
      go_ret3
      obtain ⟨rfl, h2⟩ := Prod.mk.inj (HU.out.symm.trans HE.out)
      obtain ⟨rfl, rfl⟩ := Prod.mk.inj h2
      exact RR3.mk (by simp) rfl HO.out hbel
    · have hre : r.isEmpty = false := by cases r with
        | nil => exact absurd rfl hr
        | cons => rfl
      have HT := Lib.hid (rTake r wr (by unfold maxLen; omega))
      have hlen := fun h => rdFrm_len r h
      by_cases hc : (rdFrm r).2.2 = 0
      · have HG := Lib.hid (hg.out.step hr hc)
        have HM : Hid ((rdFrm r).2.1.length < r.length) := by show (rdFrm r).2.1.length < r.length; have := (hlen hc).1; omega
        rw [hc] at HT
        generalize (rdFrm r).1 = x at *
        generalize (rdFrm r).2.1 = s' at *
        clear hc hlen hg hr hrl
        go_wp2_with fail
        refine HT.out.mono ?_
        rintro e w3 ⟨rfl, b3⟩
        have ho3 := owns_below ho b3
        have hbel3 : Below w.heap.size w w3 := hbel.trans (b3.mono hbel.size)
        clear ho b3 hbel HT
        go_wp2_with (at_builtin; refine wpList_append_own _ rfl (.tmp 28) (.tmp 30) 37 rfl w.heap.size 9 i0 (.string ⟨#[]⟩) 1 16 Try.underlying37 hi hz0 hz1 hz2 rfl (by decide) _ _ _ rfl (ho3.alloc _) ⟨w3.heap.size, 0, none⟩ 1 1 [.string ⟨x.toArray⟩] rfl rfl ?d1 ?d2 ?d3 ?d4 ?d5 ?_)
        case d1 =>
          intro j u hj
          match j, hj with
          | 0, hj => simp at hj; subst hj; simp [Addr.add]
        case d2 => intro u hu; simp at hu; subst hu; rfl
        case d3 => unfold maxLen; omega
        case d4 => omega
        case d5 => have := hbel3.size; simp; omega
        · intro v' w4 hown' hgrow _
          have hb4 : Below w.heap.size w w4 := (hbel3.alloc hbel3.size _).grown hgrow (by simp; have := hbel3.size; omega) (fun k hk => (ho3.lt k hk).1)
          have HO : Hid (w4.ownsRow w.heap.size 9 1 v' (T ++ [x]).length ((T ++ [x]).map strV)) := by
            show w4.ownsRow w.heap.size 9 1 v' (T ++ [x]).length ((T ++ [x]).map strV)
            rw [map_snoc, List.length_append]; exact hown'
          clear hown' hgrow ho3
          go_wp2
          go_roundw
          case rel => exact ⟨T ++ [x], s', rfl, HG.out, HO.out, hb4⟩
          case measure => simp only [strLen, mk_size]; exact HM.out
      · have HE := Lib.hid (hg.out.fail hr hc)
        obtain ⟨c, hc'⟩ : ∃ c, (rdFrm r).2.2 = c + 1 := ⟨_, (Nat.succ_pred_eq_of_ne_zero hc).symm⟩
        rw [hc'] at HT HE
        rw [show (((c + 1 : Nat) : Int)) = (c : Int) + 1 from by omega] at HT
        have hne : (((c : Int) + 1) != 0) = true := by rw [bne_iff_ne]; omega
        generalize (rdFrm r).1 = x at *
        generalize (rdFrm r).2.1 = s' at *
        clear hc hc' hlen hg hr hrl
        go_wp2_with fail
        refine HT.out.mono ?_
        rintro e w3 ⟨rfl, b3⟩
        have HO := Lib.hid (owns_below ho b3)
        have hbel3 : Below w.heap.size w w3 := hbel.trans (b3.mono hbel.size)
        clear ho b3 hbel HT
        go_wp2
        go_ret3
        obtain ⟨rfl, h2⟩ := Prod.mk.inj (HU.out.symm.trans HE.out)
        obtain ⟨rfl, rfl⟩ := Prod.mk.inj h2
        exact RR3.mk rfl (by simp) HO.out hbel3

/-- The reference takes all frames as the chapter says. -/
theorem rAll (b : List UInt8) (w : World) (h : (b.length : Int) ≤ 4398046511104) :
    Calls Try.prog 17 #[.string ⟨b.toArray⟩] w (RR3 w (rdEvery b).1 (.int .i64 ((b.length : Int) - (rdEvery b).2.1.length)) (.int .i64 (rdEvery b).2.2)) :=
  rAll_main b w h _ _ _ rfl

end Go.Proofs.Ytaiklhcgimpajaa
