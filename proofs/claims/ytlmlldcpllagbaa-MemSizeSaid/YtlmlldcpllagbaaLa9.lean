/- The landed list's Lane: the keys of a lane, link by link. -/
import Derived.Test.YtlmlldcpllagbaaSlF
namespace Go.Proofs.Ytlmlldcpllagbaa
open Go.RowKit Go.Proofs Go.Proofs.Pk
set_option maxRecDepth 10000
attribute [local simp] mk_get wrap64_u8 mk_extract ByteArray.mk_append_mk get_1k

/-- The keys of a lane from a place on. -/
def restE (E : List Ent) (p h : Nat) : List Txt := ((E.drop p).filter (fun e => decide ((h : Int) < (e.2.2 : Int)))).map (·.1)
theorem rest_start (E : List Ent) (h : Nat) : restE E 0 h = laneE E (h : Int) := rfl
theorem rest_none {E : List Ent} {p h : Nat} (e : nxtE E p h = none) : restE E p h = [] := by
  have := lane_step (E := E) (p := p) (h := h)
  rw [e] at this
  unfold restE
  simp only at this
  rw [this]; rfl
theorem rest_some {E : List Ent} {p h j : Nat} (e : nxtE E p h = some j) (hj : j < E.length) : restE E p h = (E[j]).1 :: restE E (j + 1) h := by
  have := lane_step (E := E) (p := p) (h := h)
  rw [e] at this
  simp only at this
  obtain ⟨_, h2⟩ := this
  unfold restE
  rw [h2]; rfl
theorem laneNeg {E : List Ent} (hE : SkOk E) (h : Int) (hh : h < 0) : laneE E h = laneE E 0 := by
  rw [hE.lane0 h (by omega), hE.lane0 0 (Int.le_refl _)]
/-- What the loop over a lane keeps. -/
def LaJ (w : World) (E : List Ent) (h : Nat) (p : Nat) (v : Value) (wx : World) : Prop :=
  ∃ D : List Txt, laneE E (h : Int) = D ++ restE E p h ∧ D.length ≤ p ∧ wx.ownsRow w.heap.size 9 1 v D.length (D.map strV) ∧ Kept (fun _ => False) w wx

set_option maxHeartbeats 4000000 in
theorem laneIn {w : World} {B l : Nat} {E : List Ent} {P : List Nat} (h : SkRaw w B l E P) (hl : E.length ≤ 1001) (n : Nat) (hn : n < 12) (hh : Int) (hm : max hh 0 = (n : Int)) (hle : hh < 12) :
    Calls Try.prog 31 #[.pointer (some ⟨l, 0, none⟩), .int .i64 hh] w fun e w' => ∃ v, e = .returned v ∧ w'.ownsRow w.heap.size 9 1 v (laneE E (n : Int)).length ((laneE E (n : Int)).map strV) ∧ Kept (fun _ => False) w w' := by
  obtain ⟨i0, hi, hz0, hz1, hz2⟩ := info_parts info9S
  have H := Lib.hid h
  have h12 : ¬(12 : Int) ≤ hh := by omega
  have n0 : (0 : Int) ≤ (n : Int) := by omega
  have n12 : (n : Int) < 12 := by omega
  have c0 := h.lanes n hn 0 (Nat.zero_le _) (fun h0 => absurd h0 (Nat.lt_irrefl 0))
  simp only [blkP] at c0
  have HI : Hid (LaJ w E n 0 (.slice none 0 0) w) := ⟨[], (rest_start E n).symm, Nat.le_refl _, World.ownsRow_nil _ _ _ _, Kept.refl _ _⟩
  have HL := Lib.hid hl
  obtain ⟨v0, hv0⟩ : ∃ v0, Hid (v0 = ptrO (linkE E P 0 n)) := ⟨_, rfl⟩
  rw [← hv0.out] at c0
  clear h hl hle
  go_enter Try.func31, Try.ntmps31
  go_wp2
  go_loopg [5, 6] (E.length - 0) (fun g s5 s6 wx => ∃ p, p + g = E.length ∧ s6 = ptrO (linkE E P p n) ∧ Hid (LaJ w E n p s5 wx))
  case atStart => exact ⟨0, by omega, hv0.out, HI⟩
  case round =>
    obtain ⟨p, hpg, rfl, hI⟩ := hrel
    clear HI c0 h12 hm hv0
    rcases link_cases E P l p n H.out.len with ⟨e1, e2⟩ | ⟨j, e2, hj, e1⟩
    · rw [e1]
      simp only [ptrO]
      obtain ⟨D, hD, _, hown, hK⟩ := hI.out
      rw [rest_none e2, List.append_nil] at hD
      have HF := Lib.hid (And.intro hown hK)
      rw [← hD] at HF
      clear hD hown hK hI e1 e2
      go_wp2
      go_ret
      exact ⟨_, rfl, HF.out.1, HF.out.2⟩
    · rw [e1]
      simp only [ptrO]
      obtain ⟨D, hD, hDl, hown, hK⟩ := hI.out
      rw [rest_some e2 hj] at hD
      have hpj := (nxt_some e2).1
      have htall := (nxt_some e2).2.2.1
      have hS := H.out.still hK
      obtain ⟨C, c1, -, c3, -⟩ := hS.node j hj
      have ck := c1.cell 0 _ c3
      have cl := hS.lanes n hn (j + 1) (by omega) (fun _ _ => htall)
      have HNext : Hid (laneE E (n : Int) = (D ++ [(E[j]).1]) ++ restE E (j + 1) n) := by
        show _ = _
        rw [List.append_assoc]; exact hD
      obtain ⟨x, hx⟩ : ∃ x : Txt, Hid (x = (E[j]).1) := ⟨(E[j]).1, rfl⟩
      rw [← hx.out] at ck HNext
      obtain ⟨b, hb⟩ : ∃ b, Hid (b = blkP l P (j + 1)) := ⟨_, rfl⟩
      rw [← hb.out] at ck cl ⊢
      obtain ⟨nx, hnx⟩ : ∃ nx, Hid (nx = ptrO (linkE E P (j + 1) n)) := ⟨_, rfl⟩
      have cl2 : wr.cell? ⟨b, 3 + n, none⟩ = some nx := by rw [hnx.out]; exact cl
      have hbw : Hid (b < w.heap.size) := by show _ < _; rw [hb.out]; exact H.out.lt (j + 1) (by omega)
      have hbl : b < wr.heap.size := by rw [hb.out]; exact hS.lt (j + 1) (by omega)
      have HI2 := Lib.hid (And.intro hown hK)
      have hsz := hK.size
      have hL := HL.out
      have hjl : Hid (D.length ≤ p ∧ p ≤ j ∧ j + 1 ≤ E.length) := ⟨hDl, hpj, hj⟩
      have HPG := Lib.hid hpg
      have hD1 : D.length ≤ 1001 := by omega
      clear hx hD hDl hown hK hI e1 e2 hpj htall hS c1 c3 cl hpg hj
      have e0 : (wr.alloc (.cells #[.string ⟨x.toArray⟩] 9)).heap.size = wr.heap.size + 1 := by simp
      go_wp2_with (at_builtin; refine wpList_append_own _ rfl (.tmp 26) (.tmp 31) 63 rfl w.heap.size 9 i0 (.string ⟨#[]⟩) 1 16 Try.underlying63 hi hz0 hz1 hz2 rfl (by decide) _ _ _ rfl (HI2.out.1.alloc _) ⟨wr.heap.size, 0, none⟩ 1 1 [.string ⟨x.toArray⟩] rfl rfl ?d1 ?d2 ?d3 ?d4 ?d5 ?_)
      case d1 =>
        intro j u hj
        match j, hj with
        | 0, hj => simp at hj; subst hj; simp [Addr.add]
      case d2 => intro u hu; simp at hu; subst hu; rfl
      case d3 => unfold maxLen; omega
      case d4 => omega
      case d5 => simp; omega
      · intro v' w4 hown' hgrow _
        have hK4 : Kept (fun _ => False) w w4 := kept_grown (HI2.out.2.alloc _) hgrow (fun b hb => .inr (HI2.out.1.lt b hb).1)
        have HI3 : Hid (LaJ w E n (j + 1) v' w4) := by
          refine ⟨D ++ [x], HNext.out, ?_, ?_, hK4⟩
          · have := hjl.out; rw [List.length_append, List.length_singleton]; omega
          · rw [List.map_append, List.length_append]
            exact hown'
        have cl4 : w4.cell? ⟨b, 3 + n, none⟩ = some nx := by
          rw [← cl2]
          have hb2 := hgrow.block b (by simp; omega) (fun e => by have := (HI2.out.1.lt b e.symm).1; have := hbw.out; omega)
          rw [World.cell?_of_block (w := wr.alloc (.cells #[.string ⟨x.toArray⟩] 9)) hb2]
          exact World.cell?_of_block (w := wr) (by simp only [World.alloc]; rw [Array.getElem?_push_lt hbl, Array.getElem?_eq_getElem hbl])
        clear hown' hgrow HI2 cl2
        go_wp2
        go_roundg (E.length - (j + 1))
        case measure => have := hjl.out; have := HPG.out; omega
        case rel => exact ⟨j + 1, by have := hjl.out; omega, hnx.out, HI3⟩

theorem laneBig {w : World} {B l : Nat} {E : List Ent} {P : List Nat} (h : SkRaw w B l E P) (hh : Int) (h12 : 12 ≤ hh) :
    Calls Try.prog 31 #[.pointer (some ⟨l, 0, none⟩), .int .i64 hh] w fun e w' => ∃ v, e = .returned v ∧ w'.ownsRow w.heap.size 9 1 v (laneE E hh).length ((laneE E hh).map strV) ∧ Kept (fun _ => False) w w' := by
  rw [h.ok.lane12 hh h12]
  clear h
  go_enter Try.func31, Try.ntmps31
  go_wp2
  go_ret
  exact ⟨_, rfl, World.ownsRow_nil _ _ _ _, Kept.refl _ _⟩
theorem laneP {w : World} {B l : Nat} {E : List Ent} {P : List Nat} (h : SkRaw w B l E P) (hl : E.length ≤ 1001) (hh : Int) :
    Calls Try.prog 31 #[.pointer (some ⟨l, 0, none⟩), .int .i64 hh] w fun e w' => ∃ v, e = .returned v ∧ w'.ownsRow w.heap.size 9 1 v (laneE E hh).length ((laneE E hh).map strV) ∧ Kept (fun _ => False) w w' := by
  by_cases h12 : 12 ≤ hh
  · exact laneBig h hh h12
  · have e : laneE E hh = laneE E (((max hh 0).toNat : Nat) : Int) := by
      by_cases h0 : hh < 0
      · rw [laneNeg h.ok hh h0, show (((max hh 0).toNat : Nat) : Int) = 0 from by omega]
      · rw [show (((max hh 0).toNat : Nat) : Int) = hh from by omega]
    rw [e]
    exact laneIn h hl (max hh 0).toNat (by omega) hh (by omega) (by omega)

end Go.Proofs.Ytlmlldcpllagbaa
