/- WlF, Pick8, MkK. -/
import Derived.Test.YtfbgagpihhbllaaGreatDoorJ32
import Derived.Test.YtfbgagpihhbllaaGreatDoorPDk
import Derived.Test.YtfbgagpihhbllaaGreatDoorJ13
import Derived.Test.YtfbgagpihhbllaaGreatDoorJ15
import Derived.Test.YtfbgagpihhbllaaGreatDoorProg

/- Package wal: Append. -/
namespace Go.Proofs.YtfbgagpihhbllaaGreatDoor
open Go.RowKit Go.Proofs Go.Proofs.Pk
set_option maxRecDepth 10000
attribute [local simp] mk_get wrap64_u8 mk_extract ByteArray.mk_append_mk get_1k

theorem chunksL_one (m : List UInt8) (h : m.length = 64) : chunksL m = [m] := by
  have h1 : nch m.length = 1 := by rw [h]; rfl
  unfold chunksL
  rw [h1]
  show [chunk m 0] = [m]
  unfold chunk
  rw [Nat.mul_zero, List.drop_zero, List.take_of_length_le (by omega)]
/-- A number that grows if there was no error. -/
def stepE (c e k : Nat) : Nat := if c = 0 then e + k else e
theorem stepE_no {c e k : Nat} (h : c ≠ 0) : stepE c e k = e := by unfold stepE; rw [if_neg h]
theorem stepE_ok (e k : Nat) : stepE 0 e k = e + k := by unfold stepE; rw [if_pos rfl]
/-- What Append leaves. -/
def ApOut (w : World) (B p pd pl id many : Nat) (V' : Vol) (vF : Value) (X : Nat → Prop) (w' : World) (v : Value) (e n : Nat) : Prop :=
  (∃ X' vF', VlP w' B p pd V' vF' X' ∧ Grows w X X' ∧ (∀ b, vF'.ownBlock = some b → vF.ownBlock = some b ∨ w.heap.size ≤ b) ∧ Kept (fun k => X k ∨ k = pl) w w' ∧ OffV v X') ∧ LgAt w' pl p id many e n
theorem VlOut.ap {w w' : World} {B p pd pl id many e n : Nat} {V' : Vol} {vF v : Value} {X : Nat → Prop} (h : VlOut w B p pd V' vF X w' v) (hL : LgAt w pl p id many e n) (hX : ¬X pl) : ApOut w B p pd pl id many V' vF X w' v e n := by
  obtain ⟨X', vF', hv, hg, ho, hk, hoff⟩ := h
  exact ⟨⟨X', vF', hv, hg, ho, hk.mono (fun k hk => .inl hk), hoff⟩, hL.kept hk hX⟩

set_option maxHeartbeats 2000000 in
theorem appendP (w : World) (B p pd : Nat) (V : Vol) (vF : Value) (X : Nat → Prop) (h : VlP w B p pd V vF X) (hg : ErrTy w) (hB : 0 < B) (hl : V.gone = false) (hC : V.D.C.length ≤ 800000) (hN : V.D.n ≤ 800000)
    (pl id many e n : Nat) (hL : LgAt w pl p id many e n) (hX : ¬X pl) (hF : vF.ownBlock ≠ some pl) (he : e ≤ many) (hm : many ≤ 4000) (hn : n ≤ 4000) (hid : id ≤ MaxN) (s : List UInt8) (hs : s.length ≤ 140737488351232)
    (hbd : e + 1 + nch s.length ≤ many → (bodyW V id e s).2.1 = 0 → (bodyW V id e s).1.gone = false ∧ (bodyW V id e s).1.D.C.length ≤ 890000 ∧ (bodyW V id e s).1.D.n ≤ 890000) :
    Calls Tryz.prog 18 #[.pointer (some ⟨pl, 0, none⟩), .string ⟨s.toArray⟩] w fun r w' => ∃ v, r = .returned v ∧ Er8 w' v (appendW V id many e n s).2.1 (decide (e + 1 + nch s.length ≤ many)) ∧
      ApOut w B p pd pl id many (appendW V id many e n s).1 vF X w' v (stepE (appendW V id many e n s).2.1 e (1 + nch s.length)) (stepE (appendW V id many e n s).2.1 n 1) := by
  have HR := Lib.hid (roomP8 w pl p id many e n hL he hm)
  have hri := room_iff he s.length
  obtain ⟨rm, hrm⟩ : ∃ rm, Hid (rm = roomW many e) := ⟨_, rfl⟩
  rw [← hrm.out] at HR hri
  have H := Lib.hid (And.intro h (And.intro hg (And.intro hl (And.intro hC hN))))
  have HL := Lib.hid (And.intro hL hX)
  have HF := Lib.hid hF
  have HM : Hid (e ≤ many ∧ many ≤ 4000 ∧ n ≤ 4000 ∧ id ≤ MaxN) := ⟨he, hm, hn, hid⟩
  have HBD := Lib.hid hbd
  clear h hg hl hC hN hL hX hF he hm hn hid hbd hrm
  by_cases hroom : e + 1 + nch s.length ≤ many
  case neg =>
    have hap : Hid (appendW V id many e n s = (V, 7, false)) := by show _ = _; unfold appendW; rw [if_pos (by omega)]
    have hdec : Hid (decide (e + 1 + nch s.length ≤ many) = false) := by show _ = _; rw [decide_eq_false_iff_not]; exact hroom
    have hgt : rm < (s.length : Int) := by have := (not_congr hri).1 hroom; omega
    clear hri hroom HBD
    go_enter Tryz.func18, Tryz.ntmps18
    go_wp2_with fail
    refine HR.out.mono ?_
    clear HR
    rintro r w1 ⟨rfl, hk1⟩
    have HN := Lib.hid (Holds.new w1 [.int .i64 8, .int .i64 7, .nilIface] 83)
    have HK := Lib.hid (hk1.alloc (.cells #[.int .i64 8, .int .i64 7, .nilIface] 83))
    have HS1 := Lib.hid hk1.size
    clear hk1
    go_wp2
    go_ret
    rw [hap.out, hdec.out]
    have hE : Er8 (w1.alloc (.cells #[.int .i64 8, .int .i64 7, .nilIface] 83)) (.iface 81 (.pointer (some ⟨w1.heap.size, 0, none⟩))) 7 false := .inr ⟨by decide, w1.heap.size, .nilIface, HN.out.lt, rfl, fault_holds HN.out, .inl ⟨rfl, rfl⟩⟩
    refine ⟨_, rfl, hE, ?_⟩
    rw [stepE_no (by simp), stepE_no (by simp)]
    exact (VlLeft.out (VlLeft.same H.out.1 (Kept.refl _ _)) hE (fun b hb => by injection hb with _ hb; injection hb with hb; injection hb with hb; injection hb with hb; have := HS1.out; omega) HK.out).ap HL.out.1 HL.out.2
  have hdec : Hid (decide (e + 1 + nch s.length ≤ many) = true) := by show _ = _; rw [decide_eq_true_eq]; exact hroom
  have hgt : ¬rm < (s.length : Int) := by have := hri.1 hroom; omega
  have hsl : s.length ≤ 300000 := by have := HM.out; have : nch s.length ≤ 4000 := by omega
                                     unfold nch at this; omega
  have HRM := Lib.hid (And.intro hroom hsl)
  have HAP : Hid (appendW V id many e n s = if (bodyW V id e s).2.1 ≠ 0 then bodyW V id e s else thenSync (writesV (bodyW V id e s).1 (id : Int) e [markN id n s.length])) := by
    show _ = _; unfold appendW; rw [if_neg (by omega)]
  clear hri hroom hsl
  go_enter Tryz.func18, Tryz.ntmps18
  go_wp2_with fail
  refine HR.out.mono ?_
  clear HR
  rintro r w1 ⟨rfl, hk1⟩
  have hL1 := HL.out.1.kept hk1 (fun h => h)
  have c3 := Holds.cell hL1 3 _ rfl
  have HP := Lib.hid (fun a (ha : a ≤ 5000) (b : List UInt8) (hb : b.length ≤ 300000) => putP8 w1 B p pd V vF X (H.out.1.still hk1) (H.out.2.1.kept hk1 (fun h => h)) hB H.out.2.2.1 (by have := H.out.2.2.2.1; omega) (by have := H.out.2.2.2.2; omega) pl id many e n hL1 HL.out.2 a ha b hb)
  have HK1 := Lib.hid hk1
  have hwe : IntKind.i64.wrap ((e : Int) + 1) = ((e + 1 : Nat) : Int) := by have := HM.out; rw [IntWalk.i64_in _ (by omega)]; omega
  clear hk1 hL1
  by_cases hs0 : s = []
  case' neg =>
    have hse : (s == []) = false := by simpa using hs0
    have hnz : Hid (nch s.length ≠ 0) := by have : 0 < s.length := List.length_pos_iff.2 hs0
                                            show _ ≠ _; unfold nch; omega
    have hbw : Hid (bodyW V id e s = thenSync (writesV V (id : Int) (e + 1) (chunksL s))) := by show _ = _; unfold bodyW; rw [if_neg hnz.out]
    have HPs := Lib.hid (HP.out (e + 1) (by have := HM.out; omega) s HRM.out.2)
    rw [← hbw.out] at HPs
    clear HP hs0 hnz hbw
    go_wp2_with fail
    refine HPs.out.mono ?_
    clear HPs
    rintro r w2 ⟨v, rfl, hev, hout⟩
    clear c3
    obtain ⟨X1, vF1, hv, hgr, ho, hk, hoff⟩ := hout
    have hgr' : Grows w X X1 := fun k hk => (hgr k hk).imp (fun x => x) (fun h => Nat.le_trans HK1.out.size h)
    have ho' : ∀ b, vF1.ownBlock = some b → vF.ownBlock = some b ∨ w.heap.size ≤ b := fun b hb => (ho b hb).imp (fun x => x) (fun h => Nat.le_trans HK1.out.size h)
    have hk' : Kept X w w2 := (HK1.out.mono (fun _ hf => hf.elim)).trans hk (fun k hk => .inl hk)
    clear hgr ho hk
    rcases hev with ⟨hz, rfl⟩ | ⟨hnz, q, inner, hq, rfl, hfa, hin⟩
    case' inr =>
      have hap : Hid (appendW V id many e n s = bodyW V id e s) := by show _ = _; rw [HAP.out, if_pos hnz]
      have HE := Lib.hid (show Er8 w2 (.iface 81 (.pointer (some ⟨q, 0, none⟩))) (bodyW V id e s).2.1 true from .inr ⟨hnz, q, inner, hq, rfl, hfa, hin⟩)
      have HO : Hid (ApOut w B p pd pl id many (bodyW V id e s).1 vF X w2 (.iface 81 (.pointer (some ⟨q, 0, none⟩))) e n) := VlOut.ap ⟨X1, vF1, hv, hgr', ho', hk', hoff⟩ HL.out.1 HL.out.2
      have HNZ := Lib.hid hnz
      clear hnz hfa hin hq hv hgr' ho' hk' hoff HAP
      go_wp2
      go_ret
      rw [hap.out, hdec.out, stepE_no HNZ.out, stepE_no HNZ.out]
      exact ⟨_, rfl, HE.out, HO.out⟩
    have hap : Hid (appendW V id many e n s = thenSync (writesV (bodyW V id e s).1 (id : Int) e [markN id n s.length])) := by show _ = _; rw [HAP.out, if_neg (by omega)]
    have HB1 : Hid (VlLeft w B p pd (bodyW V id e s).1 vF X w2) := ⟨X1, vF1, hv, hgr', ho', hk'⟩
    have HT := Lib.hid (HBD.out HRM.out.1 hz)
    clear hv hgr' ho' hk' hoff hz HAP HBD
    generalize (bodyW V id e s).1 = V1 at hap HB1 HT
  case' pos =>
    have hbw : bodyW V id e s = (V, 0, false) := by unfold bodyW; rw [if_pos (by rw [hs0]; rfl)]
    obtain ⟨V1, hV1⟩ : ∃ V1, V1 = V := ⟨_, rfl⟩
    have hap : Hid (appendW V id many e n s = thenSync (writesV V1 (id : Int) e [markN id n s.length])) := by show _ = _; rw [hV1, HAP.out, hbw, if_neg (by simp)]
    have hse : (s == []) = true := by simpa using hs0
    have HB1 : Hid (VlLeft w B p pd V vF X w1) := VlLeft.same H.out.1 HK1.out
    have HT : Hid (V.gone = false ∧ V.D.C.length ≤ 890000 ∧ V.D.n ≤ 890000) := ⟨H.out.2.2.1, by have := H.out.2.2.2.1; omega, by have := H.out.2.2.2.2; omega⟩
    clear HP HBD HAP hbw c3
    obtain ⟨w2, hw2⟩ : ∃ w2, w2 = w1 := ⟨_, rfl⟩
    rw [← hw2] at HB1
    rw [← hV1] at HB1
    rw [← hV1] at HT
    rw [← hw2]
    clear hw2 hV1 hs0
  all_goals
    have hL2 := HL.out.1.kept HB1.out.size HL.out.2
    have c3 := Holds.cell hL2 3 _ rfl
    have c1 := Holds.cell hL2 1 _ rfl
    have c4 := Holds.cell hL2 4 _ rfl
    have HL2 := Lib.hid hL2
    clear hL2
    obtain ⟨M, hM⟩ : ∃ M, Hid (M = markN id n s.length) := ⟨_, rfl⟩
    have hml : Hid (M.length = 64) := by show _ = _; rw [hM.out, markN_length]
    have HMk := Lib.hid (pMk id n s.length w2.drew (by have := HM.out.2.2.2; unfold MaxN at this; omega) (by have := HM.out; omega) (by have := HRM.out.2; omega))
    rw [← hM.out] at HMk hap
    go_upto_region 7 with (fail)
    refine wp_region_until (fun w' => w'.cell? ⟨pl, 3, none⟩ = some (.int .i64 (e : Int)) ∧ w'.cell? ⟨pl, 1, none⟩ = some (.int .i64 (id : Int)) ∧ w'.cell? ⟨pl, 4, none⟩ = some (.int .i64 (n : Int))) 18 (by kernel_rfl) ?_
    have hS0 : w2.drew.cell? ⟨pl, 3, none⟩ = some (.int .i64 (e : Int)) ∧ w2.drew.cell? ⟨pl, 1, none⟩ = some (.int .i64 (id : Int)) ∧ w2.drew.cell? ⟨pl, 4, none⟩ = some (.int .i64 (n : Int)) := ⟨c3, c1, c4⟩
    refine wpAnyU_take (i := 0) (v := (.pointer (some ⟨pl, 0, none⟩))) (some 28) rfl rfl (by kernel_rfl) (by kernel_rfl) (by kernel_rfl) (by kernel_rfl) (fun _ _ _ h => h) hS0 (yields_of (by kernel_rfl) (fun w ⟨h0, h1, h2⟩ => by go_simp)) ?_
    refine wpAnyU_take (i := 1) (v := (.pointer (some ⟨pl, 0, none⟩))) (some 29) rfl rfl (by kernel_rfl) (by kernel_rfl) (by kernel_rfl) (by kernel_rfl) (fun _ _ _ h => h) hS0 (yields_of (by kernel_rfl) (fun w ⟨h0, h1, h2⟩ => by go_simp)) ?_
    refine wpAnyU_take (i := 2) (v := (.pointer (some ⟨pl, 0, none⟩))) (some 30) rfl rfl (by kernel_rfl) (by kernel_rfl) (by kernel_rfl) (by kernel_rfl) (fun _ _ _ h => h) hS0 (yields_of (by kernel_rfl) (fun w ⟨h0, h1, h2⟩ => by go_simp)) ?_
    refine wpAnyU_take (i := 3) (v := (.pointer (some ⟨pl, 3, none⟩))) (some 31) rfl rfl (by kernel_rfl) (by kernel_rfl) (by kernel_rfl) (by kernel_rfl) (fun _ _ _ h => h) hS0 (yields_of (by kernel_rfl) (fun w ⟨h0, h1, h2⟩ => by go_simp)) ?_
    refine wpAnyU_take (i := 4) (v := (.int .i64 (e : Int))) (some 32) rfl rfl (by kernel_rfl) (by kernel_rfl) (by kernel_rfl) (by kernel_rfl) (fun _ _ _ h => h) hS0 (yields_of (by kernel_rfl) (fun w ⟨h0, h1, h2⟩ => by go_simp)) ?_
    refine wpAnyU_take (i := 5) (v := (.pointer (some ⟨pl, 0, none⟩))) (some 33) rfl rfl (by kernel_rfl) (by kernel_rfl) (by kernel_rfl) (by kernel_rfl) (fun _ _ _ h => h) hS0 (yields_of (by kernel_rfl) (fun w ⟨h0, h1, h2⟩ => by go_simp)) ?_
    refine wpAnyU_take (i := 6) (v := (.pointer (some ⟨pl, 0, none⟩))) (some 34) rfl rfl (by kernel_rfl) (by kernel_rfl) (by kernel_rfl) (by kernel_rfl) (fun _ _ _ h => h) hS0 (yields_of (by kernel_rfl) (fun w ⟨h0, h1, h2⟩ => by go_simp)) ?_
    refine wpAnyU_take (i := 7) (v := (.pointer (some ⟨pl, 1, none⟩))) (some 35) rfl rfl (by kernel_rfl) (by kernel_rfl) (by kernel_rfl) (by kernel_rfl) (fun _ _ _ h => h) hS0 (yields_of (by kernel_rfl) (fun w ⟨h0, h1, h2⟩ => by go_simp)) ?_
    refine wpAnyU_take (i := 8) (v := (.int .i64 (id : Int))) (some 36) rfl rfl (by kernel_rfl) (by kernel_rfl) (by kernel_rfl) (by kernel_rfl) (fun _ _ _ h => h) hS0 (yields_of (by kernel_rfl) (fun w ⟨h0, h1, h2⟩ => by go_simp)) ?_
    refine wpAnyU_take (i := 9) (v := (.pointer (some ⟨pl, 0, none⟩))) (some 37) rfl rfl (by kernel_rfl) (by kernel_rfl) (by kernel_rfl) (by kernel_rfl) (fun _ _ _ h => h) hS0 (yields_of (by kernel_rfl) (fun w ⟨h0, h1, h2⟩ => by go_simp)) ?_
    refine wpAnyU_take (i := 10) (v := (.pointer (some ⟨pl, 0, none⟩))) (some 38) rfl rfl (by kernel_rfl) (by kernel_rfl) (by kernel_rfl) (by kernel_rfl) (fun _ _ _ h => h) hS0 (yields_of (by kernel_rfl) (fun w ⟨h0, h1, h2⟩ => by go_simp)) ?_
    refine wpAnyU_take (i := 11) (v := (.pointer (some ⟨pl, 4, none⟩))) (some 39) rfl rfl (by kernel_rfl) (by kernel_rfl) (by kernel_rfl) (by kernel_rfl) (fun _ _ _ h => h) hS0 (yields_of (by kernel_rfl) (fun w ⟨h0, h1, h2⟩ => by go_simp)) ?_
    refine wpAnyU_take (i := 12) (v := (.int .i64 (n : Int))) (some 40) rfl rfl (by kernel_rfl) (by kernel_rfl) (by kernel_rfl) (by kernel_rfl) (fun _ _ _ h => h) hS0 (yields_of (by kernel_rfl) (fun w ⟨h0, h1, h2⟩ => by go_simp)) ?_
    refine wpAnyU_take (i := 13) (v := (.string ⟨s.toArray⟩)) (some 41) rfl rfl (by kernel_rfl) (by kernel_rfl) (by kernel_rfl) (by kernel_rfl) (fun _ _ _ h => h) hS0 (yields_of (by kernel_rfl) (fun w ⟨h0, h1, h2⟩ => by go_simp)) ?_
    refine wpAnyU_take (i := 14) (v := (.int .i64 (s.length : Int))) (some 42) rfl rfl (by kernel_rfl) (by kernel_rfl) (by kernel_rfl) (by kernel_rfl) (fun _ _ _ h => h) hS0 (yields_of (by kernel_rfl) (fun w ⟨h0, h1, h2⟩ => by go_simp)) ?_
    refine wpAnyU_call (i := 15) (f := 28) (args := #[.int .i64 (id : Int), .int .i64 (n : Int), .int .i64 (s.length : Int)]) (some 43) rfl rfl (by kernel_rfl) (by kernel_rfl) (by kernel_rfl) ?_
    refine HMk.out.mono ?_
    clear HMk
    rintro r w3 ⟨rfl, hk3⟩
    have hk23 : Kept (fun _ => False) w2 w3 := ((Kept.refl _ w2).drewN 1).trans hk3 (fun _ hf => hf.elim)
    have hL3 := HL2.out.kept hk23 (fun h => h)
    refine ⟨_, rfl, fun _ => ⟨Holds.cell hL3 3 _ rfl, Holds.cell hL3 1 _ rfl, Holds.cell hL3 4 _ rfl⟩, ?_⟩
    obtain ⟨X1, vF1, hv, hgr, ho, hk⟩ := HB1.out
    have hX1 : ¬X1 pl := fun hx => (hgr pl hx).elim HL.out.2 (fun h => by have := Holds.lt HL.out.1; omega)
    have hg1 := (H.out.2.1.kept hk (H.out.1.base hB)).kept hk23 (fun h => h)
    have HPm := Lib.hid (putP8 w3 B p pd V1 vF1 X1 (hv.still hk23) hg1 hB HT.out.1 HT.out.2.1 HT.out.2.2 pl id many e n hL3 hX1 e (by have := HM.out; omega) M (by rw [hml.out]; omega))
    rw [chunksL_one M hml.out, ← hap.out] at HPm
    have hk3' : Kept X w w3 := hk.trans hk23 (fun _ hf => hf.elim)
    refine wpAnyU_call (i := 16) (f := 34) (args := #[.pointer (some ⟨pl, 0, none⟩), .int .i64 (e : Int), .string ⟨M.toArray⟩]) (some 44) rfl rfl (by kernel_rfl) (by kernel_rfl) (by kernel_rfl) ?_
    refine HPm.out.mono ?_
    clear HPm
    rintro r w4 ⟨v, rfl, hev, X2, vF2, hv2, hgr2, ho2, hk2, hoff2⟩
    have hk4 : Kept X w w4 := hk3'.trans hk2 hgr
    have hL4 := HL.out.1.kept hk4 HL.out.2
    have hgr4 : Grows w X X2 := hgr.trans (fun k hk => (hgr2 k hk).imp (fun x => x) (fun h => Nat.le_trans hk23.size h)) hk.size
    have ho4 : ∀ b, vF2.ownBlock = some b → vF.ownBlock = some b ∨ w.heap.size ≤ b := fun b hb => (ho2 b hb).elim (fun h => ho b h) (fun h => .inr (Nat.le_trans hk3'.size h))
    refine ⟨_, rfl, fun _ => ⟨Holds.cell hL4 3 _ rfl, Holds.cell hL4 1 _ rfl, Holds.cell hL4 4 _ rfl⟩, ?_⟩
    refine wpAnyU_run (i := 17) (v := v) (w' := w4) (some 6) rfl rfl (by kernel_rfl) (by kernel_rfl) (by kernel_rfl) (fun _ => ⟨Holds.cell hL4 3 _ rfl, Holds.cell hL4 1 _ rfl, Holds.cell hL4 4 _ rfl⟩) ?_
    refine wpAnyU_done (by kernel_rfl) ?_ _
    simp only [put_lit, List.set_cons_succ, List.set_cons_zero]
    have HO : Hid (VlOut w B p pd (appendW V id many e n s).1 vF X w4 v) := ⟨X2, vF2, hv2, hgr4, ho4, hk4, hoff2⟩
    clear hv2 hgr4 ho4 hk4 hoff2 hgr2 ho2 hk2 hk3' hg1 hX1 hv hgr ho hk hL3 hk23 hk3 hS0 c3 c1 c4 HL2 HB1
    rcases hev with ⟨hz, rfl⟩ | ⟨hnz, q, inner, hq, rfl, hfa, hin⟩
    · have HZ := Lib.hid hz
      have HCt := Lib.hid (countP8 w4 pl p id many e n s.length hL4 (by have := HM.out; omega) (by have := HM.out; omega) (by have := HRM.out.2; omega))
      clear hz hL4
      go_wp2_with fail
      refine HCt.out.mono ?_
      clear HCt
      rintro r w5 ⟨rfl, hL5, hk5⟩
      have HL5 := Lib.hid (And.intro hL5 hk5)
      clear hL5 hk5
      go_wp2
      go_ret
      rw [hdec.out, HZ.out, stepE_ok, stepE_ok]
      obtain ⟨X2, vF2, hv2, hgr4, ho4, hk4, hoff2⟩ := HO.out
      have hpl4 : ∀ k, X2 k ∨ vF2.ownBlock = some k → ¬k = pl := by
        have hlt := Holds.lt HL.out.1
        rintro k (hk | hk) rfl
        · exact (hgr4 k hk).elim HL.out.2 (fun h => by omega)
        · exact (ho4 k hk).elim HF.out (fun h => by omega)
      exact ⟨_, rfl, .inl ⟨rfl, rfl⟩, ⟨X2, vF2, hv2.kept HL5.out.2 hpl4, hgr4, ho4, (hk4.mono (fun k hk => Or.inl hk)).trans HL5.out.2 (fun k hk => .inl (.inr hk)), hoff2⟩, HL5.out.1⟩
    · have HE := Lib.hid (show Er8 w4 (.iface 81 (.pointer (some ⟨q, 0, none⟩))) (appendW V id many e n s).2.1 true from .inr ⟨hnz, q, inner, hq, rfl, hfa, hin⟩)
      have HNZ := Lib.hid hnz
      clear hnz hfa hin hq hL4
      go_wp2
      go_ret
      rw [hdec.out, stepE_no HNZ.out, stepE_no HNZ.out]
      exact ⟨_, rfl, HE.out, HO.out.ap HL.out.1 HL.out.2⟩

end Go.Proofs.YtfbgagpihhbllaaGreatDoor

/- The law's own pick (layer 8). -/
namespace Go.Proofs.YtfbgagpihhbllaaGreatDoor
open Go.RowKit Go.Proofs Go.Proofs.Pk
set_option maxRecDepth 10000
attribute [local simp] mk_get wrap64_u8 mk_extract ByteArray.mk_append_mk get_1k

set_option maxHeartbeats 400000 in
theorem pick_any (c : Int) (n : Nat) (w : World) (hc : -9223372036854775808 ≤ c ∧ c ≤ 9223372036854775807) (h0 : 0 < n) (h1 : n ≤ 5000) :
    Calls Tryz.prog 16 #[.int .i64 c, .int .i64 (n : Int)] w fun e w' => e = .returned (.int .i64 (pickN c n : Int)) ∧ w = w' := by
  have hn0 : ¬n = 0 := by omega
  by_cases hneg : c < 0
  · obtain ⟨m, hm⟩ : ∃ m : Nat, m = (-(c + 1)).toNat := ⟨_, rfl⟩
    have hm' : -(c + 1) = (m : Int) := by omega
    have hp : pickN c n = m % n := by unfold pickN; rw [if_pos hneg, ← hm]
    have hw1 : IntKind.i64.wrap (c + 1) = c + 1 := IntWalk.i64_in _ (by omega)
    have hw2 : IntKind.i64.wrap (m : Int) = (m : Int) := IntWalk.i64_in _ (by omega)
    have ht : (m : Int).tmod (n : Int) = ((m % n : Nat) : Int) := by rw [Int.tmod_eq_emod_of_nonneg (by omega)]; rfl
    have hlt := Nat.mod_lt m h0
    have hw3 : IntKind.i64.wrap ((m % n : Nat) : Int) = ((m % n : Nat) : Int) := IntWalk.i64_in _ (by omega)
    rw [hp]
    obtain ⟨r, hr⟩ : ∃ r, r = m % n := ⟨_, rfl⟩
    rw [← hr] at ht hw3 ⊢
    clear hlt hp hr hm hc h0 h1
    go_enter Tryz.func16, Tryz.ntmps16
    go_wp2
    go_ret
    exact ⟨rfl, rfl⟩
  · obtain ⟨m, rfl⟩ := Int.eq_ofNat_of_zero_le (show 0 ≤ c by omega)
    have hp : pickN (m : Int) n = m % n := by unfold pickN; rw [if_neg hneg]; simp
    have ht : (m : Int).tmod (n : Int) = ((m % n : Nat) : Int) := by rw [Int.tmod_eq_emod_of_nonneg (by omega)]; rfl
    have hlt := Nat.mod_lt m h0
    have hw3 : IntKind.i64.wrap ((m % n : Nat) : Int) = ((m % n : Nat) : Int) := IntWalk.i64_in _ (by omega)
    have hd : decide ((m : Int) < 0) = false := by rw [decide_eq_false_iff_not]; omega
    rw [hp]
    obtain ⟨r, hr⟩ : ∃ r, r = m % n := ⟨_, rfl⟩
    rw [← hr] at ht hw3 ⊢
    clear hlt hp hr hc h0 h1 hneg
    go_enter Tryz.func16, Tryz.ntmps16
    go_wp2
    go_ret
    exact ⟨rfl, rfl⟩

end Go.Proofs.YtfbgagpihhbllaaGreatDoor

/- What the laws of layer 8 want of the program's Mark and ReadMark. -/
namespace Go.Proofs.YtfbgagpihhbllaaGreatDoor
open Go.RowKit Go.Proofs Go.Proofs.Pk
set_option maxRecDepth 10000

def rdMarkI (b : List UInt8) (id index : Int) : Option Nat := if 0 ≤ id ∧ 0 ≤ index then rdMark b id.toNat index.toNat else none
def MarkI (id index size : Int) : Prop := ∃ i k n : Nat, id = (i : Int) ∧ index = (k : Int) ∧ size = (n : Int) ∧ MarkOk i k n
/-- What the laws want of the program's Mark and ReadMark. -/
structure MarkK : Prop where
  mark : ∀ (id index size : Int) (w : World), FitI id → FitI index → FitI size →
    Calls Tryz.prog 9 #[.int .i64 id, .int .i64 index, .int .i64 size] w fun e w' => Kept (fun _ => False) w w' ∧
      ((∃ i k n : Nat, id = (i : Int) ∧ index = (k : Int) ∧ size = (n : Int) ∧ MarkOk i k n ∧ e = .returned (.tuple #[.string ⟨(markN i k n).toArray⟩, .nilIface])) ∨
       (¬MarkI id index size ∧ e = .returned (.tuple #[.string ⟨#[]⟩, .iface 33 (.int .i64 1)])))
  read : ∀ (b : List UInt8) (id index : Int) (w : World), (b.length : Int) ≤ 9223372036854775807 → FitI id → FitI index →
    Calls Tryz.prog 11 #[.string ⟨b.toArray⟩, .int .i64 id, .int .i64 index] w fun e w' => Kept (fun _ => False) w w' ∧
      ((∃ n, rdMarkI b id index = some n ∧ e = .returned (.tuple #[.int .i64 (n : Int), .nilIface])) ∨
       (rdMarkI b id index = none ∧ e = .returned (.tuple #[.int .i64 0, .iface 33 (.int .i64 3)])))

end Go.Proofs.YtfbgagpihhbllaaGreatDoor
