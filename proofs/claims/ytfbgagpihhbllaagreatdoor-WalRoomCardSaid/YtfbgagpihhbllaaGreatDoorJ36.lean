/- WlI, WlJ, WlK. -/
import Derived.Test.YtfbgagpihhbllaaGreatDoorJ33
import Derived.Test.YtfbgagpihhbllaaGreatDoorJ35
import Derived.Test.YtfbgagpihhbllaaGreatDoorJ05

/- Package wal: Lay. -/
namespace Go.Proofs.YtfbgagpihhbllaaGreatDoor
open Go.RowKit Go.Proofs Go.Proofs.Pk
set_option maxRecDepth 10000
attribute [local simp] mk_get wrap64_u8 mk_extract ByteArray.mk_append_mk get_1k

theorem right_file {T : Int} {R : RootN} (h : rightN T R = true) (g : FileN) (hg : g ∈ R.2.2.2) : 1 ≤ g.1 ∧ g.1 ≤ MaxN ∧ 1 ≤ g.2.2 ∧ g.2.2 ≤ 4000 ∧ manyF (g.1 : Int) R.2.2.2 = g.2.2 := by
  have hp := right_p.1 h
  have hf := (right_few h).2.2.2.2.1 g hg
  have he := hp.each (fileI g) (List.mem_map_of_mem hg)
  obtain ⟨N, e, hN, hG, _⟩ := hp.runs
  have hg2 := hG (fileI g).2 (by unfold usedF; exact List.mem_map_of_mem (List.mem_map_of_mem hg))
  unfold fileI at he
  unfold fileI Pk.Good at hg2
  simp only at he hg2
  refine ⟨by omega, hf.2.2.2, by omega, hf.2.1, manyF_one ?_ g hg⟩
  have hu := hp.up
  rw [List.pairwise_map] at hu
  exact hu.imp (fun {a b} h => by unfold fileI at h; simp only at h; omega)
/-- Apart from the volume's blocks: the log's new one. -/
theorem VlOut.apart {w1 w' : World} {B p pd pl : Nat} {V' : Vol} {vF v : Value} {X X' : Nat → Prop} {vF' : Value} (hg : Grows w1 X X') (ho : ∀ b, vF'.ownBlock = some b → vF.ownBlock = some b ∨ w1.heap.size ≤ b) (hX : ¬X pl) (hF : vF.ownBlock ≠ some pl) (hpl : pl < w1.heap.size) : ¬X' pl ∧ vF'.ownBlock ≠ some pl :=
  ⟨fun h => (hg pl h).elim hX (fun h => by omega), fun h => (ho pl h).elim hF (fun h => by omega)⟩

/-- The log, if there was no error. -/
def ptrIf (c pl : Nat) : Value := if c = 0 then .pointer (some ⟨pl, 0, none⟩) else .pointer none
theorem ptrIf_no {c pl : Nat} (h : c ≠ 0) : ptrIf c pl = .pointer none := by unfold ptrIf; rw [if_neg h]
theorem ptrIf_ok (pl : Nat) : ptrIf 0 pl = .pointer (some ⟨pl, 0, none⟩) := by unfold ptrIf; rw [if_pos rfl]

set_option maxHeartbeats 1000000 in
theorem layP (w : World) (B p pd : Nat) (V : Vol) (vF : Value) (X : Nat → Prop) (h : VlP w B p pd V vF X) (hg : ErrTy w) (hB : 0 < B) (hl : V.gone = false) (hC : V.D.C.length ≤ 800000) (hN : V.D.n ≤ 800000) (id many : Nat) (hm : many ≤ 4000) (hF : manyF (id : Int) V.R.2.2.2 = many) :
    Calls Tryz.prog 14 #[.pointer (some ⟨p, 0, none⟩), .int .i64 (id : Int)] w fun r w' => ∃ pl v, w.heap.size ≤ pl ∧ Er8 w' v (wipeW V id many 0).2.1 true ∧ r = .returned (.tuple #[ptrIf (wipeW V id many 0).2.1 pl, v]) ∧
      (∃ X' vF', VlP w' B p pd (wipeW V id many 0).1 vF' X' ∧ Grows w X X' ∧ (∀ b, vF'.ownBlock = some b → vF.ownBlock = some b ∨ w.heap.size ≤ b) ∧ Kept X w w' ∧ ¬X' pl ∧ vF'.ownBlock ≠ some pl) ∧ LgAt w' pl p id many 0 0 := by
  have HW := Lib.hid (withinP w B p pd V vF X h (id : Int))
  have H := Lib.hid (And.intro h (And.intro hg (And.intro hl (And.intro hC hN))))
  have HFm := Lib.hid (And.intro hF hm)
  clear h hg hl hC hN hF hm
  go_enter Tryz.func14, Tryz.ntmps14
  go_wp2_with fail
  refine HW.out.mono ?_
  clear HW
  rintro r w1 ⟨pl, rfl, hpl, ho, hk1⟩
  rw [HFm.out.1] at ho
  have hL : LgAt w1 pl p id many 0 0 := ho
  have hX : ¬X pl := fun hx => by have := (H.out.1.lt pl (.inl hx)).2; omega
  have hvF : vF.ownBlock ≠ some pl := fun hx => by have := (H.out.1.lt pl (.inr hx)).2; omega
  have HWi := Lib.hid (wipeP w1 B p pd V vF X (H.out.1.still hk1) (H.out.2.1.kept hk1 (fun h => h)) hB H.out.2.2.1 (by have := H.out.2.2.2.1; omega) (by have := H.out.2.2.2.2; omega) pl id many 0 0 hL hX (Nat.zero_le _) HFm.out.2)
  have HK := Lib.hid (And.intro hpl (And.intro hk1 (And.intro hL (And.intro hX hvF))))
  clear hpl ho hk1 hL hX hvF
  go_wp2_with fail
  refine HWi.out.mono ?_
  clear HWi
  rintro r w2 ⟨v, rfl, he, X', vF', hv, hgr, hown, hk, hoff⟩
  have hap := VlOut.apart (w' := w2) (B := B) (p := p) (pd := pd) (V' := V) (v := v) hgr hown HK.out.2.2.2.1 HK.out.2.2.2.2 (Holds.lt HK.out.2.2.1)
  have HO : Hid ((∃ X' vF', VlP w2 B p pd (wipeW V id many 0).1 vF' X' ∧ Grows w X X' ∧ (∀ b, vF'.ownBlock = some b → vF.ownBlock = some b ∨ w.heap.size ≤ b) ∧ Kept X w w2 ∧ ¬X' pl ∧ vF'.ownBlock ≠ some pl) ∧ LgAt w2 pl p id many 0 0) := by
    refine ⟨⟨X', vF', hv, fun k hk => (hgr k hk).imp (fun x => x) (fun x => Nat.le_trans HK.out.2.1.size x), fun b hb => (hown b hb).imp (fun x => x) (fun x => Nat.le_trans HK.out.2.1.size x), (HK.out.2.1.mono (fun _ hf => hf.elim)).trans hk (fun k hk => .inl hk), hap.1, hap.2⟩, HK.out.2.2.1.kept hk HK.out.2.2.2.1⟩
  clear hv hgr hown hk hoff hap
  rcases he with ⟨hz, rfl⟩ | ⟨hnz, q, inner, hq, rfl, hfa, hin⟩
  · have HZ := Lib.hid hz
    clear hz
    go_wp2
    go_ret2
    refine ⟨pl, _, HK.out.1, .inl ⟨HZ.out, rfl⟩, ?_, HO.out.1, HO.out.2⟩
    rw [HZ.out, ptrIf_ok]; rfl
  · have HE := Lib.hid (show Er8 w2 (.iface 81 (.pointer (some ⟨q, 0, none⟩))) (wipeW V id many 0).2.1 true from .inr ⟨hnz, q, inner, hq, rfl, hfa, hin⟩)
    have HNZ := Lib.hid hnz
    clear hnz hfa hin hq
    go_wp2
    go_ret2
    refine ⟨pl, _, HK.out.1, HE.out, ?_, HO.out.1, HO.out.2⟩
    rw [ptrIf_no HNZ.out]; rfl

end Go.Proofs.YtfbgagpihhbllaaGreatDoor

/- Package wal: Open. -/
namespace Go.Proofs.YtfbgagpihhbllaaGreatDoor
open Go.RowKit Go.Proofs Go.Proofs.Pk
set_option maxRecDepth 10000
attribute [local simp] mk_get wrap64_u8 mk_extract ByteArray.mk_append_mk get_1k

theorem info9L : (Tryz.prog.info? 9).map (fun i => (i.zero, i.size, i.bytes)) = some (some (.string ⟨#[]⟩), 1, 16) := by kernel_rfl
def lenV : Value → Nat
  | .slice _ n _ => n
  | _ => 0
theorem own_strs {w : World} {B n : Nat} {v : Value} {T : List (List UInt8)} (h : w.ownsRow B 9 1 v n (T.map strV)) (hn : n = T.length) : ∃ ad cap, v = .slice ad n cap ∧ Strs w ad n T ∧ ∀ b o, ad = some ⟨b, o, none⟩ → v.ownBlock = some b := by
  subst hn
  rcases h.2 with ⟨rfl, h0⟩ | ⟨g, cap, cur, rfl, _, h2, _⟩
  · have : T = [] := by simpa using h0
    subst this
    exact ⟨none, 0, rfl, ⟨rfl, .inl rfl⟩, fun b o hb => by cases hb⟩
  · refine ⟨_, cap, rfl, ⟨rfl, .inr ⟨g, 0, rfl, (Array.getElem?_eq_some_iff.1 h2).1, fun i hi => ?_⟩⟩, fun b o hb => ?_⟩
    · have := h.cells rfl i (strV T[i]) (by simp [hi])
      rw [show ((⟨g, 0, none⟩ : Addr).add i) = ⟨g, 0 + i, none⟩ from by unfold Addr.add; split <;> simp_all] at this
      simpa [strV] using this
    · injection hb with hb; injection hb with hb; subst hb; rfl
theorem own_slice {w : World} {B n size : Nat} {e : TypeId} {v : Value} {xs : List Value} (h : w.ownsRow B e size v n xs) : ∃ ad cap, v = .slice ad n cap := by
  rcases h.2 with ⟨rfl, rfl⟩ | ⟨g, cap, cur, rfl, _⟩
  · exact ⟨none, 0, rfl⟩
  · exact ⟨_, cap, rfl⟩

/-- A world in which Open has read so many records. -/
structure OpAt (w1 : World) (B p pd pl : Nat) (V : Vol) (vF : Value) (X : Nat → Prop) (g : FileN) (recs : List (List UInt8)) (i : Nat) (v : Value) (wr : World) : Prop where
  vol : VlP wr B p pd V vF X
  log : LgAt wr pl p g.1 g.2.2 (recN (recs.take i)) i
  own : wr.ownsRow w1.heap.size 9 1 v i ((recs.take i).map strV)
  kept : Kept (fun k => k = pl) w1 wr
theorem OpAt.still {w1 wr w' : World} {B p pd pl i : Nat} {V : Vol} {vF v : Value} {X : Nat → Prop} {g : FileN} {recs : List (List UInt8)} (h : OpAt w1 B p pd pl V vF X g recs i v wr) (hk : Kept (fun _ => False) wr w') : OpAt w1 B p pd pl V vF X g recs i v w' :=
  ⟨h.vol.still hk, h.log.kept hk (fun h => h), owns_of_block h.own fun b hb => hk.block b (h.own.lt b hb).2 (fun h => h), h.kept.trans hk (fun _ hf => hf.elim)⟩

set_option maxHeartbeats 2000000 in
theorem openP8 (w : World) (B p pd : Nat) (V : Vol) (vF : Value) (X : Nat → Prop) (h : VlP w B p pd V vF X) (hg : ErrTy w) (hB : 0 < B) (ha : Alive V) (hC : V.D.C.length ≤ 800000) (hN : V.D.n ≤ 800000) (g : FileN) (hgm : g ∈ V.R.2.2.2) (recs : List (List UInt8)) (hlg : LogH (seenAt V.D) g.2.1 g.1 recs g.2.2)
    (hz : (openW V g.1 g.2.2 recs).2.1 = 0) :
    Calls Tryz.prog 21 #[.pointer (some ⟨p, 0, none⟩), .int .i64 (g.1 : Int)] w fun r w' => ∃ pl ad cap, r = .returned (.tuple #[.slice ad recs.length cap, .pointer (some ⟨pl, 0, none⟩), .nilIface]) ∧ w.heap.size ≤ pl ∧ Strs w' ad recs.length recs ∧
      (∃ X' vF', VlP w' B p pd (openW V g.1 g.2.2 recs).1 vF' X' ∧ Grows w X X' ∧ (∀ b, vF'.ownBlock = some b → vF.ownBlock = some b ∨ w.heap.size ≤ b) ∧ Kept X w w' ∧ ¬X' pl ∧ vF'.ownBlock ≠ some pl ∧ ∀ b o, ad = some ⟨b, o, none⟩ → ¬X' b) ∧ LgAt w' pl p g.1 g.2.2 (recN recs) recs.length := by
  obtain ⟨i0, hi, hz0, hz1, hz2⟩ := info_parts info9L
  obtain ⟨f1, f2, f3, f4, f5⟩ := right_file ha.safe.right g hgm
  have hfit := hlg.fits
  have hmany := recN_many recs
  have HRec : Hid (∀ i (hi : i < recs.length), RecAt (seenAt V.D) g.2.1 g.1 g.2.2 recs i recs[i]) := fun i hi => hlg.at_rec ⟨f1, f2⟩ f4 i hi
  have HNx : Hid (recN recs < g.2.2 → ∃ b, seenAt V.D (g.2.1 + recN recs) = some b ∧ rdMark b g.1 recs.length = none) := hlg.next
  have HW := Lib.hid (withinP w B p pd V vF X h (g.1 : Int))
  have H := Lib.hid (And.intro h (And.intro hg (And.intro ha (And.intro hC (And.intro hN hgm)))))
  have HV := Lib.hid (And.intro f4 (And.intro f5 (And.intro hfit hmany)))
  have HZ := Lib.hid hz
  clear h hg ha hC hN hgm hlg hz f1 f2 f3 f4 f5 hfit hmany
  go_enter Tryz.func21, Tryz.ntmps21
  go_wp2_with fail
  refine HW.out.mono ?_
  clear HW
  rintro r w1 ⟨pl, rfl, hpl, ho, hk1⟩
  rw [HV.out.2.1] at ho
  have hL : LgAt w1 pl p g.1 g.2.2 (recN (recs.take 0)) 0 := ho
  have hX : ¬X pl := fun hx => by have := (H.out.1.lt pl (.inl hx)).2; omega
  have hvF : vF.ownBlock ≠ some pl := fun hx => by have := (H.out.1.lt pl (.inr hx)).2; omega
  have HI : Hid (OpAt w1 B p pd pl V vF X g recs 0 (.slice none 0 0) w1) := ⟨H.out.1.still hk1, hL, World.ownsRow_nil _ _ _ _, Kept.refl _ _⟩
  have HK := Lib.hid (And.intro hpl (And.intro hk1 (And.intro hX (And.intro hvF (Holds.lt hL)))))
  clear hpl ho hk1 hL hX hvF
  go_wp2
  obtain ⟨wq, hwq⟩ : ∃ wq, wq = w1 := ⟨_, rfl⟩
  have HI1 : Hid (OpAt w1 B p pd pl V vF X g recs 0 (.slice none 0 0) wq) := by rw [hwq]; exact HI
  rw [← hwq]
  clear hwq HI
  go_loopw [8] (fun v wr => ∃ (i : Nat) (ad : Option Addr) (cap : Nat), i ≤ recs.length ∧ v = .slice ad i cap ∧ Hid (OpAt w1 B p pd pl V vF X g recs i v wr)) (fun v _ => recs.length - lenV v)
  case atStart => exact ⟨0, none, 0, Nat.zero_le _, rfl, HI1⟩
  case round =>
    obtain ⟨i, ad, cap, hil, rfl, hI⟩ := hrel
    have c2 := Holds.cell hI.out.log 2 _ rfl
    have c3 := Holds.cell hI.out.log 3 _ rfl
    by_cases hlt : i < recs.length
    · have hR := HRec.out i hlt
      have hmark := hR.mark
      have hok := hR.ok
      have htext := hR.text
      have hroom := hR.room
      have hstep := hR.step
      have htk : recs.take (i + 1) = recs.take i ++ [recs[i]] := List.take_succ_eq_append_getElem hlt
      obtain ⟨s, hs⟩ : ∃ s, s = recs[i] := ⟨_, rfl⟩
      rw [← hs] at hmark hok htext hroom hstep htk
      obtain ⟨e, he⟩ : ∃ e, e = recN (recs.take i) := ⟨_, rfl⟩
      have hlt2 : (e : Int) < (g.2.2 : Int) := by omega
      have hi4 : i ≤ 4000 := by have := HV.out; omega
      rw [← he] at hmark htext hroom hstep c3
      have hLg := hI.out.log
      rw [← he] at hLg
      have HHit := Lib.hid (fun (k : Nat) => readHit (wr.drewN k) B p pd V vF X (hI.out.vol.still ((Kept.refl _ _).drewN k)) H.out.2.2.1 g H.out.2.2.2.2.2 pl e i (hLg.kept (Y := fun _ => False) ((Kept.refl _ _).drewN k) (fun h => h)) hi4 s hmark hok htext hroom)
      have HTK := Lib.hid (And.intro hstep htk)
      have hsl : s.length ≤ 300000 := by have := HV.out.1; unfold nch at hroom; omega
      have HSL := Lib.hid (And.intro hsl (And.intro hroom hi4))
      have hin : Hid (i + 1 ≤ recs.length) := hlt
      have HE := Lib.hid he
      clear hR hmark hok htext hroom hstep htk hs hLg he hsl hi4 hlt hil
      go_upto_region 3 with (fail)
      go_quiet (fail)
      have HI2 : Hid (OpAt w1 B p pd pl V vF X g recs i (.slice ad i cap) (wr.drewN nq)) := hI.out.still ((Kept.refl _ _).drewN _)
      have HH := Lib.hid (HHit.out nq)
      generalize wr.drewN nq = w2 at HI2 HH ⊢
      clear HHit c2 c3 hI
      go_wp2_with fail
      refine HH.out.mono ?_
      clear HH
      rintro r w3 ⟨rfl, hk3⟩
      have HI3 := Lib.hid (HI2.out.still hk3)
      have hszw : w1.heap.size ≤ w3.heap.size := HI3.out.kept.size
      clear HI2 hk3
      go_wp2_with (at_builtin; refine wpList_append_own _ rfl (.tmp 36) (.tmp 38) 46 rfl w1.heap.size 9 i0 (.string ⟨#[]⟩) 1 16 Tryz.underlying46 hi hz0 hz1 hz2 rfl (by decide) _ _ _ rfl (HI3.out.own.alloc _) ⟨w3.heap.size, 0, none⟩ 1 1 [.string ⟨s.toArray⟩] rfl rfl ?d1 ?d2 ?d3 ?d4 ?d5 ?_)
      case d1 =>
        intro j u hj
        match j, hj with
        | 0, hj => simp at hj; subst hj; simp [Addr.add]
      case d2 => intro u hu; simp at hu; subst hu; rfl
      case d3 => have := HSL.out.2.2; unfold maxLen; omega
      case d4 => have := HSL.out.2.2; omega
      case d5 => simp; omega
      · intro v' w4 hown' hgrow _
        obtain ⟨ad4, cap4, rfl⟩ := own_slice hown'
        have hka : Kept (fun _ => False) w3 (w3.alloc (.cells #[.string ⟨s.toArray⟩] 9)) := (Kept.refl _ _).alloc _
        have h3 := HI3.out.still hka
        have hkg : Kept (fun k => (Value.slice ad i cap).ownBlock = some k) (w3.alloc (.cells #[.string ⟨s.toArray⟩] 9)) w4 := kept_grown (Kept.refl _ _) hgrow (fun b hb => .inl hb)
        have hv4 : VlP w4 B p pd V vF X := h3.vol.kept hkg (fun k hk hb => by
          have h1 := (h3.own.lt k hb).1
          have h2 := HK.out.2.1.size
          have h4 := (H.out.1.lt k hk).2
          omega)
        have hl4 : LgAt w4 pl p g.1 g.2.2 e i := by
          have := h3.log.kept hkg (fun hb => by have h1 := (h3.own.lt pl hb).1; have := HK.out.2.2.2.2; omega)
          rwa [← HE.out] at this
        have hk14 : Kept (fun k => k = pl) w1 w4 := h3.kept.trans hkg (fun k hb => .inr (h3.own.lt k hb).1)
        have hown4 : w4.ownsRow w1.heap.size 9 1 (.slice ad4 (i + 1) cap4) (i + 1) ((recs.take (i + 1)).map strV) := by
          rw [HTK.out.2, List.map_append, List.map_take]; exact hown'
        have HCt := Lib.hid (countP8 w4 pl p g.1 g.2.2 e i s.length hl4 (by have := HSL.out.2.1; have := HV.out.1; omega) (by have := HSL.out.2.2; omega) (by have := HSL.out.1; omega))
        have H4 := Lib.hid (And.intro hv4 (And.intro hk14 hown4))
        clear hown' hgrow hka h3 hkg hv4 hl4 hk14 hown4 hszw
        go_wp2_with fail
        refine HCt.out.mono ?_
        clear HCt
        rintro r w5 ⟨rfl, hL5, hk5⟩
        have HI5 : Hid (OpAt w1 B p pd pl V vF X g recs (i + 1) (.slice ad4 (i + 1) cap4) w5) := by
          refine ⟨H4.out.1.kept hk5 (fun k hk e => ?_), ?_, owns_of_block H4.out.2.2 fun b hb => hk5.block b (H4.out.2.2.lt b hb).2 (fun e => ?_), H4.out.2.1.trans hk5 (fun k hk => .inl hk)⟩
          · subst e; exact hk.elim HK.out.2.2.1 HK.out.2.2.2.1
          · rw [HTK.out.1]; exact hL5
          · have := (H4.out.2.2.lt b hb).1; have := HK.out.2.2.2.2; omega
        clear hL5 hk5 H4 HI3
        go_wp2
        go_roundw
        case rel => exact ⟨i + 1, ad4, cap4, hin.out, rfl, HI5⟩
        case measure => have := hin.out; simp [lenV]; omega
    · obtain rfl : i = recs.length := by omega
      have hall : recs.take recs.length = recs := List.take_of_length_le (Nat.le_refl _)
      have HI0 := hI.out
      have hLg := hI.out.log
      have hOw := hI.out.own
      rw [hall] at hLg hOw c3
      have HI1 : Hid (∀ W, Kept (fun _ => False) wr W → VlP W B p pd V vF X ∧ LgAt W pl p g.1 g.2.2 (recN recs) recs.length ∧ W.ownsRow w1.heap.size 9 1 (.slice ad recs.length cap) recs.length (recs.map strV) ∧ Kept (fun k => k = pl) w1 W) := fun W hk => by
        have h1 := HI0.still hk
        have hl := h1.log
        have hw := h1.own
        rw [hall] at hl hw
        exact ⟨h1.vol, hl, hw, h1.kept⟩
      have HMiss := Lib.hid (fun (b : List UInt8) (hb : seenAt V.D (g.2.1 + recN recs) = some b) (hno : rdMark b g.1 recs.length = none) (hlt : recN recs < g.2.2) (k : Nat) => readMiss (wr.drewN k) B p pd V vF X (hI.out.vol.still ((Kept.refl _ _).drewN k)) H.out.2.2.1 g H.out.2.2.2.2.2 pl (recN recs) recs.length (hLg.kept (Y := fun _ => False) ((Kept.refl _ _).drewN k) (fun h => h)) hlt (by have := HV.out; omega) b hb hno)
      obtain ⟨n, hn⟩ : ∃ n, Hid (n = recs.length) := ⟨_, rfl⟩
      obtain ⟨e, he⟩ : ∃ e, Hid (e = recN recs) := ⟨_, rfl⟩
      have HFit := Lib.hid HV.out.2.2.1
      clear HI0 hOw hLg hI hil hlt hall
      rw [← he.out] at c3 HMiss HNx HI1 HFit
      rw [← hn.out] at HMiss HNx HI1 ⊢
      by_cases hlt : e < g.2.2
      case' pos =>
        obtain ⟨b, hb, hno⟩ := HNx.out hlt
        have hlti : (e : Int) < (g.2.2 : Int) := by omega
        have HM2 := Lib.hid (HMiss.out b hb hno hlt)
        clear HMiss hb hno hlt
        go_upto_region 3 with (fail)
        go_quiet (fail)
        have HM3 := Lib.hid (HM2.out nq)
        have hkd : Kept (fun _ => False) wr (wr.drewN nq) := (Kept.refl _ _).drewN _
        generalize wr.drewN nq = w2 at hkd HM3 ⊢
        clear HM2 c2 c3
        go_wp2_with fail
        refine HM3.out.mono ?_
        clear HM3
        rintro r w3 ⟨rfl, hk3⟩
        have HI3 := Lib.hid (HI1.out w3 (hkd.trans hk3 (fun _ hf => hf.elim)))
        clear hkd hk3 HI1
      case' neg =>
        have hlti : ¬(e : Int) < (g.2.2 : Int) := by omega
        clear HMiss hlt
        go_upto_region 3 with (fail)
        go_quiet (fail)
        have HI3 := Lib.hid (HI1.out (wr.drewN nq) ((Kept.refl _ _).drewN _))
        generalize wr.drewN nq = w3 at HI3 ⊢
        clear HI1 c2 c3
      all_goals
        have hgE := (H.out.2.1.kept HK.out.2.1 (fun h => h)).kept HI3.out.2.2.2 (fun e => by have h1 := H.out.1.base hB; have := H.out.2.1.lt; have := HK.out.1; omega)
        have hWp := wipeP w3 B p pd V vF X HI3.out.1 hgE hB H.out.2.2.1.gone (by have := H.out.2.2.2.1; omega) (by have := H.out.2.2.2.2.1; omega) pl g.1 g.2.2 e n HI3.out.2.1 HK.out.2.2.1 HFit.out HV.out.1
        have hzz := HZ.out
        have heq : wipeW V g.1 g.2.2 e = openW V g.1 g.2.2 recs := by rw [he.out]; rfl
        rw [heq, hzz] at hWp
        have HWp := Lib.hid hWp
        clear hWp hgE hzz heq
        go_wp2_with fail
        refine HWp.out.mono ?_
        clear HWp
        rintro r w4 ⟨v, rfl, hev, X', vF', hv, hgr, hown, hk, hoff⟩
        obtain rfl := hev.zero
        have hap := VlOut.apart (w' := w4) (B := B) (p := p) (pd := pd) (V' := V) (v := Value.nilIface) hgr hown HK.out.2.2.1 HK.out.2.2.2.1 (Nat.lt_of_lt_of_le HK.out.2.2.2.2 HI3.out.2.2.2.size)
        have hOw4 : w4.ownsRow w1.heap.size 9 1 (.slice ad n cap) n (recs.map strV) := owns_of_block HI3.out.2.2.1 fun b hb => hk.block b (HI3.out.2.2.1.lt b hb).2 (fun hx => by have h1 := (HI3.out.2.2.1.lt b hb).1; have h2 := (H.out.1.lt b (.inl hx)).2; have h3 := HK.out.2.1.size; omega)
        obtain ⟨ad', cap', hsl, hst, hbo⟩ := own_strs hOw4 hn.out
        injection hsl with hs1 hs2 hs3
        subst hs1
        have HF : Hid (∃ X' vF', VlP w4 B p pd (openW V g.1 g.2.2 recs).1 vF' X' ∧ Grows w X X' ∧ (∀ b, vF'.ownBlock = some b → vF.ownBlock = some b ∨ w.heap.size ≤ b) ∧ Kept X w w4 ∧ ¬X' pl ∧ vF'.ownBlock ≠ some pl ∧ ∀ b o, ad = some ⟨b, o, none⟩ → ¬X' b) := by
          have hs13 : w.heap.size ≤ w3.heap.size := Nat.le_trans HK.out.2.1.size HI3.out.2.2.2.size
          refine ⟨X', vF', hv, fun k hk => (hgr k hk).imp (fun x => x) (fun x => Nat.le_trans hs13 x), fun b hb => (hown b hb).imp (fun x => x) (fun x => Nat.le_trans hs13 x), ?_, hap.1, hap.2, fun b o hb hx => ?_⟩
          · have hk13 : Kept X w w3 := (HK.out.2.1.mono (fun _ hf => hf.elim)).trans HI3.out.2.2.2 (fun k hk => .inr (by rw [hk]; exact HK.out.1))
            exact hk13.trans hk (fun k hk => .inl hk)
          · have h1 := HI3.out.2.2.1.lt b (hbo b o hb)
            rcases hgr b hx with h2 | h2
            · have := (H.out.1.lt b (.inl h2)).2; have := HK.out.2.1.size; omega
            · omega
        have HLg := Lib.hid (HI3.out.2.1.kept hk HK.out.2.2.1)
        have HSt := Lib.hid hst
        clear hv hgr hown hk hoff hap hOw4 hst hbo hs2 hs3 hev
        go_wp2
        go_ret3
        refine ⟨pl, ad, cap, ?_, HK.out.1, ?_, HF.out, ?_⟩
        · rw [← hn.out]; rfl
        · rw [← hn.out]; exact HSt.out
        · rw [← hn.out, ← he.out]; exact HLg.out

end Go.Proofs.YtfbgagpihhbllaaGreatDoor

/- Package wal keeps the log's contract. -/
namespace Go.Proofs.YtfbgagpihhbllaaGreatDoor
open Go.RowKit Go.Proofs Go.Proofs.Pk
set_option maxRecDepth 10000

theorem wipe_lay {V : Vol} {id many : Nat} (hm : 1 ≤ many) : wipeW V id many 0 = layW V id many := by
  unfold wipeW layW
  rw [if_neg (by omega)]
  rfl
theorem wipe_lost {V : Vol} {id : Nat} (hl : V.gone = false) (hn : ∀ f ∈ V.R.2.2.2, f.1 ≠ id) : wipeW V id 1 0 = (V, 8, false) := by
  have hs : sectorV V (id : Int) ((0 : Nat) : Int) = (0, 8) := by
    unfold sectorV
    rw [if_neg (by simp [hl]), List.find?_eq_none.2 (fun f hf => by have := hn f hf; simp; omega)]
  have hw : writeV V (id : Int) ((0 : Nat) : Int) [] = (V, 8, false) := by unfold writeV; rw [hs, if_pos (by simp)]
  unfold wipeW
  rw [if_neg (by omega)]
  show thenSync (writesV V (id : Int) 0 [[]]) = _
  rw [writesV, hw, if_pos (by simp), thenSync_bad (by simp)]

theorem walK : WalK LgAt where
  lt h := Holds.lt h
  kept h hk hY := LgAt.kept h hk hY
  room h he hm := roomP8 _ _ _ _ _ _ _ h he hm
  len h := (lenP8 _ _ _ _ _ _ _ h).mono (by rintro e w' ⟨rfl, rfl⟩; exact ⟨rfl, Kept.refl _ _⟩)
  lay := by
    intro w B p pd V vF X h hg hB ha hf hN hC g hgm
    obtain ⟨f1, f2, f3, f4, f5⟩ := right_file ha.safe.right g hgm
    have hw := wipe_lay (V := V) (id := g.1) f3
    obtain ⟨V', e, _⟩ := lay_done8 ha hf g hgm
    refine (layP w B p pd V vF X h hg hB ha.gone hC hN g.1 g.2.2 f4 f5).mono ?_
    rintro r w' ⟨pl, v, hpl, he, rfl, hO, hL⟩
    rw [hw] at he hO ⊢
    rw [e] at he ⊢
    obtain rfl := he.zero
    refine ⟨pl, by rw [ptrIf_ok], hpl, ?_, hL⟩
    rw [e] at hO
    exact hO
  lost := by
    intro w B p pd V vF X h hg hB hl hC hN id hid hn
    have hw := wipe_lost (id := id) hl hn
    refine (layP w B p pd V vF X h hg hB hl hC hN id 1 (by omega) (manyF_none (fun f hf => by have := hn f hf; omega))).mono ?_
    rintro r w' ⟨pl, v, hpl, he, rfl, ⟨X', vF', hv, hgr, ho, hk, _⟩, hL⟩
    rw [hw] at he hv ⊢
    exact ⟨v, by rw [ptrIf_no (by simp)], he, X', vF', hv, hgr, ho, hk⟩
  appd := by
    intro w B p pd V vF X pl R g recs h hg hB hBp hX hF hlv hN hr hL s hs
    have hgm : g ∈ V.R.2.2.2 := by rw [hlv.root]; exact hlv.file
    obtain ⟨f1, f2, f3, f4, f5⟩ := right_file hlv.alive.safe.right g hgm
    have hbd : recN recs + 1 + nch s.length ≤ g.2.2 → (bodyW V g.1 (recN recs) s).2.1 = 0 → (bodyW V g.1 (recN recs) s).1.gone = false ∧ (bodyW V g.1 (recN recs) s).1.D.C.length ≤ 890000 ∧ (bodyW V g.1 (recN recs) s).1.D.n ≤ 890000 := by
      intro hroom hz
      unfold bodyW at hz ⊢
      split at hz
      · rename_i h0
        rw [if_pos h0]
        exact ⟨hlv.alive.gone, by rw [hlv.calm]; simp, by show V.D.n ≤ _; omega⟩
      · rename_i h0
        rw [if_neg h0]
        rcases put_file hlv.alive g hgm (recN recs + 1) (chunksL s) (by rw [chunks_len]; omega) (chunks_small s) with ⟨D', e, ha, hL, hC, hf, hn⟩ | ⟨D', e, _⟩
        · rw [e]
          refine ⟨ha.gone, by show D'.C.length ≤ _; rw [hC]; simp, ?_⟩
          rw [chunks_len] at hn
          show D'.n ≤ _
          omega
        · rw [e] at hz; simp at hz
    refine (appendP w B p pd V vF X h hg hB hlv.alive.gone (by rw [hlv.calm]; simp) hN pl g.1 g.2.2 (recN recs) recs.length hL hX hF hlv.log.fits f4 hr f2 s hs hbd).mono ?_
    rintro r w' ⟨v, rfl, he, ⟨X', vF', hv, hgr, ho, hk, hoff⟩, hL'⟩
    refine ⟨v, rfl, ?_, ⟨X', vF', hv, hgr, ho, hk, fun hx => (hgr pl hx).elim hX (fun h => by have := Holds.lt hL; omega), fun hx => (ho pl hx).elim hF (fun h => by have := Holds.lt hL; omega), hoff⟩, hL'⟩
    rcases hlv.append s with ⟨h1, e⟩ | ⟨h1, V', e, _⟩ | ⟨h1, V', e, _⟩
    · rw [e] at he ⊢; rwa [show decide (recN recs + 1 + nch s.length ≤ g.2.2) = false from by rw [decide_eq_false_iff_not]; omega] at he
    · rw [e] at he ⊢; exact .inl ⟨rfl, he.zero⟩
    · rw [e] at he ⊢; rwa [show decide (recN recs + 1 + nch s.length ≤ g.2.2) = true from by rw [decide_eq_true_eq]; omega] at he
  opn := by
    intro w B p pd V vF X recs h hg hB ha hf hC hN g hgm hlg
    have hz : (openW V g.1 g.2.2 recs).2.1 = 0 := by
      unfold openW
      rcases open_log ha hf g hgm recs hlg with ⟨h0, _⟩ | ⟨h0, D', e, _⟩
      · rw [if_pos h0]
      · rw [if_neg (by omega), e]
    refine (openP8 w B p pd V vF X h hg hB ha hC hN g hgm recs hlg hz).mono ?_
    rintro r w' ⟨pl, ad, cap, rfl, hpl, hst, hO, hL⟩
    exact ⟨pl, ad, cap, rfl, hpl, hst, hO, hL⟩

end Go.Proofs.YtfbgagpihhbllaaGreatDoor
