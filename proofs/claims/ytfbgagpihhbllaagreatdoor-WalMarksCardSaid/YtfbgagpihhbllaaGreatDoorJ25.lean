/- VolW, VolC. -/
import Derived.Test.YtfbgagpihhbllaaGreatDoorJ20
import Derived.Test.YtfbgagpihhbllaaGreatDoorJ22
import Derived.Test.YtfbgagpihhbllaaGreatDoorJ23
import Derived.Test.YtfbgagpihhbllaaGreatDoorJ24
import Derived.Deep.Cut
import Derived.Deep.CutRange

/- Package volume: get, load: a slot read. -/
namespace Go.Proofs.YtfbgagpihhbllaaGreatDoor
open Go.RowKit Go.Proofs Go.Proofs.Pk
set_option maxRecDepth 10000
attribute [local simp] mk_get wrap64_u8 mk_extract ByteArray.mk_append_mk get_1k

abbrev BldF (w : World) (B b : Nat) (l : List UInt8) : Prop := Lib.IsBuilderF 118 5 B b (Lib.byteCells l) w
theorem bldF_kept {w w' : World} {B b : Nat} {l : List UInt8} (h : BldF w B b l) (hk : Kept (fun _ => False) w w') : BldF w' B b l := by
  have key : ∀ p, Lib.BuilderAtF 118 5 B b p (Lib.byteCells l) w → Lib.BuilderAtF 118 5 B b p (Lib.byteCells l) w' := by
    rintro p ⟨hB, v, hb, hown, hne⟩
    have hlt : b < w.heap.size := (Array.getElem?_eq_some_iff.1 hb).1
    refine ⟨hB, v, by rw [hk.block b hlt (fun hf => hf)]; exact hb, ⟨hown.1, ?_⟩, hne⟩
    rcases hown.2 with h0 | ⟨g, cap, cur, fz, h1, h2, h3, h4⟩
    · exact .inl h0
    · exact .inr ⟨g, cap, cur, fz, h1, h2, by rw [hk.block g (Array.getElem?_eq_some_iff.1 h3).1 (fun hf => hf)]; exact h3, h4⟩
  exact h.elim (fun x => .inl (key _ x)) (fun x => .inr (key _ x))

set_option maxHeartbeats 400000 in
theorem bldLen (B b : Nat) (l : List UInt8) (w : World) (h : BldF w B b l) :
    Calls Tryz.prog 60 #[.pointer (some ⟨b, 0, none⟩)] w fun e w' => e = .returned (.int .i64 (l.length : Int)) ∧ w' = w := by
  have key : ∃ ad cap, w.cell? ⟨b, 1, none⟩ = some (.slice ad l.length cap) := by
    have : ∀ p, Lib.BuilderAtF 118 5 B b p (Lib.byteCells l) w → ∃ ad cap, w.cell? ⟨b, 1, none⟩ = some (.slice ad l.length cap) := by
      rintro p ⟨hB, v, hb, hown, hne⟩
      have hc : w.cell? ⟨b, 1, none⟩ = some v := by simp [World.cell?, hb]
      rw [hc]
      rcases hown.2 with ⟨rfl, h0⟩ | ⟨g, cap, cur, fz, rfl, _⟩
      · rw [bc_length] at h0; exact ⟨none, 0, by rw [h0]⟩
      · exact ⟨_, cap, by rw [bc_length]⟩
    exact h.elim (this _) (this _)
  obtain ⟨ad, cap, hc⟩ := key
  clear h
  go_enter Tryz.func60, Tryz.ntmps60
  go_wp2
  go_ret
  exact ⟨rfl, rfl⟩

theorem kept_under {w w2 w3 : World} {b : Nat} (hk : Kept (fun _ => False) w w2) (hb : Below b w2 w3) (h : w.heap.size ≤ b) : Kept (fun _ => False) w w3 :=
  ⟨hb.os.trans hk.os, hb.tape.trans hk.tape, hb.output.trans hk.output, Nat.le_trans hk.size hb.size, fun k hlt _ => (hb.block k (by omega)).trans (hk.block k hlt (fun hf => hf))⟩
/-- What is read of sectors one behind the other. -/
def gotL (S : Dsk) (a j : Nat) : List UInt8 := (List.range j).flatMap fun i => (S.read ((a + i : Nat) : Int)).1
theorem gotL_succ (S : Dsk) (a j : Nat) : gotL S a (j + 1) = gotL S a j ++ (S.read ((a + j : Nat) : Int)).1 := by unfold gotL; rw [List.range_succ, List.flatMap_append]; simp
theorem gotL_length {S : Dsk} (h : S.Ok) (a : Nat) : ∀ j, (∀ i, i < j → (S.read ((a + i : Nat) : Int)).2 = 0) → (gotL S a j).length = 64 * j
  | 0, _ => by simp [gotL]
  | j + 1, hr => by
    rw [gotL_succ, List.length_append, gotL_length h a j (fun i hi => hr i (by omega)), Dsk.read_len h _ (hr j (by omega))]; omega

set_option maxHeartbeats 2000000 in
theorem getP (w : World) (B p pd : Nat) (V : Vol) (vF : Value) (X : Nat → Prop) (h : VlP w B p pd V vF X) (hoff : V.D.off = false) (a : Nat) (ha : a + 8 ≤ V.D.L.length) (z : Nat) (hz : z ≤ 512) :
    Calls Tryz.prog 57 #[.pointer (some ⟨p, 0, none⟩), .int .i64 (a : Int), .int .i64 (z : Int)] w fun e w' => e = .returned (.tuple #[.string ⟨((gotL V.D a (nch z)).take z).toArray⟩, .nilIface]) ∧ Kept (fun _ => False) w w' := by
  have hok := h.ok
  have hrd : ∀ i, i < 8 → (V.D.read ((a + i : Nat) : Int)).2 = 0 := fun i hi => by rw [Dsk.read_ok hoff (a + i) (by omega)]
  have hnz := nch_le hz
  have hfew := hok.few
  have HN := Lib.hid (fresh w)
  have hk0 : Kept (fun _ => False) w (w.alloc (.cells #[.pointer none, .slice none 0 0] 118)) := (Kept.refl _ _).alloc _
  have HI : Hid (BldF (w.alloc (.cells #[.pointer none, .slice none 0 0] 118)) w.heap.size w.heap.size (gotL V.D a 0) ∧ Kept (fun _ => False) w (w.alloc (.cells #[.pointer none, .slice none 0 0] 118))) := ⟨HN.out, hk0⟩
  have H := Lib.hid h
  have HR := Lib.hid hrd
  have HO := Lib.hid hok
  clear HN hk0 h hrd hok hoff
  go_enter Tryz.func57, Tryz.ntmps57
  go_wp2
  obtain ⟨b, hb⟩ : ∃ b, Hid (b = w.heap.size) := ⟨_, rfl⟩
  generalize w.alloc (.cells #[.pointer none, .slice none 0 0] 118) = wq at HI ⊢
  rw [← hb.out] at HI ⊢
  go_loopw [1, 9, 10] (fun i _ _ wr => ∃ j : Nat, j ≤ nch z ∧ i = .int .i64 ((a + j : Nat) : Int) ∧ Hid (BldF wr b b (gotL V.D a j) ∧ Kept (fun _ => False) w wr)) (fun i _ _ _ => a + 100 - (intOf i).toNat)
  case atStart => exact ⟨0, Nat.zero_le _, rfl, HI⟩
  case round =>
    obtain ⟨j, hj, rfl, hI⟩ := hrel
    have hjn : j < nch z ↔ 64 * j < z := by unfold nch; omega
    have HL := bldLen b b (gotL V.D a j) wr hI.out.1
    rw [gotL_length HO.out a j (fun i hi => HR.out i (by omega))] at HL
    have HLh := Lib.hid HL
    clear HL
    by_cases hlt : ((64 * j : Nat) : Int) < (z : Int)
    · have hlt' : 64 * (j : Int) < (z : Int) := by omega
      have hj8 : j < 8 := by omega
      obtain ⟨Xd, hA, hX⟩ := H.out.still hI.out.2
      have c0 := hA.obj.cell 0 _ rfl
      have hR := pRd ((a + j : Nat) : Int) wr B pd V.D Xd hA.dsk hA.ok
      rw [HR.out j hj8, show erV 0 = .nilIface from rfl] at hR
      rw [show ((a + j : Nat) : Int) = (a : Int) + (j : Int) from by omega] at hR
      have HRd := Lib.hid hR
      have hlen64 : (V.D.read ((a : Int) + (j : Int))).1.length = 64 := Dsk.read_len HO.out _ (by have := HR.out j hj8; rwa [show ((a + j : Nat) : Int) = (a : Int) + (j : Int) from by omega] at this)
      have hgl := gotL_length HO.out a j (fun i hi => HR.out i (by omega))
      have hgs : Hid (gotL V.D a (j + 1) = gotL V.D a j ++ (V.D.read ((a : Int) + (j : Int))).1) := by
        show _ = _
        rw [gotL_succ, show ((a + j : Nat) : Int) = (a : Int) + (j : Int) from by omega]
      obtain ⟨sec, hsec⟩ : ∃ sec, sec = (V.D.read ((a : Int) + (j : Int))).1 := ⟨_, rfl⟩
      rw [← hsec] at HRd hlen64 hgs
      have hwa : IntKind.i64.wrap ((a : Int) + (j : Int) + 1) = (a : Int) + (j : Int) + 1 := IntWalk.i64_in _ (by omega)
      have hjl : j < nch z := by omega
      clear hA hX hR hsec
      go_wp2_with fail
      refine HLh.out.mono ?_
      clear HLh
      rintro e w1 ⟨rfl, hw1⟩
      rw [hw1]
      clear hw1
      go_wp2_with fail
      refine HRd.out.mono ?_
      clear HRd
      rintro e w2 ⟨rfl, hk2⟩
      have hbl := bldF_kept hI.out.1 hk2
      have hk02 := hI.out.2.trans hk2 (fun _ hf => hf.elim)
      have hbw : b ≤ w2.heap.size := by have := hb.out; have := hk02.size; omega
      have HW := Lib.hid (Tryz.Builder_WriteString_k b b (Lib.byteCells (gotL V.D a j)) ⟨sec.toArray⟩ w2 hbl (by rw [bc_length, hgl]; simp [ByteArray.size, hlen64]; omega) hbw)
      have HK := Lib.hid hk02
      clear hk2 hbl hk02 hI hgl c0
      go_wp2_with fail
      refine HW.out.mono ?_
      clear HW
      rintro e w3 ⟨rfl, hb3, hbel, _⟩
      have hk3 : Kept (fun _ => False) w w3 := kept_under HK.out hbel (by have := hb.out; omega)
      have HI3 : Hid (BldF w3 b b (gotL V.D a (j + 1)) ∧ Kept (fun _ => False) w w3) := by
        refine ⟨.inr ?_, hk3⟩
        rw [hgs.out, Lib.byteCells_append]
        exact hb3
      clear hk3 hb3 hbel
      go_wp2
      go_roundw
      case rel => exact ⟨j + 1, by omega, by first | rfl | go_num, HI3⟩
      case measure => simp [intOf]; omega
    · have hlt' : ¬64 * (j : Int) < (z : Int) := by omega
      obtain rfl : j = nch z := by omega
      have hbw : b ≤ wr.heap.size := by have := hb.out; have := hI.out.2.size; omega
      have HS := Lib.hid (Tryz.Builder_String_any_k b b (gotL V.D a (nch z)) wr hI.out.1 hbw)
      have hgl := gotL_length HO.out a (nch z) (fun i hi => HR.out i (by omega))
      have hzl : (z : Int) ≤ ((gotL V.D a (nch z)).length : Int) := by rw [hgl]; unfold nch; omega
      have HK := Lib.hid hI.out.2
      clear hjn hgl
      go_wp2_with fail
      refine HLh.out.mono ?_
      clear HLh
      rintro e w1 ⟨rfl, hw1⟩
      rw [hw1]
      clear hw1
      go_wp2_with fail
      refine HS.out.mono ?_
      clear HS
      rintro e w3 ⟨rfl, hb3, hbel, _⟩
      have hk3 : Kept (fun _ => False) w w3 := kept_under HK.out hbel (by have := hb.out; omega)
      have HK3 := Lib.hid hk3
      clear hk3 hb3 hbel hI
      go_wp2
      go_ret2
      exact ⟨rfl, HK3.out⟩

theorem kept_root {w w' : World} {q : Nat} {a' b' c' d' : Value} (h : Kept (fun _ => False) w w') (hq : w.heap.size ≤ q) :
    Kept (fun _ => False) w ((((w'.setCell ⟨q, 0, none⟩ a').setCell ⟨q, 1, none⟩ b').setCell ⟨q, 2, none⟩ c').setCell ⟨q, 3, none⟩ d') :=
  (((h.setNew (p := ⟨q, 0, none⟩) hq _).setNew (p := ⟨q, 1, none⟩) hq _).setNew (p := ⟨q, 2, none⟩) hq _).setNew (p := ⟨q, 3, none⟩) hq _
/-- The root of a slot, or the zero root. -/
def gotR (S : Dsk) (a : Nat) : RootN := (placeV S a).getD rootZ

set_option maxHeartbeats 2000000 in
theorem loadP (w : World) (B p pd : Nat) (V : Vol) (vF : Value) (X : Nat → Prop) (h : VlP w B p pd V vF X) (hoff : V.D.off = false) (a : Nat) (ha : a + 9 ≤ V.D.L.length) :
    Calls Tryz.prog 38 #[.pointer (some ⟨p, 0, none⟩), .int .i64 (a : Int)] w fun e w' => ∃ vR, e = .returned (.tuple #[.agg #[.int .i64 ((gotR V.D a).1 : Int), .int .i64 ((gotR V.D a).2.1 : Int), .int .i64 ((gotR V.D a).2.2.1 : Int), vR], .nilIface]) ∧
      w'.ownsRow w.heap.size 102 3 vR (gotR V.D a).2.2.2.length (cellsF (gotR V.D a).2.2.2) ∧ Kept (fun _ => False) w w' := by
  have hok := h.ok
  have hfew := hok.few
  obtain ⟨S, R0, gone⟩ := V
  simp only at hok hfew hoff ha ⊢
  have hlen64 : (S.read (a : Int)).1.length = 64 := Dsk.read_len hok _ (by rw [Dsk.read_ok hoff a (by omega)])
  have hz0 : (S.read (a : Int)).2 = 0 := by rw [Dsk.read_ok hoff a (by omega)]
  obtain ⟨hd, hhd⟩ : ∃ hd, hd = (S.read (a : Int)).1 := ⟨_, rfl⟩
  have hR' : Hid (gotR S a = (if (rdHead hd).2.2 ≠ 0 then none else if (decV S.L.length ((gotL S (a + 1) (nch (rdHead hd).2.1)).take (rdHead hd).2.1)).2 = 0 ∧ (decV S.L.length ((gotL S (a + 1) (nch (rdHead hd).2.1)).take (rdHead hd).2.1)).1.1 = (rdHead hd).1 then some (decV S.L.length ((gotL S (a + 1) (nch (rdHead hd).2.1)).take (rdHead hd).2.1)).1 else none).getD rootZ) := by
    show _ = _
    unfold gotR placeV gotL
    simp only [← hhd]
  have hR := fun (w1 : World) (hk : Kept (fun _ => False) w w1) => h.still hk
  have HV := Lib.hid hR
  have HA := Holds.new w [.int .i64 0, .int .i64 0, .int .i64 0, .slice none 0 0] 78
  have hk1 : Kept (fun _ => False) w (w.alloc (.cells #[.int .i64 0, .int .i64 0, .int .i64 0, .slice none 0 0] 78)) := (Kept.refl _ _).alloc _
  change Holds (w.alloc (.cells #[.int .i64 0, .int .i64 0, .int .i64 0, .slice none 0 0] 78)) _ _ _ at HA
  go_enter Tryz.func38, Tryz.ntmps38
  go_upto_region 1 with (fail)
  obtain ⟨q, hq⟩ : ∃ q, Hid (q = w.heap.size) := ⟨_, rfl⟩
  rw [← hq.out] at HA ⊢
  generalize w.alloc (.cells #[.int .i64 0, .int .i64 0, .int .i64 0, .slice none 0 0] 78) = w1 at HA hk1 ⊢
  have H1 := Lib.hid (And.intro HA hk1)
  obtain ⟨Xd, hA, hX⟩ := h.still hk1
  have c0 := hA.obj.cell 0 _ rfl
  have hRd := pRd (a : Int) w1 B pd S Xd hA.dsk hA.ok
  rw [hz0, show erV 0 = .nilIface from rfl, ← hhd] at hRd
  rw [← hhd] at hlen64
  have HRd := Lib.hid hRd
  have HOK := Lib.hid hok
  clear hA hX hRd HA hk1 hhd hz0 h hR hok
  go_wp2_with fail
  refine HRd.out.mono ?_
  clear HRd
  rintro e w2 ⟨rfl, hk2⟩
  have hA2 := H1.out.1.of_block (hk2.block q H1.out.1.lt (fun hf => hf))
  have hk2' := H1.out.2.trans hk2 (fun _ hf => hf.elim)
  have HRH := Lib.hid (pReadHead hd w2 (by omega))
  have H2 := Lib.hid (And.intro hA2 hk2')
  clear hA2 hk2 hk2' c0
  go_wp2_with fail
  refine HRH.out.mono ?_
  clear HRH
  rintro e w3 ⟨rfl, hb3⟩
  have hA3 := H2.out.1.of_block (hb3.block q H2.out.1.lt)
  have hk3' := H2.out.2.trans (Kept.of_below (fun _ => False) hb3) (fun _ hf => hf.elim)
  have hqw : Hid (w.heap.size ≤ q) := by show _ ≤ _; have := hq.out; omega
  rcases rdHead_cases hd hlen64 with hrh | ⟨s, z, hs1, hs2, hz, hhe, hrh⟩
  · have hgr : Hid (gotR S a = rootZ) := by show _ = _; rw [hR'.out, hrh]; rfl
    rw [hrh]
    simp only
    rw [show errV 33 3 = .iface 33 (.int .i64 3) from rfl]
    have HX := Lib.hid (root_stored (a' := .int .i64 0) (b' := .int .i64 0) (c' := .int .i64 0) (d' := .slice none 0 0) hA3)
    have HKz := Lib.hid (kept_root (a' := .int .i64 0) (b' := .int .i64 0) (c' := .int .i64 0) (d' := .slice none 0 0) hk3' hqw.out)
    have x0 := (hA3).cell 0 _ rfl
    have x1 := (hA3).cell 1 _ rfl
    have x2 := (hA3).cell 2 _ rfl
    have x3 := (hA3).cell 3 _ rfl
    have f0 := (hA3).free 0
    have f1 := (hA3).free 1
    have f2 := (hA3).free 2
    have f3 := (hA3).free 3
    clear hA3 hk3' hb3 hrh HV HOK hR' hlen64
    go_wp2
    clear x0 x1 x2 x3 f0 f1 f2 f3
    refine bodyPost_ret (v := .tuple #[.agg #[.int .i64 0, .int .i64 0, .int .i64 0, .slice none 0 0], .nilIface]) ?_ rfl ?_
    · have e0 := HX.out.cell 0 _ rfl
      have e1 := HX.out.cell 1 _ rfl
      have e2 := HX.out.cell 2 _ rfl
      have e3 := HX.out.cell 3 _ rfl
      rw [results_cell_tmp rfl]; go_simp
    · rw [hgr.out]
      exact ⟨_, rfl, World.ownsRow_nil _ _ _ _, HKz.out⟩
  · have hgr : Hid (gotR S a = (if (decV S.L.length ((gotL S (a + 1) (nch z)).take z)).2 = 0 ∧ (decV S.L.length ((gotL S (a + 1) (nch z)).take z)).1.1 = s then some (decV S.L.length ((gotL S (a + 1) (nch z)).take z)).1 else none).getD rootZ) := by
      show _ = _
      rw [hR'.out, hrh]; rfl
    rw [hrh]
    simp only
    rw [show errV 33 0 = .nilIface from rfl]
    have hG := getP w3 B p pd ⟨S, R0, gone⟩ vF X (HV.out w3 hk3') hoff (a + 1) (by simp only; omega) z hz
    rw [show ((a + 1 : Nat) : Int) = (a : Int) + 1 from by omega] at hG
    have HGt := Lib.hid hG
    have H3 := Lib.hid (And.intro hA3 hk3')
    have hwa : IntKind.i64.wrap ((a : Int) + 1) = (a : Int) + 1 := IntWalk.i64_in _ (by omega)
    obtain ⟨by', hby⟩ : ∃ by', Hid (by' = (gotL S (a + 1) (nch z)).take z) := ⟨_, rfl⟩
    simp only at HGt
    rw [← hby.out] at HGt hgr
    have hbyl : by'.length ≤ 512 := by rw [hby.out, List.length_take]; omega
    clear hG hA3 hk3' hb3 hrh hR' hhe
    go_wp2_with fail
    refine HGt.out.mono ?_
    clear HGt
    rintro e w4 ⟨rfl, hk4⟩
    have hA4 := H3.out.1.of_block (hk4.block q H3.out.1.lt (fun hf => hf))
    have hk4' := H3.out.2.trans hk4 (fun _ hf => hf.elim)
    obtain ⟨Xd, hV4, hX4⟩ := HV.out w4 hk4'
    have c0 := hV4.obj.cell 0 _ rfl
    have HSZ := Lib.hid (pSize w4 B pd S Xd hV4.dsk)
    have H4 := Lib.hid (And.intro hA4 hk4')
    clear hA4 hk4' hk4 hV4 hX4
    go_wp2_with fail
    refine HSZ.out.mono ?_
    clear HSZ
    rintro e w5 ⟨rfl, m, rfl⟩
    have hT : Fit (S.L.length : Int) := by unfold Fit; omega
    have HD := Lib.hid (pDecode (S.L.length : Int) by' (w4.drewN m) hT (by omega))
    clear c0
    go_wp2_with fail
    refine HD.out.mono ?_
    clear HD
    rintro e w6 ⟨hb6, vD, rfl, ho6⟩
    have hA6 := H4.out.1.of_block (hb6.block q H4.out.1.lt)
    have hk6 : Kept (fun _ => False) w w6 := (H4.out.2.drewN m).trans (Kept.of_below (fun _ => False) hb6) (fun _ hf => hf.elim)
    generalize hdv : decV S.L.length by' = r at ho6 hgr ⊢
    obtain ⟨⟨r1, r2, r3, fs⟩, rc⟩ := r
    simp only at ho6 hgr ⊢
    obtain ⟨ad, cap, rfl⟩ : ∃ ad cap, vD = .slice ad fs.length cap := by
      rcases ho6.2 with ⟨rfl, h0⟩ | ⟨g, c', cur, rfl, _⟩
      · exact ⟨none, 0, by rw [h0]⟩
      · exact ⟨_, c', rfl⟩
    obtain ⟨nf, hnf⟩ : ∃ nf, Hid (nf = fs.length) := ⟨_, rfl⟩
    rw [← hnf.out] at ho6 ⊢
    have hN7 := Holds.new w6 [.int .i64 (r1 : Int), .int .i64 (r2 : Int), .int .i64 (r3 : Int), .slice ad nf cap] 78
    change Holds (w6.alloc (.cells #[.int .i64 (r1 : Int), .int .i64 (r2 : Int), .int .i64 (r3 : Int), .slice ad nf cap] 78)) _ _ _ at hN7
    have hA7 := hA6.alloc (.cells #[.int .i64 (r1 : Int), .int .i64 (r2 : Int), .int .i64 (r3 : Int), .slice ad nf cap] 78)
    have hk7 : Kept (fun _ => False) w (w6.alloc (.cells #[.int .i64 (r1 : Int), .int .i64 (r2 : Int), .int .i64 (r3 : Int), .slice ad nf cap] 78)) := hk6.alloc _
    have hw4w : w.heap.size ≤ (w4.drewN m).heap.size := by have := H4.out.2.size; simpa using this
    have hqlt : q < (w4.drewN m).heap.size := by have := H4.out.1.lt; simpa using this
    have ho7 := owns_base (ho6.alloc (.cells #[.int .i64 (r1 : Int), .int .i64 (r2 : Int), .int .i64 (r3 : Int), .slice ad nf cap] 78)) hw4w
    have hqn : Hid ((Value.slice ad nf cap).ownBlock ≠ some q) := fun hx => by have := (ho6.lt q hx).1; omega
    obtain ⟨b, hb⟩ : ∃ b, Hid (b = w6.heap.size) := ⟨_, rfl⟩
    clear hb6 hA6 hk6 ho6
    go_upto_region 11 with (fail)
    rw [← hb.out] at hN7 ⊢
    generalize w6.alloc (.cells #[.int .i64 (r1 : Int), .int .i64 (r2 : Int), .int .i64 (r3 : Int), .slice ad nf cap] 78) = w7 at hN7 hA7 hk7 ho7 ⊢
    have b0 := hN7.cell 0 _ rfl
    by_cases hrc : rc = 0
    · subst hrc
      rw [show errV 33 0 = .nilIface from rfl]
      by_cases hrs : r1 = s
      · subst hrs
        have hgr2 : Hid (gotR S a = (r1, r2, r3, fs)) := by show _ = _; rw [hgr.out, if_pos ⟨rfl, rfl⟩]; rfl
        have b1 := hN7.cell 1 _ rfl
        have b2 := hN7.cell 2 _ rfl
        have b3 := hN7.cell 3 _ rfl
        have HO8 : Hid (World.ownsRow ((((w7.setCell ⟨q, 0, none⟩ (.int .i64 (r1 : Int))).setCell ⟨q, 1, none⟩ (.int .i64 (r2 : Int))).setCell ⟨q, 2, none⟩ (.int .i64 (r3 : Int))).setCell ⟨q, 3, none⟩ (.slice ad nf cap)) w.heap.size 102 3 (.slice ad nf cap) fs.length (cellsF fs)) := by
          show World.ownsRow _ _ _ _ _ _ _
          rw [← hnf.out]
          exact owns_setCell (owns_setCell (owns_setCell (owns_setCell ho7 hqn.out) hqn.out) hqn.out) hqn.out
        have HX := Lib.hid (root_stored (a' := .int .i64 (r1 : Int)) (b' := .int .i64 (r2 : Int)) (c' := .int .i64 (r3 : Int)) (d' := .slice ad nf cap) hA7)
        have HKz := Lib.hid (kept_root (a' := .int .i64 (r1 : Int)) (b' := .int .i64 (r2 : Int)) (c' := .int .i64 (r3 : Int)) (d' := .slice ad nf cap) hk7 hqw.out)
        have x0 := (hA7).cell 0 _ rfl
        have x1 := (hA7).cell 1 _ rfl
        have x2 := (hA7).cell 2 _ rfl
        have x3 := (hA7).cell 3 _ rfl
        have f0 := (hA7).free 0
        have f1 := (hA7).free 1
        have f2 := (hA7).free 2
        have f3 := (hA7).free 3
        clear hA7 hk7 hN7 ho7 hgr hdv HV HOK hlen64
        go_wp2
        clear x0 x1 x2 x3 f0 f1 f2 f3
        refine bodyPost_ret (v := .tuple #[.agg #[.int .i64 (r1 : Int), .int .i64 (r2 : Int), .int .i64 (r3 : Int), .slice ad nf cap], .nilIface]) ?_ rfl ?_
        · have e0 := HX.out.cell 0 _ rfl
          have e1 := HX.out.cell 1 _ rfl
          have e2 := HX.out.cell 2 _ rfl
          have e3 := HX.out.cell 3 _ rfl
          rw [results_cell_tmp rfl]; go_simp
        · rw [hgr2.out]
          exact ⟨_, rfl, HO8.out, HKz.out⟩
      · have hgr2 : Hid (gotR S a = rootZ) := by show _ = _; rw [hgr.out, if_neg (fun h => hrs h.2)]; rfl
        have hne : ((r1 : Int) != (s : Int)) = true := by simp; omega
        have HX := Lib.hid (root_stored (a' := .int .i64 0) (b' := .int .i64 0) (c' := .int .i64 0) (d' := .slice none 0 0) hA7)
        have HKz := Lib.hid (kept_root (a' := .int .i64 0) (b' := .int .i64 0) (c' := .int .i64 0) (d' := .slice none 0 0) hk7 hqw.out)
        have x0 := (hA7).cell 0 _ rfl
        have x1 := (hA7).cell 1 _ rfl
        have x2 := (hA7).cell 2 _ rfl
        have x3 := (hA7).cell 3 _ rfl
        have f0 := (hA7).free 0
        have f1 := (hA7).free 1
        have f2 := (hA7).free 2
        have f3 := (hA7).free 3
        clear hA7 hk7 hN7 ho7 hgr hdv HV HOK hlen64 hrs
        go_wp2
        clear x0 x1 x2 x3 f0 f1 f2 f3
        refine bodyPost_ret (v := .tuple #[.agg #[.int .i64 0, .int .i64 0, .int .i64 0, .slice none 0 0], .nilIface]) ?_ rfl ?_
        · have e0 := HX.out.cell 0 _ rfl
          have e1 := HX.out.cell 1 _ rfl
          have e2 := HX.out.cell 2 _ rfl
          have e3 := HX.out.cell 3 _ rfl
          rw [results_cell_tmp rfl]; go_simp
        · rw [hgr2.out]
          exact ⟨_, rfl, World.ownsRow_nil _ _ _ _, HKz.out⟩
    · have hgr2 : Hid (gotR S a = rootZ) := by show _ = _; rw [hgr.out, if_neg (fun h => hrc h.1)]; rfl
      rw [show errV 33 rc = .iface 33 (.int .i64 (rc : Int)) from by unfold errV; rw [if_neg hrc]]
      have HX := Lib.hid (root_stored (a' := .int .i64 0) (b' := .int .i64 0) (c' := .int .i64 0) (d' := .slice none 0 0) hA7)
      have HKz := Lib.hid (kept_root (a' := .int .i64 0) (b' := .int .i64 0) (c' := .int .i64 0) (d' := .slice none 0 0) hk7 hqw.out)
      have x0 := (hA7).cell 0 _ rfl
      have x1 := (hA7).cell 1 _ rfl
      have x2 := (hA7).cell 2 _ rfl
      have x3 := (hA7).cell 3 _ rfl
      have f0 := (hA7).free 0
      have f1 := (hA7).free 1
      have f2 := (hA7).free 2
      have f3 := (hA7).free 3
      clear hA7 hk7 hN7 ho7 hgr hdv HV HOK hlen64 hrc
      go_wp2
      clear x0 x1 x2 x3 f0 f1 f2 f3
      refine bodyPost_ret (v := .tuple #[.agg #[.int .i64 0, .int .i64 0, .int .i64 0, .slice none 0 0], .nilIface]) ?_ rfl ?_
      · have e0 := HX.out.cell 0 _ rfl
        have e1 := HX.out.cell 1 _ rfl
        have e2 := HX.out.cell 2 _ rfl
        have e3 := HX.out.cell 3 _ rfl
        rw [results_cell_tmp rfl]; go_simp
      · rw [hgr2.out]
        exact ⟨_, rfl, World.ownsRow_nil _ _ _ _, HKz.out⟩

end Go.Proofs.YtfbgagpihhbllaaGreatDoor

/- Package volume: put: bytes written to sectors one behind the other, and synced. -/
namespace Go.Proofs.YtfbgagpihhbllaaGreatDoor
open Go.RowKit Go.Proofs Go.Proofs.Pk
set_option maxRecDepth 10000
attribute [local simp] mk_get wrap64_u8 mk_extract ByteArray.mk_append_mk get_1k

theorem write_len (S : Dsk) (k : Int) (s : List UInt8) : (S.write k s).1.L.length = S.L.length := by
  unfold Dsk.write
  repeat' split
  all_goals rfl
theorem write_more (S : Dsk) (k : Int) (s : List UInt8) : (S.write k s).1.C.length ≤ S.C.length + 1 ∧ (S.write k s).1.n ≤ S.n + 1 := by
  unfold Dsk.write
  repeat' split
  all_goals first | (simp; done) | (constructor <;> simp <;> omega)
theorem writesL_all : ∀ (l : List (Nat × List UInt8)) (S : Dsk), (writesL S l).1.L.length = S.L.length ∧ (writesL S l).1.C.length ≤ S.C.length + l.length ∧ (writesL S l).1.n ≤ S.n + l.length ∧ (S.Ok → (writesL S l).1.Ok)
  | [], S => ⟨rfl, by simp [writesL], by simp [writesL], fun h => h⟩
  | x :: l, S => by
    have h1 := write_len S x.1 x.2
    have h2 := write_more S x.1 x.2
    obtain ⟨a, b, c, d⟩ := writesL_all l (S.write x.1 x.2).1
    unfold writesL
    split
    · exact ⟨h1, by simp; omega, by simp; omega, fun h => Dsk.write_ok h _ _⟩
    · exact ⟨by rw [a, h1], by simp; omega, by simp; omega, fun h => d (Dsk.write_ok h _ _)⟩
theorem writesL_append : ∀ (l m : List (Nat × List UInt8)) (S : Dsk), writesL S (l ++ m) = if (writesL S l).2 ≠ 0 then writesL S l else writesL (writesL S l).1 m
  | [], m, S => by simp [writesL]
  | x :: l, m, S => by
    rw [List.cons_append, writesL, writesL]
    by_cases h : (S.write x.1 x.2).2 ≠ 0
    · rw [if_pos h, if_pos h, if_pos h]
    · rw [if_neg h, if_neg h, writesL_append l m]
theorem writesL_one (S : Dsk) (x : Nat × List UInt8) : writesL S [x] = S.write x.1 x.2 := by
  rw [writesL, writesL]
  split
  · rfl
  · rename_i h
    have : (S.write x.1 x.2).2 = 0 := by omega
    rw [← this]
theorem writesL_next (S : Dsk) (l : List (Nat × List UInt8)) (j : Nat) (hj : j < l.length) (h0 : (writesL S (l.take j)).2 = 0) : writesL S (l.take (j + 1)) = (writesL S (l.take j)).1.write l[j].1 l[j].2 := by
  rw [List.take_succ_eq_append_getElem hj, writesL_append, if_neg (by omega), writesL_one]
theorem writesL_stop (S : Dsk) (l : List (Nat × List UInt8)) (j : Nat) (h0 : (writesL S (l.take j)).2 ≠ 0) : writesL S l = writesL S (l.take j) := by
  have := writesL_append (l.take j) (l.drop j) S
  rw [List.take_append_drop, if_pos h0] at this
  exact this

/-- Bytes put from a sector on: the volume, the error. -/
def putV (V : Vol) (a : Nat) (b : List UInt8) : Vol × Nat :=
  let r1 := writesL V.D (chunksAt a b)
  if r1.2 ≠ 0 then (downV ⟨r1.1, V.R, V.gone⟩ r1.2, r1.2) else (downV ⟨r1.1.sync.1, V.R, V.gone⟩ r1.1.sync.2, r1.1.sync.2)
theorem chunksAt_length (a : Nat) (b : List UInt8) : (chunksAt a b).length = nch b.length := by simp [chunksAt]
theorem chunksAt_get (a : Nat) (b : List UInt8) (j : Nat) (hj : j < (chunksAt a b).length) : (chunksAt a b)[j] = (a + j, chunk b j) := by simp [chunksAt]

set_option maxHeartbeats 2000000 in
theorem putP (w : World) (B p pd : Nat) (V : Vol) (vF : Value) (X : Nat → Prop) (h : VlP w B p pd V vF X) (hg : ErrTy w) (hB : 0 < B) (hl : V.gone = false) (a : Nat) (ha : a ≤ 100000) (b : List UInt8) (hb : b.length ≤ 512) (hC : V.D.C.length ≤ 999000) (hN : V.D.n ≤ 999000) :
    Calls Tryz.prog 75 #[.pointer (some ⟨p, 0, none⟩), .int .i64 (a : Int), .string ⟨b.toArray⟩] w fun e w' => ∃ v, e = .returned v ∧ ErF w' v (putV V a b).2 true ∧ VlLeft w B p pd (putV V a b).1 vF X w' := by
  have HL := Lib.hid h.lt
  have HG := Lib.hid hg
  have HI : Hid (∃ X', VlP w B p pd ⟨(writesL V.D ((chunksAt a b).take 0)).1, V.R, V.gone⟩ vF X' ∧ Grows w X X' ∧ Kept X w w) := ⟨X, h, Grows.refl _ _, Kept.refl _ _⟩
  have HZ : Hid ((writesL V.D ((chunksAt a b).take 0)).2 = 0) := rfl
  have HC := Lib.hid hC
  have HN := Lib.hid hN
  have HL0 := Lib.hid hl
  have HB := Lib.hid hb
  clear h hg hC hN hl
  go_enter Tryz.func75, Tryz.ntmps75
  go_wp2
  go_loopw [7, 8, 9] (fun at' _ _ wr => ∃ j : Nat, j ≤ nch b.length ∧ at' = .int .i64 ((64 * j : Nat) : Int) ∧ Hid (∃ X', VlP wr B p pd ⟨(writesL V.D ((chunksAt a b).take j)).1, V.R, V.gone⟩ vF X' ∧ Grows w X X' ∧ Kept X w wr) ∧ Hid ((writesL V.D ((chunksAt a b).take j)).2 = 0)) (fun at' _ _ _ => 1000 - (intOf at').toNat)
  case atStart => exact ⟨0, Nat.zero_le _, rfl, HI, HZ⟩
  case round =>
    obtain ⟨j, hj, rfl, hI, hZ⟩ := hrel
    have hjn : j < nch b.length ↔ 64 * j < b.length := by unfold nch; omega
    by_cases hlt : ((64 * j : Nat) : Int) < (b.length : Int)
    · have hch : j < (chunksAt a b).length := by rw [chunksAt_length]; omega
      have hnx := writesL_next V.D _ j hch hZ.out
      rw [chunksAt_get] at hnx
      simp only at hnx
      rw [show ((a + j : Nat) : Int) = (a : Int) + (j : Int) from by omega] at hnx
      obtain ⟨X', hv, hgr, hk⟩ := hI.out
      have hok := hv.ok
      obtain ⟨m1, m2, m3, m4⟩ := writesL_all ((chunksAt a b).take j) V.D
      have hlen : ((chunksAt a b).take j).length = j := by rw [List.length_take]; omega
      have hj8 : j ≤ 8 := by unfold nch at hj; have := HB.out; omega
      obtain ⟨Xd, hA, hX⟩ := hv
      simp only at hok
      generalize (writesL V.D ((chunksAt a b).take j)).1 = S at hnx hA hok m1 m2 m3
      have c0 := hA.obj.cell 0 _ rfl
      have HW := Lib.hid (pWr ((a : Int) + (j : Int)) (chunk b j) wr B pd S Xd hA.dsk hok (by rw [hlen] at m2; have := HC.out; omega) (by rw [hlen] at m3; have := HN.out; omega))
      obtain ⟨m, hm⟩ : ∃ m, m = min (64 * j + 64) b.length := ⟨_, rfl⟩
      have hmin : (min (64 * (j : Int) + 64) (b.length : Int)) = (m : Int) := by omega
      have hm0 : (0 : Int) ≤ 64 * (j : Int) := by omega
      have hm1 : 64 * (j : Int) ≤ (m : Int) := by omega
      have hm2 : (m : Int) ≤ (b.length : Int) := by omega
      have hw64 : IntKind.i64.wrap (64 * (j : Int) + 64) = 64 * (j : Int) + 64 := IntWalk.i64_in _ (by omega)
      have hchk : Hid (List.take (m - 64 * j) (List.drop (64 * j) b) = chunk b j) := by
        show _ = _
        unfold chunk
        exact List.take_eq_take_iff.2 (by rw [List.length_drop]; omega)
      have HS := Lib.hid (And.intro hA (And.intro hX (And.intro hgr hk)))
      have HNX := Lib.hid hnx
      have HOK := Lib.hid hok
      have hjn' : j < nch b.length := by omega
      have HJ := Lib.hid hjn'
      clear hA hX hgr hk m1 m2 m3 m4 hlen hm hnx hok hjn hI hjn' hch
      go_upto_region 5 with (fail)
      go_wp2_with fail
      rw [hchk.out]
      refine HW.out.mono ?_
      rintro e w1 ⟨rfl, Xd', hd1, hgr1, hk1⟩
      obtain ⟨hv1, hg1, hkx1⟩ := VlP.disk HS.out.1 HS.out.2.1 hd1 hgr1 hk1 (Dsk.write_ok HOK.out _ _) (write_len _ _ _)
      have hgX1 := HS.out.2.2.1.trans hg1 HS.out.2.2.2.size
      have hkX1 := HS.out.2.2.2.trans hkx1 HS.out.2.2.1
      have hE := HG.out.kept hkX1 (fun hx => by have := (HL.out _ (.inl hx)).1; omega)
      rw [← HNX.out] at hv1 ⊢
      have HBW := Lib.hid (belowP w1 B p pd _ vF _ hv1 hE hB (writesL V.D ((chunksAt a b).take (j + 1))).2)
      have HK1 := Lib.hid (And.intro hgX1 hkX1)
      clear hd1 hgr1 hk1 hv1 hg1 hkx1 hgX1 hkX1 hE HW HS HNX HOK c0
      go_wp2_with fail
      refine HBW.out.mono ?_
      clear HBW
      rintro e w2 ⟨v, rfl, he, hv2, hk2⟩
      have hkX2 := HK1.out.2.trans hk2 HK1.out.1
      rcases he with ⟨hz, rfl⟩ | ⟨hnz, q, hq, rfl, hfa⟩
      · rw [hz] at hv2
        have HV2 := Lib.hid (And.intro hv2 hkX2)
        have HZ2 := Lib.hid hz
        clear hv2 hkX2 hk2 hz
        go_wp2
        go_roundw
        case rel => exact ⟨j + 1, HJ.out, by first | rfl | go_num, ⟨_, HV2.out.1, HK1.out.1, HV2.out.2⟩, HZ2⟩
        case measure => simp [intOf]; omega
      · have hput : Hid (putV V a b = (downV ⟨(writesL V.D ((chunksAt a b).take (j + 1))).1, V.R, V.gone⟩ (writesL V.D ((chunksAt a b).take (j + 1))).2, (writesL V.D ((chunksAt a b).take (j + 1))).2)) := by
          show _ = _
          unfold putV
          rw [writesL_stop _ _ _ hnz, if_pos hnz]
        have HV2 := Lib.hid (And.intro hv2 hkX2)
        have HE2 := Lib.hid (show ErF w2 _ _ true from .inr ⟨hnz, q, hq, rfl, hfa⟩)
        clear hv2 hkX2 hk2 hnz hfa hq
        go_wp2
        go_ret
        rw [hput.out]
        exact ⟨_, rfl, HE2.out, _, _, HV2.out.1, HK1.out.1, fun b hb => .inl (downF_sub hb), HV2.out.2⟩
    · obtain rfl : j = nch b.length := by omega
      have hall : (chunksAt a b).take (nch b.length) = chunksAt a b := by rw [← chunksAt_length a b, List.take_length]
      have hI' := hI.out
      have hZ' := hZ.out
      rw [hall] at hI' hZ'
      obtain ⟨X', hv, hgr, hk⟩ := hI'
      have hE := HG.out.kept hk (fun hx => by have := (HL.out _ (.inl hx)).1; omega)
      have HS := Lib.hid (syncP wr B p pd _ vF X' hv hE hB HL0.out)
      have HK := Lib.hid (And.intro hgr hk)
      have hput : Hid (putV V a b = (downV ⟨(writesL V.D (chunksAt a b)).1.sync.1, V.R, V.gone⟩ (writesL V.D (chunksAt a b)).1.sync.2, (writesL V.D (chunksAt a b)).1.sync.2)) := by
        show _ = _
        unfold putV
        rw [if_neg (by omega)]
      clear hI hZ hZ' hv hgr hk hE hall hjn
      go_wp2_with fail
      refine HS.out.mono ?_
      clear HS
      rintro e w2 ⟨v, rfl, he, X2, vF2, hv2, hg2, hf2, hk2⟩
      go_wp2
      go_ret
      rw [hput.out]
      exact ⟨_, rfl, he, X2, vF2, hv2, HK.out.1.trans hg2 HK.out.2.size, fun b hb => (hf2 b hb).elim .inl (fun h => .inr (Nat.le_trans HK.out.2.size h)), HK.out.2.trans hk2 HK.out.1⟩

end Go.Proofs.YtfbgagpihhbllaaGreatDoor
