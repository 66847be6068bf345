/- VolS, WlD. -/
import Derived.Test.YtfbgagpihhbllaaGreatDoorJ30
import Derived.Test.YtfbgagpihhbllaaGreatDoorJ08
import Derived.BigQuiet

/- Package volume: sector, Write, Read. -/
namespace Go.Proofs.YtfbgagpihhbllaaGreatDoor
open Go.RowKit Go.Proofs Go.Proofs.Pk
set_option maxRecDepth 10000
attribute [local simp] mk_get wrap64_u8 mk_extract ByteArray.mk_append_mk get_1k

set_option maxHeartbeats 1000000 in
/-- A file's sector, or why not. -/
theorem sectorP (w : World) (B p pd : Nat) (V : Vol) (vF : Value) (X : Nat → Prop) (h : VlP w B p pd V vF X) (id k : Int) (hk0 : Fit k) :
    Calls Tryz.prog 76 #[.pointer (some ⟨p, 0, none⟩), .int .i64 id, .int .i64 k] w fun e w' => ∃ v, e = .returned (.tuple #[.int .i64 (sectorV V id k).1, v]) ∧ ErF w' v (sectorV V id k).2 false ∧ Kept (fun _ => False) w w' := by
  have c5 := h.obj.cell 5 _ rfl
  cases hgn : V.gone with
  | true =>
    rw [hgn] at c5
    have hp : Hid (sectorV V id k = (0, 6)) := by show _ = _; unfold sectorV; rw [if_pos hgn]
    have HF := Lib.hid (faultP 6 (by decide) w)
    rw [hp.out]
    clear h hgn
    go_enter Tryz.func76, Tryz.ntmps76
    go_wp2_with fail
    refine HF.out.mono ?_
    clear HF
    rintro e w2 ⟨v, rfl, he, hk2⟩
    go_wp2
    go_ret2
    exact ⟨_, rfl, he, hk2⟩
  | false =>
    rw [hgn] at c5
    obtain ⟨ad, cap, rfl, hFs⟩ := h.files
    have ho := h.obj
    have hfw := h.few
    have hpl := ho.lt
    obtain ⟨D, ⟨s, n, c, fs⟩, gone⟩ := V
    simp only at hgn hfw hFs c5 ⊢
    subst hgn
    obtain ⟨nf, hnf⟩ : ∃ nf, Hid (nf = fs.length) := ⟨_, rfl⟩
    have c4 := ho.cell 4 _ rfl
    simp only at c4
    rw [← hnf.out] at c4 hFs
    have HI := Lib.hid (findP ad nf cap (fs.map fileI) id w hFs (by have : fs.length ≤ 24 := hfw.1; have := hnf.out; omega))
    have HO := Lib.hid ho
    have HFs := Lib.hid hFs
    clear h ho hFs
    go_enter Tryz.func76, Tryz.ntmps76
    go_wp2_with fail
    refine HI.out.mono ?_
    clear HI
    rintro e w2 ⟨rfl, hb2⟩
    clear c4 c5
    have hk2 : Kept (fun _ => False) w w2 := Kept.of_below (fun _ => False) hb2
    by_cases hex : ∃ f ∈ fs, (f.1 : Int) = id
    · obtain ⟨f, hfm, hid⟩ := hex
      obtain ⟨i, hi, hfi, hge, hbf⟩ := findI_ge (fs.map fileI) id ⟨fileI f, List.mem_map_of_mem hfm, hid⟩
      have hif : i < fs.length := by simpa using hi
      have hgi : ((fs[i]).1 : Int) = id := by rw [List.getElem_map] at hge; exact hge
      have hfd : fs.find? (fun f => decide ((f.1 : Int) = id)) = some fs[i] := by
        rw [List.find?_eq_some_iff_getElem]
        refine ⟨by simpa using hgi, i, hif, rfl, fun j hj => ?_⟩
        have := hbf j hj
        rw [List.getElem_map] at this
        have h2 : ((fs[j]'(by omega)).1 : Int) ≠ id := this
        simp [h2]
      have hsv : Hid (sectorV ⟨D, (s, n, c, fs), false⟩ id k = if k < 0 ∨ ((fs[i]).2.2 : Int) ≤ k then (0, 1) else (((fs[i]).2.1 : Int) + k, 0)) := by
        show _ = _
        unfold sectorV
        rw [if_neg (by simp)]
        simp only
        rw [hfd]
      rw [hfi]
      have hi0 : decide ((i : Int) < 0) = false := by rw [decide_eq_false_iff_not]; omega
      have hi1 : (i : Int) < (nf : Int) := by have := hnf.out; omega
      have hi2 : (0 : Int) ≤ (i : Int) := by omega
      obtain ⟨g, og, rfl, hgl, r1, -⟩ := files_at (HFs.out.below hb2) i (by omega)
      have hget : (fs.map fileI)[i]'hi = fileI fs[i] := by simp
      rw [hget] at r1
      have hff := (hfw.2.2.2.2 fs[i] (List.getElem_mem hif)).1
      have hfm := (hfw.2.2.2.2 fs[i] (List.getElem_mem hif)).2
      generalize fs[i] = f at r1 hsv hff hfm
      obtain ⟨f0, f1, f2⟩ := f
      have d0 : w2.cell? ⟨g, og + i * 3, none⟩ = some (.int .i64 (f0 : Int)) := r1 0 _ rfl
      have d1 : w2.cell? ⟨g, og + i * 3 + 1, none⟩ = some (.int .i64 (f1 : Int)) := r1 1 _ rfl
      have d2 : w2.cell? ⟨g, og + i * 3 + 2, none⟩ = some (.int .i64 (f2 : Int)) := r1 2 _ rfl
      have ho2 := HO.out.of_block (hk2.block p hpl (fun hf => hf))
      have c4 := ho2.cell 4 _ rfl
      simp only at c4 hsv hfm
      rw [← hnf.out] at c4
      have hpl2 := ho2.lt
      have HK2 := Lib.hid hk2
      clear r1 hfi hfd hbf hge hgi hi ho2 hk2 hb2 hff hid hif hget
      by_cases hbad : k < 0 ∨ (f2 : Int) ≤ k
      · have hsv2 : Hid (sectorV ⟨D, (s, n, c, fs), false⟩ id k = (0, 1)) := by show _ = _; rw [hsv.out, if_pos hbad]
        have hFN := fun (o : Obj) => faultP 1 (by decide) (w2.alloc o)
        have HF := Lib.hid hFN
        by_cases hneg : k < 0
        case' neg =>
          have hneg' : decide (k < 0) = false := by rw [decide_eq_false_iff_not]; exact hneg
          have hge : (f2 : Int) ≤ k := by omega
        all_goals
          clear hbad hFN
          go_wp2_with fail
          refine (HF.out _).mono ?_
          clear HF
          rintro e w3 ⟨v, rfl, he, hk3⟩
          have HE := Lib.hid (And.intro he hk3)
          clear he hk3
          go_wp2
          go_ret2
          rw [hsv2.out]
          exact ⟨_, rfl, HE.out.1, (HK2.out.alloc _).trans HE.out.2 (fun _ hf => hf.elim)⟩
      · have hsv2 : Hid (sectorV ⟨D, (s, n, c, fs), false⟩ id k = ((f1 : Int) + k, 0)) := by show _ = _; rw [hsv.out, if_neg hbad]
        have hneg' : decide (k < 0) = false := by rw [decide_eq_false_iff_not]; omega
        have hge : ¬(f2 : Int) ≤ k := by omega
        have hw1 : IntKind.i64.wrap ((f1 : Int) + k) = (f1 : Int) + k := IntWalk.i64_in _ (by have := hfm.1; have := hfm.2.1; unfold Fit at hk0; omega)
        clear hbad
        go_wp2
        go_ret2
        rw [hsv2.out]
        exact ⟨_, rfl, ErF.none _ _, HK2.out.alloc _⟩
    · have hf1 := findI_lt (fs.map fileI) id (fun ⟨g, hgm, he⟩ => by obtain ⟨f, hfm, rfl⟩ := List.mem_map.1 hgm; exact hex ⟨f, hfm, he⟩)
      rw [hf1]
      have hsv : Hid (sectorV ⟨D, (s, n, c, fs), false⟩ id k = (0, 8)) := by
        show _ = _
        unfold sectorV
        rw [if_neg (by simp)]
        simp only
        rw [List.find?_eq_none.2 (fun f hf => by simpa using fun h => hex ⟨f, hf, h⟩)]
      have HF := Lib.hid (faultP 8 (by decide) w2)
      have HK2 := Lib.hid hk2
      clear hf1 hex hk2 hb2
      go_wp2_with fail
      refine HF.out.mono ?_
      clear HF
      rintro e w3 ⟨v, rfl, he, hk3⟩
      have HE := Lib.hid (And.intro he hk3)
      clear he hk3
      go_wp2
      go_ret2
      rw [hsv.out]
      exact ⟨_, rfl, HE.out.1, HK2.out.trans HE.out.2 (fun _ hf => hf.elim)⟩

theorem came_down (V : Vol) (r : Dsk × Nat) : cameV V r = (downV ⟨r.1, V.R, V.gone⟩ r.2, r.2, decide (r.2 ≠ 0)) := by unfold cameV downV; rfl

set_option maxHeartbeats 1000000 in
/-- Write does what the chapter says. -/
theorem writeP (w : World) (B p pd : Nat) (V : Vol) (vF : Value) (X : Nat → Prop) (h : VlP w B p pd V vF X) (hg : ErrTy w) (hB : 0 < B) (hC : V.D.C.length ≤ 900000) (hN : V.D.n ≤ 900000) (id k : Int) (hk0 : Fit k) (s : List UInt8) :
    Calls Tryz.prog 53 #[.pointer (some ⟨p, 0, none⟩), .int .i64 id, .int .i64 k, .string ⟨s.toArray⟩] w fun e w' => ∃ v, e = .returned v ∧ ErF w' v (writeV V id k s).2.1 (writeV V id k s).2.2 ∧ VlLeft w B p pd (writeV V id k s).1 vF X w' := by
  have HS := Lib.hid (sectorP w B p pd V vF X h id k hk0)
  have H := Lib.hid h
  have HG := Lib.hid hg
  clear h hg
  go_enter Tryz.func53, Tryz.ntmps53
  go_wp2_with fail
  refine HS.out.mono ?_
  clear HS
  rintro e w1 ⟨v, rfl, he, hk1⟩
  rcases he with ⟨hz, rfl⟩ | ⟨hnz, q, hq, rfl, hfa⟩
  · have hwv : Hid (writeV V id k s = (downV ⟨(V.D.write (sectorV V id k).1 s).1, V.R, V.gone⟩ (V.D.write (sectorV V id k).1 s).2, (V.D.write (sectorV V id k).1 s).2, decide ((V.D.write (sectorV V id k).1 s).2 ≠ 0))) := by
      show _ = _
      unfold writeV
      rw [if_neg (by omega), came_down]
    have hv1 := H.out.still hk1
    have hE1 := HG.out.kept hk1 (fun hf => hf)
    obtain ⟨Xd, hA, hX⟩ := hv1
    have c0 := hA.obj.cell 0 _ rfl
    have HW := Lib.hid (pWr (sectorV V id k).1 s w1 B pd V.D Xd hA.dsk hA.ok (by omega) (by omega))
    have HA := Lib.hid (And.intro hA (And.intro hX (And.intro hk1 hE1)))
    generalize (sectorV V id k).1 = a at HW hwv ⊢
    clear hA hX hk1 hE1 hz
    go_wp2_with fail
    refine HW.out.mono ?_
    clear HW
    rintro e w2 ⟨rfl, Xd', hd2, hgr2, hk2⟩
    obtain ⟨hv2, hg2, hkx2⟩ := VlP.disk HA.out.1 HA.out.2.1 hd2 hgr2 hk2 (Dsk.write_ok HA.out.1.ok _ _) (write_len _ _ _)
    have hE2 := HA.out.2.2.2.kept hkx2 (fun hx => by have := (H.out.lt _ (.inl hx)).1; omega)
    have HBW := Lib.hid (belowP w2 B p pd _ vF _ hv2 hE2 hB (V.D.write a s).2)
    have HK := Lib.hid (And.intro hg2 hkx2)
    clear hd2 hgr2 hk2 hv2 hg2 hkx2 hE2 c0
    go_wp2_with fail
    refine HBW.out.mono ?_
    clear HBW
    rintro e w3 ⟨v, rfl, he, hv3, hk3⟩
    have HE := Lib.hid (And.intro he.laid (And.intro hv3 hk3))
    clear he hv3 hk3
    go_wp2
    go_ret
    rw [hwv.out]
    exact ⟨_, rfl, HE.out.1, VlLeft.behind HA.out.2.2.1 ⟨_, _, HE.out.2.1, HK.out.1, fun b hb => .inl (downF_sub hb), HK.out.2.trans HE.out.2.2 HK.out.1⟩⟩
  · have hwv : Hid (writeV V id k s = (V, (sectorV V id k).2, false)) := by
      show _ = _
      unfold writeV
      rw [if_pos hnz]
    have HE := Lib.hid (And.intro (show ErF w1 _ _ false from .inr ⟨hnz, q, hq, rfl, hfa⟩) hk1)
    clear hnz hq hfa hk1
    go_wp2
    go_ret
    rw [hwv.out]
    exact ⟨_, rfl, HE.out.1, VlLeft.same H.out HE.out.2⟩

set_option maxHeartbeats 1000000 in
/-- Read of a sector that is there. -/
theorem readP (w : World) (B p pd : Nat) (V : Vol) (vF : Value) (X : Nat → Prop) (h : VlP w B p pd V vF X) (id k : Int) (hk0 : Fit k) (hz : (sectorV V id k).2 = 0) (hz2 : (V.D.read (sectorV V id k).1).2 = 0) :
    Calls Tryz.prog 59 #[.pointer (some ⟨p, 0, none⟩), .int .i64 id, .int .i64 k] w fun e w' => e = .returned (.tuple #[.string ⟨(V.D.read (sectorV V id k).1).1.toArray⟩, .nilIface]) ∧ Kept (fun _ => False) w w' := by
  have hS := sectorP w B p pd V vF X h id k hk0
  obtain ⟨a, ha⟩ : ∃ a, a = (sectorV V id k).1 := ⟨_, rfl⟩
  rw [← ha] at hS hz2 ⊢
  have HS := Lib.hid hS
  have H := Lib.hid h
  clear h hS ha
  go_enter Tryz.func59, Tryz.ntmps59
  go_wp2_with fail
  refine HS.out.mono ?_
  clear HS
  rintro e w1 ⟨v, rfl, he, hk1⟩
  rcases he with ⟨_, rfl⟩ | ⟨hnz, _⟩
  · obtain ⟨Xd, hA, hX⟩ := H.out.still hk1
    have c0 := hA.obj.cell 0 _ rfl
    have hR := pRd a w1 B pd V.D Xd hA.dsk hA.ok
    rw [hz2, show erV 0 = .nilIface from rfl] at hR
    have HR := Lib.hid hR
    have HK := Lib.hid hk1
    clear hA hX hk1 hz hR hz2
    go_wp2_with fail
    refine HR.out.mono ?_
    clear HR
    rintro e w2 ⟨rfl, hk2⟩
    have HK2 := Lib.hid hk2
    clear hk2
    go_wp2
    go_ret2
    exact ⟨rfl, HK.out.trans HK2.out (fun _ hf => hf.elim)⟩
  · exact absurd hz hnz

end Go.Proofs.YtfbgagpihhbllaaGreatDoor

/- Package wal: wipe and put: what a log writes. -/
namespace Go.Proofs.YtfbgagpihhbllaaGreatDoor
open Go.RowKit Go.Proofs Go.Proofs.Pk
set_option maxRecDepth 10000
attribute [local simp] mk_get wrap64_u8 mk_extract ByteArray.mk_append_mk get_1k

/-- What a call of the log's leaves, with its error. -/
def VlOut (w : World) (B p pd : Nat) (V' : Vol) (vF : Value) (X : Nat → Prop) (w' : World) (v : Value) : Prop :=
  ∃ X' vF', VlP w' B p pd V' vF' X' ∧ Grows w X X' ∧ (∀ b, vF'.ownBlock = some b → vF.ownBlock = some b ∨ w.heap.size ≤ b) ∧ Kept X w w' ∧ OffV v X'
theorem VlLeft.out {w w2 w' : World} {B p pd : Nat} {V' : Vol} {vF v : Value} {X : Nat → Prop} {c : Nat} {f : Bool} (h : VlLeft w B p pd V' vF X w2) (he : Er8 w' v c f) (hf : FreshV w2 v) (hk : Kept (fun _ => False) w2 w') : VlOut w B p pd V' vF X w' v := by
  obtain ⟨X', vF', hv, hg, ho, hkx⟩ := h
  refine ⟨X', vF', hv.still hk, hg, ho, hkx.trans hk (fun _ hf => hf.elim), ?_⟩
  intro t b hb hx
  have hlt := (hv.lt b (.inl hx)).2
  rcases he with ⟨_, rfl⟩ | ⟨_, b', inner, _, rfl, _⟩
  · cases hb
  · injection hb with h1 h2; injection h2 with h2; injection h2 with h2; injection h2 with h2
    have := hf b' rfl
    omega
theorem VlLeft.next {w w1 w2 : World} {B p pd : Nat} {V2 : Vol} {vF vF1 : Value} {X X1 : Nat → Prop} (hg : Grows w X X1) (ho : ∀ b, vF1.ownBlock = some b → vF.ownBlock = some b ∨ w.heap.size ≤ b) (hk : Kept X w w1) (h : VlLeft w1 B p pd V2 vF1 X1 w2) : VlLeft w B p pd V2 vF X w2 := by
  obtain ⟨X2, vF2, hv2, hg2, ho2, hk2⟩ := h
  refine ⟨X2, vF2, hv2, hg.trans hg2 hk.size, fun b hb => ?_, hk.trans hk2 hg⟩
  rcases ho2 b hb with h | h
  · exact ho b h
  · exact .inr (Nat.le_trans hk.size h)
theorem VlLeft.size {w w' : World} {B p pd : Nat} {V' : Vol} {vF : Value} {X : Nat → Prop} (h : VlLeft w B p pd V' vF X w') : Kept X w w' := by obtain ⟨_, _, _, _, _, h⟩ := h; exact h
theorem VlP.base {w : World} {B p pd : Nat} {V : Vol} {vF : Value} {X : Nat → Prop} (h : VlP w B p pd V vF X) (hB : 0 < B) : ¬X 0 := fun hx => by have := (h.lt _ (.inl hx)).1; omega

theorem write_gone {V : Vol} {id k : Int} {s : List UInt8} (hl : V.gone = false) (h : (writeV V id k s).2.1 = 0) : (writeV V id k s).1.gone = false := by
  unfold writeV at h ⊢
  split
  · exact hl
  · rename_i hz
    rw [if_neg hz] at h
    unfold cameV at h ⊢
    simp only at h
    simp only [h]
    exact hl
theorem write_grow (V : Vol) (id k : Int) (s : List UInt8) : (writeV V id k s).1.D.C.length ≤ V.D.C.length + 1 ∧ (writeV V id k s).1.D.n ≤ V.D.n + 1 := by
  have := write_more V.D (sectorV V id k).1 s
  unfold writeV
  split
  · simp
  · unfold cameV
    split <;> exact this
theorem writesV_ok {V : Vol} {id : Int} {j : Nat} {s : List UInt8} {l : List (List UInt8)} (h : (writeV V id (j : Int) s).2.1 = 0) : writesV V id j (s :: l) = writesV (writeV V id (j : Int) s).1 id (j + 1) l := by rw [writesV, if_neg (by omega)]
theorem writesV_bad {V : Vol} {id : Int} {j : Nat} {s : List UInt8} {l : List (List UInt8)} (h : (writeV V id (j : Int) s).2.1 ≠ 0) : writesV V id j (s :: l) = writeV V id (j : Int) s := by rw [writesV, if_pos h]
theorem thenSync_bad {r : Vol × Nat × Bool} (h : r.2.1 ≠ 0) : thenSync r = r := by unfold thenSync; rw [if_pos h]
theorem thenSync_ok (V : Vol) (f : Bool) : thenSync (V, 0, f) = syncV V := by unfold thenSync; rw [if_neg (by simp)]

/-- A volume in the midst of a log's writes, so many of them. -/
structure WrAt (w : World) (B p pd : Nat) (V : Vol) (vF : Value) (X : Nat → Prop) (V1 : Vol) (k : Nat) (wr : World) : Prop where
  left : VlLeft w B p pd V1 vF X wr
  gone : V1.gone = false
  cs : V1.D.C.length ≤ V.D.C.length + k
  ns : V1.D.n ≤ V.D.n + k
theorem WrAt.start {w : World} {B p pd : Nat} {V : Vol} {vF : Value} {X : Nat → Prop} (h : VlP w B p pd V vF X) (hl : V.gone = false) : WrAt w B p pd V vF X V 0 w :=
  ⟨VlLeft.same h (Kept.refl _ _), hl, by omega, by omega⟩
theorem WrAt.still {w wr w' : World} {B p pd : Nat} {V V1 : Vol} {vF : Value} {X : Nat → Prop} {k : Nat} (h : WrAt w B p pd V vF X V1 k wr) (hk : Kept (fun _ => False) wr w') : WrAt w B p pd V vF X V1 k w' := by
  obtain ⟨⟨X1, vF1, hv, hg, ho, hkx⟩, h2, h3, h4⟩ := h
  exact ⟨⟨X1, vF1, hv.still hk, hg, ho, hkx.trans hk (fun _ hf => hf.elim)⟩, h2, h3, h4⟩
theorem WrAt.log {w wr : World} {B p pd : Nat} {V V1 : Vol} {vF : Value} {X : Nat → Prop} {k : Nat} (h : WrAt w B p pd V vF X V1 k wr) {pl p' id many e n : Nat} (hL : LgAt w pl p' id many e n) (hX : ¬X pl) : LgAt wr pl p' id many e n := hL.kept h.left.size hX
theorem WrAt.write {w wr : World} {B p pd : Nat} {V V1 : Vol} {vF : Value} {X : Nat → Prop} {k : Nat} (h : WrAt w B p pd V vF X V1 k wr) (hv0 : VlP w B p pd V vF X) (hg : ErrTy w) (hB : 0 < B) (hC : V.D.C.length + k ≤ 900000) (hN : V.D.n + k ≤ 900000) (id j : Int) (hj : Fit j) (s : List UInt8) :
    Calls Tryz.prog 53 #[.pointer (some ⟨p, 0, none⟩), .int .i64 id, .int .i64 j, .string ⟨s.toArray⟩] wr fun e w' => ∃ v, e = .returned v ∧ ErF w' v (writeV V1 id j s).2.1 (writeV V1 id j s).2.2 ∧ ErrTy w' ∧ VlLeft w B p pd (writeV V1 id j s).1 vF X w' ∧
      ((writeV V1 id j s).2.1 = 0 → WrAt w B p pd V vF X (writeV V1 id j s).1 (k + 1) w') := by
  obtain ⟨⟨X1, vF1, hv, hgr, ho, hkx⟩, hgn, hc, hn⟩ := h
  have hgE := hg.kept hkx (hv0.base hB)
  refine (writeP wr B p pd V1 vF1 X1 hv hgE hB (by omega) (by omega) id j hj s).mono ?_
  rintro e w' ⟨v, rfl, he, hl⟩
  have hl2 := VlLeft.next hgr ho hkx hl
  have hg' := write_grow V1 id j s
  exact ⟨v, rfl, he, hg.kept hl2.size (hv0.base hB), hl2, fun hz => ⟨hl2, write_gone hgn hz, by omega, by omega⟩⟩
theorem WrAt.sync {w wr : World} {B p pd : Nat} {V V1 : Vol} {vF : Value} {X : Nat → Prop} {k : Nat} (h : WrAt w B p pd V vF X V1 k wr) (hv0 : VlP w B p pd V vF X) (hg : ErrTy w) (hB : 0 < B) :
    Calls Tryz.prog 51 #[.pointer (some ⟨p, 0, none⟩)] wr fun e w' => ∃ v, e = .returned v ∧ ErF w' v (syncV V1).2.1 true ∧ ErrTy w' ∧ VlLeft w B p pd (syncV V1).1 vF X w' := by
  obtain ⟨⟨X1, vF1, hv, hgr, ho, hkx⟩, hgn, hc, hn⟩ := h
  have hgE := hg.kept hkx (hv0.base hB)
  refine (syncP wr B p pd V1 vF1 X1 hv hgE hB hgn).mono ?_
  rintro e w' ⟨v, rfl, he, hl⟩
  have hl2 := VlLeft.next hgr ho hkx hl
  have e1 : syncV V1 = cameV V1 V1.D.sync := by unfold syncV; rw [if_neg (by simp [hgn])]
  rw [e1, came_down]
  exact ⟨v, rfl, he, hg.kept hl2.size (hv0.base hB), hl2⟩

/-- What wipe does. -/
def wipeW (V : Vol) (id many e : Nat) : Vol × Nat × Bool := if e = many then (V, 0, false) else thenSync (writesV V (id : Int) e (List.replicate (many - e) []))

set_option maxHeartbeats 2000000 in
theorem wipeP (w : World) (B p pd : Nat) (V : Vol) (vF : Value) (X : Nat → Prop) (h : VlP w B p pd V vF X) (hg : ErrTy w) (hB : 0 < B) (hl : V.gone = false) (hC : V.D.C.length ≤ 890000) (hN : V.D.n ≤ 890000)
    (pl id many e n : Nat) (hL : LgAt w pl p id many e n) (hX : ¬X pl) (he : e ≤ many) (hm : many ≤ 4000) :
    Calls Tryz.prog 33 #[.pointer (some ⟨pl, 0, none⟩)] w fun r w' => ∃ v, r = .returned v ∧ Er8 w' v (wipeW V id many e).2.1 true ∧ VlOut w B p pd (wipeW V id many e).1 vF X w' v := by
  have c0 := Holds.cell hL 0 _ rfl
  have c1 := Holds.cell hL 1 _ rfl
  have c2 := Holds.cell hL 2 _ rfl
  have c3 := Holds.cell hL 3 _ rfl
  by_cases h0 : e = many
  · have hw : Hid (wipeW V id many e = (V, 0, false)) := by show _ = _; unfold wipeW; rw [if_pos h0]
    subst h0
    have H := Lib.hid h
    clear h hg hB hl hC hN hL hX he
    go_enter Tryz.func33, Tryz.ntmps33
    go_wp2_with fail
    go_quiet (fail)
    go_wp2
    go_ret
    rw [hw.out]
    exact ⟨_, rfl, .inl ⟨rfl, rfl⟩, VlLeft.out (c := 0) (f := true) (VlLeft.same H.out (Kept.refl _ _)) (.inl ⟨rfl, rfl⟩) (fun b hb => by cases hb) ((Kept.refl _ _).drewN _)⟩
  have hw : Hid (wipeW V id many e = thenSync (writesV V (id : Int) e (List.replicate (many - e) []))) := by show _ = _; unfold wipeW; rw [if_neg h0]
  have hne : ((e : Int) == (many : Int)) = false := by simp; omega
  have HI : Hid (∀ W, Kept (fun _ => False) w W → ∃ V1 k, WrAt w B p pd V vF X V1 k W ∧ k ≤ e - e ∧ writesV V (id : Int) e (List.replicate (many - e) []) = writesV V1 (id : Int) e (List.replicate (many - e) [])) :=
    fun W hk => ⟨V, 0, (WrAt.start h hl).still hk, by omega, rfl⟩
  have H := Lib.hid (And.intro h (And.intro hg (And.intro hC hN)))
  have HL := Lib.hid (And.intro hL hX)
  have HM : Hid (e ≤ many ∧ many ≤ 4000) := ⟨he, hm⟩
  clear h hg hl hC hN hL hX h0
  go_enter Tryz.func33, Tryz.ntmps33
  go_wp2_with fail
  go_quiet (fail)
  have HI1 : Hid (∃ V1 k, WrAt w B p pd V vF X V1 k (w.drewN nq) ∧ k ≤ e - e ∧ writesV V (id : Int) e (List.replicate (many - e) []) = writesV V1 (id : Int) e (List.replicate (many - e) [])) := HI.out _ ((Kept.refl _ _).drewN _)
  have c3' : (w.drewN nq).cell? ⟨pl, 3, none⟩ = some (.int .i64 (e : Int)) := Holds.cell (HL.out.1.kept (Y := fun _ => False) ((Kept.refl _ _).drewN _) (fun h => h)) 3 _ rfl
  generalize w.drewN nq = wq at HI1 c3' ⊢
  clear HI
  go_wp2
  clear c3'
  go_loopw [3] (fun a wr => ∃ j : Nat, e ≤ j ∧ j ≤ many ∧ a = .int .i64 (j : Int) ∧ Hid (∃ V1 k, WrAt w B p pd V vF X V1 k wr ∧ k ≤ j - e ∧ writesV V (id : Int) e (List.replicate (many - e) []) = writesV V1 (id : Int) j (List.replicate (many - j) []))) (fun a _ => 5000 - (intOf a).toNat)
  case atStart => exact ⟨e, Nat.le_refl _, HM.out.1, rfl, HI1⟩
  case round =>
    obtain ⟨j, hj0, hj, rfl, hI⟩ := hrel
    obtain ⟨V1, k, hI1, hk, hW⟩ := hI.out
    have hLr := hI1.log HL.out.1 HL.out.2
    have c0 := Holds.cell hLr 0 _ rfl
    have c1 := Holds.cell hLr 1 _ rfl
    have c2 := Holds.cell hLr 2 _ rfl
    by_cases hlt : (j : Int) < (many : Int)
    · have hjm : j < many := by omega
      have hHW := (hI1.still ((Kept.refl _ wr).drewN 1)).write H.out.1 H.out.2.1 hB (by have := H.out.2.2.1; omega) (by have := H.out.2.2.2; omega) (id : Int) (j : Int) (by unfold Fit; omega) []
      have HW := Lib.hid hHW
      have hrep : List.replicate (many - j) ([] : List UInt8) = [] :: List.replicate (many - (j + 1)) [] := by rw [show many - j = (many - (j + 1)) + 1 from by omega, List.replicate_succ]
      rw [hrep] at hW
      have HE := Lib.hid hW
      have hwj : IntKind.i64.wrap ((j : Int) + 1) = ((j + 1 : Nat) : Int) := by rw [IntWalk.i64_in _ (by omega)]; omega
      clear hHW hW hrep hI hI1 hLr
      go_upto_region 6 with (fail)
      refine wp_region_until (fun w' => w'.cell? ⟨pl, 0, none⟩ = some (.pointer (some ⟨p, 0, none⟩)) ∧ w'.cell? ⟨pl, 1, none⟩ = some (.int .i64 (id : Int))) 11 (by kernel_rfl) ?_
      have hS0 : wr.drew.cell? ⟨pl, 0, none⟩ = some (.pointer (some ⟨p, 0, none⟩)) ∧ wr.drew.cell? ⟨pl, 1, none⟩ = some (.int .i64 (id : Int)) := ⟨c0, c1⟩
      refine wpAnyU_take (i := 0) (v := (.pointer (some ⟨pl, 0, none⟩))) (some 26) rfl rfl (by kernel_rfl) (by kernel_rfl) (by kernel_rfl) (by kernel_rfl) (fun _ _ _ h => h) hS0 (yields_of (by kernel_rfl) (fun w ⟨h0, h1⟩ => by go_simp)) ?_
      refine wpAnyU_take (i := 1) (v := (.pointer (some ⟨pl, 0, none⟩))) (some 27) rfl rfl (by kernel_rfl) (by kernel_rfl) (by kernel_rfl) (by kernel_rfl) (fun _ _ _ h => h) hS0 (yields_of (by kernel_rfl) (fun w ⟨h0, h1⟩ => by go_simp)) ?_
      refine wpAnyU_take (i := 2) (v := (.pointer (some ⟨pl, 0, none⟩))) (some 28) rfl rfl (by kernel_rfl) (by kernel_rfl) (by kernel_rfl) (by kernel_rfl) (fun _ _ _ h => h) hS0 (yields_of (by kernel_rfl) (fun w ⟨h0, h1⟩ => by go_simp)) ?_
      refine wpAnyU_take (i := 3) (v := (.pointer (some ⟨p, 0, none⟩))) (some 29) rfl rfl (by kernel_rfl) (by kernel_rfl) (by kernel_rfl) (by kernel_rfl) (fun _ _ _ h => h) hS0 (yields_of (by kernel_rfl) (fun w ⟨h0, h1⟩ => by go_simp)) ?_
      refine wpAnyU_take (i := 4) (v := (.pointer (some ⟨pl, 0, none⟩))) (some 30) rfl rfl (by kernel_rfl) (by kernel_rfl) (by kernel_rfl) (by kernel_rfl) (fun _ _ _ h => h) hS0 (yields_of (by kernel_rfl) (fun w ⟨h0, h1⟩ => by go_simp)) ?_
      refine wpAnyU_take (i := 5) (v := (.pointer (some ⟨pl, 0, none⟩))) (some 31) rfl rfl (by kernel_rfl) (by kernel_rfl) (by kernel_rfl) (by kernel_rfl) (fun _ _ _ h => h) hS0 (yields_of (by kernel_rfl) (fun w ⟨h0, h1⟩ => by go_simp)) ?_
      refine wpAnyU_take (i := 6) (v := (.pointer (some ⟨pl, 1, none⟩))) (some 32) rfl rfl (by kernel_rfl) (by kernel_rfl) (by kernel_rfl) (by kernel_rfl) (fun _ _ _ h => h) hS0 (yields_of (by kernel_rfl) (fun w ⟨h0, h1⟩ => by go_simp)) ?_
      refine wpAnyU_take (i := 7) (v := (.int .i64 (id : Int))) (some 33) rfl rfl (by kernel_rfl) (by kernel_rfl) (by kernel_rfl) (by kernel_rfl) (fun _ _ _ h => h) hS0 (yields_of (by kernel_rfl) (fun w ⟨h0, h1⟩ => by go_simp)) ?_
      refine wpAnyU_take (i := 8) (v := (.int .i64 (j : Int))) (some 34) rfl rfl (by kernel_rfl) (by kernel_rfl) (by kernel_rfl) (by kernel_rfl) (fun _ _ _ h => h) hS0 (yields_of (by kernel_rfl) (fun w ⟨h0, h1⟩ => by go_simp)) ?_
      refine wpAnyU_call (i := 9) (f := 53) (args := #[.pointer (some ⟨p, 0, none⟩), .int .i64 (id : Int), .int .i64 (j : Int), .string ⟨#[]⟩]) (some 35) rfl rfl (by kernel_rfl) (by kernel_rfl) (by kernel_rfl) ?_
      refine HW.out.mono ?_
      clear HW
      rintro e' w2 ⟨v, rfl, hev, hgE, hleft, hnext⟩
      have hL2 := HL.out.1.kept hleft.size HL.out.2
      refine ⟨_, rfl, fun _ => ⟨Holds.cell hL2 0 _ rfl, Holds.cell hL2 1 _ rfl⟩, ?_⟩
      refine wpAnyU_run (i := 10) (v := v) (w' := w2) (some 4) rfl rfl (by kernel_rfl) (by kernel_rfl) (by kernel_rfl) (fun _ => ⟨Holds.cell hL2 0 _ rfl, Holds.cell hL2 1 _ rfl⟩) ?_
      refine wpAnyU_done (by kernel_rfl) ?_ _
      simp only [put_lit, List.set_cons_succ, List.set_cons_zero]
      clear hS0 c0 c1 c2 hL2
      rcases hev with ⟨hz, rfl⟩ | ⟨hnz, q, hq, rfl, hfa⟩
      · have HI5 : Hid (∃ V1 k, WrAt w B p pd V vF X V1 k w2 ∧ k ≤ (j + 1) - e ∧ writesV V (id : Int) e (List.replicate (many - e) []) = writesV V1 (id : Int) (j + 1) (List.replicate (many - (j + 1)) [])) :=
          ⟨_, k + 1, hnext hz, by omega, by rw [HE.out, writesV_ok hz]⟩
        clear hz hgE hleft hnext HE
        go_wp2
        go_roundw
        case rel => exact ⟨j + 1, by omega, by omega, by first | rfl | go_num, HI5⟩
        case measure => have := HM.out; simp [intOf]; omega
      · have HBe := Lib.hid (belowE w2 _ _ _ hgE (.inr ⟨hnz, q, hq, rfl, hfa⟩))
        have HEq : Hid (wipeW V id many e = writeV V1 (id : Int) (j : Int) []) := by show _ = _; rw [hw.out, HE.out, writesV_bad hnz, thenSync_bad hnz]
        have HLf := Lib.hid hleft
        clear hnz hgE hleft hnext HE hfa hq
        go_wp2_with fail
        refine HBe.out.mono ?_
        clear HBe
        rintro e' w3 ⟨u, rfl, hu, hfu, hk3⟩
        have HU := Lib.hid (And.intro hu (And.intro hfu hk3))
        clear hu hfu hk3
        go_wp2
        go_ret
        rw [HEq.out]
        exact ⟨_, rfl, HU.out.1, HLf.out.out HU.out.1 HU.out.2.1 HU.out.2.2⟩
    · have hjm : j = many := by omega
      have hz0 : many - j = 0 := by omega
      rw [hz0, List.replicate_zero, writesV] at hW
      have HEq : Hid (wipeW V id many e = syncV V1) := by show _ = _; rw [hw.out, hW, thenSync_ok]
      have HS := Lib.hid (hI1.sync H.out.1 H.out.2.1 hB)
      clear hW hz0 hI hI1 hLr
      subst hjm
      go_wp2_with fail
      refine HS.out.mono ?_
      clear HS
      rintro e' w2 ⟨v, rfl, hev, hgE, hleft⟩
      have HBe := Lib.hid (belowE w2 _ _ _ hgE hev)
      have HLf := Lib.hid hleft
      clear hgE hleft hev c0 c1 c2
      go_wp2_with fail
      refine HBe.out.mono ?_
      clear HBe
      rintro e' w3 ⟨u, rfl, hu, hfu, hk3⟩
      have HU := Lib.hid (And.intro hu (And.intro hfu hk3))
      clear hu hfu hk3
      go_wp2
      go_ret
      rw [HEq.out]
      exact ⟨_, rfl, HU.out.1, HLf.out.out HU.out.1 HU.out.2.1 HU.out.2.2⟩

end Go.Proofs.YtfbgagpihhbllaaGreatDoor
