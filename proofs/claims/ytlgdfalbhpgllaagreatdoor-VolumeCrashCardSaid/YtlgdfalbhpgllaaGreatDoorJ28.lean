/- VolS, ReadP, RtI. -/
import Derived.Test.YtlgdfalbhpgllaaGreatDoorJ25
import Derived.Test.YtlgdfalbhpgllaaGreatDoorProg
import Derived.Test.YtlgdfalbhpgllaaGreatDoorJ03
import Derived.Test.YtlgdfalbhpgllaaGreatDoorJ06
import Derived.Test.YtlgdfalbhpgllaaGreatDoorJ04

/- Package volume: sector, Write, Read. -/
namespace Go.Proofs.YtlgdfalbhpgllaaGreatDoor
open Go.RowKit Go.Proofs Go.Proofs.Pk
set_option maxRecDepth 10000
attribute [local simp] mk_get wrap64_u8 mk_extract ByteArray.mk_append_mk get_1k

set_option maxHeartbeats 1000000 in
/-- A file's sector, or why not. -/
theorem sectorP (w : World) (B p pd : Nat) (V : Vol) (vF : Value) (X : Nat → Prop) (h : VlP w B p pd V vF X) (id k : Int) (hk0 : Fit k) :
    Calls Tryz.prog 34 #[.pointer (some ⟨p, 0, none⟩), .int .i64 id, .int .i64 k] w fun e w' => ∃ v, e = .returned (.tuple #[.int .i64 (sectorV V id k).1, v]) ∧ ErF w' v (sectorV V id k).2 false ∧ Kept (fun _ => False) w w' := by
  have c5 := h.obj.cell 5 _ rfl
  cases hgn : V.gone with
  | true =>
    rw [hgn] at c5
    have hp : Hid (sectorV V id k = (0, 6)) := by show _ = _; unfold sectorV; rw [if_pos hgn]
    have HF := Lib.hid (faultP 6 (by decide) w)
    rw [hp.out]
    clear h hgn
    go_enter Tryz.func34, Tryz.ntmps34
    go_wp2_with fail
    refine HF.out.mono ?_
    clear HF
    rintro e w2 ⟨v, rfl, he, hk2⟩
    go_wp2
    go_ret2
    exact ⟨_, rfl, he, hk2⟩
  | false =>
    rw [hgn] at c5
    obtain ⟨ad, cap, rfl, hFs⟩ := h.files
    have ho := h.obj
    have hfw := h.few
    have hpl := ho.lt
    obtain ⟨D, ⟨s, n, c, fs⟩, gone⟩ := V
    simp only at hgn hfw hFs c5 ⊢
    subst hgn
    obtain ⟨nf, hnf⟩ : ∃ nf, Hid (nf = fs.length) := ⟨_, rfl⟩
    have c4 := ho.cell 4 _ rfl
    simp only at c4
    rw [← hnf.out] at c4 hFs
    have HI := Lib.hid (findP ad nf cap (fs.map fileI) id w hFs (by have : fs.length ≤ 24 := hfw.1; have := hnf.out; omega))
    have HO := Lib.hid ho
    have HFs := Lib.hid hFs
    clear h ho hFs
    go_enter Tryz.func34, Tryz.ntmps34
    go_wp2_with fail
    refine HI.out.mono ?_
    clear HI
    rintro e w2 ⟨rfl, hb2⟩
    clear c4 c5
    have hk2 : Kept (fun _ => False) w w2 := Kept.of_below (fun _ => False) hb2
    by_cases hex : ∃ f ∈ fs, (f.1 : Int) = id
    · obtain ⟨f, hfm, hid⟩ := hex
      obtain ⟨i, hi, hfi, hge, hbf⟩ := findI_ge (fs.map fileI) id ⟨fileI f, List.mem_map_of_mem hfm, hid⟩
      have hif : i < fs.length := by simpa using hi
      have hgi : ((fs[i]).1 : Int) = id := by rw [List.getElem_map] at hge; exact hge
      have hfd : fs.find? (fun f => decide ((f.1 : Int) = id)) = some fs[i] := by
        rw [List.find?_eq_some_iff_getElem]
        refine ⟨by simpa using hgi, i, hif, rfl, fun j hj => ?_⟩
        have := hbf j hj
        rw [List.getElem_map] at this
        have h2 : ((fs[j]'(by omega)).1 : Int) ≠ id := this
        simp [h2]
      have hsv : Hid (sectorV ⟨D, (s, n, c, fs), false⟩ id k = if k < 0 ∨ ((fs[i]).2.2 : Int) ≤ k then (0, 1) else (((fs[i]).2.1 : Int) + k, 0)) := by
        show _ = _
        unfold sectorV
        rw [if_neg (by simp)]
        simp only
        rw [hfd]
      rw [hfi]
      have hi0 : decide ((i : Int) < 0) = false := by rw [decide_eq_false_iff_not]; omega
      have hi1 : (i : Int) < (nf : Int) := by have := hnf.out; omega
      have hi2 : (0 : Int) ≤ (i : Int) := by omega
      obtain ⟨g, og, rfl, hgl, r1, -⟩ := files_at (HFs.out.below hb2) i (by omega)
      have hget : (fs.map fileI)[i]'hi = fileI fs[i] := by simp
      rw [hget] at r1
      have hff := (hfw.2.2.2.2 fs[i] (List.getElem_mem hif)).1
      have hfm := (hfw.2.2.2.2 fs[i] (List.getElem_mem hif)).2
      generalize fs[i] = f at r1 hsv hff hfm
      obtain ⟨f0, f1, f2⟩ := f
      have d0 : w2.cell? ⟨g, og + i * 3, none⟩ = some (.int .i64 (f0 : Int)) := r1 0 _ rfl
      have d1 : w2.cell? ⟨g, og + i * 3 + 1, none⟩ = some (.int .i64 (f1 : Int)) := r1 1 _ rfl
      have d2 : w2.cell? ⟨g, og + i * 3 + 2, none⟩ = some (.int .i64 (f2 : Int)) := r1 2 _ rfl
      have ho2 := HO.out.of_block (hk2.block p hpl (fun hf => hf))
      have c4 := ho2.cell 4 _ rfl
      simp only at c4 hsv hfm
      rw [← hnf.out] at c4
      have hpl2 := ho2.lt
      have HK2 := Lib.hid hk2
      clear r1 hfi hfd hbf hge hgi hi ho2 hk2 hb2 hff hid hif hget
      by_cases hbad : k < 0 ∨ (f2 : Int) ≤ k
      · have hsv2 : Hid (sectorV ⟨D, (s, n, c, fs), false⟩ id k = (0, 1)) := by show _ = _; rw [hsv.out, if_pos hbad]
        have hFN := fun (o : Obj) => faultP 1 (by decide) (w2.alloc o)
        have HF := Lib.hid hFN
        by_cases hneg : k < 0
        case' neg =>
          have hneg' : decide (k < 0) = false := by rw [decide_eq_false_iff_not]; exact hneg
          have hge : (f2 : Int) ≤ k := by omega
        all_goals
          clear hbad hFN
          go_wp2_with fail
          refine (HF.out _).mono ?_
          clear HF
          rintro e w3 ⟨v, rfl, he, hk3⟩
          have HE := Lib.hid (And.intro he hk3)
          clear he hk3
          go_wp2
          go_ret2
          rw [hsv2.out]
          exact ⟨_, rfl, HE.out.1, (HK2.out.alloc _).trans HE.out.2 (fun _ hf => hf.elim)⟩
      · have hsv2 : Hid (sectorV ⟨D, (s, n, c, fs), false⟩ id k = ((f1 : Int) + k, 0)) := by show _ = _; rw [hsv.out, if_neg hbad]
        have hneg' : decide (k < 0) = false := by rw [decide_eq_false_iff_not]; omega
        have hge : ¬(f2 : Int) ≤ k := by omega
        have hw1 : IntKind.i64.wrap ((f1 : Int) + k) = (f1 : Int) + k := IntWalk.i64_in _ (by have := hfm.1; have := hfm.2.1; unfold Fit at hk0; omega)
        clear hbad
        go_wp2
        go_ret2
        rw [hsv2.out]
        exact ⟨_, rfl, ErF.none _ _, HK2.out.alloc _⟩
    · have hf1 := findI_lt (fs.map fileI) id (fun ⟨g, hgm, he⟩ => by obtain ⟨f, hfm, rfl⟩ := List.mem_map.1 hgm; exact hex ⟨f, hfm, he⟩)
      rw [hf1]
      have hsv : Hid (sectorV ⟨D, (s, n, c, fs), false⟩ id k = (0, 8)) := by
        show _ = _
        unfold sectorV
        rw [if_neg (by simp)]
        simp only
        rw [List.find?_eq_none.2 (fun f hf => by simpa using fun h => hex ⟨f, hf, h⟩)]
      have HF := Lib.hid (faultP 8 (by decide) w2)
      have HK2 := Lib.hid hk2
      clear hf1 hex hk2 hb2
      go_wp2_with fail
      refine HF.out.mono ?_
      clear HF
      rintro e w3 ⟨v, rfl, he, hk3⟩
      have HE := Lib.hid (And.intro he hk3)
      clear he hk3
      go_wp2
      go_ret2
      rw [hsv.out]
      exact ⟨_, rfl, HE.out.1, HK2.out.trans HE.out.2 (fun _ hf => hf.elim)⟩

theorem came_down (V : Vol) (r : Dsk × Nat) : cameV V r = (downV ⟨r.1, V.R, V.gone⟩ r.2, r.2, decide (r.2 ≠ 0)) := by unfold cameV downV; rfl

set_option maxHeartbeats 1000000 in
/-- Write does what the chapter says. -/
theorem writeP (w : World) (B p pd : Nat) (V : Vol) (vF : Value) (X : Nat → Prop) (h : VlP w B p pd V vF X) (hg : ErrTy w) (hB : 0 < B) (hC : V.D.C.length ≤ 900000) (hN : V.D.n ≤ 900000) (id k : Int) (hk0 : Fit k) (s : List UInt8) :
    Calls Tryz.prog 18 #[.pointer (some ⟨p, 0, none⟩), .int .i64 id, .int .i64 k, .string ⟨s.toArray⟩] w fun e w' => ∃ v, e = .returned v ∧ ErF w' v (writeV V id k s).2.1 (writeV V id k s).2.2 ∧ VlLeft w B p pd (writeV V id k s).1 vF X w' := by
  have HS := Lib.hid (sectorP w B p pd V vF X h id k hk0)
  have H := Lib.hid h
  have HG := Lib.hid hg
  clear h hg
  go_enter Tryz.func18, Tryz.ntmps18
  go_wp2_with fail
  refine HS.out.mono ?_
  clear HS
  rintro e w1 ⟨v, rfl, he, hk1⟩
  rcases he with ⟨hz, rfl⟩ | ⟨hnz, q, hq, rfl, hfa⟩
  · have hwv : Hid (writeV V id k s = (downV ⟨(V.D.write (sectorV V id k).1 s).1, V.R, V.gone⟩ (V.D.write (sectorV V id k).1 s).2, (V.D.write (sectorV V id k).1 s).2, decide ((V.D.write (sectorV V id k).1 s).2 ≠ 0))) := by
      show _ = _
      unfold writeV
      rw [if_neg (by omega), came_down]
    have hv1 := H.out.still hk1
    have hE1 := HG.out.kept hk1 (fun hf => hf)
    obtain ⟨Xd, hA, hX⟩ := hv1
    have c0 := hA.obj.cell 0 _ rfl
    have HW := Lib.hid (pWr (sectorV V id k).1 s w1 B pd V.D Xd hA.dsk hA.ok (by omega) (by omega))
    have HA := Lib.hid (And.intro hA (And.intro hX (And.intro hk1 hE1)))
    generalize (sectorV V id k).1 = a at HW hwv ⊢
    clear hA hX hk1 hE1 hz
    go_wp2_with fail
    refine HW.out.mono ?_
    clear HW
    rintro e w2 ⟨rfl, Xd', hd2, hgr2, hk2⟩
    obtain ⟨hv2, hg2, hkx2⟩ := VlP.disk HA.out.1 HA.out.2.1 hd2 hgr2 hk2 (Dsk.write_ok HA.out.1.ok _ _) (write_len _ _ _)
    have hE2 := HA.out.2.2.2.kept hkx2 (fun hx => by have := (H.out.lt _ (.inl hx)).1; omega)
    have HBW := Lib.hid (belowP w2 B p pd _ vF _ hv2 hE2 hB (V.D.write a s).2)
    have HK := Lib.hid (And.intro hg2 hkx2)
    clear hd2 hgr2 hk2 hv2 hg2 hkx2 hE2 c0
    go_wp2_with fail
    refine HBW.out.mono ?_
    clear HBW
    rintro e w3 ⟨v, rfl, he, hv3, hk3⟩
    have HE := Lib.hid (And.intro he.laid (And.intro hv3 hk3))
    clear he hv3 hk3
    go_wp2
    go_ret
    rw [hwv.out]
    exact ⟨_, rfl, HE.out.1, VlLeft.behind HA.out.2.2.1 ⟨_, _, HE.out.2.1, HK.out.1, fun b hb => .inl (downF_sub hb), HK.out.2.trans HE.out.2.2 HK.out.1⟩⟩
  · have hwv : Hid (writeV V id k s = (V, (sectorV V id k).2, false)) := by
      show _ = _
      unfold writeV
      rw [if_pos hnz]
    have HE := Lib.hid (And.intro (show ErF w1 _ _ false from .inr ⟨hnz, q, hq, rfl, hfa⟩) hk1)
    clear hnz hq hfa hk1
    go_wp2
    go_ret
    rw [hwv.out]
    exact ⟨_, rfl, HE.out.1, VlLeft.same H.out HE.out.2⟩

set_option maxHeartbeats 1000000 in
/-- Read of a sector that is there. -/
theorem readP (w : World) (B p pd : Nat) (V : Vol) (vF : Value) (X : Nat → Prop) (h : VlP w B p pd V vF X) (id k : Int) (hk0 : Fit k) (hz : (sectorV V id k).2 = 0) (hz2 : (V.D.read (sectorV V id k).1).2 = 0) :
    Calls Tryz.prog 19 #[.pointer (some ⟨p, 0, none⟩), .int .i64 id, .int .i64 k] w fun e w' => e = .returned (.tuple #[.string ⟨(V.D.read (sectorV V id k).1).1.toArray⟩, .nilIface]) ∧ Kept (fun _ => False) w w' := by
  have hS := sectorP w B p pd V vF X h id k hk0
  obtain ⟨a, ha⟩ : ∃ a, a = (sectorV V id k).1 := ⟨_, rfl⟩
  rw [← ha] at hS hz2 ⊢
  have HS := Lib.hid hS
  have H := Lib.hid h
  clear h hS ha
  go_enter Tryz.func19, Tryz.ntmps19
  go_wp2_with fail
  refine HS.out.mono ?_
  clear HS
  rintro e w1 ⟨v, rfl, he, hk1⟩
  rcases he with ⟨_, rfl⟩ | ⟨hnz, _⟩
  · obtain ⟨Xd, hA, hX⟩ := H.out.still hk1
    have c0 := hA.obj.cell 0 _ rfl
    have hR := pRd a w1 B pd V.D Xd hA.dsk hA.ok
    rw [hz2, show erV 0 = .nilIface from rfl] at hR
    have HR := Lib.hid hR
    have HK := Lib.hid hk1
    clear hA hX hk1 hz hR hz2
    go_wp2_with fail
    refine HR.out.mono ?_
    clear HR
    rintro e w2 ⟨rfl, hk2⟩
    have HK2 := Lib.hid hk2
    clear hk2
    go_wp2
    go_ret2
    exact ⟨rfl, HK.out.trans HK2.out (fun _ hf => hf.elim)⟩
  · exact absurd hz hnz

end Go.Proofs.YtlgdfalbhpgllaaGreatDoor

/- pack.ReadNum: what it returns. -/
namespace Go.Proofs.YtlgdfalbhpgllaaGreatDoor
open Go.RowKit Go.Proofs Go.Proofs.Pk
set_option maxRecDepth 10000
attribute [local simp] mk_get wrap64_u8 mk_extract ByteArray.mk_append_mk get_1k

set_option maxHeartbeats 400000 in
theorem pRead_nil (w : World) :
    Calls Tryz.prog 74 #[.string ⟨([] : List UInt8).toArray⟩] w (R3 w (.int .i64 0) (.string ⟨#[]⟩) (errV 57 2)) := by
  go_enter Tryz.func74, Tryz.ntmps74
  go_wp2
  go_ret3
  exact R3.mk rfl rfl rfl (Below.refl _ _)

set_option maxHeartbeats 400000 in
theorem pRead_big (c : UInt8) (r : List UInt8) (w : World) (hb : r.length + 1 ≤ maxLen) (h : 7 < (c.toNat : Int)) :
    Calls Tryz.prog 74 #[.string ⟨(c :: r).toArray⟩] w (R3 w (.int .i64 0) (.string ⟨#[]⟩) (errV 57 3)) := by
  unfold maxLen at hb
  go_enter Tryz.func74, Tryz.ntmps74
  go_wp2
  go_quiet (fail)
  go_wp2
  go_ret3
  exact R3.mk rfl rfl rfl (belowN (Below.refl _ _) _)

set_option maxHeartbeats 400000 in
theorem pRead_short (c : UInt8) (r : List UInt8) (w : World) (hb : r.length + 1 ≤ maxLen) (h : (c.toNat : Int) ≤ 7) (h1 : (r.length : Int) < c.toNat) :
    Calls Tryz.prog 74 #[.string ⟨(c :: r).toArray⟩] w (R3 w (.int .i64 0) (.string ⟨#[]⟩) (errV 57 2)) := by
  unfold maxLen at hb
  go_enter Tryz.func74, Tryz.ntmps74
  go_wp2
  go_quiet (fail)
  go_wp2
  go_ret3
  exact R3.mk rfl rfl rfl (belowN (Below.refl _ _) _)

set_option maxHeartbeats 400000 in
theorem pRead_lead (c : UInt8) (t : List UInt8) (w : World) (hb : t.length + 1 ≤ maxLen) (h : (c.toNat : Int) ≤ 7) (h1 : (c.toNat : Int) ≤ t.length) (hc : 0 < (c.toNat : Int)) (ht : 0 < t.length) (hd : (((t[0]'ht).toNat : Int) == 0) = true) :
    Calls Tryz.prog 74 #[.string ⟨(c :: t).toArray⟩] w (R3 w (.int .i64 0) (.string ⟨#[]⟩) (errV 57 3)) := by
  unfold maxLen at hb
  go_enter Tryz.func74, Tryz.ntmps74
  go_wp2
  go_quiet (fail)
  go_wp2
  go_ret3
  exact R3.mk rfl rfl rfl (belowN (Below.refl _ _) _)

set_option maxHeartbeats 400000 in
theorem pRead_0 (r : List UInt8) (w : World) (_hb : r.length + 1 ≤ maxLen) :
    Calls Tryz.prog 74 #[.string ⟨((0 : UInt8) :: r).toArray⟩] w (R3 w (.int .i64 0) (.string ⟨r.toArray⟩) (errV 57 0)) := by
  unfold maxLen at _hb
  go_enter Tryz.func74, Tryz.ntmps74
  go_wp2
  go_quiet (fail)
  go_wp2
  go_loop [2, 6, 32] (fun n j i => n = .int .i64 0 ∧ i = .int .i64 0) (fun _ _ _ => 0)
  case atStart => exact ⟨rfl, rfl⟩
  case round =>
    obtain ⟨rfl, rfl⟩ := hrel
    go_wp2
    go_quiet (fail)
    go_wp2
    go_ret3
    exact R3.mk rfl (by simp) rfl (belowN (belowN (Below.refl _ _) _) _)

set_option maxHeartbeats 400000 in
theorem pRead_go (c : UInt8) (t : List UInt8) (w : World) (hb : t.length + 1 ≤ maxLen) (h : (c.toNat : Int) ≤ 7) (h1 : (c.toNat : Int) ≤ t.length) (hc : 0 < (c.toNat : Int)) (ht : 0 < t.length) (hd : (((t[0]'ht).toNat : Int) == 0) = false)
    (hM : (val (t.take c.toNat) : Int) ≤ 9007199254740991) :
    Calls Tryz.prog 74 #[.string ⟨(c :: t).toArray⟩] w (R3 w (.int .i64 (val (t.take c.toNat))) (.string ⟨(t.drop c.toNat).toArray⟩) (errV 57 0)) := by
  unfold maxLen at hb
  have HM := Lib.hid hM
  clear hM
  go_enter Tryz.func74, Tryz.ntmps74
  go_wp2
  go_quiet (fail)
  go_wp2
  go_loop [2, 6, 32] (fun n j i => ∃ k : Nat, (k : Int) ≤ c.toNat ∧ n = .int .i64 (val (t.take k)) ∧ i = .int .i64 k) (fun _ _ i => c.toNat - (intOf i).toNat)
  case atStart => exact ⟨0, by omega, rfl, rfl⟩
  case round =>
    obtain ⟨k, hk, rfl, rfl⟩ := hrel
    by_cases hlt : (k : Int) < c.toNat
    · have hkl : k < t.length := by omega
      have hkk : (k : Int) < t.length := by omega
      go_wp2
      go_round
      case rel => exact ⟨k + 1, by omega, by rw [val_take t k hkl]; exact congrArg _ (or_byte _ _ (val6 t k (by omega))), by go_num⟩
      case measure => simp [intOf]; omega
    · have hkc : k = c.toNat := by omega
      subst hkc
      have hM := HM.out
      go_wp2
      go_quiet (fail)
      go_wp2
      go_ret3
      refine R3.mk rfl ?_ rfl ?_
      · exact str_drop0 t c.toNat
      · exact belowN (belowN (Below.refl _ _) _) _

set_option maxHeartbeats 400000 in
theorem pRead_much (c : UInt8) (t : List UInt8) (w : World) (hb : t.length + 1 ≤ maxLen) (h : (c.toNat : Int) ≤ 7) (h1 : (c.toNat : Int) ≤ t.length) (hc : 0 < (c.toNat : Int)) (ht : 0 < t.length) (hd : (((t[0]'ht).toNat : Int) == 0) = false)
    (hM : 9007199254740991 < (val (t.take c.toNat) : Int)) :
    Calls Tryz.prog 74 #[.string ⟨(c :: t).toArray⟩] w (R3 w (.int .i64 0) (.string ⟨#[]⟩) (errV 57 3)) := by
  unfold maxLen at hb
  have HM := Lib.hid hM
  clear hM
  go_enter Tryz.func74, Tryz.ntmps74
  go_wp2
  go_quiet (fail)
  go_wp2
  go_loop [2, 6, 32] (fun n j i => ∃ k : Nat, (k : Int) ≤ c.toNat ∧ n = .int .i64 (val (t.take k)) ∧ i = .int .i64 k) (fun _ _ i => c.toNat - (intOf i).toNat)
  case atStart => exact ⟨0, by omega, rfl, rfl⟩
  case round =>
    obtain ⟨k, hk, rfl, rfl⟩ := hrel
    by_cases hlt : (k : Int) < c.toNat
    · have hkl : k < t.length := by omega
      have hkk : (k : Int) < t.length := by omega
      go_wp2
      go_round
      case rel => exact ⟨k + 1, by omega, by rw [val_take t k hkl]; exact congrArg _ (or_byte _ _ (val6 t k (by omega))), by go_num⟩
      case measure => simp [intOf]; omega
    · have hkc : k = c.toNat := by omega
      subst hkc
      have hM := HM.out
      go_wp2
      go_ret3
      exact R3.mk rfl rfl rfl (belowN (Below.refl _ _) _)

/-- The program reads a number as the chapter says. -/
theorem pRead (b : List UInt8) (w : World) (hb : b.length ≤ maxLen) :
    Calls Tryz.prog 74 #[.string ⟨b.toArray⟩] w (R3 w (.int .i64 (rdNum b).1) (.string ⟨(rdNum b).2.1.toArray⟩) (errV 57 (rdNum b).2.2)) := by
  cases b with
  | nil => exact pRead_nil w
  | cons c t =>
    simp only [List.length_cons] at hb
    rw [rdNum_cons]
    by_cases h7 : 7 < c.toNat
    · rw [if_pos h7]; exact pRead_big c t w hb (by omega)
    rw [if_neg h7]
    by_cases hs : t.length < c.toNat
    · rw [if_pos hs]; exact pRead_short c t w hb (by omega) (by omega)
    rw [if_neg hs]
    by_cases h0 : c.toNat = 0
    · obtain rfl : c = 0 := UInt8.toNat_inj.1 (by simpa using h0)
      rw [if_neg (by simp), if_neg (by simp [val])]
      exact pRead_0 t w hb
    · have ht : 0 < t.length := by omega
      have hh := head_beq t ht
      by_cases hz : t.head? = some 0
      · rw [if_pos ⟨by omega, hz⟩]
        exact pRead_lead c t w hb (by omega) (by omega) (by omega) ht (by rw [hh]; simpa using hz)
      · rw [if_neg (fun h => hz h.2)]
        have hd : (((t[0]'ht).toNat : Int) == 0) = false := by rw [hh]; simpa using hz
        by_cases hM : MaxN < val (t.take c.toNat)
        · rw [if_pos hM]
          exact pRead_much c t w hb (by omega) (by omega) (by omega) ht hd (by unfold MaxN at hM; omega)
        · rw [if_neg hM]
          exact pRead_go c t w hb (by omega) (by omega) (by omega) ht hd (by unfold MaxN at hM; omega)

end Go.Proofs.YtlgdfalbhpgllaaGreatDoor

/- Package root: read. -/
namespace Go.Proofs.YtlgdfalbhpgllaaGreatDoor
open Go.RowKit Go.Proofs Go.Proofs.Pk
set_option maxRecDepth 10000
attribute [local simp] mk_get wrap64_u8 mk_extract ByteArray.mk_append_mk get_1k

theorem ints_set (P : List Nat) (C : List Value) (k n : Nat) (hP : P.length = k) (hk : k < C.length) : (intsN P ++ C.drop k).set k (.int .i64 (n : Int)) = intsN (P ++ [n]) ++ C.drop (k + 1) := by
  have hl : (intsN P).length = k := by simp [intsN, hP]
  rw [List.set_append_right _ _ (by omega), hl, Nat.sub_self, List.drop_eq_getElem_cons hk, List.set_cons_zero]
  simp [intsN]

set_option maxHeartbeats 1000000 in
theorem pReadL (b : List UInt8) (K g cap : Nat) (C : List Value) (et : TypeId) (w : World) (h : Holds w g C et) (hC : C.length = K) (hb : b.length ≤ 4096) (hK : K ≤ 4) :
    Calls Tryz.prog 67 #[.string ⟨b.toArray⟩, .slice (some ⟨g, 0, none⟩) K cap] w fun e w' => e = .returned (.tuple #[.string ⟨(rdNums K b).2.1.toArray⟩, errV 57 (rdNums K b).2.2]) ∧ Kept (fun k => k = g) w w' ∧ ((rdNums K b).2.2 = 0 → Holds w' g (intsN (rdNums K b).1) et) := by
  obtain ⟨R, hR⟩ : ∃ R, Hid (R = rdNums K b) := ⟨_, rfl⟩
  rw [← hR.out]
  have H0 : Hid (R = addN [] (rdNums (K - 0) b)) := by show _ = _; rw [hR.out, Nat.sub_zero]; exact addN_nil K b
  have HW0 : Hid (Holds w g (intsN [] ++ C.drop 0) et) := h
  have HC := Lib.hid hC
  have hKi : (K : Int) ≤ 4 := by omega
  clear hR h hC
  go_enter Tryz.func67, Tryz.ntmps67
  go_wp2
  obtain ⟨wq, hwq⟩ : ∃ wq, wq = w := ⟨_, rfl⟩
  have HS : Hid (Kept (fun k => k = g) w wq) := by rw [hwq]; exact Kept.refl _ _
  rw [← hwq] at HW0 ⊢
  clear hwq
  go_loopw [0, 9] (fun s i wr => ∃ (j : Nat) (c : List UInt8) (P : List Nat), j ≤ K ∧ s = .string ⟨c.toArray⟩ ∧ i = .int .i64 j ∧ c.length ≤ 4096 ∧ P.length = j ∧ Hid (R = addN P (rdNums (K - j) c)) ∧ Hid (Holds wr g (intsN P ++ C.drop j) et) ∧ Hid (Kept (fun k => k = g) w wr)) (fun _ i _ => K - (intOf i).toNat)
  case atStart => exact ⟨0, b, [], Nat.zero_le _, rfl, rfl, hb, rfl, H0, HW0, HS⟩
  case round =>
    obtain ⟨j, c, P, hj, rfl, rfl, hc, hP, hr, hh, hkp⟩ := hrel
    by_cases hlt : (j : Int) < K
    · have hjK : j < K := by omega
      have hwj : IntKind.i64.wrap ((j : Int) + 1) = ((j + 1 : Nat) : Int) := by rw [IntWalk.i64_in _ (by omega)]; omega
      have HCC := Lib.hid (pRead c wr (by unfold maxLen; omega))
      have hr2 := hr.out
      rw [show K - j = (K - (j + 1)) + 1 from by omega] at hr2
      have hrest := rdNum_rest c
      have hj0 : (0 : Int) ≤ (j : Int) := Int.natCast_nonneg _
      have hjC : j < C.length := by have := HC.out; omega
      obtain ⟨n, hn⟩ : ∃ n, n = (rdNum c).1 := ⟨_, rfl⟩
      have HSET : Hid ((intsN P ++ C.drop j).set j (.int .i64 (n : Int)) = intsN (P ++ [n]) ++ C.drop (j + 1)) := ints_set P C j n hP hjC
      obtain ⟨zz, hzz⟩ : ∃ zz, C[j]'hjC = zz := ⟨_, rfl⟩
      have HZ : Hid ((intsN P ++ C.drop j)[j]? = some zz) := by
        show _ = _
        have hl : (intsN P).length = j := by simp [intsN, hP]
        rw [List.getElem?_append_right (by omega), hl, Nat.sub_self, List.drop_eq_getElem_cons hjC, hzz]; rfl
      by_cases hz : (rdNum c).2.2 = 0
      · rw [addN_step P _ c hz, ← hn] at hr2
        have HR := Lib.hid hr2
        rw [hz, ← hn] at HCC
        generalize (rdNum c).2.1 = r at *
        clear hr hr2 hz hn hjC hzz
        go_wp2_with fail
        refine HCC.out.mono ?_
        rintro e w2 ⟨rfl, hb2⟩
        have h2 : Holds w2 g _ _ := hh.out.of_block (hb2.block g hh.out.lt)
        have k2 := hkp.out.trans (Kept.of_below (fun _ => False) hb2) (fun _ hf => hf.elim)
        have c0 := h2.cell j zz HZ.out
        have f0 := h2.free j
        have H3 : Hid (Holds (w2.setCell ⟨g, j, none⟩ (.int .i64 (n : Int))) g (intsN (P ++ [n]) ++ C.drop (j + 1)) et) := by
          show Holds _ _ _ _
          rw [← HSET.out]; exact h2.set j _
        have K3 : Hid (Kept (fun k => k = g) w (w2.setCell ⟨g, j, none⟩ (.int .i64 (n : Int)))) := k2.setCell rfl _
        have hr4096 : r.length ≤ 4096 := by omega
        simp only [errV, if_pos]
        clear HCC hb2 h2 k2 hh hkp HSET HZ
        go_wp2
        go_roundw
        case rel => exact ⟨j + 1, r, P ++ [n], by omega, rfl, by go_num, hr4096, by simp; omega, HR, H3, K3⟩
        case measure => simp [intOf]; omega
      · rw [addN_err P _ c hz] at hr2
        have HR := Lib.hid hr2
        rw [← hn] at HCC
        have hzne : (rdNum c).2.2 ≠ 0 := hz
        generalize (rdNum c).2.2 = z at *
        generalize (rdNum c).2.1 = r at *
        clear hr hr2 hn hjC hzz
        go_wp2_with fail
        refine HCC.out.mono ?_
        rintro e w2 ⟨rfl, hb2⟩
        have h2 : Holds w2 g _ _ := hh.out.of_block (hb2.block g hh.out.lt)
        have k2 := hkp.out.trans (Kept.of_below (fun _ => False) hb2) (fun _ hf => hf.elim)
        have c0 := h2.cell j zz HZ.out
        have f0 := h2.free j
        have K3 : Hid (Kept (fun k => k = g) w (w2.setCell ⟨g, j, none⟩ (.int .i64 (n : Int)))) := k2.setCell rfl _
        have HZN : Hid (¬z = 0) := hzne
        rw [errV, if_neg hzne]
        clear HCC hb2 h2 k2 hh hkp HSET HZ hz hzne
        go_wp2
        go_ret2
        rw [HR.out]
        refine ⟨?_, K3.out, fun h => absurd h HZN.out⟩
        rw [errV, if_neg HZN.out]; rfl
    · have hjK : j = K := by omega
      subst hjK
      have HR : Hid (R = (P, c, 0)) := by
        show _ = _
        rw [hr.out, Nat.sub_self]; simp [rdNums, addN]
      have H3 : Hid (Holds wr g (intsN P) et) := by
        have := hh.out
        rw [List.drop_eq_nil_of_le (by have := HC.out; omega), List.append_nil] at this
        exact this
      clear hr hh
      go_wp2
      go_ret2
      rw [HR.out]
      exact ⟨rfl, hkp.out, fun _ => H3.out⟩

end Go.Proofs.YtlgdfalbhpgllaaGreatDoor
