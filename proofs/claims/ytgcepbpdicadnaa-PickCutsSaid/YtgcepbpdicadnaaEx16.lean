/- The chapter's examples (layer 16) hold of the program's choice. -/
import Derived.Test.YtgcepbpdicadnaaJ08
import Derived.Test.YtgcepbpdicadnaaJ09
import Derived.Deep.Cut
import Derived.BigQuiet
namespace Go.Proofs.Ytgcepbpdicadnaa
open Go.RowKit Go.Proofs Go.Proofs.Pk
set_option maxRecDepth 10000
attribute [local simp] mk_get wrap64_u8 mk_extract ByteArray.mk_append_mk get_1k

theorem lit_metas (w : World) (T : List MetaV) (hT : T.length ≤ 100) (hf : ∀ m ∈ T, FitMV m) : MetasW (w.alloc (.cells (T.flatMap metaC).toArray 49)) (some ⟨w.heap.size, 0, none⟩) T.length T ∧ BndM (some ⟨w.heap.size, 0, none⟩) T.length T.length := by
  have hh := Holds.new w (T.flatMap metaC) 49
  exact ⟨⟨rfl, .inr ⟨_, 0, rfl, hh.lt, fun i hi => ⟨fun j v hv => hh.cell (0 + i * 5 + j) v (by rw [Nat.zero_add]; exact metasC_get T i hi j v hv), hf _ (List.getElem_mem hi)⟩⟩⟩, .inr ⟨_, _, rfl⟩, Nat.le_refl _, by omega, fun h => by cases h⟩
instance decMeta : DecidableEq MetaV := inferInstanceAs (DecidableEq (Int × Int × List UInt8 × List UInt8 × Int))
instance decEnt : DecidableEq MEnt := inferInstanceAs (DecidableEq (List UInt8 × Int × Bool × List UInt8))
instance decCut : DecidableEq (List (List MEnt) × Bool) := instDecidableEqProd
instance decJob : DecidableEq JobV := inferInstanceAs (DecidableEq (Int × List Int × List Int × Bool))
def z1L : List MEnt := [([97], 2, false, []), ([97], 1, false, []), ([98], 3, false, []), ([99], 4, false, [])]
def t1L : List MetaV := [(1, 0, [97], [99], 1), (2, 0, [97], [99], 1), (3, 0, [98], [100], 1), (4, 1, [100], [101], 1)]
theorem ex16_facts : (cutR z1L 1 = ([[([97], 2, false, []), ([97], 1, false, [])], [([98], 3, false, [])], [([99], 4, false, [])]], true)) ∧ pickM zeroV = none ∧ pickM (t1L, [], 0) = some (0, [1, 2, 3], [4], true) ∧ limM 1 = 4000 ∧ limM 2 = 16000 := by
  refine ⟨?_, ?_, ?_, ?_, ?_⟩ <;> decide +kernel
theorem fit_z : ∀ e ∈ z1L, FitN e.2.1 := by simp [z1L, FitN]
theorem fit_t : ∀ m ∈ t1L, FitMV m := by simp [t1L, FitMV, FitV]
theorem CutE.ok {w w' : World} {l : List (List MEnt)} {e : Ending} (h : CutE w (l, true) e w') : ∃ (ad : Option Addr) (cap : Nat), e = .returned (.tuple #[.slice ad l.length cap, .nilIface]) ∧ PcsW w w' ad l.length l ∧ Kept (fun _ => False) w w' := h
theorem CutE.bad {w w' : World} {e : Ending} (h : CutE w ([], false) e w') : ∃ (ad : Option Addr) (cap : Nat), e = .returned (.tuple #[.slice ad 0 cap, .iface 62 (.int .i64 1)]) ∧ Kept (fun _ => False) w w' := by
  obtain ⟨ad, cap, h1, _, h2⟩ := h
  exact ⟨ad, cap, h1, h2⟩

set_option maxHeartbeats 8000000 in
theorem examples16 (K : PkK) (w : World) : Calls Try.prog 8 #[] w fun e w' => e = .returned (.bool true) ∧ Kept (fun _ => False) w w' := by
  obtain ⟨q1, q2, q3, q4, q5⟩ := ex16_facts
  have A1 := K.cut _ _ 4 4 z1L 1 (lit_ents w z1L fit_z) (by decide) (by decide) (by unfold FitN; omega)
  rw [q1] at A1
  have A1 := Lib.hid A1
  clear q1
  go_enter Try.func8, Try.ntmps8
  go_wp2_with fail
  refine A1.out.mono ?_
  clear A1
  intro e w1 h
  obtain ⟨ad1, c1, rfl, hP, hk1⟩ := h.ok
  have HK1 : Hid (Kept (fun _ => False) w w1) := (((Kept.refl _ w).alloc (.cells (cellsM z1L).toArray 45)).trans hk1 (fun _ h => h.elim))
  have HP := Lib.hid hP
  have A2 := K.pick w1 none 0 0 none 0 0 zeroV (ver_zero w1)
  rw [q2] at A2
  have A2 := Lib.hid A2
  clear h hk1 hP q2
  go_wp2_with fail
  refine A2.out.mono ?_
  clear A2
  rintro e w2 ⟨ia, il, ic, ua, ul, uc, rfl, _, _, _, _, hk2⟩
  have HK2 := Lib.hid (HK1.out.trans hk2 (fun _ h => h.elim))
  have HP2 := Lib.hid (HP.out.kept hk2)
  clear hk2 HK1 HP
  unfold jobC zeroJ
  simp only [Option.getD_none, Option.isSome_none]
  go_upto_region 3 with fail
  have HK2a : Hid (Kept (fun _ => False) w (w2.alloc (.cells #[.int .i64 0, .slice ia il ic, .slice ua ul uc, .bool false] 28))) := HK2.out.alloc _
  have HP3 := Lib.hid (HP2.out.kept ((Kept.refl _ w2).alloc (.cells #[.int .i64 0, .slice ia il ic, .slice ua ul uc, .bool false] 28)))
  change Code.wp _ _ _ _ (w2.alloc (.cells #[.int .i64 0, .slice ia il ic, .slice ua ul uc, .bool false] 28))
  generalize w2.alloc (.cells #[.int .i64 0, .slice ia il ic, .slice ua ul uc, .bool false] 28) = wa at HK2a HP3 ⊢
  clear HK2 HP2
  obtain ⟨m1, m2⟩ := lit_metas wa t1L (by decide) fit_t
  have hkv : Kept (fun _ => False) wa ((wa.alloc (.cells (t1L.flatMap metaC).toArray 49)).alloc (.cells #[.slice (some ⟨wa.heap.size, 0, none⟩) 4 4, .slice none 0 0, .int .i64 0] 25)) := ((Kept.refl _ wa).alloc _).alloc _
  have A3 := K.pick ((wa.alloc (.cells (t1L.flatMap metaC).toArray 49)).alloc (.cells #[.slice (some ⟨wa.heap.size, 0, none⟩) 4 4, .slice none 0 0, .int .i64 0] 25)) (some ⟨wa.heap.size, 0, none⟩) 4 4 none 0 0 (t1L, [], 0)
    ⟨metas_kept m1 ((Kept.refl _ _).alloc _), m2, (ints_none _).1, (ints_none wa).2, by unfold FitV; simp only; omega⟩
  rw [q3] at A3
  have A3 := Lib.hid A3
  have HK3 := Lib.hid (HK2a.out.trans hkv (fun _ h => h.elim))
  have HP4 := Lib.hid (HP3.out.kept hkv)
  clear m1 m2 hkv HK2a HP3 q3
  go_wp2_with fail
  refine A3.out.mono ?_
  clear A3
  rintro e w3 ⟨ia2, il2, ic2, ua2, ul2, uc2, rfl, hI1, _, hU1, _, hk3⟩
  simp only [Option.getD_some] at hI1 hU1
  obtain rfl : il2 = 3 := hI1.1.symm
  obtain rfl : ul2 = 1 := hU1.1.symm
  have HK5 := Lib.hid (HK3.out.trans hk3 (fun _ h => h.elim))
  have HP5 := HP4.out.kept hk3
  clear hk3 HK3 HP4 hI1 hU1
  unfold jobC
  simp only [Option.getD_some, Option.isSome_some]
  have L1 := Lib.hid (fun W => K.limit 1 W (by unfold FitV; omega))
  have L2 := Lib.hid (fun W => K.limit 2 W (by unfold FitV; omega))
  rw [q4] at L1
  rw [q5] at L2
  obtain ⟨hn, h0 | ⟨g, og, pl, rfl, hg, _, hp, _⟩⟩ := HP5
  · cases h0
  obtain ⟨⟨ci, hc0, _⟩, _⟩ := hp 0 (by decide)
  rw [Nat.add_zero] at hc0
  simp only [List.getElem_cons_zero, List.length_cons, List.length_nil] at hc0
  have HC0 : Hid (∀ W, Kept (fun _ => False) w3 W → W.cell? ⟨g, og, none⟩ = some (.slice (some ⟨(pl 0).1, (pl 0).2, none⟩) 2 ci)) := fun W hk => (hk.cell (p := ⟨g, og, none⟩) hg (fun f => f)).trans hc0
  clear hp hn hc0 q4 q5
  go_upto_region 5 with fail
  have hkb : Kept (fun _ => False) w3 (w3.alloc (.cells #[.int .i64 0, .slice ia2 3 ic2, .slice ua2 1 uc2, .bool true] 28)) := (Kept.refl _ w3).alloc _
  have hHb := Holds.new w3 [.int .i64 0, .slice ia2 3 ic2, .slice ua2 1 uc2, .bool true] 28
  change Holds (w3.alloc (.cells #[.int .i64 0, .slice ia2 3 ic2, .slice ua2 1 uc2, .bool true] 28)) _ _ _ at hHb
  change Code.wp _ _ _ _ (w3.alloc (.cells #[.int .i64 0, .slice ia2 3 ic2, .slice ua2 1 uc2, .bool true] 28))
  obtain ⟨eb, heb⟩ : ∃ eb, eb = w3.heap.size := ⟨_, rfl⟩
  rw [← heb] at hHb ⊢
  generalize w3.alloc (.cells #[.int .i64 0, .slice ia2 3 ic2, .slice ua2 1 uc2, .bool true] 28) = wb at hkb hHb ⊢
  have c0 := HC0.out wb hkb
  have b1 : wb.cell? ⟨eb, 1, none⟩ = some (.slice ia2 3 ic2) := hHb.cell 1 _ rfl
  have b2 : wb.cell? ⟨eb, 2, none⟩ = some (.slice ua2 1 uc2) := hHb.cell 2 _ rfl
  have b3 : wb.cell? ⟨eb, 3, none⟩ = some (.bool true) := hHb.cell 3 _ rfl
  have HK6 := Lib.hid (HK5.out.trans hkb (fun _ h => h.elim))
  clear hkb hHb heb HC0 HK5
  go_wp2_with fail
  refine (L1.out _).mono ?_
  rintro e w4 ⟨rfl, hk4⟩
  have HK7 := Lib.hid (HK6.out.trans hk4 (fun _ h => h.elim))
  clear hk4 HK6 L1
  go_wp2_with fail
  refine (L2.out _).mono ?_
  rintro e w5 ⟨rfl, hk5⟩
  have HK8 := Lib.hid (HK7.out.trans hk5 (fun _ h => h.elim))
  clear hk5 HK7 L2
  go_wp2
  go_ret
  exact ⟨rfl, HK8.out⟩

end Go.Proofs.Ytgcepbpdicadnaa
