/- The chapter's examples (layer 14) hold of the program's versions. -/
import Derived.Test.YtjdolimeibpacaaGreatVnB
import Derived.Test.YtjdolimeibpacaaGreatIs14
import Derived.Deep.Cut
namespace Go.Proofs.YtjdolimeibpacaaGreat
open Go.RowKit Go.Proofs Go.Proofs.Pk
set_option maxRecDepth 10000
attribute [local simp] mk_get wrap64_u8 mk_extract ByteArray.mk_append_mk get_1k

def xA : MetaV := (3, 1, [97], [99], 1)
def xB : MetaV := (4, 1, [98], [100], 1)
def xC : MetaV := (3, 0, [97], [99], 1)
instance decMeta : DecidableEq MetaV := inferInstanceAs (DecidableEq (Int × Int × List UInt8 × List UInt8 × Int))
instance decVer : DecidableEq VerV := inferInstanceAs (DecidableEq (List MetaV × List Int × Int))
instance decVerN : DecidableEq (VerV × Nat) := instDecidableEqProd
theorem ex14_facts : applyV zeroV ([xA, xB], [], [], [], 0) = (zeroV, 1) ∧ applyV zeroV ([], [1], [], [], 0) = (zeroV, 8) ∧ applyV zeroV ([xC], [], [5], [], 9) = (([xC], [5], 9), 0) ∧ rightV ([xC], [5], 9) = true := by
  refine ⟨?_, ?_, ?_, ?_⟩ <;> decide +kernel
/-- A slice that has just been made of some tables' descriptions. -/
theorem metas_new (w : World) (T : List MetaV) (hT : T.length ≤ 2) (hf : ∀ m ∈ T, FitMV m) : MetasW (w.alloc (.cells (T.flatMap metaC).toArray 45)) (some ⟨w.heap.size, 0, none⟩) T.length T ∧ BndM (some ⟨w.heap.size, 0, none⟩) T.length T.length := by
  have hh := Holds.new w (T.flatMap metaC) 45
  refine ⟨⟨rfl, .inr ⟨_, 0, rfl, hh.lt, fun i hi => ⟨fun j v hv => ?_, hf _ (List.getElem_mem hi)⟩⟩⟩, .inr ⟨_, _, rfl⟩, Nat.le_refl _, by omega, fun h => by cases h⟩
  have hj : j < 5 := by have := (List.getElem?_eq_some_iff.1 hv).1; simpa [metaC] using this
  refine hh.cell (0 + i * 5 + j) v ?_
  match T, hT, i, hi, hv with
  | [a], _, 0, _, hv =>
    simp only [List.flatMap_cons, List.flatMap_nil, List.append_nil]
    rw [show 0 + 0 * 5 + j = j from by omega]; exact hv
  | [a, b], _, 0, _, hv =>
    simp only [List.flatMap_cons, List.flatMap_nil, List.append_nil]
    rw [show 0 + 0 * 5 + j = j from by omega, List.getElem?_append_left (by show j < 5; exact hj)]; exact hv
  | [a, b], _, 1, _, hv =>
    simp only [List.flatMap_cons, List.flatMap_nil, List.append_nil]
    rw [show 0 + 1 * 5 + j = 5 + j from by omega, List.getElem?_append_right (by show 5 ≤ 5 + j; omega), show 5 + j - (metaC a).length = j from by show 5 + j - 5 = j; omega]; exact hv
theorem ints_new (w : World) (n : Int) (hf : FitV n) : Ints (w.alloc (.cells #[.int .i64 n] 3)) (some ⟨w.heap.size, 0, none⟩) 1 [n] ∧ BndI (some ⟨w.heap.size, 0, none⟩) 1 1 [n] := by
  have hh := Holds.new w [.int .i64 n] 3
  refine ⟨⟨rfl, .inr ⟨_, 0, rfl, hh.lt, fun i hi => ?_⟩⟩, fun k hk => ?_, Nat.le_refl _, by omega, fun h => by cases h⟩
  · have hi2 : i < 1 := hi
    obtain rfl : i = 0 := by omega
    exact hh.cell 0 _ rfl
  · rw [List.mem_singleton] at hk; subst hk; exact hf

theorem live_two {l : List Int} (h : LivesV ([xC], [5], 9) l) : l = [3, 5] := by
  obtain ⟨h1, h2⟩ := h
  have h1 : l.Perm [3, 5] := h1
  have hl := h1.length_eq
  match l, hl, h1, h2 with
  | [a, b], _, h1, h2 =>
    have hab : a ≤ b := by simpa using h2
    have ha : a ∈ [3, 5] := h1.mem_iff.1 (by simp)
    have hb : b ∈ [3, 5] := h1.mem_iff.1 (by simp)
    have hn : [a, b].Nodup := h1.nodup_iff.2 (by decide)
    simp at ha hb hn
    rcases ha with rfl | rfl <;> rcases hb with rfl | rfl <;> first | rfl | omega | simp at hn

set_option maxHeartbeats 8000000 in
theorem examples14 {N : Int} (K : VnB N) (w : World) : Calls Tryz.prog 4 #[] w fun e w' => e = .returned (.bool true) ∧ Kept (fun _ => False) w w' := by
  obtain ⟨q1, q2, q3, q4⟩ := ex14_facts
  have F0 : FitV 0 := by unfold FitV; omega
  have fA : ∀ m ∈ [xA, xB], FitMV m := by simp [FitMV, FitV, xA, xB]
  have fC : ∀ m ∈ [xC], FitMV m := by simp [FitMV, FitV, xC]
  have m1 := metas_new w [xA, xB] (Nat.le_refl _) fA
  have A1 := K.apply _ none 0 0 none 0 0 zeroV (some ⟨w.heap.size, 0, none⟩) 2 2 none 0 0 none 0 0 none 0 0 ([xA, xB], [], [], [], 0) (ver_zero _) ⟨m1.1, m1.2, (ints_none (w.alloc _)).1, (ints_none w).2, (ints_none _).1, (ints_none w).2, (ints_none _).1, (ints_none w).2, F0⟩
  rw [q1] at A1
  have A1 := Lib.hid A1
  clear m1
  go_enter Tryz.func4, Tryz.ntmps4
  go_wp2_with fail
  refine A1.out.mono ?_
  clear A1
  rintro e w1 ⟨ad, len, cap, ad2, len2, cap2, rfl, _, hk1⟩
  have hkz : Kept (fun _ => False) w (w.alloc (.cells ([xA, xB].flatMap metaC).toArray 45)) := (Kept.refl _ w).alloc _
  have HK1 := Lib.hid (hkz.trans hk1 (fun _ f => f.elim))
  clear hk1 hkz
  unfold verC
  go_upto_region 2 with fail
  change Code.wp _ _ _ _ (w1.alloc (.cells #[.slice ad len cap, .slice ad2 len2 cap2, .int .i64 0] 41))
  have HK1a := Lib.hid (HK1.out.alloc (.cells #[.slice ad len cap, .slice ad2 len2 cap2, .int .i64 0] 41))
  generalize w1.alloc (.cells #[.slice ad len cap, .slice ad2 len2 cap2, .int .i64 0] 41) = wa at HK1a ⊢
  clear HK1
  have i1 := ints_new wa 1 (by unfold FitV; omega)
  have A2 := K.apply _ none 0 0 none 0 0 zeroV none 0 0 (some ⟨wa.heap.size, 0, none⟩) 1 1 none 0 0 none 0 0 ([], [1], [], [], 0) (ver_zero _) ⟨(metas_none (wa.alloc _)).1, (metas_none wa).2, i1.1, i1.2, (ints_none _).1, (ints_none wa).2, (ints_none _).1, (ints_none wa).2, F0⟩
  rw [q2] at A2
  have A2 := Lib.hid A2
  clear i1
  go_wp2_with fail
  refine A2.out.mono ?_
  clear A2
  rintro e w2 ⟨ae, len, cap, ae2, len2, cap2, rfl, _, hk1⟩
  have hkz : Kept (fun _ => False) wa (wa.alloc (.cells #[.int .i64 1] 3)) := (Kept.refl _ wa).alloc _
  have HK2 := Lib.hid (HK1a.out.trans (hkz.trans hk1 (fun _ f => f.elim)) (fun _ f => f.elim))
  clear hk1 hkz HK1a
  unfold verC
  go_upto_region 3 with fail
  change Code.wp _ _ _ _ (w2.alloc (.cells #[.slice ae len cap, .slice ae2 len2 cap2, .int .i64 0] 41))
  have HK2a := Lib.hid (HK2.out.alloc (.cells #[.slice ae len cap, .slice ae2 len2 cap2, .int .i64 0] 41))
  generalize w2.alloc (.cells #[.slice ae len cap, .slice ae2 len2 cap2, .int .i64 0] 41) = wb at HK2a ⊢
  clear HK2
  have m3 := metas_new wb [xC] (by decide) fC
  have i3 := ints_new (wb.alloc (.cells ([xC].flatMap metaC).toArray 45)) 5 (by unfold FitV; omega)
  rw [show (wb.alloc (.cells ([xC].flatMap metaC).toArray 45)).heap.size = wb.heap.size + 1 from by simp] at i3
  have hkm : Kept (fun _ => False) (wb.alloc (.cells ([xC].flatMap metaC).toArray 45)) ((wb.alloc (.cells ([xC].flatMap metaC).toArray 45)).alloc (.cells #[.int .i64 5] 3)) := (Kept.refl _ _).alloc _
  have A3 := K.apply _ none 0 0 none 0 0 zeroV (some ⟨wb.heap.size, 0, none⟩) 1 1 none 0 0 (some ⟨wb.heap.size + 1, 0, none⟩) 1 1 none 0 0 ([xC], [], [5], [], 9) (ver_zero _) ⟨metas_kept m3.1 hkm, m3.2, (ints_none _).1, (ints_none w).2, i3.1, i3.2, (ints_none _).1, (ints_none w).2, by unfold FitV; simp only; omega⟩
  rw [q3] at A3
  have A3 := Lib.hid A3
  have hkz : Kept (fun _ => False) wb ((wb.alloc (.cells ([xC].flatMap metaC).toArray 45)).alloc (.cells #[.int .i64 5] 3)) := ((Kept.refl _ wb).alloc _).alloc _
  have HKZ := Lib.hid hkz
  clear m3 i3 hkm hkz
  go_wp2_with fail
  refine A3.out.mono ?_
  clear A3
  rintro e w3 ⟨af, lf, cf, af2, lf2, cf2, rfl, hv3, hk1⟩
  have HK3 := Lib.hid (HK2a.out.trans (HKZ.out.trans hk1 (fun _ f => f.elim)) (fun _ f => f.elim))
  have HV3 := Lib.hid hv3
  obtain rfl : lf = 1 := hv3.1.1.symm
  obtain rfl : lf2 = 1 := hv3.2.2.1.1.symm
  clear hk1 HKZ HK2a hv3
  unfold verC
  simp only
  rw [show errV 49 0 = .nilIface from rfl]
  go_upto_region 4 with fail
  change Code.wp _ _ _ _ (w3.alloc (.cells #[.slice af 1 cf, .slice af2 1 cf2, .int .i64 9] 41))
  have HB := Lib.hid (Holds.new w3 [.slice af 1 cf, .slice af2 1 cf2, .int .i64 9] 41)
  have hka : Kept (fun _ => False) w3 (w3.alloc (.cells #[.slice af 1 cf, .slice af2 1 cf2, .int .i64 9] 41)) := (Kept.refl _ w3).alloc _
  have HK4 := Lib.hid (And.intro (HK3.out.trans hka (fun _ f => f.elim)) (HV3.out.kept hka))
  obtain ⟨g, hg⟩ : ∃ g, g = w3.heap.size := ⟨_, rfl⟩
  rw [← hg] at HB ⊢
  generalize w3.alloc (.cells #[.slice af 1 cf, .slice af2 1 cf2, .int .i64 9] 41) = wc at HB hka HK4 ⊢
  clear hg hka HK3 HV3
  have d0 := HB.out.cell 0 _ rfl
  have d1 := HB.out.cell 1 _ rfl
  have d2 := HB.out.cell 2 _ rfl
  have L1 := Lib.hid (K.live wc af 1 cf af2 1 cf2 ([xC], [5], 9) HK4.out.2)
  unfold verC at L1
  go_wp2_with fail
  refine L1.out.mono ?_
  clear L1
  rintro e w4 ⟨al, ll, lc, l, rfl, hil, hlv, hk1⟩
  have HB4 := Lib.hid (HB.out.of_block (hk1.block g HB.out.lt (fun f => f)))
  have HK5 := Lib.hid (And.intro (HK4.out.1.trans hk1 (fun _ f => f.elim)) (HK4.out.2.kept hk1))
  obtain rfl : l = [3, 5] := live_two hlv
  obtain rfl : ll = 2 := hil.1.symm
  obtain ⟨bl, ol, rfl, hbl, l1⟩ := ints_at hil 1 (by decide)
  have l1 : w4.cell? ⟨bl, ol + 1, none⟩ = some (.int .i64 5) := l1
  clear d0 d1 d2 hk1 hlv hil HB HK4
  have d0 := HB4.out.cell 0 _ rfl
  have d1 := HB4.out.cell 1 _ rfl
  have d2 := HB4.out.cell 2 _ rfl
  have R1 := Lib.hid (K.right w4 af 1 cf af2 1 cf2 ([xC], [5], 9) HK5.out.2)
  rw [q4] at R1
  unfold verC at R1
  go_wp2_with fail
  refine (is_any 1 1 _).mono ?_
  rintro e w5 ⟨rfl, rfl⟩
  go_wp2_with fail
  refine (is_any 8 8 _).mono ?_
  rintro e w6 ⟨rfl, rfl⟩
  go_wp2_with fail
  refine R1.out.mono ?_
  rintro e w7 ⟨rfl, hk7⟩
  have HK7 := Lib.hid (HK5.out.1.trans hk7 (fun _ f => f.elim))
  clear hk7 R1
  go_wp2
  go_ret
  exact ⟨rfl, HK7.out⟩

end Go.Proofs.YtjdolimeibpacaaGreat
