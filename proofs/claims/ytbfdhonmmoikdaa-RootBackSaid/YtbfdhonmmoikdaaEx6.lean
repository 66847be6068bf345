/- The examples of chapter 6 come out as they stand. -/
import Derived.Test.YtbfdhonmmoikdaaRtP
import Derived.Test.YtbfdhonmmoikdaaIs6
namespace Go.Proofs.Ytbfdhonmmoikdaa
open Go.RowKit Go.Proofs Go.Proofs.Pk
set_option maxRecDepth 10000
attribute [local simp] mk_get wrap64_u8 mk_extract ByteArray.mk_append_mk get_1k

theorem fit30 : Fit 30 := ⟨by decide, by decide⟩
theorem ex6_right : rightV 30 (1 : Nat) (2 : Nat) (1 : Nat) ([((1, 18, 3) : FileN)].map fileI) = true := by decide +kernel
theorem ex6_bytes : rootB 1 2 1 [(1, 18, 3)] = [1, 1, 1, 2, 1, 1, 1, 1, 1, 1, 1, 18, 1, 3] := by decide +kernel
theorem ex6_head : headV 1 14 = (headB 1 14, 0) := by decide +kernel
theorem ex6_none : rdHead (List.replicate 64 0) = (0, 0, 3) := by decide +kernel
theorem ex6_form : headB 1 14 = 80 :: 76 :: (headB 1 14).drop 2 ∧ ((headB 1 14).drop 2).length = 62 := by decide +kernel
theorem ex6_files (w : World) (o : Obj) : Files ((w.alloc (.cells #[.int .i64 1, .int .i64 18, .int .i64 3] 39)).alloc o) (some ⟨w.heap.size, 0, none⟩) 1 ([((1, 18, 3) : FileN)].map fileI) := by
  have hN := (Holds.new w [.int .i64 1, .int .i64 18, .int .i64 3] 39).alloc o
  refine ⟨rfl, .inr ⟨_, _, rfl, hN.lt, fun i hi => ?_⟩⟩
  have hi2 : i < 1 := hi
  obtain rfl : i = 0 := by omega
  refine ⟨fun j u hu => ?_, (⟨⟨by decide, by decide⟩, ⟨by decide, by decide⟩, ⟨by decide, by decide⟩⟩ : Fit 1 ∧ Fit 18 ∧ Fit 3)⟩
  match j with
  | 0 => exact hN.cell 0 _ hu
  | 1 => exact hN.cell 1 _ hu
  | 2 => exact hN.cell 2 _ hu
  | j + 3 => simp [fileV] at hu
theorem is33 (w : World) : Calls Try.prog 15 #[.iface 54 (.int .i64 3), .int .i64 3] w fun e w' => e = .returned (.bool true) ∧ w = w' := is_any 3 3 w
theorem zero_make64 (W : World) : (Instr.makeSlice 50 (.int .i64 64) (.int .i64 64)).run Try.prog W = .ok (.slice (some ⟨W.heap.size, 0, none⟩) 64 64) (W.alloc (.cells (List.replicate 64 (Value.int .u8 0)).toArray 5)) := by
  obtain ⟨i, hi, hz, hs, hb⟩ := info_parts byte_infoH
  have := run_make (P := Try.prog) W 50 5 i _ Try.underlying50 hi hz .i64 .i64 64 64 (by omega) (Int.le_refl _) (by rw [hb]; omega) (by omega)
  rw [this, hs]
  simp only [Value.cells]
  rw [show ((64 : Int).toNat * 1) = 64 from rfl, made_rep1 _ 64]
  rfl
theorem zero_conv64 (W : World) : (convert 50 9 (.slice (some ⟨W.heap.size, 0, none⟩) 64 64)).run Try.prog (W.alloc (.cells (List.replicate 64 (Value.int .u8 0)).toArray 5)) = .ok (.string ⟨(List.replicate 64 0).toArray⟩) (W.alloc (.cells (List.replicate 64 (Value.int .u8 0)).toArray 5)) := by
  have h := World.ownsRow_lit (e := 5) (base := W.heap.size) (size := 1) W (List.replicate 64 (Value.int .u8 0)).toArray 64 (Nat.le_refl _) (by unfold maxLen; omega) (by simp)
  have e : (List.replicate 64 (Value.int .u8 0)).toArray.toList = Lib.byteCells (List.replicate 64 0) := by simp [Lib.byteCells]
  rw [e] at h
  exact conv_own _ _ _ _ (List.replicate 64 0) 64 (by simp) h

section
variable {g : Nat} {w : World}
theorem x6E (h : Files w (some ⟨g, 0, none⟩) 1 ([((1, 18, 3) : FileN)].map fileI)) : Calls Try.prog 10 #[.int .i64 30, .agg #[.int .i64 1, .int .i64 2, .int .i64 1, .slice (some ⟨g, 0, none⟩) 1 1]] w fun e w' => e = .returned (.tuple #[.string ⟨#[1, 1, 1, 2, 1, 1, 1, 1, 1, 1, 1, 18, 1, 3]⟩, .nilIface]) ∧ Below w.heap.size w w' :=
  (pEncode_ok 30 1 2 1 [(1, 18, 3)] _ 1 1 w fit30 h ex6_right).mono fun e w' ⟨he, hb⟩ => ⟨by rw [he, ex6_bytes]; rfl, hb⟩
theorem x6R (h : Files w (some ⟨g, 0, none⟩) 1 ([((1, 18, 3) : FileN)].map fileI)) : Calls Try.prog 16 #[.int .i64 30, .agg #[.int .i64 1, .int .i64 2, .int .i64 1, .slice (some ⟨g, 0, none⟩) 1 1]] w fun e w' => e = .returned (.bool true) ∧ Below w.heap.size w w' :=
  (pRightR 30 1 2 1 _ 1 1 _ w fit30 h).mono fun e w' ⟨he, hb⟩ => ⟨by rw [he]; exact congrArg (fun b => Ending.returned (.bool b)) ex6_right, hb⟩
theorem x6H (w : World) : Calls Try.prog 18 #[.int .i64 1, .int .i64 14] w fun e w' => e = .returned (.tuple #[.string ⟨(headB 1 14).toArray⟩, .nilIface]) ∧ Below w.heap.size w w' :=
  (pHead 1 14 w).mono fun e w' ⟨he, hb⟩ => ⟨by rw [he, ex6_head]; rfl, hb⟩
theorem x6N (w : World) : Calls Try.prog 20 #[.string ⟨(List.replicate 64 (0 : UInt8)).toArray⟩] w fun e w' => e = .returned (.tuple #[.int .i64 0, .int .i64 0, .iface 54 (.int .i64 3)]) ∧ Below w.heap.size w w' :=
  (pReadHead (List.replicate 64 0) w (by simp)).mono fun e w' ⟨he, hb⟩ => ⟨by rw [he, ex6_none]; rfl, hb⟩
end

set_option maxHeartbeats 2000000 in
/-- The chapter's examples come out as they stand. -/
theorem examples_any (w : World) : Calls Try.prog 9 #[] w fun e w' => e = .returned (.bool true) ∧ Below w.heap.size w w' := by
  have HFi := Lib.hid (ex6_files w)
  have HB0 : Hid (∀ o o', Below w.heap.size w ((w.alloc o).alloc o')) := fun o o' => ((Below.refl _ _).alloc (Nat.le_refl _) o).alloc (by simp) o'
  go_enter Try.func9, Try.ntmps9
  go_wp2_with fail
  obtain ⟨g, hg⟩ : ∃ g, Hid (g = w.heap.size) := ⟨_, rfl⟩
  have HF1 := Lib.hid (HFi.out (.cells #[.int .i64 1, .int .i64 2, .int .i64 1, .slice (some ⟨w.heap.size, 0, none⟩) 1 1] 24))
  have HB1 := Lib.hid (HB0.out (.cells #[.int .i64 1, .int .i64 18, .int .i64 3] 39) (.cells #[.int .i64 1, .int .i64 2, .int .i64 1, .slice (some ⟨w.heap.size, 0, none⟩) 1 1] 24))
  have HX := Holds.new (w.alloc (.cells #[.int .i64 1, .int .i64 18, .int .i64 3] 39)) [.int .i64 1, .int .i64 2, .int .i64 1, .slice (some ⟨w.heap.size, 0, none⟩) 1 1] 24
  rw [show (w.alloc (.cells #[.int .i64 1, .int .i64 18, .int .i64 3] 39)).heap.size = w.heap.size + 1 from by simp] at HX
  change Holds ((w.alloc (.cells #[.int .i64 1, .int .i64 18, .int .i64 3] 39)).alloc (.cells #[.int .i64 1, .int .i64 2, .int .i64 1, .slice (some ⟨w.heap.size, 0, none⟩) 1 1] 24)) _ _ _ at HX
  obtain ⟨q, hq⟩ : ∃ q, Hid (q = w.heap.size + 1) := ⟨_, rfl⟩
  rw [← hq.out, ← hg.out] at HX
  rw [← hg.out] at HF1 HB1
  rw [← hq.out, ← hg.out]
  clear HFi HB0
  have hgs : ∀ {n : Nat}, w.heap.size ≤ n → g ≤ n := fun h => by rw [hg.out]; exact h
  generalize (w.alloc (.cells #[.int .i64 1, .int .i64 18, .int .i64 3] 39)).alloc (.cells #[.int .i64 1, .int .i64 2, .int .i64 1, .slice (some ⟨g, 0, none⟩) 1 1] 24) = w1 at HF1 HB1 HX ⊢
  have HX1 := Lib.hid HX
  clear HX
  refine (x6E HF1.out).mono ?_
  rintro e w2 ⟨rfl, hb⟩
  have HB2 := Lib.hid (HB1.out.trans (hb.mono (hgs HB1.out.size)))
  have HF2 := Lib.hid (HF1.out.below hb)
  have HX2 := Lib.hid (HX1.out.of_block (hb.block q HX1.out.lt))
  clear hb HB1 HF1 HX1
  go_wp2_with fail
  refine (x6H w2).mono ?_
  rintro e w3 ⟨rfl, hb⟩
  have HB3 := Lib.hid (HB2.out.trans (hb.mono (hgs HB2.out.size)))
  have HF3 := Lib.hid (HF2.out.below hb)
  have HX3 := Lib.hid (HX2.out.of_block (hb.block q HX2.out.lt))
  clear hb HB2 HF2 HX2
  have hmk := zero_make64 w3
  have hcv := zero_conv64 w3
  have hb4 := (Below.refl w3.heap.size w3).alloc (Nat.le_refl _) (.cells (List.replicate 64 (Value.int .u8 0)).toArray 5)
  have hx6 := x6N
  generalize hZ : List.replicate 64 (0 : UInt8) = Z at hcv hx6
  generalize w3.alloc (.cells (List.replicate 64 (Value.int .u8 0)).toArray 5) = w4 at hmk hcv hb4
  have HB4 := Lib.hid (HB3.out.trans (hb4.mono (hgs HB3.out.size)))
  have HF4 := Lib.hid (HF3.out.below hb4)
  have HX4 := Lib.hid (HX3.out.of_block (hb4.block q HX3.out.lt))
  clear hZ hb4 HB3 HF3 HX3
  have HX6 := Lib.hid hx6
  clear hx6
  go_wp2_with fail
  refine (HX6.out w4).mono ?_
  rintro e w5 ⟨rfl, hb⟩
  have HB5 := Lib.hid (HB4.out.trans (hb.mono (hgs HB4.out.size)))
  have HF5 := Lib.hid (HF4.out.below hb)
  have HX5 := HX4.out.of_block (hb.block q HX4.out.lt)
  have x0 := HX5.cell 0 _ rfl
  have x1 := HX5.cell 1 _ rfl
  have x2 := HX5.cell 2 _ rfl
  have x3 := HX5.cell 3 _ rfl
  have hform := ex6_form
  obtain ⟨R, hR⟩ : ∃ R, R = (headB 1 14).drop 2 := ⟨_, rfl⟩
  rw [← hR] at hform
  obtain ⟨hf1, hf2⟩ := hform
  rw [hf1]
  clear hf1 hR hb HB4 HF4 HX4 HX5 hmk hcv HX6
  go_wp2_with fail
  refine (is33 w5).mono ?_
  rintro e w6 ⟨rfl, rfl⟩
  go_wp2_with fail
  refine (x6R HF5.out).mono ?_
  rintro e w6 ⟨rfl, hb⟩
  go_wp2
  go_ret
  exact ⟨rfl, by rw [← hg.out]; exact HB5.out.trans (hb.mono (hgs HB5.out.size))⟩

end Go.Proofs.Ytbfdhonmmoikdaa
