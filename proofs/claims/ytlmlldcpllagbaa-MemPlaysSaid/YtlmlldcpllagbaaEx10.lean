/- The chapter's examples (layer 10) hold of the program's table. -/
import Derived.Test.YtlmlldcpllagbaaMmK
import Derived.Test.YtlmlldcpllagbaaIs10
import Derived.Deep.AppendLies
namespace Go.Proofs.Ytlmlldcpllagbaa
open Go.RowKit Go.Proofs Go.Proofs.Pk
set_option maxRecDepth 10000
attribute [local simp] mk_get wrap64_u8 mk_extract ByteArray.mk_append_mk get_1k

def xA : MEnt := ([97], 1, false, [120])
def xB : MEnt := ([97], 3, true, [])
def xC : MEnt := ([97], 1, false, [121])
theorem ex10_facts : putC [] xA = 0 ∧ putM [] xA = [xA] ∧ putC [xA] xB = 0 ∧ putM [xA] xB = [xB, xA] ∧ putC [xB, xA] xC = 9 ∧ putM [xB, xA] xC = [xB, xA] ∧
    getM [xB, xA] [97] 2 = (xA, true) ∧ getM [xB, xA] [97] 9 = (xB, true) ∧ getM [xB, xA] [97] 0 = (zeroM, false) ∧ sizeM [xB, xA] = 35 := by refine ⟨?_, ?_, ?_, ?_, ?_, ?_, ?_, ?_, ?_, ?_⟩ <;> decide

set_option maxHeartbeats 4000000 in
theorem examples10 {At : MmOf} (K : MmK At) (w : World) : Calls Try.prog 7 #[] w fun e w' => e = .returned (.bool true) ∧ Below w.heap.size w w' := by
  obtain ⟨q1, q2, q3, q4, q5, q6, q7, q8, q9, q10⟩ := ex10_facts
  obtain ⟨w0, hw0⟩ : ∃ w0, w0 = w.alloc (.cells #[.int .i64 2, .int .i64 1] 3) := ⟨_, rfl⟩
  obtain ⟨g, hg⟩ : ∃ g, g = w.heap.size := ⟨_, rfl⟩
  have hk0 : Kept (fun _ => False) w w0 := by rw [hw0]; exact (Kept.refl _ w).alloc _
  have hInts : Ints w0 (some ⟨g, 0, none⟩) 2 [2, 1] := by
    have hh : Holds w0 g [.int .i64 2, .int .i64 1] 3 := by rw [hw0, hg]; exact Holds.new _ _ _
    refine ⟨rfl, .inr ⟨g, 0, rfl, hh.lt, fun i hi => ?_⟩⟩
    have hi2 : i < 2 := hi
    obtain rfl | rfl : i = 0 ∨ i = 1 := by omega
    · exact hh.cell 0 _ rfl
    · exact hh.cell 1 _ rfl
  have HN := Lib.hid (K.new w0 w.heap.size (some ⟨g, 0, none⟩) 2 2 [2, 1] hk0.size hInts (by intro n hn; simp at hn; omega) (Nat.le_refl _) (by decide) (fun h => by cases h))
  have HK0 := Lib.hid hk0
  clear hk0 hInts
  go_enter Try.func7, Try.ntmps7
  go_wp2_with fail
  rw [← hw0, ← hg]
  clear hw0 hg
  refine HN.out.mono ?_
  clear HN
  rintro e w1 ⟨t, X1, rfl, h1, hx1, hk1⟩
  have hP1 := K.put h1 (by simp) xA (by unfold FitN; decide)
  rw [q1, q2] at hP1
  have HP1 := Lib.hid hP1
  have HB1 := Lib.hid (And.intro ((HK0.out.trans hk1 (fun _ hf => hf.elim)).below (B := w.heap.size) (Nat.le_refl _) (fun _ hf => hf.elim)) (fun k hk => (K.lt h1 k hk).1))
  clear h1 hx1 hk1 hP1 HK0
  go_wp2_with fail
  refine HP1.out.mono ?_
  clear HP1
  rw [show errV 55 0 = .nilIface from rfl]
  rintro e w2 ⟨rfl, X2, h2, hg2, hk2⟩
  have hP2 := K.put h2 (by decide) xB (by unfold FitN; decide)
  rw [q3, q4] at hP2
  have HP2 := Lib.hid hP2
  have HB2 := Lib.hid (And.intro (HB1.out.1.trans (hk2.below HB1.out.1.size HB1.out.2)) (fun k hk => (K.lt h2 k hk).1))
  clear h2 hg2 hk2 hP2 HB1
  go_wp2_with fail
  refine HP2.out.mono ?_
  clear HP2
  rw [show errV 55 0 = .nilIface from rfl]
  rintro e w3 ⟨rfl, X3, h3, hg3, hk3⟩
  have hP3 := K.put h3 (by decide) xC (by unfold FitN; decide)
  rw [q5, q6] at hP3
  have HP3 := Lib.hid hP3
  have HB3 := Lib.hid (And.intro (HB2.out.1.trans (hk3.below HB2.out.1.size HB2.out.2)) (fun k hk => (K.lt h3 k hk).1))
  clear h3 hg3 hk3 hP3 HB2
  go_wp2_with fail
  refine HP3.out.mono ?_
  clear HP3
  rw [show errV 55 9 = .iface 55 (.int .i64 9) from rfl]
  rintro e w4 ⟨rfl, X4, h4, hg4, hk4⟩
  have HB4 := Lib.hid (HB3.out.1.trans (hk4.below HB3.out.1.size HB3.out.2))
  have HS := Lib.hid (fun (W : World) (hk : Kept (fun _ => False) w4 W) => K.still h4 hk)
  have hlen : [xB, xA].length ≤ 201 := by decide
  have HG1 : Hid (Calls Try.prog 16 #[.pointer (some ⟨t, 0, none⟩), .string ⟨#[97]⟩, .int .i64 2] w4 fun r w' => r = .returned (.tuple #[.agg #[.string ⟨#[97]⟩, .int .i64 1, .bool false, .string ⟨#[120]⟩], .bool true]) ∧ Kept (fun _ => False) w4 w') := by
    have := K.get h4 hlen [97] 2 (by unfold FitN; omega)
    rw [q7] at this; exact this
  clear h4 hg4 hk4 HB3
  go_wp2_with fail
  refine HG1.out.mono ?_
  clear HG1
  rintro e w5 ⟨rfl, hk5⟩
  go_upto_region 8 with (fail)
  have HN5 := Holds.new w5 (entC xA) 34
  have hk6 := hk5.alloc (.cells (entC xA).toArray 34)
  obtain ⟨b5, hb5⟩ : ∃ b5, b5 = w5.heap.size := ⟨_, rfl⟩
  obtain ⟨w6, hw6⟩ : ∃ w6, w6 = w5.alloc (.cells (entC xA).toArray 34) := ⟨_, rfl⟩
  rw [← hb5, ← hw6] at HN5
  rw [← hw6] at hk6
  have hw6' : w6 = w5.alloc (.cells #[.string ⟨#[97]⟩, .int .i64 1, .bool false, .string ⟨#[120]⟩] 34) := hw6
  rw [← hb5, ← hw6']
  clear hw6 hw6' hb5 hk5
  have HG2 : Hid (Calls Try.prog 16 #[.pointer (some ⟨t, 0, none⟩), .string ⟨#[97]⟩, .int .i64 9] w6 fun r w' => r = .returned (.tuple #[.agg #[.string ⟨#[97]⟩, .int .i64 3, .bool true, .string ⟨#[]⟩], .bool true]) ∧ Kept (fun _ => False) w6 w') := by
    have := K.get (HS.out w6 hk6) hlen [97] 9 (by unfold FitN; omega)
    rw [q8] at this; exact this
  have HI6 := Lib.hid (And.intro HN5 hk6)
  clear HN5 hk6
  go_wp2_with fail
  refine HG2.out.mono ?_
  clear HG2
  rintro e w7 ⟨rfl, hk7⟩
  go_upto_region 9 with (fail)
  have HN7 := Holds.new w7 (entC xB) 34
  have hk8 := hk7.alloc (.cells (entC xB).toArray 34)
  obtain ⟨b7, hb7⟩ : ∃ b7, b7 = w7.heap.size := ⟨_, rfl⟩
  obtain ⟨w8, hw8⟩ : ∃ w8, w8 = w7.alloc (.cells (entC xB).toArray 34) := ⟨_, rfl⟩
  rw [← hb7, ← hw8] at HN7
  rw [← hw8] at hk8
  have hw8' : w8 = w7.alloc (.cells #[.string ⟨#[97]⟩, .int .i64 3, .bool true, .string ⟨#[]⟩] 34) := hw8
  rw [← hb7, ← hw8']
  clear hw8 hw8' hb7 hk7
  have hk48 := HI6.out.2.trans hk8 (fun _ hf => hf.elim)
  have HN5b := HI6.out.1.of_block (hk8.block b5 HI6.out.1.lt (fun hf => hf))
  have HG3 : Hid (Calls Try.prog 16 #[.pointer (some ⟨t, 0, none⟩), .string ⟨#[97]⟩, .int .i64 0] w8 fun r w' => r = .returned (.tuple #[.agg #[.string ⟨#[]⟩, .int .i64 0, .bool false, .string ⟨#[]⟩], .bool false]) ∧ Kept (fun _ => False) w8 w') := by
    have := K.get (HS.out w8 hk48) hlen [97] 0 (by unfold FitN; omega)
    rw [q9] at this; exact this
  have HI8 := Lib.hid (And.intro HN5b (And.intro HN7 hk48))
  clear HN5b HN7 hk48 hk8 HI6
  go_wp2_with fail
  refine HG3.out.mono ?_
  clear HG3
  rintro e w9 ⟨rfl, hk9⟩
  go_upto_region 10 with (fail)
  have hk10 := hk9.alloc (.cells (entC zeroM).toArray 34)
  obtain ⟨w10, hw10⟩ : ∃ w10, w10 = w9.alloc (.cells (entC zeroM).toArray 34) := ⟨_, rfl⟩
  obtain ⟨b9, hb9⟩ : ∃ b9, b9 = w9.heap.size := ⟨_, rfl⟩
  rw [← hw10] at hk10
  have hw10' : w10 = w9.alloc (.cells #[.string ⟨#[]⟩, .int .i64 0, .bool false, .string ⟨#[]⟩] 34) := hw10
  rw [← hw10', ← hb9]
  clear hw10 hw10' hk9 hb9
  have hk4X := HI8.out.2.2.trans hk10 (fun _ hf => hf.elim)
  have HA := HI8.out.1.of_block (hk10.block b5 HI8.out.1.lt (fun hf => hf))
  have HB := HI8.out.2.1.of_block (hk10.block b7 HI8.out.2.1.lt (fun hf => hf))
  have cA : w10.cell? ⟨b5, 3, none⟩ = some (.string ⟨#[120]⟩) := HA.cell 3 _ rfl
  have cB : w10.cell? ⟨b7, 2, none⟩ = some (.bool true) := HB.cell 2 _ rfl
  have HI10 := Lib.hid (And.intro HA (And.intro HB hk4X))
  clear HA HB hk4X hk10 HI8
  have HIs := Lib.hid (is_any 9 9 w10)
  rw [show errV 55 9 = .iface 55 (.int .i64 9) from rfl] at HIs
  have HSz := Lib.hid (K.size (HS.out w10 HI10.out.2.2) hlen)
  rw [q10] at HSz
  go_wp2_with fail
  refine HIs.out.mono ?_
  clear HIs
  rintro e wx ⟨rfl, rfl⟩
  go_wp2_with fail
  refine HSz.out.mono ?_
  clear HSz
  rintro e w11 ⟨rfl, hk11⟩
  have HLn := Lib.hid (K.len (HS.out w11 (HI10.out.2.2.trans hk11 (fun _ hf => hf.elim))) hlen)
  rw [show [xB, xA].length = 2 from rfl] at HLn
  go_wp2_with fail
  refine HLn.out.mono ?_
  clear HLn
  rintro e w12 ⟨rfl, hk12⟩
  have HF := Lib.hid (HB4.out.trans (((HI10.out.2.2.trans hk11 (fun _ hf => hf.elim)).trans hk12 (fun _ hf => hf.elim)).below HB4.out.size (fun _ hf => hf.elim)))
  clear hk11 hk12
  go_wp2
  go_ret
  exact ⟨rfl, HF.out⟩

end Go.Proofs.Ytlmlldcpllagbaa
