/- The chapter's examples (layer 9) hold of the program's list. -/
import Derived.Test.YtiglkadejbjdcaaSkK
import Derived.Deep.AppendLies
namespace Go.Proofs.Ytiglkadejbjdcaa
open Go.RowKit Go.Proofs Go.Proofs.Pk
set_option maxRecDepth 10000
attribute [local simp] mk_get wrap64_u8 mk_extract ByteArray.mk_append_mk get_1k

def exE : List Ent := [([97], [50], 1), ([98], [51], 3)]
theorem ex9_facts : putE (putE (putE [] [98] [49] 3) [97] [50] 1) [98] [51] 9 = exE ∧ hasE [] [98] = false ∧ hasE (putE [] [98] [49] 3) [97] = false ∧ hasE (putE (putE [] [98] [49] 3) [97] [50] 1) [98] = true ∧
    laneE exE 1 = [[98]] ∧ seekE exE [97, 97] = ([98], [51], true) ∧ heightE exE [98] = 3 ∧ heightE exE [99] = 0 := by decide

set_option maxHeartbeats 2000000 in
theorem examples9 {At : SkOf} (K : SkK At) (w : World) : Calls Try.prog 7 #[] w fun e w' => e = .returned (.bool true) ∧ Below w.heap.size w w' := by
  obtain ⟨q1, q2, q3, q4, q5, q6, q7, q8⟩ := ex9_facts
  have HN := Lib.hid (K.new w w.heap.size (Nat.le_refl _))
  go_enter Try.func7, Try.ntmps7
  go_wp2_with fail
  refine HN.out.mono ?_
  clear HN
  rintro e w1 ⟨l, X1, rfl, h1, hx1, hk1⟩
  have hP1 := K.put h1 (by simp) [98] [49] 3 (by unfold FitH; omega)
  rw [q2, Bool.not_false] at hP1
  have HP1 := Lib.hid hP1
  have HB1 := Lib.hid (And.intro (hk1.below (B := w.heap.size) (Nat.le_refl _) (fun _ hf => hf.elim)) hx1)
  clear h1 hx1 hk1 hP1
  go_wp2_with fail
  refine HP1.out.mono ?_
  clear HP1
  rintro e w2 ⟨rfl, X2, h2, hg2, hk2⟩
  have hP2 := K.put h2 (by decide) [97] [50] 1 (by unfold FitH; omega)
  rw [q3, Bool.not_false] at hP2
  have HP2 := Lib.hid hP2
  have hx2 : ∀ k, X2 k → w.heap.size ≤ k := fun k hk => (K.lt h2 k hk).1
  have HB2 := Lib.hid (And.intro (HB1.out.1.trans (hk2.below HB1.out.1.size HB1.out.2)) hx2)
  clear h2 hg2 hk2 hP2 hx2
  go_wp2_with fail
  refine HP2.out.mono ?_
  clear HP2
  rintro e w3 ⟨rfl, X3, h3, hg3, hk3⟩
  have hP3 := K.put h3 (by decide) [98] [51] 9 (by unfold FitH; omega)
  rw [q4, q1, Bool.not_true] at hP3
  have HP3 := Lib.hid hP3
  have hx3 : ∀ k, X3 k → w.heap.size ≤ k := fun k hk => (K.lt h3 k hk).1
  have HB3 := Lib.hid (And.intro (HB2.out.1.trans (hk3.below HB2.out.1.size HB2.out.2)) hx3)
  clear h3 hg3 hk3 hP3 hx3 HB2 HB1 q1 q2 q3 q4
  go_wp2_with fail
  refine HP3.out.mono ?_
  clear HP3
  rintro e w4 ⟨rfl, X4, h4, hg4, hk4⟩
  have hx4 : ∀ k, X4 k → w.heap.size ≤ k := fun k hk => (K.lt h4 k hk).1
  have HB4 := Lib.hid (And.intro (HB3.out.1.trans (hk4.below HB3.out.1.size HB3.out.2)) hx4)
  have hE : exE.length ≤ 1001 := by decide
  have hLn := K.lane h4 hE 1 (by unfold FitH; omega)
  rw [q5] at hLn
  have HLn := Lib.hid hLn
  have HFs := Lib.hid (fun (W : World) (hk : Kept (fun _ => False) w4 W) => K.still h4 hk)
  clear h4 hg4 hk4 hLn hx4 HB3
  go_wp2_with fail
  refine HLn.out.mono ?_
  clear HLn
  rintro e w5 ⟨vl, rfl, ho5, hk5⟩
  obtain ⟨g, cap, rfl, hg1, hg2⟩ := ho5.form (by decide)
  have d0 : w5.cell? ⟨g, 0, none⟩ = some (.string ⟨#[98]⟩) := by
    have := ho5.cellAt 0 (by decide)
    rw [this]; rfl
  rw [show ([[98]] : List Txt).length = 1 from rfl]
  have HK5 := Lib.hid hk5
  have hS := K.seek (HFs.out w5 hk5) hE [97, 97]
  rw [q6] at hS
  have HS := Lib.hid hS
  have hgs := Lib.hid hg2
  clear hS hk5 hg1 hg2 ho5
  go_wp2_with fail
  refine HS.out.mono ?_
  clear HS
  rintro e w6 ⟨rfl, hk6⟩
  have hk46 := HK5.out.trans hk6 (fun _ hf => hf.elim)
  have d0' : w6.cell? ⟨g, 0, none⟩ = some (.string ⟨#[98]⟩) := by rw [hk6.cell (p := ⟨g, 0, none⟩) hgs.out (fun hf => hf)]; exact d0
  have hH1 := K.height (HFs.out w6 hk46) hE [98]
  rw [q7] at hH1
  have HH1 := Lib.hid hH1
  have HK6 := Lib.hid hk46
  clear hH1 hk6 hk46 d0
  go_wp2_with fail
  refine HH1.out.mono ?_
  clear HH1
  rintro e w7 ⟨rfl, hk7⟩
  have hk47 := HK6.out.trans hk7 (fun _ hf => hf.elim)
  have hH2 := K.height (HFs.out w7 hk47) hE [99]
  rw [q8] at hH2
  have HH2 := Lib.hid hH2
  have HK7 := Lib.hid hk47
  clear hH2 hk7 hk47 d0'
  go_wp2_with fail
  refine HH2.out.mono ?_
  clear HH2
  rintro e w8 ⟨rfl, hk8⟩
  have hk48 := HK7.out.trans hk8 (fun _ hf => hf.elim)
  have hL := K.len (HFs.out w8 hk48) hE
  rw [show exE.length = 2 from rfl] at hL
  have HL := Lib.hid hL
  have HK8 := Lib.hid hk48
  clear hL hk8 hk48
  go_wp2_with fail
  refine HL.out.mono ?_
  clear HL
  rintro e w9 ⟨rfl, hk9⟩
  have HF := Lib.hid (HB4.out.1.trans ((HK8.out.trans hk9 (fun _ hf => hf.elim)).below HB4.out.1.size (fun _ hf => hf.elim)))
  clear hk9
  go_wp2
  go_ret
  exact ⟨rfl, HF.out⟩

end Go.Proofs.Ytiglkadejbjdcaa
