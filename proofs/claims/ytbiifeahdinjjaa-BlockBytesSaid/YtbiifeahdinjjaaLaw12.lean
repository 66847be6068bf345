/- Find; the contract that the laws of layer 12 want of the program. -/
import Derived.Test.YtbiifeahdinjjaaBkK
import Derived.Laws.ResultCell
import Derived.Test.YtbiifeahdinjjaaSp12
import Derived.Test.YtbiifeahdinjjaaEc12
import Derived.Test.YtbiifeahdinjjaaDe12
namespace Go.Proofs.Ytbiifeahdinjjaa
open Go.RowKit Go.Proofs Go.Proofs.Pk
set_option maxRecDepth 10000
attribute [local simp] mk_get wrap64_u8 mk_extract ByteArray.mk_append_mk get_1k

theorem find_stepP {T : List MEnt} {k : Txt} {s : Int} {j : Nat} (hj : j < T.length) : findM (T.drop j) k s = if T[j].1 = k ∧ T[j].2.1 ≤ s then some T[j] else findM (T.drop (j + 1)) k s := by
  rw [List.drop_eq_getElem_cons hj]
  unfold findM
  rw [List.find?_cons]
  by_cases h : T[j].1 = k ∧ T[j].2.1 ≤ s
  · rw [if_pos h, show (T[j].1 == k && decide (T[j].2.1 ≤ s)) = true from by simp [h.1, h.2]]
  · rw [if_neg h]
    have hb : (T[j].1 == k && decide (T[j].2.1 ≤ s)) = false := by
      rw [Bool.eq_false_iff]
      intro hb
      simp only [Bool.and_eq_true, beq_iff_eq, decide_eq_true_eq] at hb
      exact h hb
    rw [hb]
/-- The result's row, and all else as it was. -/
def FiI (w : World) (ob : Nat) (wr : World) : Prop := Kept (fun _ => False) w wr ∧ Holds wr ob (entC zeroM) 37 ∧ w.heap.size ≤ ob
theorem FiI.alloc {w wr : World} {ob : Nat} (h : FiI w ob wr) (o : Obj) : FiI w ob (wr.alloc o) := ⟨h.1.alloc o, h.2.1.alloc o, h.2.2⟩

set_option maxHeartbeats 4000000 in
theorem pFind12 (w : World) (ad : Option Addr) (len cap : Nat) (T : List MEnt) (k : Txt) (s : Int) (h : EntsW w ad len T) (hl : (len : Int) ≤ 140737488351232) :
    Calls Try.prog 18 #[.slice ad len cap, .string ⟨k.toArray⟩, .int .i64 s] w fun r w' => r = .returned (.tuple #[.agg (entC (getM T k s).1).toArray, .bool (getM T k s).2]) ∧ Kept (fun _ => False) w w' := by
  have H := Lib.hid h
  have hlen := h.1
  clear h
  obtain ⟨ob, hob⟩ : ∃ ob, ob = w.heap.size := ⟨_, rfl⟩
  have HI : Hid (findM T k s = findM (T.drop 0) k s) := rfl
  go_enter Try.func18, Try.ntmps18
  go_wp2
  have HW : Hid (FiI w ob (w.alloc (.cells #[.string ⟨#[]⟩, .int .i64 0, .bool false, .string ⟨#[]⟩] 37))) := by
    rw [hob]
    exact ⟨(Kept.refl _ w).alloc _, Holds.new w (entC zeroM) _, Nat.le_refl _⟩
  obtain ⟨wq, hwq⟩ : ∃ wq, wq = w.alloc (.cells #[.string ⟨#[]⟩, .int .i64 0, .bool false, .string ⟨#[]⟩] 37) := ⟨_, rfl⟩
  rw [← hwq] at HW ⊢
  rw [← hob]
  clear hwq hob
  go_loopw [12] (fun i wr => ∃ j : Nat, j ≤ len ∧ i = .int .i64 (j : Int) ∧ Hid (findM T k s = findM (T.drop j) k s) ∧ Hid (FiI w ob wr)) (fun i _ => len - (intOf i).toNat)
  case atStart => exact ⟨0, Nat.zero_le _, rfl, HI, HW⟩
  case round =>
    obtain ⟨j, hj, rfl, hI, hW⟩ := hrel
    clear HI HW
    have j0 : (0 : Int) ≤ (j : Int) := by omega
    have hwj : IntKind.i64.wrap ((j : Int) + 1) = (j : Int) + 1 := IntWalk.i64_in _ (by omega)
    by_cases hlt : j < len
    · have hjT : j < T.length := by omega
      obtain ⟨g, off, rfl, hg, d0, d1, d2, d3⟩ := (ents_keptK H.out hW.out.1).atS j hjT
      have hst := find_stepP (k := k) (s := s) hjT
      obtain ⟨x, hx⟩ : ∃ x, x = T[j] := ⟨_, rfl⟩
      rw [← hx] at hst d0 d1 d2 d3
      have HST := Lib.hid (hI.out.trans hst)
      have jN : (j : Int) < (len : Int) := by omega
      clear hst hx hI hjT
      obtain ⟨xk, xs, xd, xv⟩ := x
      simp only at d0 d1 d2 d3
      have HN := Lib.hid (hW.out.alloc (.cells #[.string ⟨xk.toArray⟩, .int .i64 xs, .bool xd, .string ⟨xv.toArray⟩] 37))
      have hNb := HN.out.2.1
      have o0 := hNb.cell 0 _ rfl
      have o1 := hNb.cell 1 _ rfl
      have o2 := hNb.cell 2 _ rfl
      have o3 := hNb.cell 3 _ rfl
      have f0 := hNb.free 0
      have f1 := hNb.free 1
      have f2 := hNb.free 2
      have f3 := hNb.free 3
      have hol : ¬wr.heap.size = ob := by have := hW.out.2.1.lt; omega
      have hol2 : ¬ob = wr.heap.size := fun e => hol e.symm
      clear hNb hg
      by_cases hk : xk = k
      · subst hk
        by_cases hs : xs ≤ s
        · have HG : Hid (getM T xk s = ((xk, xs, xd, xv), true)) := by
            show getM T xk s = _
            unfold getM; rw [HST.out, if_pos ⟨rfl, hs⟩]
          clear HST hW
          go_wp2
          refine bodyPost_ret (v := .tuple #[.agg (entC (xk, xs, xd, xv)).toArray, .bool true]) ?_ rfl ?_
          · rw [results_cell_tmp rfl]
            unfold entC
            go_simp
          · exact ⟨by rw [HG.out], (((HN.out.1.setNew (p := ⟨ob, 0, none⟩) HN.out.2.2 _).setNew (p := ⟨ob, 1, none⟩) HN.out.2.2 _).setNew (p := ⟨ob, 2, none⟩) HN.out.2.2 _).setNew (p := ⟨ob, 3, none⟩) HN.out.2.2 _⟩
        · have HI2 : Hid (findM T xk s = findM (T.drop (j + 1)) xk s) := by
            show _ = _
            rw [HST.out, if_neg (fun h => hs h.2)]
          clear HST hW
          go_wp2
          go_roundw
          case rel => exact ⟨j + 1, hlt, by first | rfl | go_num, HI2, HN⟩
          case measure => simp [intOf]; omega
      · have HI2 : Hid (findM T k s = findM (T.drop (j + 1)) k s) := by
          show _ = _
          rw [HST.out, if_neg (fun h => hk h.1)]
        have hkb : (xk == k) = false := by simpa using hk
        clear HST hW
        go_wp2
        go_roundw
        case rel => exact ⟨j + 1, hlt, by first | rfl | go_num, HI2, HN⟩
        case measure => simp [intOf]; omega
    · obtain rfl : j = len := by omega
      have HG : Hid (getM T k s = (zeroM, false)) := by
        have h0 : findM (T.drop j) k s = none := by rw [List.drop_of_length_le (by omega)]; rfl
        show getM T k s = _
        unfold getM
        rw [hI.out, h0]
      have jN : ¬(j : Int) < (j : Int) := by omega
      have HN := Lib.hid hW.out
      have o0 := HN.out.2.1.cell 0 _ rfl
      have o1 := HN.out.2.1.cell 1 _ rfl
      have o2 := HN.out.2.1.cell 2 _ rfl
      have o3 := HN.out.2.1.cell 3 _ rfl
      have f0 := HN.out.2.1.free 0
      have f1 := HN.out.2.1.free 1
      have f2 := HN.out.2.1.free 2
      have f3 := HN.out.2.1.free 3
      clear hI hW
      go_wp2
      refine bodyPost_ret (v := .tuple #[.agg (entC zeroM).toArray, .bool false]) ?_ rfl ?_
      · rw [results_cell_tmp rfl]
        unfold entC zeroM
        go_simp
      · exact ⟨by rw [HG.out], (((HN.out.1.setNew (p := ⟨ob, 0, none⟩) HN.out.2.2 _).setNew (p := ⟨ob, 1, none⟩) HN.out.2.2 _).setNew (p := ⟨ob, 2, none⟩) HN.out.2.2 _).setNew (p := ⟨ob, 3, none⟩) HN.out.2.2 _⟩

theorem bkK : BkK where
  sorted := pSorted
  encode := pEncode
  decode := decP
  find := fun w ad len cap T k s h hl _ _ => pFind12 w ad len cap T k s h hl

end Go.Proofs.Ytbiifeahdinjjaa
