/- The reference of layer 10, Find, over a slice among the arguments (layer 12). -/
import Derived.Test.YtbiifeahdinjjaaR2c
namespace Go.Proofs.Ytbiifeahdinjjaa
open Go.RowKit Go.Proofs Go.Proofs.Pk
set_option maxRecDepth 10000
attribute [local simp] mk_get wrap64_u8 mk_extract ByteArray.mk_append_mk get_1k

/-- What Find and Get answer. -/
theorem find_step {T : List MEnt} {k : Txt} {s : Int} {j : Nat} (hj : j < T.length) : findM (T.drop j) k s = if T[j].1 = k ∧ T[j].2.1 ≤ s then some T[j] else findM (T.drop (j + 1)) k s := by
  rw [List.drop_eq_getElem_cons hj]
  unfold findM
  rw [List.find?_cons]
  by_cases h : T[j].1 = k ∧ T[j].2.1 ≤ s
  · rw [if_pos h]; simp [h]
  · rw [if_neg h]
    have : (T[j].1 == k && decide (T[j].2.1 ≤ s)) = false := by
      rw [Bool.eq_false_iff]; simpa using h
    simp only [this]
theorem ents_in {w : World} {ad : Option Addr} {len : Nat} {l : List MEnt} (h : EntsW w ad len l) {j : Nat} (hj : j < l.length) : ∃ b off, ad = some ⟨b, off, none⟩ ∧ b < w.heap.size ∧ ∀ (i : Nat) (hi : i < l.length) (W : World), Kept (fun _ => False) w W → W.rangeAt b (off + i * 4) (entC l[i]) := by
  rcases h.2 with h0 | ⟨b, off, h1, h2, h3⟩
  · rw [h0] at hj; simp at hj
  · exact ⟨b, off, h1, h2, fun i hi W hk k v hv => (hk.cell (p := ⟨b, off + i * 4 + k, none⟩) h2 (fun f => f)).trans ((h3 i hi).row k v hv)⟩

set_option maxHeartbeats 2000000 in
theorem rFind12 (w : World) (ad : Option Addr) (len cap : Nat) (T : List MEnt) (k : Txt) (s : Int) (h : EntsW w ad len T) (hl : (len : Int) ≤ 140737488351232) :
    Calls Try.prog 19 #[.slice ad len cap, .string ⟨k.toArray⟩, .int .i64 s] w fun r w' => r = .returned (.tuple #[.agg (entC (getM T k s).1).toArray, .bool (getM T k s).2]) ∧ Kept (fun _ => False) w w' := by
  have H := Lib.hid h
  have hlen := h.1
  clear h
  obtain ⟨ob, hob⟩ : ∃ ob, ob = w.heap.size := ⟨_, rfl⟩
  have HI : Hid (findM T k s = findM (T.drop 0) k s) := rfl
  go_enter Try.func19, Try.ntmps19
  go_wp2
  have HW : Hid (Kept (fun _ => False) w (w.alloc (.cells #[.string ⟨#[]⟩, .int .i64 0, .bool false, .string ⟨#[]⟩] 37)) ∧ Holds (w.alloc (.cells #[.string ⟨#[]⟩, .int .i64 0, .bool false, .string ⟨#[]⟩] 37)) ob (entC zeroM) 37) := by
    rw [hob]
    exact ⟨(Kept.refl _ w).alloc _, Holds.new w (entC zeroM) _⟩
  obtain ⟨wq, hwq⟩ : ∃ wq, wq = w.alloc (.cells #[.string ⟨#[]⟩, .int .i64 0, .bool false, .string ⟨#[]⟩] 37) := ⟨_, rfl⟩
  rw [← hwq] at HW ⊢
  rw [← hob]
  have hobw : Hid (w.heap.size ≤ ob) := Nat.le_of_eq hob.symm
  clear hwq hob
  go_loopw [8] (fun i wr => ∃ j : Nat, j ≤ len ∧ i = .int .i64 (j : Int) ∧ Hid (findM T k s = findM (T.drop j) k s) ∧ Hid (wr = wq)) (fun i _ => len - (intOf i).toNat)
  case atStart => exact ⟨0, Nat.zero_le _, rfl, HI, rfl⟩
  case round =>
    obtain ⟨j, hj, rfl, hI, hwr⟩ := hrel
    clear HI
    rw [hwr.out]
    have j0 : (0 : Int) ≤ (j : Int) := by omega
    have hwj : IntKind.i64.wrap ((j : Int) + 1) = (j : Int) + 1 := IntWalk.i64_in _ (by omega)
    have o0 := HW.out.2.cell 0 _ rfl
    have o1 := HW.out.2.cell 1 _ rfl
    have o2 := HW.out.2.cell 2 _ rfl
    have o3 := HW.out.2.cell 3 _ rfl
    have fo := HW.out.2.free
    by_cases hlt : j < len
    · have hjT : j < T.length := by omega
      obtain ⟨g, off, rfl, hg, hat⟩ := ents_in H.out hjT
      have hr := hat j hjT wq HW.out.1
      have hst := find_step (k := k) (s := s) hjT
      obtain ⟨x, hx⟩ : ∃ x, x = T[j] := ⟨_, rfl⟩
      rw [← hx] at hr hst
      have d0 : wq.cell? ⟨g, off + j * 4, none⟩ = some (.string ⟨x.1.toArray⟩) := hr 0 _ rfl
      have d1 : wq.cell? ⟨g, off + j * 4 + 1, none⟩ = some (.int .i64 x.2.1) := hr 1 _ rfl
      have d2 : wq.cell? ⟨g, off + j * 4 + 2, none⟩ = some (.bool x.2.2.1) := hr 2 _ rfl
      have d3 : wq.cell? ⟨g, off + j * 4 + 3, none⟩ = some (.string ⟨x.2.2.2.toArray⟩) := hr 3 _ rfl
      have HST := Lib.hid (hI.out.trans hst)
      have jN : (j : Int) < (len : Int) := by omega
      have hgo : g ≠ ob := by
        have := hobw.out
        omega
      clear hst hx hI hwr hjT hr hat
      by_cases hk : x.1 = k
      · by_cases hs : x.2.1 ≤ s
        · have HG : Hid (getM T k s = (x, true)) := by
            show getM T k s = _
            unfold getM; rw [HST.out, if_pos ⟨hk, hs⟩]
          rw [hk] at d0
          clear HST
          go_wp2
          refine bodyPost_ret (v := .tuple #[.agg (entC x).toArray, .bool true]) ?_ rfl ?_
          · rw [results_cell_tmp rfl]
            unfold entC
            rw [hk]
            go_simp
          · exact ⟨by rw [HG.out], (((HW.out.1.setNew (p := ⟨ob, 0, none⟩) hobw.out _).setNew (p := ⟨ob, 1, none⟩) hobw.out _).setNew (p := ⟨ob, 2, none⟩) hobw.out _).setNew (p := ⟨ob, 3, none⟩) hobw.out _⟩
        · have HI2 : Hid (findM T k s = findM (T.drop (j + 1)) k s) := by
            show _ = _
            rw [HST.out, if_neg (fun h => hs h.2)]
          rw [hk] at d0
          clear HST
          go_wp2
          go_roundw
          case rel => exact ⟨j + 1, hlt, by first | rfl | go_num, HI2, by first | exact rfl | exact trivial⟩
          case measure => simp [intOf]; omega
      · have HI2 : Hid (findM T k s = findM (T.drop (j + 1)) k s) := by
          show _ = _
          rw [HST.out, if_neg (fun h => hk h.1)]
        have hkb : (x.1 == k) = false := by simpa using hk
        clear HST
        go_wp2
        go_roundw
        case rel => exact ⟨j + 1, hlt, by first | rfl | go_num, HI2, by first | exact rfl | exact trivial⟩
        case measure => simp [intOf]; omega
    · obtain rfl : j = len := by omega
      have HG : Hid (getM T k s = (zeroM, false)) := by
        have h0 : findM (T.drop j) k s = none := by rw [List.drop_of_length_le (by omega)]; rfl
        show getM T k s = _
        unfold getM
        rw [hI.out, h0]
      have jN : ¬(j : Int) < (j : Int) := by omega
      clear hI hwr
      go_wp2
      refine bodyPost_ret (v := .tuple #[.agg (entC zeroM).toArray, .bool false]) ?_ rfl ?_
      · rw [results_cell_tmp rfl]
        unfold entC zeroM
        go_simp
      · exact ⟨by rw [HG.out], (((HW.out.1.setNew (p := ⟨ob, 0, none⟩) hobw.out _).setNew (p := ⟨ob, 1, none⟩) hobw.out _).setNew (p := ⟨ob, 2, none⟩) hobw.out _).setNew (p := ⟨ob, 3, none⟩) hobw.out _⟩


end Go.Proofs.Ytbiifeahdinjjaa
