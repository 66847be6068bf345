/- The reference of layer 10: Find, Size. -/
import Derived.Test.YtlmlldcpllagbaaRMb
import Derived.Laws.ResultCell
import Derived.Deep.Cut
namespace Go.Proofs.Ytlmlldcpllagbaa
open Go.RowKit Go.Proofs Go.Proofs.Pk
set_option maxRecDepth 10000
attribute [local simp] mk_get wrap64_u8 mk_extract ByteArray.mk_append_mk get_1k

/-- What Find and Get answer. -/
def getM (T : List MEnt) (k : Txt) (s : Int) : MEnt × Bool := match findM T k s with | some x => (x, true) | none => (zeroM, false)
theorem find_step {T : List MEnt} {k : Txt} {s : Int} {j : Nat} (hj : j < T.length) : findM (T.drop j) k s = if T[j].1 = k ∧ T[j].2.1 ≤ s then some T[j] else findM (T.drop (j + 1)) k s := by
  rw [List.drop_eq_getElem_cons hj]
  unfold findM
  rw [List.find?_cons]
  by_cases h : T[j].1 = k ∧ T[j].2.1 ≤ s
  · rw [if_pos h]; simp [h]
  · rw [if_neg h]
    have : (T[j].1 == k && decide (T[j].2.1 ≤ s)) = false := by
      rw [Bool.eq_false_iff]; simpa using h
    simp only [this]
/-- A list of entries that a slice reads as. -/
def RowsM (w : World) (ad : Option Addr) (len : Nat) (T : List MEnt) : Prop :=
  T.length = len ∧ (T = [] ∨ ∃ g, ad = some ⟨g, 0, none⟩ ∧ g < w.heap.size ∧ ∀ i (hi : i < T.length), w.rangeAt g (i * 4) (entC T[i]))
theorem RmAt.rows {w : World} {B q : Nat} {vL : Value} {T : List MEnt} (h : RmAt w B q vL T) : ∃ ad cap, vL = .slice ad T.length cap ∧ RowsM w ad T.length T := by
  obtain ⟨ad, cap, rfl, ⟨rfl, _, h0⟩ | ⟨g, rfl, _, hg, _, hr⟩⟩ := h.form
  · exact ⟨_, _, rfl, rfl, .inl h0⟩
  · exact ⟨_, _, rfl, rfl, .inr ⟨g, rfl, hg, hr⟩⟩
theorem RowsM.kept {w w' : World} {ad : Option Addr} {len : Nat} {T : List MEnt} (h : RowsM w ad len T) (hk : Kept (fun _ => False) w w') : RowsM w' ad len T :=
  ⟨h.1, h.2.elim .inl fun ⟨g, h1, h2, h3⟩ => .inr ⟨g, h1, Nat.lt_of_lt_of_le h2 hk.size, fun i hi => range_kept (h3 i hi) hk h2⟩⟩
theorem RowsM.at {w : World} {ad : Option Addr} {len : Nat} {T : List MEnt} (h : RowsM w ad len T) (i : Nat) (hi : i < T.length) : ∃ g, ad = some ⟨g, 0, none⟩ ∧ g < w.heap.size ∧ w.cell? ⟨g, i * 4, none⟩ = some (.string ⟨(T[i]).1.toArray⟩) ∧ w.cell? ⟨g, i * 4 + 1, none⟩ = some (.int .i64 (T[i]).2.1) ∧ w.cell? ⟨g, i * 4 + 2, none⟩ = some (.bool (T[i]).2.2.1) ∧ w.cell? ⟨g, i * 4 + 3, none⟩ = some (.string ⟨(T[i]).2.2.2.toArray⟩) := by
  rcases h.2 with h0 | ⟨g, h1, h2, h3⟩
  · rw [h0] at hi; simp at hi
  · have hr := h3 i hi
    exact ⟨g, h1, h2, hr 0 _ rfl, hr 1 _ rfl, hr 2 _ rfl, hr 3 _ rfl⟩

set_option maxHeartbeats 2000000 in
theorem rmFind (w : World) (ad : Option Addr) (len cap : Nat) (T : List MEnt) (k : Txt) (s : Int) (h : RowsM w ad len T) (hl : T.length ≤ 1000) :
    Calls Try.prog 17 #[.slice ad len cap, .string ⟨k.toArray⟩, .int .i64 s] w fun r w' => r = .returned (.tuple #[.agg (entC (getM T k s).1).toArray, .bool (getM T k s).2]) ∧ Kept (fun _ => False) w w' := by
  have H := Lib.hid h
  have hlen := h.1
  have hl2 : len ≤ 1000 := by omega
  clear h hl
  obtain ⟨ob, hob⟩ : ∃ ob, ob = w.heap.size := ⟨_, rfl⟩
  have HI : Hid (findM T k s = findM (T.drop 0) k s) := rfl
  go_enter Try.func17, Try.ntmps17
  go_wp2
  have HW : Hid (Kept (fun _ => False) w (w.alloc (.cells #[.string ⟨#[]⟩, .int .i64 0, .bool false, .string ⟨#[]⟩] 34)) ∧ Holds (w.alloc (.cells #[.string ⟨#[]⟩, .int .i64 0, .bool false, .string ⟨#[]⟩] 34)) ob (entC zeroM) 34) := by
    rw [hob]
    exact ⟨(Kept.refl _ w).alloc _, Holds.new w (entC zeroM) _⟩
  obtain ⟨wq, hwq⟩ : ∃ wq, wq = w.alloc (.cells #[.string ⟨#[]⟩, .int .i64 0, .bool false, .string ⟨#[]⟩] 34) := ⟨_, rfl⟩
  rw [← hwq] at HW ⊢
  rw [← hob]
  have hobw : Hid (w.heap.size ≤ ob) := Nat.le_of_eq hob.symm
  clear hwq hob
  go_loopw [8] (fun i wr => ∃ j : Nat, j ≤ len ∧ i = .int .i64 (j : Int) ∧ Hid (findM T k s = findM (T.drop j) k s) ∧ Hid (wr = wq)) (fun i _ => len - (intOf i).toNat)
  case atStart => exact ⟨0, Nat.zero_le _, rfl, HI, rfl⟩
  case round =>
    obtain ⟨j, hj, rfl, hI, hwr⟩ := hrel
    clear HI
    rw [hwr.out]
    have j0 : (0 : Int) ≤ (j : Int) := by omega
    have hwj : IntKind.i64.wrap ((j : Int) + 1) = (j : Int) + 1 := IntWalk.i64_in _ (by omega)
    have o0 := HW.out.2.cell 0 _ rfl
    have o1 := HW.out.2.cell 1 _ rfl
    have o2 := HW.out.2.cell 2 _ rfl
    have o3 := HW.out.2.cell 3 _ rfl
    have fo := HW.out.2.free
    by_cases hlt : j < len
    · have hjT : j < T.length := by omega
      obtain ⟨g, rfl, hg, d0, d1, d2, d3⟩ := (H.out.kept HW.out.1).at j hjT
      have hst := find_step (k := k) (s := s) hjT
      obtain ⟨x, hx⟩ : ∃ x, x = T[j] := ⟨_, rfl⟩
      rw [← hx] at d0 d1 d2 d3 hst
      have HST := Lib.hid (hI.out.trans hst)
      have jN : (j : Int) < (len : Int) := by omega
      have hgo : g ≠ ob := by
        rintro rfl
        rcases H.out.2 with h0 | ⟨g', h1, h2, _⟩
        · rw [h0] at hjT; simp at hjT
        · cases h1; have := hobw.out; omega
      clear hst hx hI hwr hjT
      by_cases hk : x.1 = k
      · by_cases hs : x.2.1 ≤ s
        · have HG : Hid (getM T k s = (x, true)) := by
            show getM T k s = _
            unfold getM; rw [HST.out, if_pos ⟨hk, hs⟩]
          rw [hk] at d0
          clear HST
          go_wp2
          refine bodyPost_ret (v := .tuple #[.agg (entC x).toArray, .bool true]) ?_ rfl ?_
          · rw [results_cell_tmp rfl]
            unfold entC
            rw [hk]
            go_simp
          · exact ⟨by rw [HG.out], (((HW.out.1.setNew (p := ⟨ob, 0, none⟩) hobw.out _).setNew (p := ⟨ob, 1, none⟩) hobw.out _).setNew (p := ⟨ob, 2, none⟩) hobw.out _).setNew (p := ⟨ob, 3, none⟩) hobw.out _⟩
        · have HI2 : Hid (findM T k s = findM (T.drop (j + 1)) k s) := by
            show _ = _
            rw [HST.out, if_neg (fun h => hs h.2)]
          rw [hk] at d0
          clear HST
          go_wp2
          go_roundw
          case rel => exact ⟨j + 1, hlt, by first | rfl | go_num, HI2, by first | exact rfl | exact trivial⟩
          case measure => simp [intOf]; omega
      · have HI2 : Hid (findM T k s = findM (T.drop (j + 1)) k s) := by
          show _ = _
          rw [HST.out, if_neg (fun h => hk h.1)]
        have hkb : (x.1 == k) = false := by simpa using hk
        clear HST
        go_wp2
        go_roundw
        case rel => exact ⟨j + 1, hlt, by first | rfl | go_num, HI2, by first | exact rfl | exact trivial⟩
        case measure => simp [intOf]; omega
    · obtain rfl : j = len := by omega
      have HG : Hid (getM T k s = (zeroM, false)) := by
        have h0 : findM (T.drop j) k s = none := by rw [List.drop_of_length_le (by omega)]; rfl
        show getM T k s = _
        unfold getM
        rw [hI.out, h0]
      have jN : ¬(j : Int) < (j : Int) := by omega
      clear hI hwr
      go_wp2
      refine bodyPost_ret (v := .tuple #[.agg (entC zeroM).toArray, .bool false]) ?_ rfl ?_
      · rw [results_cell_tmp rfl]
        unfold entC zeroM
        go_simp
      · exact ⟨by rw [HG.out], (((HW.out.1.setNew (p := ⟨ob, 0, none⟩) hobw.out _).setNew (p := ⟨ob, 1, none⟩) hobw.out _).setNew (p := ⟨ob, 2, none⟩) hobw.out _).setNew (p := ⟨ob, 3, none⟩) hobw.out _⟩

theorem sizeM_take (T : List MEnt) {j : Nat} (hj : j < T.length) : sizeM (T.take (j + 1)) = sizeM (T.take j) + (T[j].1.length + T[j].2.2.2.length + 16) := by
  rw [List.take_succ_eq_append_getElem hj, sizeM_append]
  simp only [sizeM, Nat.add_zero]
theorem size_some {T : List MEnt} (h : ∀ e ∈ T, rightM e = true) : sizeM T ≤ 396 * T.length := by
  induction T with
  | nil => simp [sizeM]
  | cons e T ih =>
    have h1 := h e (by simp)
    have h2 := ih (fun x hx => h x (by simp [hx]))
    unfold rightM at h1
    simp only [decide_eq_true_eq] at h1
    simp only [sizeM, List.length_cons]; omega

set_option maxHeartbeats 2000000 in
theorem rmSize (w : World) (B q : Nat) (vL : Value) (T : List MEnt) (h : RmAt w B q vL T) (hT : ∀ e ∈ T, rightM e = true) (hl : T.length ≤ 1000) :
    Calls Try.prog 21 #[.pointer (some ⟨q, 0, none⟩)] w fun r w' => r = .returned (.int .i64 (sizeM T : Int)) ∧ Kept (fun _ => False) w w' := by
  obtain ⟨ad, cap, rfl, hrow⟩ := h.rows
  have H := Lib.hid (And.intro h hrow)
  have HT := Lib.hid hT
  obtain ⟨N, hN⟩ : ∃ N, Hid (N = T.length) := ⟨_, rfl⟩
  have hN1 : N ≤ 1000 := by rw [hN.out]; exact hl
  clear h hrow hl hT
  have HI : Hid (0 = sizeM (T.take 0)) := rfl
  go_enter Try.func21, Try.ntmps21
  go_wp2
  obtain ⟨wq, hwq⟩ : ∃ wq, wq = w := ⟨_, rfl⟩
  have HK : Hid (Kept (fun _ => False) w wq) := by rw [hwq]; exact Kept.refl _ _
  rw [← hwq]
  clear hwq
  go_loopw [3, 4] (fun n i wr => ∃ j m : Nat, j ≤ N ∧ m ≤ 396 * j ∧ i = .int .i64 (j : Int) ∧ n = .int .i64 (m : Int) ∧ Hid (m = sizeM (T.take j)) ∧ Hid (Kept (fun _ => False) w wr)) (fun _ i _ => N - (intOf i).toNat)
  case atStart => exact ⟨0, 0, Nat.zero_le _, Nat.zero_le _, rfl, rfl, HI, HK⟩
  case round =>
    obtain ⟨j, m, hj, hm, rfl, rfl, hI, hK⟩ := hrel
    clear HI HK
    have j0 : (0 : Int) ≤ (j : Int) := by omega
    have hwj : IntKind.i64.wrap ((j : Int) + 1) = (j : Int) + 1 := IntWalk.i64_in _ (by omega)
    have c0 := (H.out.1.still hK.out).obj.cell 0 _ rfl
    rw [← hN.out] at c0
    by_cases hlt : j < N
    · have hjT : j < T.length := by have := hN.out; omega
      obtain ⟨g, rfl, hg, d0, d1, d2, d3⟩ := (H.out.2.kept hK.out).at j hjT
      have hst := sizeM_take T hjT
      have hx0 := HT.out T[j] (List.getElem_mem hjT)
      obtain ⟨x, hx⟩ : ∃ x, x = T[j] := ⟨_, rfl⟩
      rw [← hx] at d0 d1 d2 d3 hst hx0
      unfold rightM at hx0
      simp only [decide_eq_true_eq] at hx0
      obtain ⟨xl, hxl⟩ : ∃ xl, xl = x.1.length := ⟨_, rfl⟩
      obtain ⟨yl, hyl⟩ : ∃ yl, yl = x.2.2.2.length := ⟨_, rfl⟩
      have b1 : xl ≤ 80 := by rw [hxl]; exact hx0.2.1
      have b2 : yl ≤ 300 := by rw [hyl]; exact hx0.2.2.1
      rw [← hxl, ← hyl] at hst
      have HI2 : Hid (m + xl + yl + 16 = sizeM (T.take (j + 1))) := by show _ = _; rw [hst, ← hI.out]; omega
      have jN : (j : Int) < (N : Int) := by omega
      have w1 : IntKind.i64.wrap ((m : Int) + (xl : Int)) = ((m + xl : Nat) : Int) := by rw [IntWalk.i64_in _ (by omega)]; omega
      have w2 : IntKind.i64.wrap (((m + xl : Nat) : Int) + (yl : Int)) = ((m + xl + yl : Nat) : Int) := by rw [IntWalk.i64_in _ (by omega)]; omega
      have w3 : IntKind.i64.wrap (((m + xl + yl : Nat) : Int) + 16) = ((m + xl + yl + 16 : Nat) : Int) := by rw [IntWalk.i64_in _ (by omega)]; omega
      have hbm : m + xl + yl + 16 ≤ 396 * (j + 1) := by omega
      have e1 : (x.1.length : Int) = (xl : Int) := by rw [hxl]
      have e2 : (x.2.2.2.length : Int) = (yl : Int) := by rw [hyl]
      clear hst hx0 hx hI hjT hxl hyl
      go_wp2
      go_quiet (fail)
      go_wp2
      go_roundw
      case rel => exact ⟨j + 1, m + xl + yl + 16, hlt, hbm, by go_num, by go_num, HI2, hK.out.drewN _⟩
      case measure => simp [intOf]; omega
    · obtain rfl : j = N := by omega
      have HM : Hid (m = sizeM T) := by
        show _ = _
        rw [hI.out, List.take_of_length_le (Nat.le_of_eq hN.out.symm)]
      have jN : ¬(j : Int) < (j : Int) := by omega
      clear hI
      go_wp2
      go_ret
      exact ⟨by rw [HM.out]; rfl, hK.out⟩

end Go.Proofs.Ytlmlldcpllagbaa
