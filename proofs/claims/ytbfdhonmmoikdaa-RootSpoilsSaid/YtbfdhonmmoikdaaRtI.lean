/- Package root: read. -/
import Derived.Test.YtbfdhonmmoikdaaRtN
import Derived.Test.YtbfdhonmmoikdaaReadP
import Derived.Test.YtbfdhonmmoikdaaMid
namespace Go.Proofs.Ytbfdhonmmoikdaa
open Go.RowKit Go.Proofs Go.Proofs.Pk
set_option maxRecDepth 10000
attribute [local simp] mk_get wrap64_u8 mk_extract ByteArray.mk_append_mk get_1k

theorem ints_set (P : List Nat) (C : List Value) (k n : Nat) (hP : P.length = k) (hk : k < C.length) : (intsN P ++ C.drop k).set k (.int .i64 (n : Int)) = intsN (P ++ [n]) ++ C.drop (k + 1) := by
  have hl : (intsN P).length = k := by simp [intsN, hP]
  rw [List.set_append_right _ _ (by omega), hl, Nat.sub_self, List.drop_eq_getElem_cons hk, List.set_cons_zero]
  simp [intsN]

set_option maxHeartbeats 1000000 in
theorem pReadL (b : List UInt8) (K g cap : Nat) (C : List Value) (et : TypeId) (w : World) (h : Holds w g C et) (hC : C.length = K) (hb : b.length ≤ 4096) (hK : K ≤ 4) :
    Calls Try.prog 26 #[.string ⟨b.toArray⟩, .slice (some ⟨g, 0, none⟩) K cap] w fun e w' => e = .returned (.tuple #[.string ⟨(rdNums K b).2.1.toArray⟩, errV 54 (rdNums K b).2.2]) ∧ Kept (fun k => k = g) w w' ∧ ((rdNums K b).2.2 = 0 → Holds w' g (intsN (rdNums K b).1) et) := by
  obtain ⟨R, hR⟩ : ∃ R, Hid (R = rdNums K b) := ⟨_, rfl⟩
  rw [← hR.out]
  have H0 : Hid (R = addN [] (rdNums (K - 0) b)) := by show _ = _; rw [hR.out, Nat.sub_zero]; exact addN_nil K b
  have HW0 : Hid (Holds w g (intsN [] ++ C.drop 0) et) := h
  have HC := Lib.hid hC
  have hKi : (K : Int) ≤ 4 := by omega
  clear hR h hC
  go_enter Try.func26, Try.ntmps26
  go_wp2
  obtain ⟨wq, hwq⟩ : ∃ wq, wq = w := ⟨_, rfl⟩
  have HS : Hid (Kept (fun k => k = g) w wq) := by rw [hwq]; exact Kept.refl _ _
  rw [← hwq] at HW0 ⊢
  clear hwq
  go_loopw [0, 9] (fun s i wr => ∃ (j : Nat) (c : List UInt8) (P : List Nat), j ≤ K ∧ s = .string ⟨c.toArray⟩ ∧ i = .int .i64 j ∧ c.length ≤ 4096 ∧ P.length = j ∧ Hid (R = addN P (rdNums (K - j) c)) ∧ Hid (Holds wr g (intsN P ++ C.drop j) et) ∧ Hid (Kept (fun k => k = g) w wr)) (fun _ i _ => K - (intOf i).toNat)
  case atStart => exact ⟨0, b, [], Nat.zero_le _, rfl, rfl, hb, rfl, H0, HW0, HS⟩
  case round =>
    obtain ⟨j, c, P, hj, rfl, rfl, hc, hP, hr, hh, hkp⟩ := hrel
    by_cases hlt : (j : Int) < K
    · have hjK : j < K := by omega
      have hwj : IntKind.i64.wrap ((j : Int) + 1) = ((j + 1 : Nat) : Int) := by rw [IntWalk.i64_in _ (by omega)]; omega
      have HCC := Lib.hid (pRead c wr (by unfold maxLen; omega))
      have hr2 := hr.out
      rw [show K - j = (K - (j + 1)) + 1 from by omega] at hr2
      have hrest := rdNum_rest c
      have hj0 : (0 : Int) ≤ (j : Int) := Int.natCast_nonneg _
      have hjC : j < C.length := by have := HC.out; omega
      obtain ⟨n, hn⟩ : ∃ n, n = (rdNum c).1 := ⟨_, rfl⟩
      have HSET : Hid ((intsN P ++ C.drop j).set j (.int .i64 (n : Int)) = intsN (P ++ [n]) ++ C.drop (j + 1)) := ints_set P C j n hP hjC
      obtain ⟨zz, hzz⟩ : ∃ zz, C[j]'hjC = zz := ⟨_, rfl⟩
      have HZ : Hid ((intsN P ++ C.drop j)[j]? = some zz) := by
        show _ = _
        have hl : (intsN P).length = j := by simp [intsN, hP]
        rw [List.getElem?_append_right (by omega), hl, Nat.sub_self, List.drop_eq_getElem_cons hjC, hzz]; rfl
      by_cases hz : (rdNum c).2.2 = 0
      · rw [addN_step P _ c hz, ← hn] at hr2
        have HR := Lib.hid hr2
        rw [hz, ← hn] at HCC
        generalize (rdNum c).2.1 = r at *
        clear hr hr2 hz hn hjC hzz
        go_wp2_with fail
        refine HCC.out.mono ?_
        rintro e w2 ⟨rfl, hb2⟩
        have h2 : Holds w2 g _ _ := hh.out.of_block (hb2.block g hh.out.lt)
        have k2 := hkp.out.trans (Kept.of_below (fun _ => False) hb2) (fun _ hf => hf.elim)
        have c0 := h2.cell j zz HZ.out
        have f0 := h2.free j
        have H3 : Hid (Holds (w2.setCell ⟨g, j, none⟩ (.int .i64 (n : Int))) g (intsN (P ++ [n]) ++ C.drop (j + 1)) et) := by
          show Holds _ _ _ _
          rw [← HSET.out]; exact h2.set j _
        have K3 : Hid (Kept (fun k => k = g) w (w2.setCell ⟨g, j, none⟩ (.int .i64 (n : Int)))) := k2.setCell rfl _
        have hr4096 : r.length ≤ 4096 := by omega
        simp only [errV, if_pos]
        clear HCC hb2 h2 k2 hh hkp HSET HZ
        go_wp2
        go_roundw
        case rel => exact ⟨j + 1, r, P ++ [n], by omega, rfl, by go_num, hr4096, by simp; omega, HR, H3, K3⟩
        case measure => simp [intOf]; omega
      · rw [addN_err P _ c hz] at hr2
        have HR := Lib.hid hr2
        rw [← hn] at HCC
        have hzne : (rdNum c).2.2 ≠ 0 := hz
        generalize (rdNum c).2.2 = z at *
        generalize (rdNum c).2.1 = r at *
        clear hr hr2 hn hjC hzz
        go_wp2_with fail
        refine HCC.out.mono ?_
        rintro e w2 ⟨rfl, hb2⟩
        have h2 : Holds w2 g _ _ := hh.out.of_block (hb2.block g hh.out.lt)
        have k2 := hkp.out.trans (Kept.of_below (fun _ => False) hb2) (fun _ hf => hf.elim)
        have c0 := h2.cell j zz HZ.out
        have f0 := h2.free j
        have K3 : Hid (Kept (fun k => k = g) w (w2.setCell ⟨g, j, none⟩ (.int .i64 (n : Int)))) := k2.setCell rfl _
        have HZN : Hid (¬z = 0) := hzne
        rw [errV, if_neg hzne]
        clear HCC hb2 h2 k2 hh hkp HSET HZ hz hzne
        go_wp2
        go_ret2
        rw [HR.out]
        refine ⟨?_, K3.out, fun h => absurd h HZN.out⟩
        rw [errV, if_neg HZN.out]; rfl
    · have hjK : j = K := by omega
      subst hjK
      have HR : Hid (R = (P, c, 0)) := by
        show _ = _
        rw [hr.out, Nat.sub_self]; simp [rdNums, addN]
      have H3 : Hid (Holds wr g (intsN P) et) := by
        have := hh.out
        rw [List.drop_eq_nil_of_le (by have := HC.out; omega), List.append_nil] at this
        exact this
      clear hr hh
      go_wp2
      go_ret2
      rw [HR.out]
      exact ⟨rfl, hkp.out, fun _ => H3.out⟩

end Go.Proofs.Ytbfdhonmmoikdaa
