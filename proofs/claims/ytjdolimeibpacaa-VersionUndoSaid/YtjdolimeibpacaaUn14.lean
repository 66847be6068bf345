/- The law VersionUndo. -/
import Derived.Test.YtjdolimeibpacaaBx14
import Derived.Test.YtjdolimeibpacaaOw14
namespace Go.Proofs.Ytjdolimeibpacaa
open Go.RowKit Go.Proofs Go.Proofs.Pk
set_option maxRecDepth 10000
attribute [local simp] mk_get wrap64_u8 mk_extract ByteArray.mk_append_mk get_1k

set_option maxHeartbeats 2000000 in
theorem undo14 {N : Int} (K : VnK N) (ad : Option Addr) (len cap : Nat) (ad2 : Option Addr) (len2 cap2 : Nat) (v : VerV) (aa : Option Addr) (la ca : Nat) (add : List MetaV) (aj : Option Addr) (lj cj : Nat) (logs : List Int) (w : World)
    (h0 : VerW w ad len cap ad2 len2 cap2 v) (h1 : MetasW w aa la add) (h2 : BndM aa la ca) (h3 : Ints w aj lj logs) (h4 : BndI aj lj cj logs) :
    Calls Try.prog 5 #[verC ad len cap ad2 len2 cap2 v.2.2, .slice aa la ca, .slice aj lj cj] w fun e w' => e = .returned (.bool true) ∧ Kept (fun _ => False) w w' := by
  have F0 : FitV 0 := by unfold FitV; omega
  have hlen := h0.1.1
  have hla := h1.1
  have b1 : (len : Int) * 56 ≤ 140737488351232 := h0.2.1.2.2.1
  have b2 : (la : Int) * 56 ≤ 140737488351232 := h2.2.2.1
  have HB := Lib.hid (VBox.new (Kept.refl _ w) h0)
  have HM := Lib.hid (And.intro h1 (And.intro h2 (And.intro h3 h4)))
  obtain ⟨s, hs⟩ : ∃ s, s = v.2.2 := ⟨_, rfl⟩
  have HS := Lib.hid hs
  obtain ⟨r1, hr1⟩ : ∃ r1, Hid (r1 = applyV v (add, [], logs, [], 0)) := ⟨_, rfl⟩
  clear h0 h1 h2 h3 h4
  unfold verC
  rw [← hs] at HB ⊢
  clear hs
  go_enter Try.func5, Try.ntmps5
  go_upto_region 1 with fail
  obtain ⟨g, hg⟩ : ∃ g, g = w.heap.size := ⟨_, rfl⟩
  rw [← hg] at HB ⊢
  generalize w.alloc (.cells #[.slice ad len cap, .slice ad2 len2 cap2, .int .i64 s] 25) = wa at HB ⊢
  clear hg
  have HX := Lib.hid (examples14 K wa)
  go_wp2_with fail
  refine HX.out.mono ?_
  rintro e w1 ⟨rfl, hk⟩
  have HB1 := Lib.hid (HB.out.quiet hk)
  clear hk HX HB
  obtain ⟨d0, d1, d2⟩ := HB1.out.cells
  have HA := K.apply w1 ad len cap ad2 len2 cap2 v aa la ca none 0 0 aj lj cj none 0 0 (add, [], logs, [], 0) HB1.out.ver
    ⟨metas_kept HM.out.1 HB1.out.kept, HM.out.2.1, (ints_none _).1, (ints_none w1).2, ints_keptV HM.out.2.2.1 HB1.out.kept, HM.out.2.2.2, (ints_none _).1, (ints_none w1).2, F0⟩
  rw [← hr1.out] at HA
  unfold verC edC at HA
  rw [← HS.out] at d2 HA
  have HA := Lib.hid HA
  go_wp2_with fail
  refine HA.out.mono ?_
  rintro e w2 ⟨ae, ln, cp, ae2, ln2, cp2, rfl, hv, hk⟩
  obtain ⟨wv, c⟩ := r1
  simp only at hv ⊢
  have HB2 := Lib.hid (And.intro (HB1.out.quiet hk) hv)
  clear hk HA HB1 hv d0 d1 d2
  obtain ⟨s2, hs2⟩ : ∃ s2, s2 = wv.2.2 := ⟨_, rfl⟩
  have HS2 := Lib.hid hs2
  unfold verC
  rw [← hs2]
  clear hs2
  go_upto_region 3 with fail
  change Code.wp _ _ _ _ (w2.alloc (.cells #[.slice ae ln cp, .slice ae2 ln2 cp2, .int .i64 s2] 25))
  have HN := VBox.new (HB2.out.1.kept) HB2.out.2
  rw [← HS2.out] at HN
  have HB3 := Lib.hid (And.intro (HB2.out.1.quiet ((Kept.refl _ w2).alloc (.cells #[.slice ae ln cp, .slice ae2 ln2 cp2, .int .i64 s2] 25))) HN)
  obtain ⟨g2, hg2⟩ : ∃ g2, g2 = w2.heap.size := ⟨_, rfl⟩
  rw [← hg2] at HB3 ⊢
  clear HN hg2 HB2
  generalize w2.alloc (.cells #[.slice ae ln cp, .slice ae2 ln2 cp2, .int .i64 s2] 25) = w3 at HB3 ⊢
  have hcode := apply_code v (add, [], logs, [], 0)
  have hc8 := add_code v add logs
  rw [← hr1.out] at hcode hc8
  simp only at hcode hc8
  rcases hcode with rfl | rfl | rfl | rfl
  · -- it is made
    rw [show errV 54 0 = .nilIface from rfl]
    have hu := undo_ok hr1.out.symm
    have hun := hu.2
    have HU := Lib.hid hu
    have HI : Hid (Kept (fun _ => False) w3 w3 ∧ w3.ownsRow w3.heap.size 3 1 (.slice none 0 0) 0 (([] : List Int).map intC)) := ⟨Kept.refl _ _, World.ownsRow_nil _ _ _ _⟩
    obtain ⟨wq, hwq⟩ : ∃ wq, wq = w3 := ⟨_, rfl⟩
    have HI0 : Hid (Kept (fun _ => False) w3 wq ∧ wq.ownsRow w3.heap.size 3 1 (.slice none 0 0) 0 (([] : List Int).map intC)) := by rw [hwq]; exact HI.out
    clear HI hu hc8
    obtain ⟨i0, hi, hz0, hz1, hz2⟩ := parts_of int_info
    go_wp2
    rw [← hwq]
    clear hwq
    go_loopw [10, 11] (fun dv i wr => ∃ j : Nat, j ≤ la ∧ i = .int .i64 (j : Int) ∧ Hid (Kept (fun _ => False) w3 wr ∧ wr.ownsRow w3.heap.size 3 1 dv j (((add.map (·.1)).take j).map intC))) (fun _ i _ => la - (intOf i).toNat)
    case atStart => exact ⟨0, Nat.zero_le _, rfl, HI0⟩
    case round =>
      obtain ⟨j, hj, rfl, hI⟩ := hrel
      clear HI0
      have j0 : (0 : Int) ≤ (j : Int) := by omega
      have hwj : IntKind.i64.wrap ((j : Int) + 1) = (j : Int) + 1 := IntWalk.i64_in _ (by omega)
      by_cases hlt : j < la
      · have jN : (j : Int) < (la : Int) := by omega
        have hjT : j < add.length := by omega
        obtain ⟨b, off, rfl, hb, d0, _⟩ := (metas_kept HM.out.1 (HB3.out.1.kept.trans hI.out.1 (fun _ f => f.elim))).at j hjT
        obtain ⟨n, hn⟩ : ∃ n : Int, Hid (n = add[j].1) := ⟨add[j].1, rfl⟩
        rw [← hn.out] at d0
        have HIa := Lib.hid hI.out
        have hT : ((add.map (·.1)).take (j + 1)).map intC = ((add.map (·.1)).take j).map intC ++ [intC n] := by
          rw [List.take_succ_eq_append_getElem (by simpa using hjT), List.map_append, hn.out]; simp
        clear hI
        have hNb := Lib.hid (Holds.new wr [.int .i64 n] 3)
        go_wp2_with (at_builtin; refine wpList_append_own _ rfl (.tmp 41) (.tmp 47) 23 rfl w3.heap.size 3 i0 (.int .i64 0) 1 8 Try.underlying23 hi hz0 hz1 hz2 rfl (by decide) _ j _ rfl (HIa.out.2.alloc _) ⟨wr.heap.size, 0, none⟩ 1 1 [intC n] rfl rfl ?d1 ?d2 ?d3 ?d4 ?d5 ?_)
        case d1 =>
          intro q u hq
          exact hq
        case d2 => rfl
        case d3 => unfold maxLen; omega
        case d4 => omega
        case d5 => have := HIa.out.1.size; simp; omega
        intro v2 wB hown hgr _
        have HN : Hid (Kept (fun _ => False) w3 wB ∧ wB.ownsRow w3.heap.size 3 1 v2 (j + 1) (((add.map (·.1)).take (j + 1)).map intC)) :=
          ⟨kept_grown (HIa.out.1.alloc _) hgr (fun b hb => .inr (HIa.out.2.lt b hb).1), by rw [hT, List.map_take, List.map_map]; exact hown⟩
        clear hown hgr HIa hT hNb d0
        go_wp2
        go_roundw
        case rel => exact ⟨j + 1, hlt, by first | rfl | go_num, HN⟩
        case measure => simp [intOf]; omega
      · obtain rfl : j = la := by omega
        have jN : ¬(j : Int) < (j : Int) := by omega
        have hidl : (add.map (·.1)).length = j := by rw [List.length_map]; exact hla
        have hI2 := hI.out.2
        rw [List.take_of_length_le (by omega)] at hI2
        obtain ⟨dd, dc, rfl, hdi, hdc, hdn⟩ := owns_ints hI2 hidl
        have HB4 := Lib.hid (And.intro (HB3.out.1.quiet hI.out.1) (HB3.out.2.quiet hI.out.1))
        have hfit : Fit64 (add.map (·.1)) := fun n hn => by
          obtain ⟨m, hm, rfl⟩ := List.mem_map.1 hn
          obtain ⟨i, hi, rfl⟩ := List.getElem_of_mem hm
          obtain ⟨_, _, _, _, _, _, _, _, _, ff⟩ := HM.out.1.at i hi
          exact ff.1
        have HA := K.apply wr ae ln cp ae2 ln2 cp2 wv none 0 0 dd j dc none 0 0 aj lj cj ([], add.map (·.1), [], logs, 0) HB4.out.2.ver
          ⟨(metas_none _).1, (metas_none wr).2, hdi, ⟨hfit, hdc, by omega, hdn⟩, (ints_none _).1, (ints_none wr).2, ints_keptV HM.out.2.2.1 HB4.out.1.kept, HM.out.2.2.2, F0⟩
        rw [HU.out.1] at HA
        unfold verC edC at HA
        simp only at HA
        rw [← HS2.out] at HA
        have HA := Lib.hid HA
        obtain ⟨f0, f1, f2⟩ := HB4.out.2.cells
        rw [← HS2.out] at f2
        clear hI hI2 hfit hdi hdn
        go_wp2_with fail
        refine HA.out.mono ?_
        rintro e w5 ⟨af, lf, cf, af2, lf2, cf2, rfl, hv, hk⟩
        have HB5 := Lib.hid (And.intro (HB4.out.1.quiet hk) (And.intro (HB4.out.2.quiet hk) hv))
        clear hk HA HB4 HB3 hv f0 f1 f2
        unfold verC
        simp only
        rw [show errV 54 0 = .nilIface from rfl, ← HS.out]
        go_upto_region 11 with fail
        change Code.wp _ _ _ _ (w5.alloc (.cells #[.slice af lf cf, .slice af2 lf2 cf2, .int .i64 s] 25))
        have HN := VBox.new (HB5.out.1.kept) HB5.out.2.2
        rw [← HS.out] at HN
        have hka : Kept (fun _ => False) w5 (w5.alloc (.cells #[.slice af lf cf, .slice af2 lf2 cf2, .int .i64 s] 25)) := (Kept.refl _ w5).alloc _
        have HB6 := Lib.hid (And.intro (HB5.out.1.quiet hka) (And.intro (HB5.out.2.1.quiet hka) HN))
        obtain ⟨g3, hg3⟩ : ∃ g3, g3 = w5.heap.size := ⟨_, rfl⟩
        rw [← hg3] at HB6 ⊢
        clear HN hka hg3 HB5
        generalize w5.alloc (.cells #[.slice af lf cf, .slice af2 lf2 cf2, .int .i64 s] 25) = w6 at HB6 ⊢
        obtain ⟨d0, d1, d2⟩ := HB6.out.1.cells
        obtain ⟨f0, f1, f2⟩ := HB6.out.2.2.cells
        have HE := Lib.hid (sameV w6 ad len cap ad2 len2 cap2 af lf cf af2 lf2 cf2 v HB6.out.1.ver HB6.out.2.2.ver)
        unfold verC at HE
        rw [← HS.out] at d2 f2 HE
        go_wp2_with fail
        refine HE.out.mono ?_
        rintro e w7 ⟨rfl, hk⟩
        have HB7 := Lib.hid (And.intro (HB6.out.1.quiet hk) (HB6.out.2.1.quiet hk))
        clear hk HE HB6 d0 d1 d2 f0 f1 f2
        obtain ⟨d0, d1, d2⟩ := HB7.out.1.cells
        obtain ⟨f0, f1, f2⟩ := HB7.out.2.cells
        have hwl : IntKind.i64.wrap ((len : Int) + (j : Int)) = (len : Int) + (j : Int) := IntWalk.i64_in _ (by omega)
        have hln : ln = len + j := by have := HB7.out.2.ver.1.1; omega
        subst hln
        have hlq : (((len + j : Nat) : Int) == (len : Int) + (j : Int)) = true := by rw [beq_iff_eq]; omega
        have HK := Lib.hid HB7.out.1.kept
        clear HB7 d2 f2
        go_wp2
        go_ret
        exact ⟨rfl, HK.out⟩
  · rw [show errV 54 1 = .iface 54 (.int .i64 1) from rfl]
    go_wp2_with fail
    refine (is_any 1 1 _).mono ?_
    rintro e w4 ⟨rfl, rfl⟩
    have HK := Lib.hid HB3.out.1.kept
    clear HB3
    go_wp2
    go_ret
    exact ⟨rfl, HK.out⟩
  · exact absurd rfl hc8
  · rw [show errV 54 9 = .iface 54 (.int .i64 9) from rfl]
    go_wp2_with fail
    refine (is_any 9 1 _).mono ?_
    rintro e w4 ⟨rfl, rfl⟩
    go_wp2_with fail
    refine (is_any 9 9 _).mono ?_
    rintro e w5 ⟨rfl, rfl⟩
    have HK := Lib.hid HB3.out.1.kept
    clear HB3
    go_wp2
    go_ret
    exact ⟨rfl, HK.out⟩

end Go.Proofs.Ytjdolimeibpacaa
