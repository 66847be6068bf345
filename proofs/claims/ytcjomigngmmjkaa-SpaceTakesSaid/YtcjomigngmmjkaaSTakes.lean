/- SpaceTakes walked: taken run by run, each where there is room, all is used in the end. -/
import Derived.Test.YtcjomigngmmjkaaSpcW
import Derived.Test.YtcjomigngmmjkaaOpenI
namespace Go.Proofs.Ytcjomigngmmjkaa
open Go.RowKit Go.Proofs Go.Proofs.Pk
set_option maxRecDepth 10000
attribute [local simp] mk_get wrap64_u8 mk_extract ByteArray.mk_append_mk get_1k

theorem ints_at {w : World} {ad : Option Addr} {len : Nat} {l : List Int} (h : Ints w ad len l) (j : Nat) (hj : j < len) : ∃ b off, ad = some ⟨b, off, none⟩ ∧ b < w.heap.size ∧ w.cell? ⟨b, off + j, none⟩ = some (.int .i64 (l[j]'(by rw [h.1]; exact hj))) := by
  have hl := h.1
  rcases h.2 with h | ⟨b, off, h1, h2, h3⟩
  · rw [h] at hl; simp at hl; omega
  · exact ⟨b, off, h1, h2, h3 j (by omega)⟩

/-- A raw number's part that is not less than nothing. -/
def plusN (c : Int) : Nat := (if c < 0 then -(c + 1) else c).toNat
theorem free_line (N P : Nat) (l : List (Int × Int)) (hN : N ≤ 4000) (hl : l.length ≤ 200) (h : takeAll N l (List.replicate N false) = some (line P (N - P))) (n : Nat) (h1 : 1 ≤ n) :
    fitO ((takenO (N : Int) l).map freeL) (n : Int) = if n ≤ N - P then ((P : Int), 0) else (0, 7) := by
  rw [takenO_nat hN hl, h, Option.map_some, freeL_line]
  unfold fitO
  simp only
  rw [if_neg (by omega)]
  by_cases h0 : N - P = 0
  · rw [if_pos h0, if_neg (by omega)]; rfl
  · rw [if_neg h0]
    unfold fitL
    by_cases h2 : n ≤ N - P
    · rw [if_pos (by simp only; omega), if_pos h2]
    · rw [if_neg (by simp only; omega), if_neg h2]; rfl
theorem room_line (N P : Nat) (l : List (Int × Int)) (hN : N ≤ 4000) (hl : l.length ≤ 200) (h : takeAll N l (List.replicate N false) = some (line P (N - P))) :
    roomV (takenO (N : Int) l) = #[.int .i64 ((N - P : Nat) : Int), .nilIface] := by
  rw [takenO_nat hN hl, h]
  unfold roomV roomL
  simp only
  rw [freeL_line]
  by_cases h0 : N - P = 0
  · rw [if_pos h0, h0]; rfl
  · rw [if_neg h0]; simp [errV]

set_option maxHeartbeats 1000000 in
theorem sTakes (T : Int) (ad : Option Addr) (len cap : Nat) (l : List Int) (W : World) (hT : -9223372036854775808 ≤ T ∧ T ≤ 9223372036854775807) (hI : Ints W ad len l) (hF : Fit64 l) :
    Calls Try.prog 5 #[.int .i64 T, .slice ad len cap] W fun e w' => e = .returned (.bool true) ∧ Below W.heap.size W w' := by
  obtain ⟨iR, hiR, hzR, hsR, hbR⟩ := info_parts run_info
  have HX := Lib.hid (examples_any W)
  obtain ⟨N, hN⟩ : ∃ N, N = plusN T % 201 := ⟨_, rfl⟩
  have hN200 : N ≤ 200 := by have := Nat.mod_lt (plusN T) (show 0 < 201 by omega); omega
  have HI := Lib.hid hI
  have HF := Lib.hid hF
  have HT0 : Hid (takeAll N [] (List.replicate N false) = some (line 0 (N - 0))) := by show _ = _; unfold line; rfl
  by_cases hneg : T < 0
  case' pos =>
    have e0 : decide (T < 0) = true := by simpa using hneg
    obtain ⟨m, hm⟩ : ∃ m, m = plusN T := ⟨_, rfl⟩
    have hm' : -(T + 1) = (m : Int) := by unfold plusN at hm; rw [if_pos hneg] at hm; omega
    have hw1 : IntKind.i64.wrap (T + 1) = T + 1 := IntWalk.i64_in _ (by omega)
    have hw2 : IntKind.i64.wrap (m : Int) = (m : Int) := IntWalk.i64_in _ (by omega)
    have ht : (m : Int).tmod (201 : Int) = (N : Int) := by rw [Int.tmod_eq_emod_of_nonneg (by omega), hN, ← hm]; rfl
    have hw3 : IntKind.i64.wrap (N : Int) = (N : Int) := IntWalk.i64_in _ (by omega)
  case' neg =>
    obtain ⟨m, rfl⟩ := Int.eq_ofNat_of_zero_le (show 0 ≤ T by omega)
    have e0 : decide ((m : Int) < 0) = false := by rw [decide_eq_false_iff_not]; omega
    have hm : m = plusN (m : Int) := by unfold plusN; rw [if_neg hneg]; simp
    have ht : (m : Int).tmod (201 : Int) = (N : Int) := by rw [Int.tmod_eq_emod_of_nonneg (by omega), hN, ← hm]; rfl
    have hw3 : IntKind.i64.wrap (N : Int) = (N : Int) := IntWalk.i64_in _ (by omega)
  all_goals
    clear hN hm hT hI hF hneg
    go_enter Try.func5, Try.ntmps5
    go_wp2_with fail
    refine HX.out.mono ?_
    rintro e w1 ⟨rfl, hb⟩
    have HB := Lib.hid hb
    clear hb HX
    go_wp2
    obtain ⟨wq, hwq⟩ : ∃ wq, wq = w1 := ⟨_, rfl⟩
    have HS : Hid (Below W.heap.size W wq) := by rw [hwq]; exact HB.out
    rw [← hwq]
    clear hwq HB
    go_loopw [6, 7, 8] (fun v lf i wr => ∃ (j P : Nat) (L : List (Int × Int)), j ≤ len ∧ j ≤ 50 ∧ L.length ≤ j ∧ P ≤ N ∧ i = .int .i64 j ∧ lf = .int .i64 ((N - P : Nat) : Int) ∧ Hid (takeAll N L (List.replicate N false) = some (line P (N - P))) ∧ Hid (wr.ownsRow W.heap.size 32 2 v L.length (L.flatMap runV)) ∧ Hid (∀ r ∈ L, Fit r.1 ∧ Fit r.2) ∧ Hid (Below W.heap.size W wr)) (fun _ _ i _ => len - (intOf i).toNat)
    case atStart => exact ⟨0, 0, [], by omega, by omega, Nat.le_refl _, Nat.zero_le _, rfl, rfl, HT0, World.ownsRow_nil _ _ _ _, (fun r hr => by cases hr), HS⟩
    case round =>
      obtain ⟨j, P, L, hj, hj50, hLj, hPN, rfl, rfl, htk, ho, hfit, hb⟩ := hrel
      by_cases hlt : (j : Int) < len
      · by_cases h50 : (j : Int) < 50
        · have hjl : j < len := by omega
          obtain ⟨b, off, rfl, hbl, hc⟩ := ints_at HI.out j hjl
          obtain ⟨c, hcc⟩ : ∃ c, c = l[j]'(by have := HI.out.1; omega) := ⟨_, rfl⟩
          have hc64 : -9223372036854775808 ≤ c ∧ c ≤ 9223372036854775807 := by rw [hcc]; exact HF.out _ (List.getElem_mem _)
          have d0 : wr.cell? ⟨b, off + j, none⟩ = some (.int .i64 c) := by rw [hb.out.cell (p := ⟨b, off + j, none⟩) hbl, hcc]; exact hc
          clear hc hcc
          obtain ⟨q, hq⟩ : ∃ q, q = plusN c % 30 := ⟨_, rfl⟩
          have hq30 : q < 30 := by have := Nat.mod_lt (plusN c) (show 0 < 30 by omega); omega
          obtain ⟨n, hn⟩ : ∃ n, n = 1 + q := ⟨_, rfl⟩
          have hwn : IntKind.i64.wrap (1 + (q : Int)) = (n : Int) := by rw [IntWalk.i64_in _ (by omega)]; omega
          have hn1 : 1 ≤ n ∧ n ≤ 30 := by omega
          have hwq2 : IntKind.i64.wrap (q : Int) = (q : Int) := IntWalk.i64_in _ (by omega)
          have hj0 : (0 : Int) ≤ (j : Int) := Int.natCast_nonneg _
          have hwj : IntKind.i64.wrap ((j : Int) + 1) = ((j + 1 : Nat) : Int) := by rw [IntWalk.i64_in _ (by omega)]; omega
          obtain ⟨_, ad2, cap2, rfl, hf2, hcp2, hR2⟩ := own_runs ho.out hfit.out
          have HFT := Lib.hid (fitP (N : Int) ad2 L.length cap2 L (n : Int) wr ⟨by omega, by omega⟩ hR2 hf2)
          have HZ : Hid (fitO ((takenO (N : Int) L).map freeL) (n : Int) = if n ≤ N - P then ((P : Int), 0) else (0, 7)) := free_line N P L (by omega) (by omega) htk.out n (by omega)
          rw [HZ.out] at HFT
          have HR2 := Lib.hid hR2
          clear HZ hf2 hR2
          by_cases hneg2 : c < 0
          case' pos =>
            have e1 : decide (c < 0) = true := by simpa using hneg2
            obtain ⟨k, hk⟩ : ∃ k, k = plusN c := ⟨_, rfl⟩
            have hk' : -(c + 1) = (k : Int) := by unfold plusN at hk; rw [if_pos hneg2] at hk; omega
            have hw11 : IntKind.i64.wrap (c + 1) = c + 1 := IntWalk.i64_in _ (by omega)
            have hw12 : IntKind.i64.wrap (k : Int) = (k : Int) := IntWalk.i64_in _ (by omega)
            have ht2 : (k : Int).tmod (30 : Int) = (q : Int) := by rw [Int.tmod_eq_emod_of_nonneg (by omega), hq, ← hk]; rfl
          case' neg =>
            obtain ⟨k, rfl⟩ := Int.eq_ofNat_of_zero_le (show 0 ≤ c by omega)
            have e1 : decide ((k : Int) < 0) = false := by rw [decide_eq_false_iff_not]; omega
            have hk : k = plusN (k : Int) := by unfold plusN; rw [if_neg hneg2]; simp
            have ht2 : (k : Int).tmod (30 : Int) = (q : Int) := by rw [Int.tmod_eq_emod_of_nonneg (by omega), hq, ← hk]; rfl
          all_goals
            clear hq hk hc64 hneg2 hn
            by_cases hroom : n ≤ N - P
            · have hroomi : (n : Int) ≤ ((N - P : Nat) : Int) := by omega
              rw [if_pos hroom] at HFT
              simp only [show errV 47 ((0 : Int).toNat) = .nilIface from rfl] at HFT
              go_wp2_with fail
              refine HFT.out.mono ?_
              rintro e w2 ⟨hb2, rfl⟩
              have HB2 := Lib.hid (hb.out.trans (hb2.mono hb.out.size))
              have HO2 := Lib.hid (own_below ho.out hb2)
              clear ho HFT hb2 HR2
              obtain ⟨L2, hL2⟩ : ∃ L2, Hid (L2 = L ++ [((P : Int), (n : Int))]) := ⟨_, rfl⟩
              have HTK2 : Hid (takeAll N L2 (List.replicate N false) = some (line (P + n) (N - (P + n)))) := by
                show _ = _
                rw [hL2.out]; exact take_line N P n L htk.out hPN (by omega) hroom
              have HFI2 : Hid (∀ r ∈ L2, Fit r.1 ∧ Fit r.2) := by
                intro r hr
                rw [hL2.out] at hr
                rcases List.mem_append.1 hr with hr | hr
                · exact hfit.out r hr
                · rw [List.mem_singleton.1 hr]
                  constructor
                  · show Fit (P : Int); exact ⟨by omega, by omega⟩
                  · show Fit (n : Int); exact ⟨by omega, by omega⟩
              obtain ⟨M, hM⟩ : ∃ M, M = L.length := ⟨_, rfl⟩
              have HLL : Hid (L2.length = M + 1) := by show _ = _; rw [hL2.out, hM]; simp
              have hM50 : M ≤ 50 := by omega
              rw [← hM] at HO2 hLj
              obtain ⟨Z, hZ⟩ : ∃ Z, Z = N - P := ⟨_, rfl⟩
              obtain ⟨Y, hY⟩ : ∃ Y, Y = N - (P + n) := ⟨_, rfl⟩
              rw [← hZ] at hroomi
              have hw21 : IntKind.i64.wrap ((Z : Int) - (n : Int)) = (Y : Int) := by rw [IntWalk.i64_in _ (by omega)]; omega
              have hw22 : IntKind.i64.wrap ((N : Int) - (Y : Int)) = (P : Int) + (n : Int) := by rw [IntWalk.i64_in _ (by omega)]; omega
              have hw23 : IntKind.i64.wrap ((P : Int) + (n : Int) - (n : Int)) = (P : Int) := by rw [IntWalk.i64_in _ (by omega)]; omega
              have hw24 : (P : Int) + (n : Int) - (n : Int) = (P : Int) := by omega
              have hw25 : IntKind.i64.wrap (P : Int) = (P : Int) := by rw [IntWalk.i64_in _ (by omega)]
              rw [← hY] at HTK2
              rw [← hM, ← hZ]
              have HYY := Lib.hid hY
              have hPn : P + n ≤ N := by omega
              clear hZ hM hfit htk hY
              go_upto_region 18 with (fail)
              refine wp_region_lit ?_
              iterate 4
                refine wpList_plain rfl fun K hK => ?_
                go_simp
                refine hK _ _ ?_
                clear hK K
              have HQ := Holds.new w2 (runV ((P : Int), (n : Int))) 32
              have HBd := HB2.out.alloc HB2.out.size (.cells (runV ((P : Int), (n : Int))).toArray 32)
              have HOw := HO2.out.alloc (.cells (runV ((P : Int), (n : Int))).toArray 32)
              obtain ⟨g, hg⟩ : ∃ g, Hid (g = w2.heap.size) := ⟨_, rfl⟩
              refine wpList_buildSlice_row rfl 22 32 (.tmp 65) rfl iR _ (runV ((P : Int), (n : Int))) Try.underlying22 hiR hzR (by rw [hsR]; rfl) (by simp [runV]) (by simp [runV]) (by rfl) ?_
              rw [← hg.out] at HQ ⊢
              generalize w2.alloc (.cells (runV ((P : Int), (n : Int))).toArray 32) = wd at HQ HBd HOw ⊢
              refine wpList_append_at wd rfl (.tmp 62) (.tmp 66) 22 rfl W.heap.size 32 iR _ 2 16 Try.underlying22 hiR hzR hsR hbR (by rfl) (by omega) _ M (L.flatMap runV) (by rfl) HOw
                ⟨g, 0, none⟩ 1 1 (runV ((P : Int), (n : Int))) (by rfl) (by simp [runV]) (fun j u hj => by rw [add0]; exact HQ.cell j u hj) (by simp [runV, Value.oneCell']) (by unfold maxLen; omega) (by omega) HBd.size (by omega) ?_
              intro v' we ho3 hgr _
              have hb3 : Below W.heap.size W we := HBd.grown hgr HBd.size (own_low HOw)
              have ho4 : we.ownsRow W.heap.size 32 2 v' (M + 1) (L2.flatMap runV) := by
                rw [hL2.out]; exact owns_len ho3 rfl (by simp)
              obtain ⟨_, ad3, cap3, rfl, hf3, _, hR3⟩ := own_runs ho4 HFI2.out
              have HB3 := Lib.hid hb3
              have HO4 := Lib.hid ho4
              have HR3 := Lib.hid hR3
              have HF3 := Lib.hid hf3
              clear ho3 hgr HQ HBd HOw hb3 ho4 hR3 hf3 HO2 HB2
              go_wp2_with fail
              have HRM := roomP (N : Int) ad3 (M + 1) cap3 L2 we ⟨by omega, by omega⟩ HR3.out HF3.out
              rw [room_line N (P + n) L2 (by omega) (by have := HLL.out; omega) (by rw [← HYY.out]; exact HTK2.out), ← HYY.out] at HRM
              refine HRM.mono ?_
              rintro e w5 ⟨hb5, rfl⟩
              have HB5 := Lib.hid (HB3.out.trans (hb5.mono HB3.out.size))
              have HO5 := Lib.hid (own_below HO4.out hb5)
              have HR5 := Lib.hid (HR3.out.below hb5)
              clear HRM hb5 HB3 HO4 HR3
              go_wp2_with fail
              have HRI := rightP (N : Int) ad3 (M + 1) cap3 L2 w5 ⟨by omega, by omega⟩ HR5.out HF3.out
              rw [takenO_nat (by omega) (by have := HLL.out; omega), HTK2.out] at HRI
              refine HRI.mono ?_
              rintro e w6 ⟨rfl, hb6⟩
              have HB6 := Lib.hid (HB5.out.trans (hb6.mono HB5.out.size))
              have HO6 : Hid (w6.ownsRow W.heap.size 32 2 (.slice ad3 (M + 1) cap3) L2.length (L2.flatMap runV)) := by
                show World.ownsRow _ _ _ _ _ _ _
                rw [HLL.out]; exact own_below HO5.out hb6
              clear HRI hb6 HB5 HO5 HR5
              go_wp2
              go_roundw
              case rel => exact ⟨j + 1, P + n, L2, by omega, by omega, by have := HLL.out; omega, hPn, by go_num, by rw [← HYY.out], by rw [← HYY.out]; exact HTK2, HO6, HFI2, HB6⟩
              case measure => simp [intOf]; omega
            · have hroomi : ¬(n : Int) ≤ ((N - P : Nat) : Int) := by omega
              rw [if_neg hroom] at HFT
              simp only [show errV 47 ((7 : Int).toNat) = .iface 47 (.int .i64 7) from rfl] at HFT
              go_wp2_with fail
              refine HFT.out.mono ?_
              rintro e w2 ⟨hb2, rfl⟩
              have HB2 := Lib.hid (hb.out.trans (hb2.mono hb.out.size))
              clear HFT
              go_wp2_with fail
              refine (is77 w2).mono ?_
              rintro e w3 ⟨rfl, rfl⟩
              have HO2 := Lib.hid (own_below ho.out hb2)
              clear hb2 ho HR2
              go_wp2
              go_roundw
              case rel => exact ⟨j + 1, P, L, by omega, by omega, by omega, hPN, by go_num, by go_num, htk, HO2, hfit, HB2⟩
              case measure => simp [intOf]; omega
        · have hf50 : decide ((j : Int) < 50) = false := by rw [decide_eq_false_iff_not]; omega
          go_wp2
          go_ret
          exact ⟨rfl, hb.out⟩
      · go_wp2
        go_ret
        exact ⟨rfl, hb.out⟩

end Go.Proofs.Ytcjomigngmmjkaa
