/- Ix15, Cc15. -/
import Derived.Test.YthkejfhcdodggaaJ08
import Derived.Test.YthkejfhcdodggaaJ05
import Derived.Test.YthkejfhcdodggaaJ02
import Derived.Sort.Walk0
import Derived.Test.YthkejfhcdodggaaJ14
import Derived.Test.YthkejfhcdodggaaJ13
import Derived.Lib.AppendZeros

/- The program of layer 15: is one of the lists not sorted? (slices.ContainsFunc with a function value, walked in place) -/
namespace Go.Proofs.Ythkejfhcdodggaa
open Go.RowKit Go.Proofs Go.Proofs.Pk
set_option maxRecDepth 10000
attribute [local simp] mk_get wrap64_u8 mk_extract ByteArray.mk_append_mk

theorem pBad (J : BkJ) (w : World) (ad : Option Addr) (n c : Nat) (l : List MEnt) (h : EntsW w ad n l) (hl : (n : Int) ≤ 140737488351232) :
    Calls Try.prog 24 #[.slice ad n c] w fun e w' => e = .returned (.bool (!sortB l)) ∧ Kept (fun _ => False) w w' := by
  have H := Lib.hid (J.sorted w ad n c l h hl)
  go_enter Try.func24, Try.ntmps24
  go_wp2_with fail
  refine H.out.mono ?_
  clear H
  rintro e w1 ⟨rfl, hk1⟩
  go_wp2
  go_ret
  exact ⟨rfl, hk1⟩

/-- What IndexFunc answers: is there one that is not sorted. -/
def IdxE (w : World) (ls : List (List MEnt)) (e : Ending) (w' : World) : Prop := ∃ i : Int, e = .returned (.int .i64 i) ∧ decide (0 ≤ i) = !ls.all sortB ∧ Kept (fun _ => False) w w'
set_option maxHeartbeats 2000000 in
theorem pIndex (J : BkJ) (w : World) (ad : Option Addr) (len cap : Nat) (ls : List (List MEnt)) (h : LsE w ad len ls) (hl : (len : Int) ≤ 140737488351232) (hls : ∀ l ∈ ls, (l.length : Int) ≤ 140737488351232) :
    Calls Try.prog 37 #[.slice ad len cap, .func (.func 24) #[] #[]] w (IdxE w ls) := by
  have hlen := h.1
  have H := Lib.hid h
  have HL := Lib.hid hls
  obtain ⟨w0, hw0⟩ : ∃ w0, w0 = w := ⟨_, rfl⟩
  rw [← hw0] at H ⊢
  have HI : Hid ((ls.take 0).all sortB = true ∧ Kept (fun _ => False) w0 w0) := ⟨rfl, Kept.refl _ _⟩
  clear h hls
  go_enter Try.func37, Try.ntmps37
  clear hw0
  go_wp2
  go_loopw [8] (fun i wr => ∃ j : Nat, j ≤ len ∧ i = .int .i64 (j : Int) ∧ Hid ((ls.take j).all sortB = true ∧ Kept (fun _ => False) w0 wr)) (fun i _ => len - (intOf i).toNat)
  case atStart => exact ⟨0, Nat.zero_le _, rfl, HI⟩
  case round =>
    obtain ⟨j, hj, rfl, hI⟩ := hrel
    clear HI
    have j0 : (0 : Int) ≤ (j : Int) := by omega
    by_cases hlt : j < len
    case neg =>
      obtain rfl : j = len := by omega
      have jn : ¬(j : Int) < (j : Int) := by omega
      have HV : Hid (IdxE w0 ls (.returned (.int .i64 (-1))) wr) := ⟨-1, rfl, by
        have := hI.out.1
        rw [List.take_of_length_le (by omega)] at this
        rw [this]; rfl, hI.out.2⟩
      clear hI
      go_wp2
      go_ret
      exact HV.out
    have jn : (j : Int) < (len : Int) := by omega
    have hwj : IntKind.i64.wrap ((j : Int) + 1) = (j : Int) + 1 := IntWalk.i64_in _ (by omega)
    have hjl : j < ls.length := by omega
    obtain ⟨b, off, ai, ci, rfl, hat⟩ := H.out.at hjl
    obtain ⟨c0, hE⟩ := hat wr hI.out.2
    have hBd := pBad J wr ai ls[j].length ci ls[j] hE (HL.out _ (List.getElem_mem hjl))
    have htk : (ls.take (j + 1)).all sortB = ((ls.take j).all sortB && sortB ls[j]) := by rw [List.take_succ_eq_append_getElem hjl, List.all_append]; simp
    rw [hI.out.1, Bool.true_and] at htk
    have hno : sortB ls[j] = false → ls.all sortB = false := fun hs => by
      rw [Bool.eq_false_iff]
      intro ha
      rw [List.all_eq_true.1 ha _ (List.getElem_mem hjl)] at hs; cases hs
    obtain ⟨n, hn⟩ : ∃ n, n = ls[j].length := ⟨_, rfl⟩
    obtain ⟨s, hs⟩ : ∃ s, s = sortB ls[j] := ⟨_, rfl⟩
    rw [← hn] at c0 hBd
    rw [← hs] at htk hno hBd
    have HB := Lib.hid hBd
    have HT := Lib.hid (And.intro htk (And.intro hno hI.out.2))
    clear hBd htk hno hI hn hs hE hat
    go_wp2_with fail
    refine HB.out.mono ?_
    clear HB c0
    rintro e w1 ⟨rfl, hk1⟩
    have HK : Hid (Kept (fun _ => False) w0 w1) := HT.out.2.2.trans hk1 (fun _ f => f.elim)
    clear hk1
    cases s with
    | true =>
      have HN : Hid ((ls.take (j + 1)).all sortB = true ∧ Kept (fun _ => False) w0 w1) := ⟨HT.out.1, HK.out⟩
      clear HT HK
      go_wp2
      go_roundw
      case rel => exact ⟨j + 1, hlt, by first | rfl | go_num, HN⟩
      case measure => simp [intOf]; omega
    | false =>
      have HN : Hid (IdxE w0 ls (.returned (.int .i64 (j : Int))) w1) := ⟨_, rfl, by rw [HT.out.2.1 rfl]; simp, HK.out⟩
      clear HT HK
      go_wp2
      go_ret
      exact HN.out
theorem pContains (J : BkJ) (w : World) (ad : Option Addr) (len cap : Nat) (ls : List (List MEnt)) (h : LsE w ad len ls) (hl : (len : Int) ≤ 140737488351232) (hls : ∀ l ∈ ls, (l.length : Int) ≤ 140737488351232) :
    Calls Try.prog 23 #[.slice ad len cap, .func (.func 24) #[] #[]] w fun e w' => e = .returned (.bool (!ls.all sortB)) ∧ Kept (fun _ => False) w w' := by
  have H := Lib.hid (pIndex J w ad len cap ls h hl hls)
  clear h hls
  obtain ⟨s, hs⟩ : ∃ s, Hid (s = !ls.all sortB) := ⟨_, rfl⟩
  rw [← hs.out]
  go_enter Try.func23, Try.ntmps23
  go_wp2_with fail
  refine H.out.mono ?_
  clear H
  rintro e w1 ⟨i, rfl, hi, hk1⟩
  have HI := Lib.hid (And.intro hi hk1)
  clear hi hk1
  go_wp2
  go_ret
  exact ⟨by rw [hs.out, ← HI.out.1]; first | rfl | simp, HI.out.2⟩

end Go.Proofs.Ythkejfhcdodggaa

/- The program of layer 15: slices.Grow of nothing and slices.Concat of lists of entries, walked in place. -/
namespace Go.Proofs.Ythkejfhcdodggaa
open Go.RowKit Go.Proofs Go.Proofs.Pk
set_option maxRecDepth 10000
attribute [local simp] mk_get wrap64_u8 mk_extract ByteArray.mk_append_mk

theorem slice_none0 (w : World) : (Instr.slice 24 (.slice none 0 0) none (some (.int .i64 0)) none).run Try.prog w = .ok (.slice none 0 0) w := by
  have hu : Try.prog.underlying 24 = some (.slice 34) := by kernel_rfl
  have hz : (Go.sizeOf 34).run Try.prog w = .ok 4 w := by kernel_rfl
  simp only [Instr.slice, Instr.sliceBounds, Instr.sliceBound, asIntOf, run_underlying hu, go_sem]
  simp [hz, Result.andThen]
theorem slice_some0 (g n c : Nat) (w : World) : (Instr.slice 24 (.slice (some ⟨g, 0, none⟩) n c) none (some (.int .i64 0)) none).run Try.prog w = .ok (.slice (some ⟨g, 0, none⟩) 0 c) w := by
  have hu : Try.prog.underlying 24 = some (.slice 34) := by kernel_rfl
  have hz : (Go.sizeOf 34).run Try.prog w = .ok 4 w := by kernel_rfl
  have ha := addN g 0 0
  simp only [Instr.slice, Instr.sliceBounds, Instr.sliceBound, asIntOf, run_underlying hu, go_sem]
  simp [hz, Result.andThen, ha]

set_option maxHeartbeats 2000000 in
theorem pGrow (w : World) (n : Nat) (hn : n ≤ 1000000) :
    Calls Try.prog 39 #[.slice none 0 0, .int .i64 (n : Int)] w fun e w' => ∃ (ad : Option Addr) (cap : Nat), e = .returned (.slice ad 0 cap) ∧ OutO w w' ad 0 cap [] := by
  obtain ⟨i0, hi0, hz0, hz1, hz2⟩ := info_parts ent_info
  by_cases h0 : n = 0
  · subst h0
    go_enter Try.func39, Try.ntmps39
    go_wp2
    go_ret
    exact ⟨none, 0, rfl, OutO.nil (Kept.refl _ _)⟩
  have hr := fun ty => Lib.run_append_nil_zeros (P := Try.prog) w 24 3 ty 34 i0 _ .i64 .i64 Try.underlying24 Try.underlying3 hi0 hz0 n (by omega) (by rw [hz1]; decide) (by omega) (by rw [hz2]; omega)
  have hr := hr 24
  have hown := World.ownsRow_made (base := w.heap.size) (e := 34) (size := 4) w.drew (Builtin.zeroCells (Value.agg (entC zeroM).toArray).cells n ++ Builtin.zeroCells (Value.agg (entC zeroM).toArray).cells (grownCap w n 0 34 - n)) (grownCap w n 0 34) (Nat.le_refl _) (grownCap_le_maxLen w n 0 _ (by unfold maxLen; omega)) (by
    have := grownCap_ge w n 0 34
    have h4 : (Value.agg (entC zeroM).toArray).cells.size = 4 := rfl
    unfold Builtin.zeroCells
    simp only [h4, Array.size_append, Array.size_map, Array.size_range]
    omega)
  obtain ⟨g, hg⟩ : ∃ g, g = w.heap.size := ⟨_, rfl⟩
  obtain ⟨c, hc⟩ : ∃ c, c = grownCap w n 0 34 := ⟨_, rfl⟩
  obtain ⟨w1, hw1⟩ : ∃ w1, w1 = w.drew.alloc (.cells (Builtin.zeroCells (Value.agg (entC zeroM).toArray).cells n ++ Builtin.zeroCells (Value.agg (entC zeroM).toArray).cells (grownCap w n 0 34 - n)) 34) := ⟨_, rfl⟩
  rw [← hw1, ← hg, ← hc] at hr
  rw [← hw1, ← hc] at hown
  have HV : Hid (OutO w w1 (some ⟨g, 0, none⟩) 0 c []) := ⟨rfl, by rw [hg]; exact hown, by rw [hw1]; exact ((Kept.refl _ w).drewN 1).alloc _, fun _ h => (by cases h)⟩
  have s0 := slice_none0 w
  have s1 := slice_some0 g n c w1
  have nI : (0 : Int) < (n : Int) := by omega
  have nw : IntKind.i64.wrap (n : Int) = (n : Int) := IntWalk.i64_in _ (by omega)
  have nn : ¬(n : Int) < 0 := by omega
  clear hown hw1 hg hc hz2 hz1 hz0 hi0
  go_enter Try.func39, Try.ntmps39
  go_wp2_with (at_builtin; refine Lib.wpList_append_run _ rfl (.tmp 20) (.tmp 21) 24 3 rfl (.slice none 0 0) (.int .i64 (n : Int)) rfl rfl _ _ hr ?_)
  go_ret
  exact ⟨_, _, rfl, HV.out⟩

/-- What Concat answers. -/
def CatE (w : World) (R : List MEnt) (e : Ending) (w' : World) : Prop := ∃ (ad : Option Addr) (n cap : Nat), e = .returned (.slice ad n cap) ∧ OutO w w' ad n cap R
set_option maxHeartbeats 4000000 in
theorem pConcat (w : World) (ad : Option Addr) (len cap : Nat) (ls : List (List MEnt)) (h : LsE w ad len ls) (hl : len ≤ 1000000) (hs : ls.flatten.length ≤ 1000000) :
    Calls Try.prog 27 #[.slice ad len cap] w (CatE w ls.flatten) := by
  have hlen := h.1
  have H := Lib.hid h
  have HS := Lib.hid hs
  have HG := Lib.hid (fun (W : World) => pGrow W ls.flatten.length hs)
  obtain ⟨w0, hw0⟩ : ∃ w0, w0 = w := ⟨_, rfl⟩
  rw [← hw0] at H ⊢
  obtain ⟨R, hR⟩ : ∃ R, Hid (R = ls.flatten) := ⟨_, rfl⟩
  obtain ⟨S, hSd⟩ : ∃ S, S = ls.flatten.length := ⟨_, rfl⟩
  rw [← hSd] at HG
  have HSd := Lib.hid hSd
  rw [← hR.out]
  have HI : Hid (0 = (ls.take 0).flatten.length) := rfl
  clear h hs hSd
  go_enter Try.func27, Try.ntmps27
  clear hw0
  go_wp2
  go_loopw [3, 11] (fun s i wr => ∃ (j c : Nat), j ≤ len ∧ s = .int .i64 (c : Int) ∧ i = .int .i64 (j : Int) ∧ wr = w0 ∧ Hid (c = (ls.take j).flatten.length)) (fun _ i _ => len - (intOf i).toNat)
  case atStart => exact ⟨0, 0, Nat.zero_le _, rfl, rfl, rfl, HI⟩
  case round =>
    obtain ⟨j, c, hj, rfl, rfl, hwx, hI⟩ := hrel
    have hwx' := hwx.symm
    subst hwx'
    clear HI
    have j0 : (0 : Int) ≤ (j : Int) := by omega
    by_cases hlt : j < len
    case pos =>
      have jn : (j : Int) < (len : Int) := by omega
      have hwj : IntKind.i64.wrap ((j : Int) + 1) = (j : Int) + 1 := IntWalk.i64_in _ (by omega)
      have hjl : j < ls.length := by omega
      obtain ⟨b, off, ai, ci, rfl, hat⟩ := H.out.at hjl
      have c0 := (hat w0 (Kept.refl _ _)).1
      have hft := flat_take hjl
      have htk : (ls.take (j + 1)).flatten.length = (ls.take j).flatten.length + ls[j].length := by rw [List.take_succ_eq_append_getElem hjl, List.flatten_append, List.length_append]; simp
      obtain ⟨n, hn⟩ : ∃ n, n = ls[j].length := ⟨_, rfl⟩
      rw [← hn] at c0 hft htk
      have hcn : c + n ≤ 1000000 := by have := HS.out; have := hI.out; omega
      have hwc : IntKind.i64.wrap ((c : Int) + (n : Int)) = ((c + n : Nat) : Int) := by rw [IntWalk.i64_in _ (by omega)]; omega
      have hnn : ¬((c + n : Nat) : Int) < 0 := by omega
      have HN : Hid (c + n = (ls.take (j + 1)).flatten.length) := by show _ = _; rw [htk, ← hI.out]
      clear hft htk hI hn hat
      obtain ⟨d, hd⟩ : ∃ d, d = c + n := ⟨_, rfl⟩
      rw [← hd] at hwc hnn HN
      clear hd hcn
      go_wp2
      go_roundw
      case rel => exact ⟨j + 1, d, hlt, rfl, by first | rfl | go_num, by first | rfl | trivial, HN⟩
      case measure => simp [intOf]; omega
    obtain rfl : j = len := by omega
    have jn : ¬(j : Int) < (j : Int) := by omega
    have hcS : c = S := by
      rw [hI.out, HSd.out, List.take_of_length_le (by omega)]
    subst hcS
    clear hI
    go_wp2_with fail
    refine (HG.out w0).mono ?_
    clear HG
    rintro e w1 ⟨ag, cg, rfl, hO⟩
    have HI2 : Hid (OutO w0 w1 ag 0 cg (ls.take 0).flatten) := hO
    clear hO
    go_wp2
    go_loopw [6, 27] (fun o i wr => ∃ (k n : Nat) (ao : Option Addr) (co : Nat), k ≤ j ∧ o = .slice ao n co ∧ i = .int .i64 (k : Int) ∧ Hid (OutO w0 wr ao n co (ls.take k).flatten)) (fun _ i _ => j - (intOf i).toNat)
    case atStart => exact ⟨0, 0, ag, cg, Nat.zero_le _, rfl, rfl, HI2⟩
    case round =>
      clear HI2
      obtain ⟨k, n, ao, co, hk, rfl, rfl, hO⟩ := hrel
      have k0 : (0 : Int) ≤ (k : Int) := by omega
      by_cases hlt2 : k < j
      case neg =>
        obtain rfl : k = j := by omega
        have kn : ¬(k : Int) < (k : Int) := by omega
        have HV : Hid (OutO w0 wr ao n co R) := by
          have := hO.out
          rw [List.take_of_length_le (by omega), ← hR.out] at this
          exact this
        clear hO
        go_wp2
        go_ret
        exact ⟨ao, n, co, rfl, HV.out⟩
      have kn : (k : Int) < (j : Int) := by omega
      have hwk : IntKind.i64.wrap ((k : Int) + 1) = (k : Int) + 1 := IntWalk.i64_in _ (by omega)
      have hkl : k < ls.length := by omega
      obtain ⟨b, off, ai, ci, rfl, hat⟩ := H.out.at hkl
      obtain ⟨c0, hE⟩ := hat wr hO.out.2.2.1
      have hft := flat_take hkl
      obtain ⟨ao2, co2, wB, hrun, hO2, _⟩ := app_list (cx := ci) hO.out hE (by have := HS.out; have := hO.out.1; omega) 24
      have htk : (ls.take (k + 1)).flatten = (ls.take k).flatten ++ ls[k] := by rw [List.take_succ_eq_append_getElem hkl, List.flatten_append]; simp
      have HN : Hid (OutO w0 wB ao2 (n + ls[k].length) co2 (ls.take (k + 1)).flatten) := by show OutO _ _ _ _ _ _; rw [htk]; exact hO2
      obtain ⟨m, hm⟩ : ∃ m, m = ls[k].length := ⟨_, rfl⟩
      rw [← hm] at HN hrun c0
      clear htk hO2 hft hm hO hat hE
      go_wp2_with (at_builtin; refine wpList_run_append rfl (.tmp 31) (.tmp 32) 24 24 rfl rfl rfl rfl hrun ?_)
      clear hrun c0
      go_roundw
      case rel => exact ⟨k + 1, n + m, ao2, co2, hlt2, rfl, by first | rfl | go_num, HN⟩
      case measure => simp [intOf]; omega

end Go.Proofs.Ythkejfhcdodggaa
