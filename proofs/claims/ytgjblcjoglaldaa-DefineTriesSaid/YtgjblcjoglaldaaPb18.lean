/- Layer 18's landed program: Right, Tries. -/
import Derived.Test.YtgjblcjoglaldaaPa18
namespace Go.Proofs.Ytgjblcjoglaldaa
open Go.RowKit Go.Proofs Go.Proofs.Pk
set_option maxRecDepth 10000
attribute [local simp] mk_get wrap64_u8 mk_extract ByteArray.mk_append_mk get_1k

set_option maxHeartbeats 8000000 in
theorem pRight18 (w : World) (ad : Option Addr) (len cap : Nat) (d : DefV) (h0 : DefW w ad len cap d) :
    Calls Try.prog 11 #[defC d.1 ad len cap] w fun e w' => e = .returned (.bool (rightD d)) ∧ Kept (fun _ => False) w w' := by
  obtain ⟨r, hr⟩ : ∃ r, Hid (r = rightD d) := ⟨_, rfl⟩
  rw [← hr.out]
  have hlen := h0.1.1
  have hnl := h0.2.2
  have HB := Lib.hid (DBox.new (Kept.refl _ w) h0)
  obtain ⟨nm, hnm⟩ : ∃ nm, Hid (nm = d.1) := ⟨_, rfl⟩
  have HR := Lib.hid (fun W => pName18 nm W (by rw [hnm.out]; exact hnl))
  unfold defC
  rw [← hnm.out] at HB ⊢
  clear h0 hnl
  obtain ⟨q, hq⟩ : ∃ q, Hid (q = decide ((1 : Int) ≤ (len : Int) ∧ (len : Int) ≤ 6)) := ⟨_, rfl⟩
  have HW := Lib.hid (within18 (len : Int) 1 6)
  rw [← hq.out] at HW
  go_enter Try.func11, Try.ntmps11
  go_upto_region 1 with fail
  obtain ⟨g, hg⟩ : ∃ g, g = w.heap.size := ⟨_, rfl⟩
  rw [← hg] at HB ⊢
  change Code.wp _ _ _ _ (w.alloc (.cells #[.string ⟨nm.toArray⟩, .slice ad len cap] 24))
  generalize w.alloc (.cells #[.string ⟨nm.toArray⟩, .slice ad len cap] 24) = wa at HB ⊢
  clear hg
  obtain ⟨d0, d1⟩ := HB.out.cells
  rw [← hnm.out] at d0
  go_wp2_with fail
  refine (HR.out _).mono ?_
  rintro e w1 ⟨rfl, hk⟩
  have HB1 := Lib.hid (HB.out.quiet hk)
  clear hk HB HR d0 d1
  obtain ⟨d0, d1⟩ := HB1.out.cells
  obtain ⟨nb, hnb⟩ : ∃ nb, Hid (nb = nameD nm) := ⟨_, rfl⟩
  rw [← hnb.out]
  have HRd : Hid (r = (nb && q && d.2.all stepOk)) := by
    show r = _
    rw [hr.out, right_stepsD, hnb.out, hnm.out, hq.out, hlen]
    congr 2
    rw [Bool.eq_iff_iff, decide_eq_true_eq, decide_eq_true_eq]
    omega
  clear hq hnb hr
  cases nb with
  | false =>
    obtain rfl : r = false := by rw [HRd.out]; simp
    clear HRd HW
    go_wp2
    go_ret
    exact ⟨rfl, HB1.out.kept⟩
  | true =>
  go_wp2_with (go_at_call 21; fail)
  refine (HW.out _).mono ?_
  rintro e w2 ⟨rfl, hww⟩
  rw [hww]
  clear hww HW
  cases q with
  | false =>
    obtain rfl : r = false := by rw [HRd.out]; simp
    clear HRd
    go_wp2
    go_ret
    exact ⟨rfl, HB1.out.kept⟩
  | true =>
    have HC0 : Hid (DBox w w1 g ad len cap d ∧ ∀ s ∈ d.2.take 0, stepOk s = true) := ⟨HB1.out, by simp⟩
    have hbl : (len : Int) * 16 ≤ 140737488353280 := HB1.out.df.2.1.2.2.1
    clear HB1
    go_wp2
    clear d0 d1
    go_loopw [19] (fun i wr => ∃ x : Nat, x ≤ len ∧ i = .int .i64 (x : Int) ∧ Hid (DBox w wr g ad len cap d ∧ ∀ s ∈ d.2.take x, stepOk s = true)) (fun i _ => len - (intOf i).toNat)
    case atStart => exact ⟨0, Nat.zero_le _, rfl, HC0⟩
    case round =>
      clear HC0
      obtain ⟨x, hx, rfl, hC⟩ := hrel
      have x0 : (0 : Int) ≤ (x : Int) := by omega
      obtain ⟨d0, d1⟩ := hC.out.1.cells
      by_cases hlt : x < len
      case neg =>
        obtain rfl : x = len := by omega
        have xN : ¬(x : Int) < (x : Int) := by omega
        obtain rfl : r = true := by
          rw [HRd.out]
          have h1 := hC.out.2
          rw [List.take_of_length_le (by omega)] at h1
          rw [List.all_eq_true.2 h1]; rfl
        have HK := Lib.hid hC.out.1.kept
        clear hC HRd
        go_wp2
        go_ret
        exact ⟨rfl, HK.out⟩
      have xN : (x : Int) < (len : Int) := by omega
      have hwx : IntKind.i64.wrap ((x : Int) + 1) = (x : Int) + 1 := IntWalk.i64_in _ (by omega)
      have hxT : x < d.2.length := by omega
      obtain ⟨b, off, rfl, hb, e0, e1, hft⟩ := hC.out.1.df.1.at x hxT
      obtain ⟨s, hs⟩ : ∃ s, Hid (s = d.2[x]) := ⟨d.2[x], rfl⟩
      rw [← hs.out] at e0 e1
      have HT : Hid (d.2.take (x + 1) = d.2.take x ++ [s]) := by show _ = _; rw [hs.out]; exact List.take_succ_eq_append_getElem hxT
      have HMem : Hid (s ∈ d.2) := by show s ∈ d.2; rw [hs.out]; exact List.getElem_mem hxT
      clear hft hs hxT
      have HBn := Lib.hid (Holds.new wr [.int .i64 s.1, .int .i64 s.2] 43)
      have HDn := Lib.hid (hC.out.1.quiet ((Kept.refl _ wr).alloc (.cells #[.int .i64 s.1, .int .i64 s.2] 43)))
      go_upto_region 6 with fail
      have hBs := HBn.out
      change Holds (wr.alloc (.cells #[.int .i64 s.1, .int .i64 s.2] 43)) _ _ _ at hBs
      obtain ⟨eb, heb⟩ : ∃ eb, eb = wr.heap.size := ⟨_, rfl⟩
      rw [← heb] at hBs ⊢
      change Code.wp _ _ _ _ (wr.alloc (.cells #[.int .i64 s.1, .int .i64 s.2] 43))
      generalize wr.alloc (.cells #[.int .i64 s.1, .int .i64 s.2] 43) = wb at HDn hBs ⊢
      clear heb
      have c0 := Holds.cell hBs 0 _ rfl
      have c1 := Holds.cell hBs 1 _ rfl
      obtain ⟨o, ho⟩ : ∃ o, Hid (o = stepOk s) := ⟨_, rfl⟩
      obtain ⟨oa, hoa⟩ : ∃ oa, Hid (oa = decide ((0 : Int) ≤ s.1 ∧ s.1 ≤ 5)) := ⟨_, rfl⟩
      obtain ⟨ob, hob⟩ : ∃ ob, Hid (ob = decide ((1 : Int) ≤ s.2 ∧ s.2 ≤ 10000)) := ⟨_, rfl⟩
      have hoz : Hid (o = (oa && ob)) := by
        show o = _
        rw [ho.out, hoa.out, hob.out]
        unfold stepOk
        rw [Bool.eq_iff_iff]
        simp only [decide_eq_true_eq, Bool.and_eq_true]
        omega
      have HW1 := Lib.hid (within18 s.1 0 5)
      have HW2 := Lib.hid (within18 s.2 1 10000)
      rw [← hoa.out] at HW1
      rw [← hob.out] at HW2
      clear hBs HBn e0 e1 d0 d1 hb hoa hob
      have HF : Hid (o = false → r = false) := Lib.hid fun h => by
        rw [HRd.out]
        have : d.2.all stepOk = false := List.all_eq_false.2 ⟨s, HMem.out, by rw [← ho.out, h]; simp⟩
        rw [this]; simp
      go_wp2_with (go_at_call 21; fail)
      refine (HW1.out _).mono ?_
      rintro e w3 ⟨rfl, hww⟩
      rw [hww]
      clear hww HW1
      cases oa with
      | false =>
        obtain rfl : r = false := HF.out (by rw [hoz.out]; rfl)
        have HK := Lib.hid HDn.out.kept
        clear hC HT HDn HRd HMem ho HF HW2
        go_wp2
        go_ret
        exact ⟨rfl, HK.out⟩
      | true =>
      go_wp2_with (go_at_call 21; fail)
      refine (HW2.out _).mono ?_
      rintro e w4 ⟨rfl, hww⟩
      rw [hww]
      clear hww HW2
      cases ob with
      | false =>
        obtain rfl : r = false := HF.out (by rw [hoz.out]; rfl)
        have HK := Lib.hid HDn.out.kept
        clear hC HT HDn HRd HMem ho HF
        go_wp2
        go_ret
        exact ⟨rfl, HK.out⟩
      | true =>
        have hot : o = true := by rw [hoz.out]; rfl
        have HN : Hid (DBox w wb g (some ⟨b, off, none⟩) len cap d ∧ ∀ s ∈ d.2.take (x + 1), stepOk s = true) := by
          refine ⟨HDn.out, fun c hc => ?_⟩
          rw [HT.out] at hc
          rcases List.mem_append.1 hc with hc | hc
          · exact hC.out.2 c hc
          · rw [List.mem_singleton.1 hc, ← ho.out]; exact hot
        clear hC HT HDn ho HMem HF hot hoz
        go_wp2
        go_roundw
        case rel => exact ⟨x + 1, hlt, by first | rfl | go_num, HN⟩
        case measure => simp [intOf]; omega

/-- The sum of tries, not doubled: what the program adds. -/
theorem tries_take (T : List StV) (x : Nat) (h : x < T.length) : ((T.take (x + 1)).map fun s => s.1 + 1).sum = ((T.take x).map fun s => s.1 + 1).sum + (T[x].1 + 1) := by
  rw [List.take_succ_eq_append_getElem h, List.map_append, List.sum_append]; simp
theorem tries_sum : ∀ T : List StV, sumD T = 2 * (T.map fun s => s.1 + 1).sum
  | [] => rfl
  | s :: r => by
    have h := tries_sum r
    unfold sumD at h ⊢
    rw [List.map_cons, List.sum_cons, List.map_cons, List.sum_cons, h]
    omega

set_option maxHeartbeats 8000000 in
theorem pTries18 (w : World) (ad : Option Addr) (len cap : Nat) (d : DefV) (h0 : DefW w ad len cap d) :
    Calls Try.prog 13 #[defC d.1 ad len cap] w fun e w' => e = .returned (.int .i64 (triesD d)) ∧ Kept (fun _ => False) w w' := by
  obtain ⟨r, hr⟩ : ∃ r, Hid (r = triesD d) := ⟨_, rfl⟩
  rw [← hr.out]
  have hlen := h0.1.1
  have hbl : (len : Int) * 16 ≤ 140737488353280 := h0.2.1.2.2.1
  have HB := Lib.hid (DBox.new (Kept.refl _ w) h0)
  obtain ⟨nm, hnm⟩ : ∃ nm, Hid (nm = d.1) := ⟨_, rfl⟩
  unfold defC
  rw [← hnm.out] at HB ⊢
  clear h0
  go_enter Try.func13, Try.ntmps13
  go_upto_region 1 with fail
  obtain ⟨g, hg⟩ : ∃ g, g = w.heap.size := ⟨_, rfl⟩
  rw [← hg] at HB ⊢
  change Code.wp _ _ _ _ (w.alloc (.cells #[.string ⟨nm.toArray⟩, .slice ad len cap] 24))
  generalize w.alloc (.cells #[.string ⟨nm.toArray⟩, .slice ad len cap] 24) = wa at HB ⊢
  clear hg
  obtain ⟨d0, d1⟩ := HB.out.cells
  rw [← hnm.out] at d0
  have HR := Lib.hid (pRight18 wa ad len cap d HB.out.df)
  unfold defC at HR
  rw [← hnm.out] at HR
  go_wp2_with fail
  refine HR.out.mono ?_
  rintro e w1 ⟨rfl, hk⟩
  have HB1 := Lib.hid (HB.out.quiet hk)
  clear hk HB HR d0 d1
  obtain ⟨ok, hok⟩ : ∃ ok, Hid (ok = rightD d) := ⟨_, rfl⟩
  rw [← hok.out]
  cases ok with
  | false =>
    obtain rfl : r = 0 := by rw [hr.out]; exact tries_wrong hok.out.symm
    have HK := Lib.hid HB1.out.kept
    clear HB1 hr hok
    go_wp2
    go_ret
    exact ⟨rfl, HK.out⟩
  | true =>
    have HRt : Hid (rightD d = true) := hok.out.symm
    have hst : Hid (∀ s ∈ d.2, stepOk s = true) := (right_ofD HRt.out).2.2
    have hl6 : len ≤ 6 := by have := (right_ofD HRt.out).2.1.2; omega
    have HC0 : Hid (DBox w w1 g ad len cap d ∧ (0 : Int) = ((d.2.take 0).map fun s => s.1 + 1).sum) := ⟨HB1.out, rfl⟩
    have HRv : Hid (r = 2 * (d.2.map fun s => s.1 + 1).sum) := by show r = _; rw [hr.out, tries_right HRt.out]; exact tries_sum _
    obtain ⟨d0, d1⟩ := HB1.out.cells
    clear HB1 hr hok
    go_wp2
    clear d0 d1
    go_loopw [3, 12] (fun n i wr => ∃ (x : Nat) (y : Int), x ≤ len ∧ (0 ≤ y ∧ y ≤ 6 * (x : Int)) ∧ n = .int .i64 y ∧ i = .int .i64 (x : Int) ∧ Hid (DBox w wr g ad len cap d ∧ y = ((d.2.take x).map fun s => s.1 + 1).sum)) (fun _ i _ => len - (intOf i).toNat)
    case atStart => exact ⟨0, 0, Nat.zero_le _, ⟨by omega, by omega⟩, rfl, rfl, HC0⟩
    case round =>
      clear HC0
      obtain ⟨x, y, hx, ⟨hy0, hy1⟩, rfl, rfl, hC⟩ := hrel
      have x0 : (0 : Int) ≤ (x : Int) := by omega
      obtain ⟨d0, d1⟩ := hC.out.1.cells
      by_cases hlt : x < len
      case neg =>
        obtain rfl : x = len := by omega
        have xN : ¬(x : Int) < (x : Int) := by omega
        have hrv : r = 2 * y := by
          rw [HRv.out, hC.out.2, List.take_of_length_le (by omega)]
        have hwr : IntKind.i64.wrap (2 * y) = 2 * y := IntWalk.i64_in _ (by omega)
        subst hrv
        have HK := Lib.hid hC.out.1.kept
        clear hC HRv
        go_wp2
        go_ret
        exact ⟨by first | rfl | simp, HK.out⟩
      have xN : (x : Int) < (len : Int) := by omega
      have hwx : IntKind.i64.wrap ((x : Int) + 1) = (x : Int) + 1 := IntWalk.i64_in _ (by omega)
      have hxT : x < d.2.length := by omega
      obtain ⟨b, off, rfl, hb, e0, e1, hft⟩ := hC.out.1.df.1.at x hxT
      have hs1 := step_of (hst.out _ (List.getElem_mem hxT))
      have hst2 := tries_take d.2 x hxT
      obtain ⟨z, hz⟩ : ∃ z, z = d.2[x].1 := ⟨_, rfl⟩
      obtain ⟨z2, hz2⟩ : ∃ z2, z2 = d.2[x].2 := ⟨_, rfl⟩
      rw [← hz] at e0 hs1 hst2
      rw [← hz2] at e1
      have w1' : IntKind.i64.wrap (z + 1) = z + 1 := IntWalk.i64_in _ (by omega)
      have w3' : IntKind.i64.wrap (y + (z + 1)) = y + (z + 1) := IntWalk.i64_in _ (by omega)
      have HBn := Lib.hid (Holds.new wr [.int .i64 z, .int .i64 z2] 43)
      have HN : Hid (DBox w (wr.alloc (.cells #[.int .i64 z, .int .i64 z2] 43)) g (some ⟨b, off, none⟩) len cap d ∧ y + (z + 1) = ((d.2.take (x + 1)).map fun s => s.1 + 1).sum) := ⟨hC.out.1.quiet ((Kept.refl _ wr).alloc (.cells #[.int .i64 z, .int .i64 z2] 43)), by rw [hst2, ← hC.out.2]⟩
      have hyn : 0 ≤ y + (z + 1) ∧ y + (z + 1) ≤ 6 * ((x + 1 : Nat) : Int) := by omega
      clear hC hz hz2 hst2 hft hs1
      go_upto_region 7 with fail
      have hBs := HBn.out
      change Holds (wr.alloc (.cells #[.int .i64 z, .int .i64 z2] 43)) _ _ _ at hBs
      obtain ⟨eb, heb⟩ : ∃ eb, eb = wr.heap.size := ⟨_, rfl⟩
      rw [← heb] at hBs ⊢
      change Code.wp _ _ _ _ (wr.alloc (.cells #[.int .i64 z, .int .i64 z2] 43))
      generalize wr.alloc (.cells #[.int .i64 z, .int .i64 z2] 43) = wb at HN hBs ⊢
      clear heb
      have c0 := Holds.cell hBs 0 _ rfl
      clear hBs HBn e0 e1 d0 d1 hb
      go_wp2
      go_roundw
      case rel => exact ⟨x + 1, y + (z + 1), hlt, hyn, rfl, by first | rfl | go_num, HN⟩
      case measure => simp [intOf]; omega

end Go.Proofs.Ytgjblcjoglaldaa
