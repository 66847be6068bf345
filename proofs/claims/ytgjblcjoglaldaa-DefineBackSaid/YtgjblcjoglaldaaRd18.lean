/- The reference of layer 18: Name, Right, Tries, num. -/
import Derived.Test.YtgjblcjoglaldaaDfX
import Derived.Test.YtgjblcjoglaldaaDfP
import Derived.Sort.Walk0
import Derived.BigQuiet
import Derived.Deep.CutRange
namespace Go.Proofs.Ytgjblcjoglaldaa
open Go.RowKit Go.Proofs Go.Proofs.Pk
set_option maxRecDepth 10000
attribute [local simp] mk_get wrap64_u8 mk_extract ByteArray.mk_append_mk get_1k

set_option maxHeartbeats 8000000 in
theorem rName18 (s : DTxt) (w : World) (hl : (s.length : Int) ≤ 140737488351232) :
    Calls Try.prog 10 #[.string ⟨s.toArray⟩] w fun e w' => e = .returned (.bool (nameD s)) ∧ Kept (fun _ => False) w w' := by
  obtain ⟨r, hr⟩ : ∃ r, Hid (r = nameD s) := ⟨_, rfl⟩
  rw [← hr.out]
  have HK0 : Hid (Kept (fun _ => False) w w ∧ ∀ b ∈ s.take 0, okB b = true) := ⟨Kept.refl _ _, by simp⟩
  go_enter Try.func10, Try.ntmps10
  go_wp2
  go_loopw [3] (fun i wr => ∃ x : Nat, x ≤ s.length ∧ i = .int .i64 (x : Int) ∧ Hid (Kept (fun _ => False) w wr ∧ ∀ b ∈ s.take x, okB b = true)) (fun i _ => s.length - (intOf i).toNat)
  case atStart => exact ⟨0, Nat.zero_le _, rfl, HK0⟩
  case round =>
    clear HK0
    obtain ⟨x, hx, rfl, hC⟩ := hrel
    have x0 : (0 : Int) ≤ (x : Int) := by omega
    by_cases hlt : x < s.length
    case neg =>
      have xe : x = s.length := by omega
      have xN : ¬(x : Int) < (s.length : Int) := by omega
      have hall : s.all okB = true := by
        have h1 := hC.out.2
        rw [List.take_of_length_le (by omega)] at h1
        exact List.all_eq_true.2 h1
      have HK := Lib.hid hC.out.1
      by_cases c1 : 1 ≤ s.length
      · have d1 : (1 : Int) ≤ (s.length : Int) := by omega
        by_cases c2 : s.length ≤ 20
        · obtain rfl : r = true := by rw [hr.out]; unfold nameD; rw [hall]; simp [c1, c2]
          have d2 : (s.length : Int) ≤ 20 := by omega
          clear hC hr hall xe c1 c2 hlt
          go_wp2
          go_ret
          exact ⟨rfl, HK.out⟩
        · obtain rfl : r = false := by rw [hr.out]; unfold nameD; simp [c2]
          have d2 : decide ((s.length : Int) ≤ 20) = false := decide_eq_false (by omega)
          clear hC hr hall xe c1 c2 hlt
          go_wp2
          go_ret
          exact ⟨rfl, HK.out⟩
      · obtain rfl : r = false := by rw [hr.out]; unfold nameD; simp [show s.length = 0 by omega]
        have d1 : decide ((1 : Int) ≤ (s.length : Int)) = false := decide_eq_false (by omega)
        clear hC hr hall xe c1 hlt
        go_wp2
        go_ret
        exact ⟨rfl, HK.out⟩
    have xN : (x : Int) < (s.length : Int) := by omega
    have hwx : IntKind.i64.wrap ((x : Int) + 1) = (x : Int) + 1 := IntWalk.i64_in _ (by omega)
    obtain ⟨b, hb⟩ : ∃ b, Hid (b = s[x]) := ⟨s[x], rfl⟩
    have HT : Hid (s.take (x + 1) = s.take x ++ [b]) := by show _ = _; rw [hb.out]; exact List.take_succ_eq_append_getElem hlt
    go_upto_region 5 with fail
    rw [← hb.out]
    obtain ⟨z, hz⟩ : ∃ z : Int, z = (b.toNat : Int) := ⟨_, rfl⟩
    obtain ⟨o, ho⟩ : ∃ o, Hid (o = okB b) := ⟨_, rfl⟩
    have hoz : Hid (o = !((decide (z < 97) || decide (122 < z)) && (decide (z < 48) || decide (57 < z)) && (z != 45))) := by show o = _; rw [ho.out, ok_ints, hz]
    rw [← hz]
    clear hz
    go_cut [31] from 5 to 31 (fun s31 wx => s31 = .bool (!o) ∧ wx = wr)
    case first =>
      clear hC HT
      have c1 : Hid (z < 97 ∨ ¬z < 97) := Classical.em _
      rcases c1.out with d1 | d1
      all_goals
        rcases Classical.em (122 < z) with d2 | d2
        all_goals
          rcases Classical.em (z < 48) with d3 | d3
          all_goals
            rcases Classical.em (57 < z) with d4 | d4
            all_goals
              rcases Bool.eq_false_or_eq_true (z != 45) with d5 | d5
              all_goals
                have h := hoz.out
                simp [d1, d2, d3, d4, d5] at h
                subst h
                go_wp2
                go_meet
                case rel => exact ⟨rfl, rfl⟩
    case rest =>
    obtain ⟨rfl, hwx2⟩ := hcut
    rw [hwx2]
    clear hwx2 hoz
    cases o with
    | false =>
      obtain rfl : r = false := by
        rw [hr.out]
        unfold nameD
        have : s.all okB = false := List.all_eq_false.2 ⟨b, by rw [hb.out]; exact List.getElem_mem hlt, by rw [← ho.out]; simp⟩
        rw [this]; rfl
      have HK := Lib.hid hC.out.1
      clear hC HT hr ho hb
      go_wp2
      go_ret
      exact ⟨rfl, HK.out⟩
    | true =>
      have HN : Hid (Kept (fun _ => False) w wr ∧ ∀ b ∈ s.take (x + 1), okB b = true) := by
        refine ⟨hC.out.1, fun c hc => ?_⟩
        rw [HT.out] at hc
        rcases List.mem_append.1 hc with hc | hc
        · exact hC.out.2 c hc
        · rw [List.mem_singleton.1 hc]; exact ho.out.symm
      clear hC HT ho hb
      go_wp2
      go_roundw
      case rel => exact ⟨x + 1, hlt, by first | rfl | go_num, HN⟩
      case measure => simp [intOf]; omega


set_option maxHeartbeats 8000000 in
theorem rRight18 (w : World) (ad : Option Addr) (len cap : Nat) (d : DefV) (h0 : DefW w ad len cap d) :
    Calls Try.prog 12 #[defC d.1 ad len cap] w fun e w' => e = .returned (.bool (rightD d)) ∧ Kept (fun _ => False) w w' := by
  obtain ⟨r, hr⟩ : ∃ r, Hid (r = rightD d) := ⟨_, rfl⟩
  rw [← hr.out]
  have hlen := h0.1.1
  have hnl := h0.2.2
  have HB := Lib.hid (DBox.new (Kept.refl _ w) h0)
  obtain ⟨nm, hnm⟩ : ∃ nm, Hid (nm = d.1) := ⟨_, rfl⟩
  have HR := Lib.hid (fun W => rName18 nm W (by rw [hnm.out]; exact hnl))
  unfold defC
  rw [← hnm.out] at HB ⊢
  clear h0 hnl
  go_enter Try.func12, Try.ntmps12
  go_upto_region 1 with fail
  obtain ⟨g, hg⟩ : ∃ g, g = w.heap.size := ⟨_, rfl⟩
  rw [← hg] at HB ⊢
  change Code.wp _ _ _ _ (w.alloc (.cells #[.string ⟨nm.toArray⟩, .slice ad len cap] 24))
  generalize w.alloc (.cells #[.string ⟨nm.toArray⟩, .slice ad len cap] 24) = wa at HB ⊢
  clear hg
  obtain ⟨d0, d1⟩ := HB.out.cells
  rw [← hnm.out] at d0
  go_wp2_with fail
  refine (HR.out _).mono ?_
  rintro e w1 ⟨rfl, hk⟩
  have HB1 := Lib.hid (HB.out.quiet hk)
  clear hk HB HR d0 d1
  obtain ⟨d0, d1⟩ := HB1.out.cells
  obtain ⟨nb, hnb⟩ : ∃ nb, Hid (nb = nameD nm) := ⟨_, rfl⟩
  rw [← hnb.out]
  obtain ⟨ck, hck⟩ : ∃ ck : Bool, Hid (ck = (nb && decide (1 ≤ len ∧ len ≤ 6))) := ⟨_, rfl⟩
  go_upto_region 2 with fail
  go_cut [22] from 6 (fun s22 wx => s22 = .bool (!ck) ∧ wx = w1)
  case first =>
    clear HB1
    cases nb with
    | false =>
      obtain rfl : ck = false := hck.out
      go_wp2
      go_meet
      case rel => exact ⟨rfl, rfl⟩
    | true =>
      by_cases c1 : 1 ≤ len
      · have e1 : ¬(len : Int) < 1 := by omega
        by_cases c2 : len ≤ 6
        · obtain rfl : ck = true := by rw [hck.out]; simp [c1, c2]
          have e2 : ¬(6 : Int) < (len : Int) := by omega
          clear hck
          go_wp2
          go_meet
          case rel => exact ⟨rfl, rfl⟩
        · obtain rfl : ck = false := by rw [hck.out]; simp [c2]
          have e2 : (6 : Int) < (len : Int) := by omega
          clear hck
          go_wp2
          go_meet
          case rel => exact ⟨rfl, rfl⟩
      · obtain rfl : ck = false := by rw [hck.out]; simp; omega
        have e1 : (len : Int) < 1 := by omega
        clear hck
        go_wp2
        go_meet
        case rel => exact ⟨rfl, rfl⟩
  case rest =>
  obtain ⟨rfl, hwx⟩ := hcut
  rw [hwx]
  clear hwx wc
  have HRd : Hid (r = (ck && d.2.all stepOk)) := by show r = _; rw [hr.out, right_stepsD, hck.out, hnb.out, hnm.out, hlen]
  clear hck hnb hr
  cases ck with
  | false =>
    obtain rfl : r = false := HRd.out
    clear HRd
    go_wp2
    go_ret
    exact ⟨rfl, HB1.out.kept⟩
  | true =>
    have HC0 : Hid (DBox w w1 g ad len cap d ∧ ∀ s ∈ d.2.take 0, stepOk s = true) := ⟨HB1.out, by simp⟩
    have hbl : (len : Int) * 16 ≤ 140737488353280 := HB1.out.df.2.1.2.2.1
    clear HB1 d0 d1
    go_wp2
    go_loopw [4] (fun i wr => ∃ x : Nat, x ≤ len ∧ i = .int .i64 (x : Int) ∧ Hid (DBox w wr g ad len cap d ∧ ∀ s ∈ d.2.take x, stepOk s = true)) (fun i _ => len - (intOf i).toNat)
    case atStart => exact ⟨0, Nat.zero_le _, rfl, HC0⟩
    case round =>
      clear HC0
      obtain ⟨x, hx, rfl, hC⟩ := hrel
      have x0 : (0 : Int) ≤ (x : Int) := by omega
      obtain ⟨d0, d1⟩ := hC.out.1.cells
      by_cases hlt : x < len
      case neg =>
        obtain rfl : x = len := by omega
        have xN : ¬(x : Int) < (x : Int) := by omega
        obtain rfl : r = true := by
          rw [HRd.out]
          have h1 := hC.out.2
          rw [List.take_of_length_le (by omega)] at h1
          rw [List.all_eq_true.2 h1]; rfl
        have HK := Lib.hid hC.out.1.kept
        clear hC HRd
        go_wp2
        go_ret
        exact ⟨rfl, HK.out⟩
      have xN : (x : Int) < (len : Int) := by omega
      have hwx : IntKind.i64.wrap ((x : Int) + 1) = (x : Int) + 1 := IntWalk.i64_in _ (by omega)
      have hxT : x < d.2.length := by omega
      obtain ⟨b, off, rfl, hb, e0, e1, hft⟩ := hC.out.1.df.1.at x hxT
      obtain ⟨s, hs⟩ : ∃ s, Hid (s = d.2[x]) := ⟨d.2[x], rfl⟩
      rw [← hs.out] at e0 e1
      have HT : Hid (d.2.take (x + 1) = d.2.take x ++ [s]) := by show _ = _; rw [hs.out]; exact List.take_succ_eq_append_getElem hxT
      have HMem : Hid (s ∈ d.2) := by show s ∈ d.2; rw [hs.out]; exact List.getElem_mem hxT
      clear hft hs hxT
      have HBn := Lib.hid (Holds.new wr [.int .i64 s.1, .int .i64 s.2] 43)
      have HDn := Lib.hid (hC.out.1.quiet ((Kept.refl _ wr).alloc (.cells #[.int .i64 s.1, .int .i64 s.2] 43)))
      go_upto_region 8 with fail
      have hBs := HBn.out
      change Holds (wr.alloc (.cells #[.int .i64 s.1, .int .i64 s.2] 43)) _ _ _ at hBs
      obtain ⟨eb, heb⟩ : ∃ eb, eb = wr.heap.size := ⟨_, rfl⟩
      rw [← heb] at hBs ⊢
      change Code.wp _ _ _ _ (wr.alloc (.cells #[.int .i64 s.1, .int .i64 s.2] 43))
      generalize wr.alloc (.cells #[.int .i64 s.1, .int .i64 s.2] 43) = wb at HDn hBs ⊢
      clear heb
      have c0 := Holds.cell hBs 0 _ rfl
      have c1 := Holds.cell hBs 1 _ rfl
      obtain ⟨o, ho⟩ : ∃ o, Hid (o = stepOk s) := ⟨_, rfl⟩
      have hoz : Hid (o = !(decide (s.1 < 0) || decide (5 < s.1) || decide (s.2 < 1) || decide (10000 < s.2))) := by
        show o = _
        rw [ho.out]
        unfold stepOk
        rw [Bool.eq_iff_iff]
        simp only [decide_eq_true_eq, Bool.not_eq_true', Bool.or_eq_false_iff, decide_eq_false_iff_not]
        omega
      clear hBs HBn e0 e1 d0 d1 hb
      generalize s.1 = z1 at c0 c1 hoz ⊢
      generalize s.2 = z2 at c0 c1 hoz ⊢
      go_cut [52] from 35 to 52 (fun s52 wx => s52 = .bool (!o) ∧ wx = wb)
      case first =>
        clear hC HT HDn HRd HMem
        rcases Classical.em (z1 < 0) with d1 | d1
        all_goals
          rcases Classical.em (5 < z1) with d2 | d2
          all_goals
            rcases Classical.em (z2 < 1) with d3 | d3
            all_goals
              rcases Classical.em (10000 < z2) with d4 | d4
              all_goals
                first
                | (exfalso; omega; done)
                | (have h := hoz.out
                   simp [d1, d2, d3, d4] at h
                   subst h
                   go_wp2
                   go_meet
                   case rel => exact ⟨rfl, rfl⟩)
      case rest =>
      obtain ⟨rfl, hwx2⟩ := hcut
      rw [hwx2]
      clear hwx2 hoz c0 c1
      cases o with
      | false =>
        obtain rfl : r = false := by
          rw [HRd.out]
          have : d.2.all stepOk = false := List.all_eq_false.2 ⟨s, HMem.out, by rw [← ho.out]; simp⟩
          rw [this]; rfl
        have HK := Lib.hid HDn.out.kept
        clear hC HT HDn HRd HMem ho
        go_wp2
        go_ret
        exact ⟨rfl, HK.out⟩
      | true =>
        have HN : Hid (DBox w wb g (some ⟨b, off, none⟩) len cap d ∧ ∀ s ∈ d.2.take (x + 1), stepOk s = true) := by
          refine ⟨HDn.out, fun c hc => ?_⟩
          rw [HT.out] at hc
          rcases List.mem_append.1 hc with hc | hc
          · exact hC.out.2 c hc
          · rw [List.mem_singleton.1 hc]; exact ho.out.symm
        clear hC HT HDn ho HMem
        go_wp2
        go_roundw
        case rel => exact ⟨x + 1, hlt, by first | rfl | go_num, HN⟩
        case measure => simp [intOf]; omega

end Go.Proofs.Ytgjblcjoglaldaa
