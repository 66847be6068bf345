/- The reference of layer 14, as layer 16 asks it: is a version right? -/
import Derived.Test.YtgcepbpdicadnaaRmt16
import Derived.Test.YtgcepbpdicadnaaJ22
import Derived.Test.YtgcepbpdicadnaaJ20
namespace Go.Proofs.Ytgcepbpdicadnaa
open Go.RowKit Go.Proofs Go.Proofs.Pk
set_option maxRecDepth 10000
attribute [local simp] mk_get wrap64_u8 mk_extract ByteArray.mk_append_mk get_1k

set_option maxHeartbeats 16000000 in
theorem rRight16 (w : World) (ad : Option Addr) (len cap : Nat) (ad2 : Option Addr) (len2 cap2 : Nat) (v : VerV) (h0 : VerW w ad len cap ad2 len2 cap2 v) :
    Calls Try.prog 28 #[verC ad len cap ad2 len2 cap2 v.2.2] w fun e w' => e = .returned (.bool (rightV v)) ∧ Kept (fun _ => False) w w' := by
  have hlen := h0.1.1
  have hlen2 := h0.2.2.1.1
  have hb1 := h0.2.1.2.2.1
  have hb2 := h0.2.2.2.1.2.2.1
  have HB := Lib.hid (VBox.new (Kept.refl _ w) h0)
  obtain ⟨r, hr⟩ : ∃ r, Hid (r = rightV v) := ⟨_, rfl⟩
  have HNO : Hid (¬AlmostR v → r = false) := fun h => by
    rw [hr.out]
    cases k : rightV v with
    | false => rfl
    | true => exact absurd (right_almost k) h
  rw [← hr.out]
  obtain ⟨s, hs⟩ : ∃ s, s = v.2.2 := ⟨_, rfl⟩
  have HS := Lib.hid hs
  clear h0
  unfold verC
  rw [← hs] at HB ⊢
  clear hs
  go_enter Try.func28, Try.ntmps28
  go_upto_region 1 with fail
  obtain ⟨g, hg⟩ : ∃ g, g = w.heap.size := ⟨_, rfl⟩
  rw [← hg] at HB ⊢
  generalize w.alloc (.cells #[.slice ad len cap, .slice ad2 len2 cap2, .int .i64 s] 25) = wa at HB ⊢
  clear hg
  obtain ⟨d0, d1, d2⟩ := HB.out.cells
  rw [← HS.out] at d2
  by_cases c0 : len ≤ 200
  case neg =>
    obtain rfl : r = false := HNO.out (fun h => c0 (by have := h.a.1; omega))
    have f0 : decide ((200 : Int) < (len : Int)) = true := decide_eq_true (by omega)
    clear c0
    go_wp2
    go_ret
    exact ⟨rfl, HB.out.kept⟩
  have f0 : decide ((200 : Int) < (len : Int)) = false := decide_eq_false (by omega)
  by_cases c1 : len2 ≤ 20
  case neg =>
    obtain rfl : r = false := HNO.out (fun h => c1 (by have := h.a.2.1; omega))
    have f1 : decide ((20 : Int) < (len2 : Int)) = true := decide_eq_true (by omega)
    clear c1
    go_wp2
    go_ret
    exact ⟨rfl, HB.out.kept⟩
  have f1 : decide ((20 : Int) < (len2 : Int)) = false := decide_eq_false (by omega)
  by_cases c2 : 0 ≤ s
  case neg =>
    obtain rfl : r = false := HNO.out (fun h => c2 (by have := h.a.2.2.1; rw [HS.out]; exact this))
    have f2 : decide (s < 0) = true := decide_eq_true (by omega)
    clear c2
    go_wp2
    go_ret
    exact ⟨rfl, HB.out.kept⟩
  have f2 : decide (s < 0) = false := decide_eq_false (by omega)
  by_cases c3 : s ≤ 9007199254740991
  case neg =>
    obtain rfl : r = false := HNO.out (fun h => c3 (by have := h.a.2.2.2; rw [HS.out]; exact this))
    have f3 : decide (9007199254740991 < s) = true := decide_eq_true (by omega)
    clear c3
    go_wp2
    go_ret
    exact ⟨rfl, HB.out.kept⟩
  have f3 : decide (9007199254740991 < s) = false := decide_eq_false (by omega)
  have HA : Hid (v.1.length ≤ 200 ∧ v.2.1.length ≤ 20 ∧ 0 ≤ v.2.2 ∧ v.2.2 ≤ 9007199254740991) := ⟨by omega, by omega, by rw [← HS.out]; exact c2, by rw [← HS.out]; exact c3⟩
  have HB0 : Hid (VBox w wa g ad len cap ad2 len2 cap2 v ∧ ∀ n ∈ v.2.1.take 0, 1 ≤ n ∧ n ≤ 9007199254740991) := ⟨HB.out, fun n hn => by simp at hn⟩
  clear c2 c3 HB
  go_wp2
  clear f0 f1 f2 f3
  go_loopw [3] (fun i wr => ∃ j : Nat, j ≤ len2 ∧ i = .int .i64 (j : Int) ∧ Hid (VBox w wr g ad len cap ad2 len2 cap2 v ∧ ∀ n ∈ v.2.1.take j, 1 ≤ n ∧ n ≤ 9007199254740991)) (fun i _ => len2 - (intOf i).toNat)
  case atStart => exact ⟨0, Nat.zero_le _, rfl, HB0⟩
  case round =>
    clear d0 d1 d2
    obtain ⟨j, hj, rfl, hC⟩ := hrel
    clear HB0
    have j0 : (0 : Int) ≤ (j : Int) := by omega
    have hwj : IntKind.i64.wrap ((j : Int) + 1) = (j : Int) + 1 := IntWalk.i64_in _ (by omega)
    obtain ⟨d0, d1, d2⟩ := hC.out.1.cells
    rw [← HS.out] at d2
    by_cases hlt : j < len2
    case neg =>
      obtain rfl : j = len2 := by omega
      have jN : ¬(j : Int) < (j : Int) := by omega
      have HLg : Hid (∀ n ∈ v.2.1, 1 ≤ n ∧ n ≤ 9007199254740991) := by
        have := hC.out.2
        rw [List.take_of_length_le (by omega)] at this
        exact this
      have HB1 := Lib.hid hC.out.1
      clear hC
      have HB2 : Hid (VBox w wr g ad len cap ad2 j cap2 v ∧ (∀ m ∈ v.1.take 0, metaOk m = true) ∧ ∀ i (h : i + 1 < v.1.length), i + 1 < 0 → okM (v.1[i]'(by omega)) v.1[i + 1] = true) := ⟨HB1.out, fun m hm => by simp at hm, fun i _ h => by omega⟩
      clear HB1
      go_wp2
      go_loopw [4] (fun i wr => ∃ k : Nat, k ≤ len ∧ i = .int .i64 (k : Int) ∧ Hid (VBox w wr g ad len cap ad2 j cap2 v ∧ (∀ m ∈ v.1.take k, metaOk m = true) ∧ ∀ i (h : i + 1 < v.1.length), i + 1 < k → okM (v.1[i]'(by omega)) v.1[i + 1] = true)) (fun i _ => len - (intOf i).toNat)
      case atStart => exact ⟨0, Nat.zero_le _, rfl, HB2⟩
      case round =>
        clear d0 d1 d2 jN hwj j0 hlt hj
        rename World => wr2
        obtain ⟨k, hk, rfl, hC⟩ := hrel
        clear HB2
        have k0 : (0 : Int) ≤ (k : Int) := by omega
        have hwk : IntKind.i64.wrap ((k : Int) + 1) = (k : Int) + 1 := IntWalk.i64_in _ (by omega)
        obtain ⟨d0, d1, d2⟩ := hC.out.1.cells
        rw [← HS.out] at d2
        by_cases hkl : k < len
        case neg =>
          obtain rfl : k = len := by omega
          have kN : ¬(k : Int) < (k : Int) := by omega
          have hal : AlmostR v := by
            refine ⟨HA.out, HLg.out, ?_, fun i h => hC.out.2.2 i h (by omega)⟩
            have := hC.out.2.1
            rw [List.take_of_length_le (by omega)] at this
            exact this
          have HR : Hid (r = decide (idsV v).Nodup) := by rw [hr.out]; exact almost_right hal
          have HI := Lib.hid (rIds16 wr2 ad k cap ad2 j cap2 v hC.out.1.ver (by omega) (by omega))
          unfold verC at HI
          rw [← HS.out] at HI
          have HB3 := Lib.hid hC.out.1
          clear hal hC
          go_wp2_with fail
          refine HI.out.mono ?_
          rintro e w4 ⟨la, lm, lc, rfl, hla, hlm, hk4⟩
          have HK4 := Lib.hid (HB3.out.kept.trans hk4 (fun _ f => f.elim))
          have HT := Lib.hid (rTwice16 w4 la lm lc (idsV v) hla (by omega))
          obtain ⟨tw, htw⟩ : ∃ tw, Hid (tw = decide ¬(idsV v).Nodup) := ⟨_, rfl⟩
          rw [← htw.out] at HT
          have HRT : Hid (r = !tw) := by
            show r = !tw
            rw [HR.out, htw.out]; by_cases h : (idsV v).Nodup <;> simp [h]
          clear hla hlm hk4 HI HB3
          go_wp2_with fail
          refine HT.out.mono ?_
          rintro e w5 ⟨rfl, hk5⟩
          have HK5 := Lib.hid (HK4.out.trans hk5 (fun _ f => f.elim))
          clear hk5 HT HK4
          obtain rfl : r = !tw := HRT.out
          go_wp2
          go_ret
          exact ⟨rfl, HK5.out⟩
        have kN : (k : Int) < (len : Int) := by omega
        have hkT : k < v.1.length := by omega
        obtain ⟨b, off, rfl, hbl, e0, e1, e2, e3, e4, -⟩ := hC.out.1.ver.1.at k hkT
        obtain ⟨m, hm⟩ : ∃ m, Hid (m = v.1[k]) := ⟨v.1[k], rfl⟩
        rw [← hm.out] at e0 e1 e2 e3 e4
        have HMem : Hid (m ∈ v.1) := by rw [hm.out]; exact List.getElem_mem hkT
        have HST : Hid (v.1.take (k + 1) = v.1.take k ++ [m]) := by rw [hm.out]; exact List.take_succ_eq_append_getElem hkT
        go_upto_region 12 with fail
        obtain ⟨gx, hgx⟩ : ∃ gx, gx = wr2.heap.size := ⟨_, rfl⟩
        have HI8 : Hid (VBox w (wr2.alloc (.cells #[.int .i64 m.1, .int .i64 m.2.1, .string ⟨m.2.2.1.toArray⟩, .string ⟨m.2.2.2.1.toArray⟩, .int .i64 m.2.2.2.2] 49)) g (some ⟨b, off, none⟩) len cap ad2 j cap2 v ∧
            Holds (wr2.alloc (.cells #[.int .i64 m.1, .int .i64 m.2.1, .string ⟨m.2.2.1.toArray⟩, .string ⟨m.2.2.2.1.toArray⟩, .int .i64 m.2.2.2.2] 49)) gx (metaC m) 49) := by
          rw [hgx]; exact ⟨hC.out.1.quiet ((Kept.refl _ _).alloc _), Holds.new wr2 (metaC m) _⟩
        rw [← hgx]
        generalize wr2.alloc (.cells #[.int .i64 m.1, .int .i64 m.2.1, .string ⟨m.2.2.1.toArray⟩, .string ⟨m.2.2.2.1.toArray⟩, .int .i64 m.2.2.2.2] 49) = w8 at HI8 ⊢
        have HPre := Lib.hid hC.out.2
        clear hgx hC e0 e1 e2 e3 e4 hbl d0 d1 d2
        have HMe : Hid (Calls Try.prog 44 #[.agg #[.int .i64 m.1, .int .i64 m.2.1, .string ⟨m.2.2.1.toArray⟩, .string ⟨m.2.2.2.1.toArray⟩, .int .i64 m.2.2.2.2]] w8 fun r w' => r = .returned (.bool (metaOk m)) ∧ Kept (fun _ => False) w8 w') := rMeta16 m w8
        obtain ⟨mo, hmo⟩ : ∃ mo, Hid (mo = metaOk m) := ⟨_, rfl⟩
        rw [← hmo.out] at HMe
        have x0 : w8.cell? ⟨gx, 0, none⟩ = some (.int .i64 m.1) := HI8.out.2.cell 0 _ rfl
        have x1 : w8.cell? ⟨gx, 1, none⟩ = some (.int .i64 m.2.1) := HI8.out.2.cell 1 _ rfl
        have x2 : w8.cell? ⟨gx, 2, none⟩ = some (.string ⟨m.2.2.1.toArray⟩) := HI8.out.2.cell 2 _ rfl
        have x3 : w8.cell? ⟨gx, 3, none⟩ = some (.string ⟨m.2.2.2.1.toArray⟩) := HI8.out.2.cell 3 _ rfl
        have x4 : w8.cell? ⟨gx, 4, none⟩ = some (.int .i64 m.2.2.2.2) := HI8.out.2.cell 4 _ rfl
        go_wp2_with fail
        refine HMe.out.mono ?_
        rintro e w9 ⟨rfl, hk9⟩
        have HI9 : Hid (VBox w w9 g (some ⟨b, off, none⟩) len cap ad2 j cap2 v ∧ Holds w9 gx (metaC m) 49) := ⟨HI8.out.1.quiet hk9, HI8.out.2.of_block (hk9.block gx HI8.out.2.lt (fun f => f))⟩
        clear hk9 HMe HI8 x0 x1 x2 x3 x4
        cases mo with
        | false =>
          obtain rfl : r = false := HNO.out (fun h => by have h1 := h.c m HMem.out; have h2 := hmo.out; rw [h1] at h2; cases h2)
          go_wp2
          go_ret
          exact ⟨rfl, HI9.out.1.kept⟩
        | true =>
          have HMs : Hid (∀ z ∈ v.1.take (k + 1), metaOk z = true) := fun z hz => by
            rw [HST.out] at hz
            rcases List.mem_append.1 hz with hz | hz
            · exact HPre.out.1 z hz
            · rw [List.mem_singleton.1 hz]; exact hmo.out.symm
          have hm0 := (meta_of hmo.out.symm).2.2.1
          by_cases hk0 : k = 0
          case pos =>
            subst hk0
            have HN : Hid (VBox w w9 g (some ⟨b, off, none⟩) len cap ad2 j cap2 v ∧ (∀ m ∈ v.1.take (0 + 1), metaOk m = true) ∧ ∀ i (h : i + 1 < v.1.length), i + 1 < 0 + 1 → okM (v.1[i]'(by omega)) v.1[i + 1] = true) := ⟨HI9.out.1, HMs.out, fun i _ h => by omega⟩
            clear hm hkT
            go_wp2
            go_roundw
            case rel => exact ⟨0 + 1, by omega, by first | rfl | go_num, HN⟩
            case measure => simp [intOf]; omega
          obtain ⟨q, hq⟩ : ∃ q : Nat, q = k - 1 := ⟨_, rfl⟩
          have hwq : IntKind.i64.wrap ((k : Int) - 1) = (q : Int) := by rw [IntWalk.i64_in _ (by omega)]; omega
          have kz : ((k : Int) == 0) = false := by simp only [beq_eq_false_iff_ne, ne_eq]; omega
          have q0 : (0 : Int) ≤ (q : Int) := by omega
          have qN : (q : Int) < (len : Int) := by omega
          have hqT : q < v.1.length := by omega
          have HQ : Hid (q + 1 = k) := by show q + 1 = k; omega
          clear hq
          obtain ⟨d0, d1, d2⟩ := HI9.out.1.cells
          rw [← HS.out] at d2
          obtain ⟨b', off', hbb, hbl, e0, e1, e2, e3, e4, -⟩ := HI9.out.1.ver.1.at q hqT
          obtain ⟨rfl, rfl⟩ : b' = b ∧ off' = off := by simp at hbb; exact ⟨hbb.1.symm, hbb.2.symm⟩
          obtain ⟨p, hp⟩ : ∃ p, Hid (p = v.1[q]) := ⟨v.1[q], rfl⟩
          rw [← hp.out] at e0 e1 e2 e3 e4
          have HNoR : Hid (okM p m = false → r = false) := fun h => HNO.out (fun h1 => by
            have hq := HQ.out
            have h2 := h1.d q (by omega)
            have h3 : v.1[q + 1]'(by omega) = m := by rw [hm.out]; congr 1
            rw [h3, ← hp.out, h] at h2
            cases h2)
          have HOkN : Hid (okM p m = true → ∀ i (h : i + 1 < v.1.length), i + 1 < k + 1 → okM (v.1[i]'(by omega)) v.1[i + 1] = true) := fun h i hi hik => by
            by_cases h1 : i + 1 < k
            · exact HPre.out.2 i hi h1
            · obtain rfl : i = q := by have := HQ.out; omega
              have hq := HQ.out
              have h3 : v.1[i + 1]'(by omega) = m := by rw [hm.out]; congr 1
              rw [h3, ← hp.out]; exact h
          clear hbb hp hm hqT hkT
          go_upto_region 17 with fail
          obtain ⟨gp, hgp⟩ : ∃ gp, gp = w9.heap.size := ⟨_, rfl⟩
          have HI10 : Hid ((VBox w (w9.alloc (.cells #[.int .i64 p.1, .int .i64 p.2.1, .string ⟨p.2.2.1.toArray⟩, .string ⟨p.2.2.2.1.toArray⟩, .int .i64 p.2.2.2.2] 49)) g (some ⟨b', off', none⟩) len cap ad2 j cap2 v ∧
              Holds (w9.alloc (.cells #[.int .i64 p.1, .int .i64 p.2.1, .string ⟨p.2.2.1.toArray⟩, .string ⟨p.2.2.2.1.toArray⟩, .int .i64 p.2.2.2.2] 49)) gx (metaC m) 49) ∧
              Holds (w9.alloc (.cells #[.int .i64 p.1, .int .i64 p.2.1, .string ⟨p.2.2.1.toArray⟩, .string ⟨p.2.2.2.1.toArray⟩, .int .i64 p.2.2.2.2] 49)) gp (metaC p) 49) := by
            rw [hgp]; exact ⟨⟨HI9.out.1.quiet ((Kept.refl _ _).alloc _), HI9.out.2.alloc _⟩, Holds.new w9 (metaC p) _⟩
          rw [← hgp]
          generalize w9.alloc (.cells #[.int .i64 p.1, .int .i64 p.2.1, .string ⟨p.2.2.1.toArray⟩, .string ⟨p.2.2.2.1.toArray⟩, .int .i64 p.2.2.2.2] 49) = w10 at HI10 ⊢
          clear hgp HI9 e0 e1 e2 e3 e4 hbl d0 d1 d2
          have x0 : w10.cell? ⟨gx, 0, none⟩ = some (.int .i64 m.1) := HI10.out.1.2.cell 0 _ rfl
          have x1 : w10.cell? ⟨gx, 1, none⟩ = some (.int .i64 m.2.1) := HI10.out.1.2.cell 1 _ rfl
          have x2 : w10.cell? ⟨gx, 2, none⟩ = some (.string ⟨m.2.2.1.toArray⟩) := HI10.out.1.2.cell 2 _ rfl
          have p0 : w10.cell? ⟨gp, 0, none⟩ = some (.int .i64 p.1) := HI10.out.2.cell 0 _ rfl
          have p1 : w10.cell? ⟨gp, 1, none⟩ = some (.int .i64 p.2.1) := HI10.out.2.cell 1 _ rfl
          have p3 : w10.cell? ⟨gp, 3, none⟩ = some (.string ⟨p.2.2.2.1.toArray⟩) := HI10.out.2.cell 3 _ rfl
          obtain ⟨o, ho⟩ : ∃ o, Hid (o = okM p m) := ⟨_, rfl⟩
          have ho2 : o = decide (p.2.1 < m.2.1 ∨ p.2.1 = m.2.1 ∧ (m.2.1 = 0 ∧ p.1 < m.1 ∨ m.2.1 ≠ 0 ∧ p.2.2.2.1 < m.2.2.1)) := by rw [ho.out]; rfl
          rw [← ho.out] at HNoR HOkN
          have HNx : Hid (o = true → VBox w w10 g (some ⟨b', off', none⟩) len cap ad2 j cap2 v ∧ (∀ m ∈ v.1.take (k + 1), metaOk m = true) ∧ ∀ i (h : i + 1 < v.1.length), i + 1 < k + 1 → okM (v.1[i]'(by omega)) v.1[i + 1] = true) := fun h => ⟨HI10.out.1.1, HMs.out, HOkN.out h⟩
          have HKp := Lib.hid HI10.out.1.1.kept
          obtain ⟨pl, hpl⟩ : ∃ pl, pl = p.2.1 := ⟨_, rfl⟩
          obtain ⟨ml, hml⟩ : ∃ ml, ml = m.2.1 := ⟨_, rfl⟩
          obtain ⟨pi, hpi⟩ : ∃ pi, pi = p.1 := ⟨_, rfl⟩
          obtain ⟨mi, hmi⟩ : ∃ mi, mi = m.1 := ⟨_, rfl⟩
          obtain ⟨px, hpx⟩ : ∃ px, px = p.2.2.2.1 := ⟨_, rfl⟩
          obtain ⟨mn, hmn⟩ : ∃ mn, mn = m.2.2.1 := ⟨_, rfl⟩
          rw [← hpl, ← hml, ← hpi, ← hmi, ← hpx, ← hmn] at ho2
          rw [← hpl] at p1
          rw [← hpi] at p0
          rw [← hpx] at p3
          rw [← hml] at x1 hm0
          rw [← hmi] at x0
          rw [← hmn] at x2
          have HO2 := Lib.hid ho2
          clear ho2 hpl hml hpi hmi hpx hmn ho hmo HOkN HI10
          by_cases cA : ml < pl
          case pos =>
            have hof : o = false := by rw [HO2.out]; exact decide_eq_false (by omega)
            obtain rfl : r = false := HNoR.out hof
            have fA : decide (ml < pl) = true := decide_eq_true cA
            clear cA hof
            go_wp2
            go_ret
            exact ⟨rfl, HKp.out⟩
          have fA : decide (ml < pl) = false := decide_eq_false cA
          by_cases cB : pl = ml
          case neg =>
            have hot : o = true := by rw [HO2.out]; exact decide_eq_true (.inl (by omega))
            have HN := Lib.hid (HNx.out hot)
            have fB : (pl == ml) = false := by simpa using cB
            clear cA cB hot
            go_wp2
            go_roundw
            case rel => exact ⟨k + 1, hkl, by first | rfl | go_num, HN⟩
            case measure => simp [intOf]; omega
          subst cB
          clear cA
          by_cases cZ : pl = 0
          case pos =>
            subst cZ
            by_cases cI : pi < mi
            case pos =>
              have hot : o = true := by rw [HO2.out]; exact decide_eq_true (.inr ⟨rfl, .inl ⟨rfl, cI⟩⟩)
              have HN := Lib.hid (HNx.out hot)
              have fI : decide (mi ≤ pi) = false := decide_eq_false (by omega)
              clear cI hot
              go_wp2
              go_roundw
              case rel => exact ⟨k + 1, hkl, by first | rfl | go_num, HN⟩
              case measure => simp [intOf]; omega
            have hof : o = false := by rw [HO2.out]; exact decide_eq_false (by omega)
            obtain rfl : r = false := HNoR.out hof
            have fI : decide (mi ≤ pi) = true := decide_eq_true (by omega)
            clear cI hof
            go_wp2
            go_ret
            exact ⟨rfl, HKp.out⟩
          have fZ : (pl == 0) = false := by simpa using cZ
          have fP : decide (0 < pl) = true := decide_eq_true (by omega)
          by_cases cX : px < mn
          case pos =>
            have hot : o = true := by rw [HO2.out]; exact decide_eq_true (.inr ⟨rfl, .inr ⟨cZ, cX⟩⟩)
            have HN := Lib.hid (HNx.out hot)
            have fX : Op.bytesLess px mn = true := by rw [bytesLess_eq]; exact decide_eq_true cX
            clear cX cZ hot
            go_wp2
            go_roundw
            case rel => exact ⟨k + 1, hkl, by first | rfl | go_num, HN⟩
            case measure => simp [intOf]; omega
          have hof : o = false := by
            rw [HO2.out]; refine decide_eq_false ?_
            rintro (h | ⟨_, ⟨h, _⟩ | ⟨_, h⟩⟩)
            · omega
            · exact cZ h
            · exact cX h
          obtain rfl : r = false := HNoR.out hof
          have fX : Op.bytesLess px mn = false := by rw [bytesLess_eq]; exact decide_eq_false cX
          clear cX cZ hof
          go_wp2
          go_ret
          exact ⟨rfl, HKp.out⟩
    have jN : (j : Int) < (len2 : Int) := by omega
    have hjT : j < v.2.1.length := by omega
    obtain ⟨b, off, rfl, hbl, e0⟩ := ints_at hC.out.1.ver.2.2.1 j hjT
    obtain ⟨n, hn⟩ : ∃ n, Hid (n = v.2.1[j]) := ⟨v.2.1[j], rfl⟩
    rw [← hn.out] at e0
    have HMem : Hid (n ∈ v.2.1) := by rw [hn.out]; exact List.getElem_mem hjT
    have HST : Hid (v.2.1.take (j + 1) = v.2.1.take j ++ [n]) := by rw [hn.out]; exact List.take_succ_eq_append_getElem hjT
    clear hjT hn
    by_cases g0 : 1 ≤ n
    case neg =>
      obtain rfl : r = false := HNO.out (fun h => g0 (h.b n HMem.out).1)
      have f0 : decide (n < 1) = true := decide_eq_true (by omega)
      clear g0
      go_wp2
      go_ret
      exact ⟨rfl, hC.out.1.kept⟩
    have f0 : decide (n < 1) = false := decide_eq_false (by omega)
    by_cases g1 : n ≤ 9007199254740991
    case neg =>
      obtain rfl : r = false := HNO.out (fun h => g1 (h.b n HMem.out).2)
      have f1 : decide (9007199254740991 < n) = true := decide_eq_true (by omega)
      clear g1 g0
      go_wp2
      go_ret
      exact ⟨rfl, hC.out.1.kept⟩
    have f1 : decide (9007199254740991 < n) = false := decide_eq_false (by omega)
    have HN : Hid (VBox w wr g ad len cap (some ⟨b, off, none⟩) len2 cap2 v ∧ ∀ n ∈ v.2.1.take (j + 1), 1 ≤ n ∧ n ≤ 9007199254740991) := by
      refine ⟨hC.out.1, fun z hz => ?_⟩
      rw [HST.out] at hz
      rcases List.mem_append.1 hz with hz | hz
      · exact hC.out.2 z hz
      · rw [List.mem_singleton.1 hz]; exact ⟨g0, g1⟩
    clear g0 g1 hC
    go_wp2
    go_roundw
    case rel => exact ⟨j + 1, hlt, by first | rfl | go_num, HN⟩
    case measure => simp [intOf]; omega

end Go.Proofs.Ytgcepbpdicadnaa
