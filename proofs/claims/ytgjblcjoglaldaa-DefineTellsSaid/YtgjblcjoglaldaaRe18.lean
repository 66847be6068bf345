/- The reference of layer 18: num, Tries, Encode (printed by genre18.py). -/
import Derived.Test.YtgjblcjoglaldaaRd18
import Derived.Test.YtgjblcjoglaldaaRefN
import Derived.Test.YtgjblcjoglaldaaRefX
import Derived.Test.YtgjblcjoglaldaaOrdS
import Derived.Test.YtgjblcjoglaldaaOrd2
namespace Go.Proofs.Ytgjblcjoglaldaa
open Go.RowKit Go.Proofs Go.Proofs.Pk
set_option maxRecDepth 10000
attribute [local simp] mk_get wrap64_u8 mk_extract ByteArray.mk_append_mk get_1k

theorem refNum18 (n : Int) (w : World) (h0 : 0 ≤ n) (hn : n ≤ 9007199254740991) : Calls Try.prog 29 #[.int .i64 n] w fun e w' => e = .returned (.string ⟨(numL n.toNat).toArray⟩) ∧ Kept (fun _ => False) w w' := by
  obtain ⟨m, rfl⟩ : ∃ m : Nat, n = (m : Int) := ⟨n.toNat, by omega⟩
  have H := Lib.hid (rNum_ok m w (by unfold MaxN; omega))
  rw [show ((m : Int)).toNat = m from rfl]
  go_enter Try.func29, Try.ntmps29
  go_wp2_with fail
  refine H.out.mono ?_
  rintro e wx ⟨rfl, hb⟩
  have HB := Lib.hid hb
  clear hb H
  go_wp2
  go_ret
  exact ⟨rfl, Kept.of_below _ HB.out⟩

theorem sum_take {l : List StV} {i : Nat} (hi : i < l.length) : sumD (l.take (i + 1)) = sumD (l.take i) + 2 * (l[i].1 + 1) := by
  rw [List.take_succ_eq_append_getElem hi, sum_snoc]

set_option maxHeartbeats 8000000 in
theorem rTries18 (w : World) (ad : Option Addr) (len cap : Nat) (d : DefV) (h0 : DefW w ad len cap d) :
    Calls Try.prog 14 #[defC d.1 ad len cap] w fun e w' => e = .returned (.int .i64 (triesD d)) ∧ Kept (fun _ => False) w w' := by
  obtain ⟨r, hr⟩ : ∃ r, Hid (r = triesD d) := ⟨_, rfl⟩
  rw [← hr.out]
  have hlen := h0.1.1
  have hbl : (len : Int) * 16 ≤ 140737488353280 := h0.2.1.2.2.1
  have HB := Lib.hid (DBox.new (Kept.refl _ w) h0)
  obtain ⟨nm, hnm⟩ : ∃ nm, Hid (nm = d.1) := ⟨_, rfl⟩
  unfold defC
  rw [← hnm.out] at HB ⊢
  clear h0
  go_enter Try.func14, Try.ntmps14
  go_upto_region 1 with fail
  obtain ⟨g, hg⟩ : ∃ g, g = w.heap.size := ⟨_, rfl⟩
  rw [← hg] at HB ⊢
  change Code.wp _ _ _ _ (w.alloc (.cells #[.string ⟨nm.toArray⟩, .slice ad len cap] 24))
  generalize w.alloc (.cells #[.string ⟨nm.toArray⟩, .slice ad len cap] 24) = wa at HB ⊢
  clear hg
  obtain ⟨d0, d1⟩ := HB.out.cells
  rw [← hnm.out] at d0
  have HR := Lib.hid (rRight18 wa ad len cap d HB.out.df)
  unfold defC at HR
  rw [← hnm.out] at HR
  go_wp2_with fail
  refine HR.out.mono ?_
  rintro e w1 ⟨rfl, hk⟩
  have HB1 := Lib.hid (HB.out.quiet hk)
  clear hk HB HR d0 d1
  obtain ⟨ok, hok⟩ : ∃ ok, Hid (ok = rightD d) := ⟨_, rfl⟩
  rw [← hok.out]
  cases ok with
  | false =>
    obtain rfl : r = 0 := by rw [hr.out]; exact tries_wrong hok.out.symm
    have HK := Lib.hid HB1.out.kept
    obtain ⟨d0, d1⟩ := HB1.out.cells
    clear HB1 hr hok
    by_cases hl : 0 < len
    · have e1 : (0 : Int) < (len : Int) := by omega
      go_wp2
      go_loopw [4, 5] (fun n i wr => n = .int .i64 0 ∧ i = .int .i64 0 ∧ wr = w1) (fun _ _ _ => 0)
      case atStart => exact ⟨rfl, rfl, rfl⟩
      case round =>
        obtain ⟨rfl, rfl, hwr⟩ := hrel
        rw [hwr]
        go_wp2
        go_ret
        exact ⟨rfl, HK.out⟩
    · have e1 : ¬(0 : Int) < (len : Int) := by omega
      go_wp2
      go_loopw [4, 5] (fun n i wr => n = .int .i64 0 ∧ i = .int .i64 0 ∧ wr = w1) (fun _ _ _ => 0)
      case atStart => exact ⟨rfl, rfl, rfl⟩
      case round =>
        obtain ⟨rfl, rfl, hwr⟩ := hrel
        rw [hwr]
        go_wp2
        go_ret
        exact ⟨rfl, HK.out⟩
  | true =>
    have HRt : Hid (rightD d = true) := hok.out.symm
    have hst : Hid (∀ s ∈ d.2, stepOk s = true) := (right_ofD HRt.out).2.2
    have hl6 : len ≤ 6 := by have := (right_ofD HRt.out).2.1.2; omega
    have HC0 : Hid (DBox w w1 g ad len cap d ∧ (0 : Int) = sumD (d.2.take 0)) := ⟨HB1.out, rfl⟩
    have HRv : Hid (r = sumD d.2) := by show r = _; rw [hr.out]; exact tries_right HRt.out
    clear HB1 hr hok
    go_wp2
    go_loopw [4, 5] (fun n i wr => ∃ (x : Nat) (y : Int), x ≤ len ∧ (0 ≤ y ∧ y ≤ 12 * (x : Int)) ∧ n = .int .i64 y ∧ i = .int .i64 (x : Int) ∧ Hid (DBox w wr g ad len cap d ∧ y = sumD (d.2.take x))) (fun _ i _ => len - (intOf i).toNat)
    case atStart => exact ⟨0, 0, Nat.zero_le _, ⟨by omega, by omega⟩, rfl, rfl, HC0⟩
    case round =>
      clear HC0
      obtain ⟨x, y, hx, ⟨hy0, hy1⟩, rfl, rfl, hC⟩ := hrel
      have x0 : (0 : Int) ≤ (x : Int) := by omega
      obtain ⟨d0, d1⟩ := hC.out.1.cells
      by_cases hlt : x < len
      case neg =>
        obtain rfl : x = len := by omega
        have xN : ¬(x : Int) < (x : Int) := by omega
        obtain rfl : y = r := by
          rw [HRv.out, hC.out.2, List.take_of_length_le (by omega)]
        have HK := Lib.hid hC.out.1.kept
        clear hC HRv
        go_wp2
        go_ret
        exact ⟨rfl, HK.out⟩
      have xN : (x : Int) < (len : Int) := by omega
      have hwx : IntKind.i64.wrap ((x : Int) + 1) = (x : Int) + 1 := IntWalk.i64_in _ (by omega)
      have hxT : x < d.2.length := by omega
      obtain ⟨b, off, rfl, hb, e0, e1, hft⟩ := hC.out.1.df.1.at x hxT
      have hs1 := step_of (hst.out _ (List.getElem_mem hxT))
      have hst2 := sum_take hxT
      obtain ⟨z, hz⟩ : ∃ z, z = d.2[x].1 := ⟨_, rfl⟩
      rw [← hz] at e0 hs1 hst2
      have w1' : IntKind.i64.wrap (z + 1) = z + 1 := IntWalk.i64_in _ (by omega)
      have w2' : IntKind.i64.wrap (2 * (z + 1)) = 2 * (z + 1) := IntWalk.i64_in _ (by omega)
      have w3' : IntKind.i64.wrap (y + 2 * (z + 1)) = y + 2 * (z + 1) := IntWalk.i64_in _ (by omega)
      have HN : Hid (DBox w wr g (some ⟨b, off, none⟩) len cap d ∧ y + 2 * (z + 1) = sumD (d.2.take (x + 1))) := ⟨hC.out.1, by rw [hst2, ← hC.out.2]⟩
      have hyn : 0 ≤ y + 2 * (z + 1) ∧ y + 2 * (z + 1) ≤ 12 * ((x + 1 : Nat) : Int) := by omega
      clear hC hz hst2 hft e1 hs1
      go_wp2
      go_roundw
      case rel => exact ⟨x + 1, y + 2 * (z + 1), hlt, hyn, rfl, by first | rfl | go_num, HN⟩
      case measure => simp [intOf]; omega

/-- What stands while a step is written: the definition's box, the step's cells. -/
structure ESt (w W : World) (g b off x : Nat) (len cap : Nat) (d : DefV) (s : StV) : Prop where
  bx : DBox w W g (some ⟨b, off, none⟩) len cap d
  lt : b < W.heap.size
  e0 : W.cell? ⟨b, off + x * 2, none⟩ = some (.int .i64 s.1)
  e1 : W.cell? ⟨b, off + x * 2 + 1, none⟩ = some (.int .i64 s.2)
theorem ESt.quiet {w W W' : World} {g b off x len cap : Nat} {d : DefV} {s : StV} (h : ESt w W g b off x len cap d s) (k : Kept (fun _ => False) W W') : ESt w W' g b off x len cap d s :=
  ⟨h.bx.quiet k, Nat.lt_of_lt_of_le h.lt k.size, (k.cell (p := ⟨b, off + x * 2, none⟩) h.lt (fun f => f)).trans h.e0, (k.cell (p := ⟨b, off + x * 2 + 1, none⟩) h.lt (fun f => f)).trans h.e1⟩
theorem ESt.at {w W : World} {g b off x len cap : Nat} {d : DefV} {s : StV} (h : ESt w W g b off x len cap d s) :
    (W.cell? ⟨g, 0, none⟩ = some (.string ⟨d.1.toArray⟩) ∧ W.cell? ⟨g, 1, none⟩ = some (.slice (some ⟨b, off, none⟩) len cap)) ∧ W.cell? ⟨b, off + x * 2, none⟩ = some (.int .i64 s.1) ∧ W.cell? ⟨b, off + x * 2 + 1, none⟩ = some (.int .i64 s.2) ∧ b < W.heap.size :=
  ⟨h.bx.cells, h.e0, h.e1, h.lt⟩

set_option maxHeartbeats 8000000 in
theorem rEnc18 (w : World) (ad : Option Addr) (len cap : Nat) (d : DefV) (h0 : DefW w ad len cap d) :
    Calls Try.prog 16 #[defC d.1 ad len cap] w fun e w' => e = .returned (.tuple #[.string ⟨(encD d).1.toArray⟩, .bool (encD d).2]) ∧ Kept (fun _ => False) w w' := by
  obtain ⟨r, hr⟩ : ∃ r, Hid (r = encD d) := ⟨_, rfl⟩
  rw [← hr.out]
  have hlen := h0.1.1
  have HB := Lib.hid (DBox.new (Kept.refl _ w) h0)
  obtain ⟨nm, hnm⟩ : ∃ nm, Hid (nm = d.1) := ⟨_, rfl⟩
  unfold defC
  rw [← hnm.out] at HB ⊢
  clear h0
  go_enter Try.func16, Try.ntmps16
  go_upto_region 1 with fail
  obtain ⟨g, hg⟩ : ∃ g, g = w.heap.size := ⟨_, rfl⟩
  rw [← hg] at HB ⊢
  change Code.wp _ _ _ _ (w.alloc (.cells #[.string ⟨nm.toArray⟩, .slice ad len cap] 24))
  generalize w.alloc (.cells #[.string ⟨nm.toArray⟩, .slice ad len cap] 24) = wa at HB ⊢
  clear hg
  obtain ⟨d0, d1⟩ := HB.out.cells
  rw [← hnm.out] at d0
  have HR := Lib.hid (rRight18 wa ad len cap d HB.out.df)
  unfold defC at HR
  rw [← hnm.out] at HR
  go_wp2_with fail
  refine HR.out.mono ?_
  rintro e w1 ⟨rfl, hk⟩
  have HB1 := Lib.hid (HB.out.quiet hk)
  clear hk HB HR d0 d1
  obtain ⟨ok, hok⟩ : ∃ ok, Hid (ok = rightD d) := ⟨_, rfl⟩
  rw [← hok.out]
  cases ok with
  | false =>
    have HV : Hid (r = ([], false)) := by show r = _; rw [hr.out]; exact encD_wrong hok.out.symm
    have HK := Lib.hid HB1.out.kept
    clear HB1 hr hok
    go_wp2
    go_ret2
    exact ⟨by rw [HV.out]; rfl, HK.out⟩
  | true =>
    have HRt : Hid (rightD d = true) := hok.out.symm
    have HV : Hid (r = (bodyD d, true)) := by show r = _; rw [hr.out]; exact encD_right HRt.out
    have hst : Hid (∀ s ∈ d.2, stepOk s = true) := (right_ofD HRt.out).2.2
    have hl6 : 1 ≤ len ∧ len ≤ 6 := by have := (right_ofD HRt.out).2.1; omega
    have hn20 : nm.length ≤ 20 := by have := (name_ofD (right_ofD HRt.out).1).2.2; rw [hnm.out]; exact this
    clear hr hok
    obtain ⟨d0, d1⟩ := HB1.out.cells
    rw [← hnm.out] at d0
    have CT := Lib.hid (fun W : World => rText_ok nm W (by omega))
    have CN := Lib.hid (fun W : World => refNum18 (len : Int) W (by omega) (by omega))
    rw [show ((len : Int)).toNat = len from rfl] at CN
    have HBD : Hid (bodyD d = txtL nm ++ numL len ++ d.2.flatMap stepB) := by show bodyD d = _; unfold bodyD; rw [hnm.out, hlen]
    obtain ⟨T, hT⟩ : ∃ T, Hid (T = txtL nm) := ⟨_, rfl⟩
    obtain ⟨M, hM⟩ : ∃ M, Hid (M = numL len) := ⟨_, rfl⟩
    have hTl : T.length ≤ 28 := by rw [hT.out]; unfold txtL; rw [List.length_append]; have := numL_len_le nm.length; omega
    have hMl : M.length ≤ 8 := by rw [hM.out]; exact numL_len_le _
    rw [← hT.out] at CT HBD
    rw [← hM.out] at CN HBD
    clear hT hM
    go_wp2_with fail
    refine (CT.out _).mono ?_
    rintro e w2 ⟨rfl, hb⟩
    have HB2 := Lib.hid (HB1.out.quiet (Kept.of_below _ hb))
    clear hb CT HB1 d0 d1
    obtain ⟨d0, d1⟩ := HB2.out.cells
    go_wp2_with fail
    refine (CN.out _).mono ?_
    rintro e w3 ⟨rfl, hk⟩
    have HC0 : Hid (DBox w w3 g ad len cap d) := HB2.out.quiet hk
    clear hk CN HB2 d0 d1
    go_wp2
    go_loopw [5, 7] (fun o i wr => ∃ (x : Nat) (O : DTxt), x ≤ len ∧ O.length ≤ 36 + 16 * x ∧ o = .string ⟨O.toArray⟩ ∧ i = .int .i64 (x : Int) ∧ Hid (DBox w wr g ad len cap d) ∧ Hid (O = T ++ M ++ (d.2.take x).flatMap stepB)) (fun _ i _ => len - (intOf i).toNat)
    case atStart => exact ⟨0, T ++ M, Nat.zero_le _, by rw [List.length_append]; omega, by simp, rfl, HC0, by show _ = _; simp⟩
    case round =>
      clear HC0
      obtain ⟨x, oj, hx, hol, rfl, rfl, hC, hO⟩ := hrel
      have x0 : (0 : Int) ≤ (x : Int) := by omega
      obtain ⟨d0, d1⟩ := hC.out.cells
      by_cases hlt : x < len
      case neg =>
        obtain rfl : x = len := by omega
        have xN : ¬(x : Int) < (x : Int) := by omega
        have HK := Lib.hid hC.out.kept
        have HV2 : Hid (r = (oj, true)) := by show r = _; rw [HV.out, HBD.out, hO.out, List.take_of_length_le (by omega)]
        clear hC HV HBD hO
        go_wp2
        go_ret2
        exact ⟨by rw [HV2.out]; rfl, HK.out⟩
      have xN : (x : Int) < (len : Int) := by omega
      have hwx : IntKind.i64.wrap ((x : Int) + 1) = (x : Int) + 1 := IntWalk.i64_in _ (by omega)
      have hxT : x < d.2.length := by omega
      obtain ⟨b, off, rfl, hb, e0, e1, hft⟩ := hC.out.df.1.at x hxT
      have hs1 := step_of (hst.out _ (List.getElem_mem hxT))
      obtain ⟨s, hs⟩ : ∃ s, Hid (s = d.2[x]) := ⟨d.2[x], rfl⟩
      rw [← hs.out] at e0 e1 hs1
      have HT : Hid ((d.2.take (x + 1)).flatMap stepB = (d.2.take x).flatMap stepB ++ (numL s.1.toNat ++ numL s.2.toNat)) := by show _ = _; rw [List.take_succ_eq_append_getElem hxT, List.flatMap_append, ← hs.out]; simp [stepB]
      have HE : Hid (ESt w wr.drew g b off x len cap d s) := (ESt.mk hC.out hb e0 e1).quiet ((Kept.refl _ wr).drewN 1)
      have C1 := Lib.hid (fun W : World => refNum18 s.1 W (by omega) (by omega))
      have C2 := Lib.hid (fun W : World => refNum18 s.2 W (by omega) (by omega))
      obtain ⟨A1, hA1⟩ : ∃ A1, A1 = numL s.1.toNat := ⟨_, rfl⟩
      obtain ⟨A2, hA2⟩ : ∃ A2, A2 = numL s.2.toNat := ⟨_, rfl⟩
      have hl1 : A1.length ≤ 8 := by rw [hA1]; exact numL_len_le _
      have hl2 : A2.length ≤ 8 := by rw [hA2]; exact numL_len_le _
      rw [← hA1] at C1 HT
      rw [← hA2] at C2 HT
      clear hA1 hA2 hs hs1 hft hxT e0 e1 hb hC
      go_upto_region 9 with fail
      clear d0 d1
      refine wp_region_S (fun W => ESt w W g b off x len cap d s) 18 (by kernel_rfl) HE.out ?_
      clear HE
      refine wpAnyS_take (i := 0) (v := (.string ⟨oj.toArray⟩)) (some 31) rfl rfl (by kernel_rfl) (by kernel_rfl) (by kernel_rfl) (by kernel_rfl) (fun _ _ _ h => h) (by kernel_rfl) (fun W hW => by go_simp) ?_
      refine wpAnyS_take (i := 1) (v := (.pointer (some ⟨g, 1, none⟩))) (some 32) rfl rfl (by kernel_rfl) (by kernel_rfl) (by kernel_rfl) (by kernel_rfl) (fun _ _ _ h => h) (by kernel_rfl) (fun W hW => by go_simp) ?_
      refine wpAnyS_take (i := 2) (v := (.slice (some ⟨b, off, none⟩) len cap)) (some 33) rfl rfl (by kernel_rfl) (by kernel_rfl) (by kernel_rfl) (by kernel_rfl) (fun _ _ _ h => h) (by kernel_rfl) (fun W hW => by obtain ⟨⟨_, d1⟩, e0, e1, _⟩ := hW.at; go_simp) ?_
      refine wpAnyS_take (i := 3) (v := (.int .i64 (x : Int))) (some 34) rfl rfl (by kernel_rfl) (by kernel_rfl) (by kernel_rfl) (by kernel_rfl) (fun _ _ _ h => h) (by kernel_rfl) (fun W hW => by go_simp) ?_
      refine wpAnyS_take (i := 4) (v := (.pointer (some ⟨b, off + x * 2, none⟩))) (some 35) rfl rfl (by kernel_rfl) (by kernel_rfl) (by kernel_rfl) (by kernel_rfl) (fun _ _ _ h => h) (by kernel_rfl) (fun W hW => by go_simp) ?_
      refine wpAnyS_take (i := 5) (v := (.pointer (some ⟨b, off + x * 2, none⟩))) (some 36) rfl rfl (by kernel_rfl) (by kernel_rfl) (by kernel_rfl) (by kernel_rfl) (fun _ _ _ h => h) (by kernel_rfl) (fun W hW => by go_simp) ?_
      refine wpAnyS_take (i := 6) (v := (.int .i64 s.1)) (some 37) rfl rfl (by kernel_rfl) (by kernel_rfl) (by kernel_rfl) (by kernel_rfl) (fun _ _ _ h => h) (by kernel_rfl) (fun W hW => by obtain ⟨⟨_, d1⟩, e0, e1, _⟩ := hW.at; go_simp) ?_
      refine wpAnyS_call (i := 7) (v := (.string ⟨A1.toArray⟩)) (f := 29) (args := #[.int .i64 s.1]) (some 38) rfl rfl (by kernel_rfl) (by kernel_rfl) (by kernel_rfl) (by kernel_rfl) (fun _ _ _ h => h) (by kernel_rfl) (fun W _ => by kernel_rfl) (fun W hW => (C1.out W).mono fun e W2 h => ⟨h.1, hW.quiet h.2⟩) ?_
      refine wpAnyS_take (i := 8) (v := (.string ⟨(oj ++ A1).toArray⟩)) (some 39) rfl rfl (by kernel_rfl) (by kernel_rfl) (by kernel_rfl) (by kernel_rfl) (fun _ _ _ h => h) (by kernel_rfl) (fun W hW => by go_simp; omega) ?_
      refine wpAnyS_take (i := 9) (v := (.pointer (some ⟨g, 1, none⟩))) (some 40) rfl rfl (by kernel_rfl) (by kernel_rfl) (by kernel_rfl) (by kernel_rfl) (fun _ _ _ h => h) (by kernel_rfl) (fun W hW => by go_simp) ?_
      refine wpAnyS_take (i := 10) (v := (.slice (some ⟨b, off, none⟩) len cap)) (some 41) rfl rfl (by kernel_rfl) (by kernel_rfl) (by kernel_rfl) (by kernel_rfl) (fun _ _ _ h => h) (by kernel_rfl) (fun W hW => by obtain ⟨⟨_, d1⟩, e0, e1, _⟩ := hW.at; go_simp) ?_
      refine wpAnyS_take (i := 11) (v := (.int .i64 (x : Int))) (some 42) rfl rfl (by kernel_rfl) (by kernel_rfl) (by kernel_rfl) (by kernel_rfl) (fun _ _ _ h => h) (by kernel_rfl) (fun W hW => by go_simp) ?_
      refine wpAnyS_take (i := 12) (v := (.pointer (some ⟨b, off + x * 2, none⟩))) (some 43) rfl rfl (by kernel_rfl) (by kernel_rfl) (by kernel_rfl) (by kernel_rfl) (fun _ _ _ h => h) (by kernel_rfl) (fun W hW => by go_simp) ?_
      refine wpAnyS_take (i := 13) (v := (.pointer (some ⟨b, off + x * 2 + 1, none⟩))) (some 44) rfl rfl (by kernel_rfl) (by kernel_rfl) (by kernel_rfl) (by kernel_rfl) (fun _ _ _ h => h) (by kernel_rfl) (fun W hW => by go_simp) ?_
      refine wpAnyS_take (i := 14) (v := (.int .i64 s.2)) (some 45) rfl rfl (by kernel_rfl) (by kernel_rfl) (by kernel_rfl) (by kernel_rfl) (fun _ _ _ h => h) (by kernel_rfl) (fun W hW => by obtain ⟨⟨_, d1⟩, e0, e1, _⟩ := hW.at; go_simp) ?_
      refine wpAnyS_call (i := 15) (v := (.string ⟨A2.toArray⟩)) (f := 29) (args := #[.int .i64 s.2]) (some 46) rfl rfl (by kernel_rfl) (by kernel_rfl) (by kernel_rfl) (by kernel_rfl) (fun _ _ _ h => h) (by kernel_rfl) (fun W _ => by kernel_rfl) (fun W hW => (C2.out W).mono fun e W2 h => ⟨h.1, hW.quiet h.2⟩) ?_
      refine wpAnyS_take (i := 16) (v := (.string ⟨(oj ++ A1 ++ A2).toArray⟩)) (some 47) rfl rfl (by kernel_rfl) (by kernel_rfl) (by kernel_rfl) (by kernel_rfl) (fun _ _ _ h => h) (by kernel_rfl) (fun W hW => by go_simp; omega) ?_
      refine wpAnyS_take (i := 17) (v := (.string ⟨(oj ++ A1 ++ A2).toArray⟩)) (some 5) rfl rfl (by kernel_rfl) (by kernel_rfl) (by kernel_rfl) (by kernel_rfl) (fun _ _ _ h => h) (by kernel_rfl) (fun W hW => by go_simp) ?_
      refine wpAnyS_done (by kernel_rfl) (fun W hW => ?_) _
      have HW := Lib.hid hW.bx
      clear hW
      simp only [put_none, put_lit, List.set_cons_succ, List.set_cons_zero]
      have HO2 : Hid (oj ++ A1 ++ A2 = T ++ M ++ (d.2.take (x + 1)).flatMap stepB) := by show _ = _; rw [HT.out, hO.out]; simp only [List.append_assoc]
      have hol2 : (oj ++ A1 ++ A2).length ≤ 36 + 16 * (x + 1) := by simp only [List.length_append]; omega
      clear HT hO hol
      go_wp2
      go_roundw
      case rel => exact ⟨x + 1, oj ++ A1 ++ A2, hlt, hol2, rfl, by first | rfl | go_num, HW, HO2⟩
      case measure => simp [intOf]; omega

end Go.Proofs.Ytgjblcjoglaldaa
