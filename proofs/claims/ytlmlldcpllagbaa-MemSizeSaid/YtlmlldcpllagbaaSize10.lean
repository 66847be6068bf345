/- The law MemSize, walked over the contract of the program's table (printed by gms10.py). -/
import Derived.Test.YtlmlldcpllagbaaLi10
import Derived.Deep.Cut
namespace Go.Proofs.Ytlmlldcpllagbaa
open Go.RowKit Go.Proofs Go.Proofs.Pk
set_option maxRecDepth 10000
attribute [local simp] mk_get wrap64_u8 mk_extract ByteArray.mk_append_mk get_1k

set_option maxHeartbeats 8000000 in
theorem size10 {At : MmOf} (K : MmK At) (ad : Option Addr) (len cap : Nat) (l : List MEnt) (w : World) (h0 : EntsW w ad len l) :
    Calls Try.prog 6 #[.slice ad len cap] w fun e w' => e = .returned (.bool true) ∧ Below w.heap.size w w' := by
  have HE := Lib.hid (examples10 K w)
  have HA := Lib.hid h0
  clear h0
  go_enter Try.func6, Try.ntmps6
  go_wp2_with fail
  refine HE.out.mono ?_
  clear HE
  rintro e w1 ⟨rfl, hb1⟩
  have HB1 := Lib.hid hb1
  have HN := Lib.hid (Mt.new K hb1 (ad := none) (len := 0) (cap := 0) (hs := []) ⟨rfl, .inl rfl⟩ (fun n hn => by cases hn) (Nat.le_refl _) (by decide) (fun _ => ⟨rfl, rfl⟩))
  clear hb1
  go_wp2_with fail
  refine HN.out.mono ?_
  clear HN
  rintro e w2 ⟨t, X2, rfl, h2, -, -⟩
  have HI : Hid (∃ T X, Mt At w1 w2 t T X ∧ T.length ≤ 0) := ⟨[], X2, h2, Nat.le_refl _⟩
  clear h2
  go_wp2
  rename World => wq
  go_loopw [5] (fun i wr => ∃ j : Nat, j ≤ 60 ∧ i = .int .i64 (j : Int) ∧ Hid (∃ T X, Mt At w1 wr t T X ∧ T.length ≤ j)) (fun i _ => 60 - (intOf i).toNat)
  case atStart => exact ⟨0, by omega, rfl, HI⟩
  case round =>
    obtain ⟨j, hj, rfl, hI⟩ := hrel
    clear HI
    obtain ⟨T, X, hMt, hTl⟩ := hI.out
    by_cases hlt : j < len ∧ j < 60
    · obtain ⟨g1, g2⟩ := hlt
      obtain ⟨bp, op, rfl, hbp, hjl, hfx, hcs⟩ := entsW_S HA.out j g1
      obtain ⟨x, hx⟩ : ∃ x, x = l[j] := ⟨_, rfl⟩
      rw [← hx] at hfx hcs
      have k1 : (j : Int) < (len : Int) := by omega
      have k2 : (j : Int) < 60 := by omega
      have k0 : (0 : Int) ≤ (j : Int) := by omega
      have hwj : IntKind.i64.wrap ((j : Int) + 1) = (j : Int) + 1 := IntWalk.i64_in _ (by omega)
      have HS := Lib.hid (fun (W : World) (hb : Below w1.heap.size w1 W) => hcs W (HB1.out.trans (hb.mono HB1.out.size)))
      have hsb := size_bound (K.ok hMt.sk)
      obtain ⟨s0, hs0⟩ : ∃ s0, Hid (s0 = sizeM T) := ⟨_, rfl⟩
      obtain ⟨n0, hn0⟩ : ∃ n0, Hid (n0 = T.length) := ⟨_, rfl⟩
      have hs0b : s0 ≤ 396 * 60 := by rw [hs0.out]; omega
      have hn0b : n0 ≤ 60 := by rw [hn0.out]; omega
      have hSz1 := K.size hMt.sk (by omega)
      rw [← hs0.out] at hSz1
      have HSz1 := Lib.hid hSz1
      have HMt := Lib.hid (And.intro hMt hTl)
      clear hcs hx hjl g1 g2 hj hsb hSz1 hMt hTl hI
      go_wp2_with fail
      refine HSz1.out.mono ?_
      clear HSz1
      rintro e w3 ⟨rfl, hk3⟩
      have h3 := HMt.out.1.still K hk3
      have hLn1 := K.len h3.sk (by have := HMt.out.2; omega)
      rw [← hn0.out] at hLn1
      have HLn1 := Lib.hid hLn1
      have HMt3 := Lib.hid (And.intro h3 HMt.out.2)
      clear hk3 h3 hLn1 HMt
      go_wp2_with fail
      refine HLn1.out.mono ?_
      clear HLn1
      rintro e w4 ⟨rfl, hk4⟩
      have h4 := HMt3.out.1.still K hk4
      have HPt := Lib.hid (h4.put K (by have := HMt3.out.2; omega) x hfx)
      have HTl := Lib.hid HMt3.out.2
      obtain ⟨c5, c0, c1, c2, c3⟩ := HS.out w4 h4.below
      have HC5 := Lib.hid c5
      clear hk4 h4 HMt3 c5
      go_wp2_with fail
      refine HPt.out.mono ?_
      clear HPt c0 c1 c2 c3 HC5
      rintro e w5 ⟨rfl, hk5, X5, h5, hg5⟩
      have HF : Hid (∀ W, Kept (fun _ => False) w5 W → SEnt bp (op + j * 4) x W ∧ True) := fun W hk => ⟨HS.out W (h5.still K hk).below, trivial⟩
      have hTl := HTl.out
      rcases putC_cases T x with hc | hc | hc
      · skip
        have hrx : rightM x = true := by rw [putC_right (T := T), hc]; rfl
        unfold rightM at hrx
        simp only [decide_eq_true_eq] at hrx
        obtain ⟨kl, hkl⟩ : ∃ kl, Hid (kl = x.1.length) := ⟨_, rfl⟩
        obtain ⟨vl, hvl⟩ : ∃ vl, Hid (vl = x.2.2.2.length) := ⟨_, rfl⟩
        have b1 : kl ≤ 80 := by rw [hkl.out]; exact hrx.2.1
        have b2 : vl ≤ 300 := by rw [hvl.out]; exact hrx.2.2.1
        have e1 : (x.1.length : Int) = (kl : Int) := by rw [hkl.out]
        have e2 : (x.2.2.2.length : Int) = (vl : Int) := by rw [hvl.out]
        have v1 : IntKind.i64.wrap ((s0 : Int) + (kl : Int)) = ((s0 + kl : Nat) : Int) := by rw [IntWalk.i64_in _ (by omega)]; omega
        have v2 : IntKind.i64.wrap ((s0 : Int) + (kl : Int) + (vl : Int)) = (s0 : Int) + (kl : Int) + (vl : Int) := IntWalk.i64_in _ (by omega)
        have v3 : IntKind.i64.wrap ((s0 : Int) + (kl : Int) + (vl : Int) + 16) = (s0 : Int) + (kl : Int) + (vl : Int) + 16 := IntWalk.i64_in _ (by omega)
        have v4 : IntKind.i64.wrap ((n0 : Int) + 1) = ((n0 + 1 : Nat) : Int) := by rw [IntWalk.i64_in _ (by omega)]; omega
        clear hrx
        have hTT : Hid (sizeM (putM T x) = s0 + kl + vl + 16 ∧ (putM T x).length = n0 + 1) := by
          refine ⟨?_, ?_⟩
          · rw [size_put, if_pos hc]; have := hs0.out; have := hkl.out; have := hvl.out; omega
          · rw [put_length, if_pos hc]; have := hn0.out; omega
        have HSz : Hid (∀ W, Kept (fun _ => False) w5 W → Calls Try.prog 20 #[.pointer (some ⟨t, 0, none⟩)] W fun r w' => r = .returned (.int .i64 ((s0 + kl + vl + 16 : Nat) : Int)) ∧ Kept (fun _ => False) W w') := fun W hk => by
          have := K.size (h5.still K hk).sk (by have := put_len_le T x hTl; omega)
          rw [hTT.out.1] at this; exact this
        have HLn : Hid (∀ W, Kept (fun _ => False) w5 W → Calls Try.prog 22 #[.pointer (some ⟨t, 0, none⟩)] W fun r w' => r = .returned (.int .i64 ((n0 + 1 : Nat) : Int)) ∧ Kept (fun _ => False) W w') := fun W hk => by
          have := K.len (h5.still K hk).sk (by have := put_len_le T x hTl; omega)
          rw [hTT.out.2] at this; exact this
        have HRt : Hid (∀ W, Kept (fun _ => False) w5 W → Calls Try.prog 12 #[.agg (entC x).toArray] W fun r w' => r = .returned (.bool true) ∧ Kept (fun _ => False) W w') := fun W hk => by
          have := K.right x W hfx
          rw [show rightM x = true from by rw [putC_right (T := T), hc]; rfl] at this; exact this
        have HIs : Hid (∀ W, Kept (fun _ => False) w5 W → Calls Try.prog 11 #[.nilIface, .int .i64 9] W fun r w' => r = .returned (.bool false) ∧ Kept (fun _ => False) W w') := fun W hk => (is_any 0 9 W).mono fun r w' ⟨h1, h2⟩ => ⟨h1, by rw [← h2]; exact Kept.refl _ _⟩
        have HNext : Hid (∃ T X, Mt At w1 w5 t T X ∧ T.length ≤ j + 1) := ⟨_, X5, h5, put_len_le T x hTl⟩
        rw [hc, show errV 55 0 = .nilIface from rfl]
        clear hc h5 hTT hTl hk5 hg5
        go_upto_region 11 with (fail)
        refine wp_region_until (SEnt bp (op + j * 4) x) 60 (by kernel_rfl) ?_
        have HKA0 : Hid (Kept (fun _ => False) w5 w5.drew) := (Kept.refl _ w5).drewN 1
        have hS := (HF.out _ HKA0.out).1
        refine wpAnyU_take (i := 0) (v := .nilIface) (some 33) rfl rfl (by kernel_rfl) (by kernel_rfl) (by kernel_rfl) (by kernel_rfl) (fun _ _ _ h => h) hS (yields_of (by kernel_rfl) (fun w ⟨hr, h0, h1, h2, h3⟩ => by go_simp)) ?_
        refine wpAnyU_take (i := 1) (v := (.bool true)) (some 34) rfl rfl (by kernel_rfl) (by kernel_rfl) (by kernel_rfl) (by kernel_rfl) (fun _ _ _ h => h) hS (yields_of (by kernel_rfl) (fun w ⟨hr, h0, h1, h2, h3⟩ => by go_simp)) ?_
        refine wpAnyU_take (i := 2) (v := (.bool true)) (some 35) rfl rfl (by kernel_rfl) (by kernel_rfl) (by kernel_rfl) (by kernel_rfl) (fun _ _ _ h => h) hS (yields_of (by kernel_rfl) (fun w ⟨hr, h0, h1, h2, h3⟩ => by go_simp)) ?_
        refine wpAnyU_take (i := 3) (v := (.pointer (some ⟨t, 0, none⟩))) (some 36) rfl rfl (by kernel_rfl) (by kernel_rfl) (by kernel_rfl) (by kernel_rfl) (fun _ _ _ h => h) hS (yields_of (by kernel_rfl) (fun w ⟨hr, h0, h1, h2, h3⟩ => by go_simp)) ?_
        refine wpAnyU_take (i := 5) (v := (.int .i64 (s0 : Int))) (some 38) rfl rfl (by kernel_rfl) (by kernel_rfl) (by kernel_rfl) (by kernel_rfl) (fun _ _ _ h => h) hS (yields_of (by kernel_rfl) (fun w ⟨hr, h0, h1, h2, h3⟩ => by go_simp)) ?_
        refine wpAnyU_take (i := 6) (v := (.slice (some ⟨bp, op, none⟩) len cap)) (some 39) rfl rfl (by kernel_rfl) (by kernel_rfl) (by kernel_rfl) (by kernel_rfl) (fun _ _ _ h => h) hS (yields_of (by kernel_rfl) (fun w ⟨hr, h0, h1, h2, h3⟩ => by go_simp)) ?_
        refine wpAnyU_take (i := 7) (v := (.int .i64 (j : Int))) (some 40) rfl rfl (by kernel_rfl) (by kernel_rfl) (by kernel_rfl) (by kernel_rfl) (fun _ _ _ h => h) hS (yields_of (by kernel_rfl) (fun w ⟨hr, h0, h1, h2, h3⟩ => by go_simp)) ?_
        refine wpAnyU_take (i := 8) (v := (.pointer (some ⟨bp, op + j * 4, none⟩))) (some 41) rfl rfl (by kernel_rfl) (by kernel_rfl) (by kernel_rfl) (by kernel_rfl) (fun _ _ _ h => h) hS (yields_of (by kernel_rfl) (fun w ⟨hr, h0, h1, h2, h3⟩ => by go_simp)) ?_
        refine wpAnyU_take (i := 9) (v := (.pointer (some ⟨bp, op + j * 4, none⟩))) (some 42) rfl rfl (by kernel_rfl) (by kernel_rfl) (by kernel_rfl) (by kernel_rfl) (fun _ _ _ h => h) hS (yields_of (by kernel_rfl) (fun w ⟨hr, h0, h1, h2, h3⟩ => by go_simp)) ?_
        refine wpAnyU_take (i := 10) (v := (.string ⟨x.1.toArray⟩)) (some 43) rfl rfl (by kernel_rfl) (by kernel_rfl) (by kernel_rfl) (by kernel_rfl) (fun _ _ _ h => h) hS (yields_of (by kernel_rfl) (fun w ⟨hr, h0, h1, h2, h3⟩ => by go_simp)) ?_
        refine wpAnyU_take (i := 11) (v := (.int .i64 (kl : Int))) (some 44) rfl rfl (by kernel_rfl) (by kernel_rfl) (by kernel_rfl) (by kernel_rfl) (fun _ _ _ h => h) hS (yields_of (by kernel_rfl) (fun w ⟨hr, h0, h1, h2, h3⟩ => by go_simp)) ?_
        refine wpAnyU_take (i := 12) (v := (.int .i64 ((s0 + kl : Nat) : Int))) (some 45) rfl rfl (by kernel_rfl) (by kernel_rfl) (by kernel_rfl) (by kernel_rfl) (fun _ _ _ h => h) hS (yields_of (by kernel_rfl) (fun w ⟨hr, h0, h1, h2, h3⟩ => by go_simp)) ?_
        refine wpAnyU_take (i := 13) (v := (.slice (some ⟨bp, op, none⟩) len cap)) (some 46) rfl rfl (by kernel_rfl) (by kernel_rfl) (by kernel_rfl) (by kernel_rfl) (fun _ _ _ h => h) hS (yields_of (by kernel_rfl) (fun w ⟨hr, h0, h1, h2, h3⟩ => by go_simp)) ?_
        refine wpAnyU_take (i := 14) (v := (.int .i64 (j : Int))) (some 47) rfl rfl (by kernel_rfl) (by kernel_rfl) (by kernel_rfl) (by kernel_rfl) (fun _ _ _ h => h) hS (yields_of (by kernel_rfl) (fun w ⟨hr, h0, h1, h2, h3⟩ => by go_simp)) ?_
        refine wpAnyU_take (i := 15) (v := (.pointer (some ⟨bp, op + j * 4, none⟩))) (some 48) rfl rfl (by kernel_rfl) (by kernel_rfl) (by kernel_rfl) (by kernel_rfl) (fun _ _ _ h => h) hS (yields_of (by kernel_rfl) (fun w ⟨hr, h0, h1, h2, h3⟩ => by go_simp)) ?_
        refine wpAnyU_take (i := 16) (v := (.pointer (some ⟨bp, op + j * 4 + 3, none⟩))) (some 49) rfl rfl (by kernel_rfl) (by kernel_rfl) (by kernel_rfl) (by kernel_rfl) (fun _ _ _ h => h) hS (yields_of (by kernel_rfl) (fun w ⟨hr, h0, h1, h2, h3⟩ => by go_simp)) ?_
        refine wpAnyU_take (i := 17) (v := (.string ⟨x.2.2.2.toArray⟩)) (some 50) rfl rfl (by kernel_rfl) (by kernel_rfl) (by kernel_rfl) (by kernel_rfl) (fun _ _ _ h => h) hS (yields_of (by kernel_rfl) (fun w ⟨hr, h0, h1, h2, h3⟩ => by go_simp)) ?_
        refine wpAnyU_take (i := 18) (v := (.int .i64 (vl : Int))) (some 51) rfl rfl (by kernel_rfl) (by kernel_rfl) (by kernel_rfl) (by kernel_rfl) (fun _ _ _ h => h) hS (yields_of (by kernel_rfl) (fun w ⟨hr, h0, h1, h2, h3⟩ => by go_simp)) ?_
        refine wpAnyU_take (i := 19) (v := (.int .i64 ((s0 + kl + vl : Nat) : Int))) (some 52) rfl rfl (by kernel_rfl) (by kernel_rfl) (by kernel_rfl) (by kernel_rfl) (fun _ _ _ h => h) hS (yields_of (by kernel_rfl) (fun w ⟨hr, h0, h1, h2, h3⟩ => by go_simp)) ?_
        refine wpAnyU_take (i := 20) (v := (.int .i64 ((s0 + kl + vl + 16 : Nat) : Int))) (some 53) rfl rfl (by kernel_rfl) (by kernel_rfl) (by kernel_rfl) (by kernel_rfl) (fun _ _ _ h => h) hS (yields_of (by kernel_rfl) (fun w ⟨hr, h0, h1, h2, h3⟩ => by go_simp)) ?_
        refine wpAnyU_call (i := 4) (f := 20) (args := #[(.pointer (some ⟨t, 0, none⟩))]) (some 37) rfl rfl (by kernel_rfl) (by kernel_rfl) (by kernel_rfl) ?_
        refine (HSz.out _ HKA0.out).mono ?_
        rintro e wq0 ⟨rfl, hq0⟩
        have HKA1 := Lib.hid (HKA0.out.trans hq0 (fun _ hf => hf.elim))
        clear hq0 hS
        have hS := (HF.out _ HKA1.out).1
        refine ⟨_, rfl, fun _ => hS, ?_⟩
        refine wpAnyU_take (i := 21) (v := (.bool false)) (some 54) rfl rfl (by kernel_rfl) (by kernel_rfl) (by kernel_rfl) (by kernel_rfl) (fun _ _ _ h => h) hS (yields_of (by kernel_rfl) (fun w ⟨hr, h0, h1, h2, h3⟩ => by go_simp)) ?_
        refine wpAnyU_take (i := 22) (v := (.bool false)) (some 55) rfl rfl (by kernel_rfl) (by kernel_rfl) (by kernel_rfl) (by kernel_rfl) (fun _ _ _ h => h) hS (yields_of (by kernel_rfl) (fun w ⟨hr, h0, h1, h2, h3⟩ => by go_simp)) ?_
        refine wpAnyU_take (i := 23) (v := (.pointer (some ⟨t, 0, none⟩))) (some 56) rfl rfl (by kernel_rfl) (by kernel_rfl) (by kernel_rfl) (by kernel_rfl) (fun _ _ _ h => h) hS (yields_of (by kernel_rfl) (fun w ⟨hr, h0, h1, h2, h3⟩ => by go_simp)) ?_
        refine wpAnyU_take (i := 25) (v := (.int .i64 (n0 : Int))) (some 58) rfl rfl (by kernel_rfl) (by kernel_rfl) (by kernel_rfl) (by kernel_rfl) (fun _ _ _ h => h) hS (yields_of (by kernel_rfl) (fun w ⟨hr, h0, h1, h2, h3⟩ => by go_simp)) ?_
        refine wpAnyU_take (i := 26) (v := (.int .i64 ((n0 + 1 : Nat) : Int))) (some 59) rfl rfl (by kernel_rfl) (by kernel_rfl) (by kernel_rfl) (by kernel_rfl) (fun _ _ _ h => h) hS (yields_of (by kernel_rfl) (fun w ⟨hr, h0, h1, h2, h3⟩ => by go_simp)) ?_
        refine wpAnyU_call (i := 24) (f := 22) (args := #[(.pointer (some ⟨t, 0, none⟩))]) (some 57) rfl rfl (by kernel_rfl) (by kernel_rfl) (by kernel_rfl) ?_
        refine (HLn.out _ HKA1.out).mono ?_
        rintro e wq1 ⟨rfl, hq1⟩
        have HKA2 := Lib.hid (HKA1.out.trans hq1 (fun _ hf => hf.elim))
        clear hq1 hS
        have hS := (HF.out _ HKA2.out).1
        refine ⟨_, rfl, fun _ => hS, ?_⟩
        refine wpAnyU_take (i := 27) (v := (.bool false)) (some 60) rfl rfl (by kernel_rfl) (by kernel_rfl) (by kernel_rfl) (by kernel_rfl) (fun _ _ _ h => h) hS (yields_of (by kernel_rfl) (fun w ⟨hr, h0, h1, h2, h3⟩ => by go_simp)) ?_
        refine wpAnyU_take (i := 28) (v := (.bool false)) (some 61) rfl rfl (by kernel_rfl) (by kernel_rfl) (by kernel_rfl) (by kernel_rfl) (fun _ _ _ h => h) hS (yields_of (by kernel_rfl) (fun w ⟨hr, h0, h1, h2, h3⟩ => by go_simp)) ?_
        refine wpAnyU_take (i := 29) (v := (.bool false)) (some 62) rfl rfl (by kernel_rfl) (by kernel_rfl) (by kernel_rfl) (by kernel_rfl) (fun _ _ _ h => h) hS (yields_of (by kernel_rfl) (fun w ⟨hr, h0, h1, h2, h3⟩ => by go_simp)) ?_
        refine wpAnyU_take (i := 30) (v := (.bool false)) (some 63) rfl rfl (by kernel_rfl) (by kernel_rfl) (by kernel_rfl) (by kernel_rfl) (fun _ _ _ h => h) hS (yields_of (by kernel_rfl) (fun w ⟨hr, h0, h1, h2, h3⟩ => by go_simp)) ?_
        refine wpAnyU_take (i := 31) (v := .nilIface) (some 64) rfl rfl (by kernel_rfl) (by kernel_rfl) (by kernel_rfl) (by kernel_rfl) (fun _ _ _ h => h) hS (yields_of (by kernel_rfl) (fun w ⟨hr, h0, h1, h2, h3⟩ => by go_simp)) ?_
        refine wpAnyU_take (i := 32) (v := (.bool false)) (some 65) rfl rfl (by kernel_rfl) (by kernel_rfl) (by kernel_rfl) (by kernel_rfl) (fun _ _ _ h => h) hS (yields_of (by kernel_rfl) (fun w ⟨hr, h0, h1, h2, h3⟩ => by go_simp)) ?_
        refine wpAnyU_take (i := 33) (v := (.bool false)) (some 66) rfl rfl (by kernel_rfl) (by kernel_rfl) (by kernel_rfl) (by kernel_rfl) (fun _ _ _ h => h) hS (yields_of (by kernel_rfl) (fun w ⟨hr, h0, h1, h2, h3⟩ => by go_simp)) ?_
        refine wpAnyU_take (i := 34) (v := undef) (some 67) rfl rfl (by kernel_rfl) (by kernel_rfl) (by kernel_rfl) (by kernel_rfl) (fun _ _ _ h => h) hS (unwanted (by kernel_rfl)) ?_
        refine wpAnyU_take (i := 35) (v := undef) (some 68) rfl rfl (by kernel_rfl) (by kernel_rfl) (by kernel_rfl) (by kernel_rfl) (fun _ _ _ h => h) hS (unwanted (by kernel_rfl)) ?_
        refine wpAnyU_take (i := 36) (v := undef) (some 69) rfl rfl (by kernel_rfl) (by kernel_rfl) (by kernel_rfl) (by kernel_rfl) (fun _ _ _ h => h) hS (unwanted (by kernel_rfl)) ?_
        refine wpAnyU_take (i := 37) (v := undef) (some 70) rfl rfl (by kernel_rfl) (by kernel_rfl) (by kernel_rfl) (by kernel_rfl) (fun _ _ _ h => h) hS (unwanted (by kernel_rfl)) ?_
        refine wpAnyU_take (i := 38) (v := undef) (some 71) rfl rfl (by kernel_rfl) (by kernel_rfl) (by kernel_rfl) (by kernel_rfl) (fun _ _ _ h => h) hS (unwanted (by kernel_rfl)) ?_
        refine wpAnyU_take (i := 39) (v := undef) (some 72) rfl rfl (by kernel_rfl) (by kernel_rfl) (by kernel_rfl) (by kernel_rfl) (fun _ _ _ h => h) hS (unwanted (by kernel_rfl)) ?_
        refine wpAnyU_take (i := 40) (v := undef) (some 73) rfl rfl (by kernel_rfl) (by kernel_rfl) (by kernel_rfl) (by kernel_rfl) (fun _ _ _ h => h) hS (unwanted (by kernel_rfl)) ?_
        refine wpAnyU_take (i := 41) (v := undef) (some 74) rfl rfl (by kernel_rfl) (by kernel_rfl) (by kernel_rfl) (by kernel_rfl) (fun _ _ _ h => h) hS (unwanted (by kernel_rfl)) ?_
        refine wpAnyU_take (i := 42) (v := undef) (some 75) rfl rfl (by kernel_rfl) (by kernel_rfl) (by kernel_rfl) (by kernel_rfl) (fun _ _ _ h => h) hS (unwanted (by kernel_rfl)) ?_
        refine wpAnyU_take (i := 43) (v := undef) (some 76) rfl rfl (by kernel_rfl) (by kernel_rfl) (by kernel_rfl) (by kernel_rfl) (fun _ _ _ h => h) hS (unwanted (by kernel_rfl)) ?_
        refine wpAnyU_take (i := 44) (v := (.bool false)) (some 77) rfl rfl (by kernel_rfl) (by kernel_rfl) (by kernel_rfl) (by kernel_rfl) (fun _ _ _ h => h) hS (yields_of (by kernel_rfl) (fun w ⟨hr, h0, h1, h2, h3⟩ => by go_simp)) ?_
        refine wpAnyU_take (i := 45) (v := (.bool false)) (some 78) rfl rfl (by kernel_rfl) (by kernel_rfl) (by kernel_rfl) (by kernel_rfl) (fun _ _ _ h => h) hS (yields_of (by kernel_rfl) (fun w ⟨hr, h0, h1, h2, h3⟩ => by go_simp)) ?_
        refine wpAnyU_take (i := 46) (v := (.bool false)) (some 79) rfl rfl (by kernel_rfl) (by kernel_rfl) (by kernel_rfl) (by kernel_rfl) (fun _ _ _ h => h) hS (yields_of (by kernel_rfl) (fun w ⟨hr, h0, h1, h2, h3⟩ => by go_simp)) ?_
        refine wpAnyU_take (i := 47) (v := .nilIface) (some 80) rfl rfl (by kernel_rfl) (by kernel_rfl) (by kernel_rfl) (by kernel_rfl) (fun _ _ _ h => h) hS (yields_of (by kernel_rfl) (fun w ⟨hr, h0, h1, h2, h3⟩ => by go_simp)) ?_
        refine wpAnyU_take (i := 48) (v := (.bool true)) (some 81) rfl rfl (by kernel_rfl) (by kernel_rfl) (by kernel_rfl) (by kernel_rfl) (fun _ _ _ h => h) hS (yields_of (by kernel_rfl) (fun w ⟨hr, h0, h1, h2, h3⟩ => by go_simp)) ?_
        refine wpAnyU_take (i := 49) (v := (.bool true)) (some 82) rfl rfl (by kernel_rfl) (by kernel_rfl) (by kernel_rfl) (by kernel_rfl) (fun _ _ _ h => h) hS (yields_of (by kernel_rfl) (fun w ⟨hr, h0, h1, h2, h3⟩ => by go_simp)) ?_
        refine wpAnyU_take (i := 50) (v := undef) (some 83) rfl rfl (by kernel_rfl) (by kernel_rfl) (by kernel_rfl) (by kernel_rfl) (fun _ _ _ h => h) hS (unwanted (by kernel_rfl)) ?_
        refine wpAnyU_take (i := 51) (v := undef) (some 84) rfl rfl (by kernel_rfl) (by kernel_rfl) (by kernel_rfl) (by kernel_rfl) (fun _ _ _ h => h) hS (unwanted (by kernel_rfl)) ?_
        refine wpAnyU_take (i := 52) (v := (.bool true)) (some 85) rfl rfl (by kernel_rfl) (by kernel_rfl) (by kernel_rfl) (by kernel_rfl) (fun _ _ _ h => h) hS (yields_of (by kernel_rfl) (fun w ⟨hr, h0, h1, h2, h3⟩ => by go_simp)) ?_
        refine wpAnyU_take (i := 53) (v := (.slice (some ⟨bp, op, none⟩) len cap)) (some 86) rfl rfl (by kernel_rfl) (by kernel_rfl) (by kernel_rfl) (by kernel_rfl) (fun _ _ _ h => h) hS (yields_of (by kernel_rfl) (fun w ⟨hr, h0, h1, h2, h3⟩ => by go_simp)) ?_
        refine wpAnyU_take (i := 54) (v := (.int .i64 (j : Int))) (some 87) rfl rfl (by kernel_rfl) (by kernel_rfl) (by kernel_rfl) (by kernel_rfl) (fun _ _ _ h => h) hS (yields_of (by kernel_rfl) (fun w ⟨hr, h0, h1, h2, h3⟩ => by go_simp)) ?_
        refine wpAnyU_take (i := 55) (v := (.pointer (some ⟨bp, op + j * 4, none⟩))) (some 88) rfl rfl (by kernel_rfl) (by kernel_rfl) (by kernel_rfl) (by kernel_rfl) (fun _ _ _ h => h) hS (yields_of (by kernel_rfl) (fun w ⟨hr, h0, h1, h2, h3⟩ => by go_simp)) ?_
        refine wpAnyU_take (i := 56) (v := (.agg (entC x).toArray)) (some 89) rfl rfl (by kernel_rfl) (by kernel_rfl) (by kernel_rfl) (by kernel_rfl) (fun _ _ _ h => h) hS (yieldsIf_load_mid (by kernel_rfl) 34 (.tmp 88) rfl bp (op + j * 4) (by kernel_rfl) (entC x) _ (fun w hw => hw.1) Try.underlying34 rfl (by rw [ent_size]; rfl)) ?_
        refine wpAnyU_call (i := 57) (f := 12) (args := #[(.agg (entC x).toArray)]) (some 90) rfl rfl (by kernel_rfl) (by kernel_rfl) (by kernel_rfl) ?_
        refine (HRt.out _ HKA2.out).mono ?_
        rintro e wq2 ⟨rfl, hq2⟩
        have HKA3 := Lib.hid (HKA2.out.trans hq2 (fun _ hf => hf.elim))
        clear hq2 hS
        have hS := (HF.out _ HKA3.out).1
        refine ⟨_, rfl, fun _ => hS, ?_⟩
        refine wpAnyU_take (i := 58) (v := (.bool false)) (some 91) rfl rfl (by kernel_rfl) (by kernel_rfl) (by kernel_rfl) (by kernel_rfl) (fun _ _ _ h => h) hS (yields_of (by kernel_rfl) (fun w ⟨hr, h0, h1, h2, h3⟩ => by go_simp)) ?_
        refine wpAnyU_take (i := 59) (v := (.bool false)) (some 92) rfl rfl (by kernel_rfl) (by kernel_rfl) (by kernel_rfl) (by kernel_rfl) (fun _ _ _ h => h) hS (yields_of (by kernel_rfl) (fun w ⟨hr, h0, h1, h2, h3⟩ => by go_simp)) ?_
        refine wpAnyU_done (by kernel_rfl) ?_ _
        simp only [put_lit, List.set_cons_succ, List.set_cons_zero]
        clear hS
        have HI2 : Hid (∃ T X, Mt At w1 wq2 t T X ∧ T.length ≤ j + 1) := by obtain ⟨T, X, h1, h2⟩ := HNext.out; exact ⟨T, X, h1.still K HKA3.out, h2⟩
        go_wp2
        go_roundw
        case rel => exact ⟨j + 1, by omega, by first | rfl | go_num, HI2⟩
        case measure => simp [intOf]; omega
      · skip
        have hTT : Hid (sizeM (putM T x) = s0 ∧ (putM T x).length = n0) := by
          refine ⟨?_, ?_⟩
          · rw [size_put, if_neg (by omega)]; have := hs0.out; omega
          · rw [put_length, if_neg (by omega)]; have := hn0.out; omega
        have HSz : Hid (∀ W, Kept (fun _ => False) w5 W → Calls Try.prog 20 #[.pointer (some ⟨t, 0, none⟩)] W fun r w' => r = .returned (.int .i64 (s0 : Int)) ∧ Kept (fun _ => False) W w') := fun W hk => by
          have := K.size (h5.still K hk).sk (by have := put_len_le T x hTl; omega)
          rw [hTT.out.1] at this; exact this
        have HLn : Hid (∀ W, Kept (fun _ => False) w5 W → Calls Try.prog 22 #[.pointer (some ⟨t, 0, none⟩)] W fun r w' => r = .returned (.int .i64 (n0 : Int)) ∧ Kept (fun _ => False) W w') := fun W hk => by
          have := K.len (h5.still K hk).sk (by have := put_len_le T x hTl; omega)
          rw [hTT.out.2] at this; exact this
        have HRt : Hid (∀ W, Kept (fun _ => False) w5 W → Calls Try.prog 12 #[.agg (entC x).toArray] W fun r w' => r = .returned (.bool true) ∧ Kept (fun _ => False) W w') := fun W hk => by
          have := K.right x W hfx
          rw [show rightM x = true from by rw [putC_right (T := T), hc]; rfl] at this; exact this
        have HIs : Hid (∀ W, Kept (fun _ => False) w5 W → Calls Try.prog 11 #[(.iface 55 (.int .i64 9)), .int .i64 9] W fun r w' => r = .returned (.bool true) ∧ Kept (fun _ => False) W w') := fun W hk => (is_any 9 9 W).mono fun r w' ⟨h1, h2⟩ => ⟨h1, by rw [← h2]; exact Kept.refl _ _⟩
        have HNext : Hid (∃ T X, Mt At w1 w5 t T X ∧ T.length ≤ j + 1) := ⟨_, X5, h5, put_len_le T x hTl⟩
        rw [hc, show errV 55 9 = (.iface 55 (.int .i64 9)) from rfl]
        clear hc h5 hTT hTl hk5 hg5
        go_upto_region 11 with (fail)
        refine wp_region_until (SEnt bp (op + j * 4) x) 60 (by kernel_rfl) ?_
        have HKA0 : Hid (Kept (fun _ => False) w5 w5.drew) := (Kept.refl _ w5).drewN 1
        have hS := (HF.out _ HKA0.out).1
        refine wpAnyU_take (i := 0) (v := (.iface 55 (.int .i64 9))) (some 33) rfl rfl (by kernel_rfl) (by kernel_rfl) (by kernel_rfl) (by kernel_rfl) (fun _ _ _ h => h) hS (yields_of (by kernel_rfl) (fun w ⟨hr, h0, h1, h2, h3⟩ => by go_simp)) ?_
        refine wpAnyU_take (i := 1) (v := (.bool false)) (some 34) rfl rfl (by kernel_rfl) (by kernel_rfl) (by kernel_rfl) (by kernel_rfl) (fun _ _ _ h => h) hS (yields_of (by kernel_rfl) (fun w ⟨hr, h0, h1, h2, h3⟩ => by go_simp)) ?_
        refine wpAnyU_take (i := 2) (v := (.bool false)) (some 35) rfl rfl (by kernel_rfl) (by kernel_rfl) (by kernel_rfl) (by kernel_rfl) (fun _ _ _ h => h) hS (yields_of (by kernel_rfl) (fun w ⟨hr, h0, h1, h2, h3⟩ => by go_simp)) ?_
        refine wpAnyU_take (i := 3) (v := undef) (some 36) rfl rfl (by kernel_rfl) (by kernel_rfl) (by kernel_rfl) (by kernel_rfl) (fun _ _ _ h => h) hS (unwanted (by kernel_rfl)) ?_
        refine wpAnyU_take (i := 4) (v := undef) (some 37) rfl rfl (by kernel_rfl) (by kernel_rfl) (by kernel_rfl) (by kernel_rfl) (fun _ _ _ h => h) hS (unwanted (by kernel_rfl)) ?_
        refine wpAnyU_take (i := 5) (v := undef) (some 38) rfl rfl (by kernel_rfl) (by kernel_rfl) (by kernel_rfl) (by kernel_rfl) (fun _ _ _ h => h) hS (unwanted (by kernel_rfl)) ?_
        refine wpAnyU_take (i := 6) (v := undef) (some 39) rfl rfl (by kernel_rfl) (by kernel_rfl) (by kernel_rfl) (by kernel_rfl) (fun _ _ _ h => h) hS (unwanted (by kernel_rfl)) ?_
        refine wpAnyU_take (i := 7) (v := undef) (some 40) rfl rfl (by kernel_rfl) (by kernel_rfl) (by kernel_rfl) (by kernel_rfl) (fun _ _ _ h => h) hS (unwanted (by kernel_rfl)) ?_
        refine wpAnyU_take (i := 8) (v := undef) (some 41) rfl rfl (by kernel_rfl) (by kernel_rfl) (by kernel_rfl) (by kernel_rfl) (fun _ _ _ h => h) hS (unwanted (by kernel_rfl)) ?_
        refine wpAnyU_take (i := 9) (v := undef) (some 42) rfl rfl (by kernel_rfl) (by kernel_rfl) (by kernel_rfl) (by kernel_rfl) (fun _ _ _ h => h) hS (unwanted (by kernel_rfl)) ?_
        refine wpAnyU_take (i := 10) (v := undef) (some 43) rfl rfl (by kernel_rfl) (by kernel_rfl) (by kernel_rfl) (by kernel_rfl) (fun _ _ _ h => h) hS (unwanted (by kernel_rfl)) ?_
        refine wpAnyU_take (i := 11) (v := undef) (some 44) rfl rfl (by kernel_rfl) (by kernel_rfl) (by kernel_rfl) (by kernel_rfl) (fun _ _ _ h => h) hS (unwanted (by kernel_rfl)) ?_
        refine wpAnyU_take (i := 12) (v := undef) (some 45) rfl rfl (by kernel_rfl) (by kernel_rfl) (by kernel_rfl) (by kernel_rfl) (fun _ _ _ h => h) hS (unwanted (by kernel_rfl)) ?_
        refine wpAnyU_take (i := 13) (v := undef) (some 46) rfl rfl (by kernel_rfl) (by kernel_rfl) (by kernel_rfl) (by kernel_rfl) (fun _ _ _ h => h) hS (unwanted (by kernel_rfl)) ?_
        refine wpAnyU_take (i := 14) (v := undef) (some 47) rfl rfl (by kernel_rfl) (by kernel_rfl) (by kernel_rfl) (by kernel_rfl) (fun _ _ _ h => h) hS (unwanted (by kernel_rfl)) ?_
        refine wpAnyU_take (i := 15) (v := undef) (some 48) rfl rfl (by kernel_rfl) (by kernel_rfl) (by kernel_rfl) (by kernel_rfl) (fun _ _ _ h => h) hS (unwanted (by kernel_rfl)) ?_
        refine wpAnyU_take (i := 16) (v := undef) (some 49) rfl rfl (by kernel_rfl) (by kernel_rfl) (by kernel_rfl) (by kernel_rfl) (fun _ _ _ h => h) hS (unwanted (by kernel_rfl)) ?_
        refine wpAnyU_take (i := 17) (v := undef) (some 50) rfl rfl (by kernel_rfl) (by kernel_rfl) (by kernel_rfl) (by kernel_rfl) (fun _ _ _ h => h) hS (unwanted (by kernel_rfl)) ?_
        refine wpAnyU_take (i := 18) (v := undef) (some 51) rfl rfl (by kernel_rfl) (by kernel_rfl) (by kernel_rfl) (by kernel_rfl) (fun _ _ _ h => h) hS (unwanted (by kernel_rfl)) ?_
        refine wpAnyU_take (i := 19) (v := undef) (some 52) rfl rfl (by kernel_rfl) (by kernel_rfl) (by kernel_rfl) (by kernel_rfl) (fun _ _ _ h => h) hS (unwanted (by kernel_rfl)) ?_
        refine wpAnyU_take (i := 20) (v := undef) (some 53) rfl rfl (by kernel_rfl) (by kernel_rfl) (by kernel_rfl) (by kernel_rfl) (fun _ _ _ h => h) hS (unwanted (by kernel_rfl)) ?_
        refine wpAnyU_take (i := 21) (v := undef) (some 54) rfl rfl (by kernel_rfl) (by kernel_rfl) (by kernel_rfl) (by kernel_rfl) (fun _ _ _ h => h) hS (unwanted (by kernel_rfl)) ?_
        refine wpAnyU_take (i := 22) (v := undef) (some 55) rfl rfl (by kernel_rfl) (by kernel_rfl) (by kernel_rfl) (by kernel_rfl) (fun _ _ _ h => h) hS (unwanted (by kernel_rfl)) ?_
        refine wpAnyU_take (i := 23) (v := undef) (some 56) rfl rfl (by kernel_rfl) (by kernel_rfl) (by kernel_rfl) (by kernel_rfl) (fun _ _ _ h => h) hS (unwanted (by kernel_rfl)) ?_
        refine wpAnyU_take (i := 24) (v := undef) (some 57) rfl rfl (by kernel_rfl) (by kernel_rfl) (by kernel_rfl) (by kernel_rfl) (fun _ _ _ h => h) hS (unwanted (by kernel_rfl)) ?_
        refine wpAnyU_take (i := 25) (v := undef) (some 58) rfl rfl (by kernel_rfl) (by kernel_rfl) (by kernel_rfl) (by kernel_rfl) (fun _ _ _ h => h) hS (unwanted (by kernel_rfl)) ?_
        refine wpAnyU_take (i := 26) (v := undef) (some 59) rfl rfl (by kernel_rfl) (by kernel_rfl) (by kernel_rfl) (by kernel_rfl) (fun _ _ _ h => h) hS (unwanted (by kernel_rfl)) ?_
        refine wpAnyU_take (i := 27) (v := undef) (some 60) rfl rfl (by kernel_rfl) (by kernel_rfl) (by kernel_rfl) (by kernel_rfl) (fun _ _ _ h => h) hS (unwanted (by kernel_rfl)) ?_
        refine wpAnyU_take (i := 28) (v := undef) (some 61) rfl rfl (by kernel_rfl) (by kernel_rfl) (by kernel_rfl) (by kernel_rfl) (fun _ _ _ h => h) hS (unwanted (by kernel_rfl)) ?_
        refine wpAnyU_take (i := 29) (v := (.bool false)) (some 62) rfl rfl (by kernel_rfl) (by kernel_rfl) (by kernel_rfl) (by kernel_rfl) (fun _ _ _ h => h) hS (yields_of (by kernel_rfl) (fun w ⟨hr, h0, h1, h2, h3⟩ => by go_simp)) ?_
        refine wpAnyU_take (i := 30) (v := (.bool false)) (some 63) rfl rfl (by kernel_rfl) (by kernel_rfl) (by kernel_rfl) (by kernel_rfl) (fun _ _ _ h => h) hS (yields_of (by kernel_rfl) (fun w ⟨hr, h0, h1, h2, h3⟩ => by go_simp)) ?_
        refine wpAnyU_take (i := 31) (v := (.iface 55 (.int .i64 9))) (some 64) rfl rfl (by kernel_rfl) (by kernel_rfl) (by kernel_rfl) (by kernel_rfl) (fun _ _ _ h => h) hS (yields_of (by kernel_rfl) (fun w ⟨hr, h0, h1, h2, h3⟩ => by go_simp)) ?_
        refine wpAnyU_take (i := 32) (v := (.bool true)) (some 65) rfl rfl (by kernel_rfl) (by kernel_rfl) (by kernel_rfl) (by kernel_rfl) (fun _ _ _ h => h) hS (yields_of (by kernel_rfl) (fun w ⟨hr, h0, h1, h2, h3⟩ => by go_simp)) ?_
        refine wpAnyU_take (i := 33) (v := (.bool true)) (some 66) rfl rfl (by kernel_rfl) (by kernel_rfl) (by kernel_rfl) (by kernel_rfl) (fun _ _ _ h => h) hS (yields_of (by kernel_rfl) (fun w ⟨hr, h0, h1, h2, h3⟩ => by go_simp)) ?_
        refine wpAnyU_take (i := 34) (v := (.pointer (some ⟨t, 0, none⟩))) (some 67) rfl rfl (by kernel_rfl) (by kernel_rfl) (by kernel_rfl) (by kernel_rfl) (fun _ _ _ h => h) hS (yields_of (by kernel_rfl) (fun w ⟨hr, h0, h1, h2, h3⟩ => by go_simp)) ?_
        refine wpAnyU_take (i := 36) (v := (.int .i64 (s0 : Int))) (some 69) rfl rfl (by kernel_rfl) (by kernel_rfl) (by kernel_rfl) (by kernel_rfl) (fun _ _ _ h => h) hS (yields_of (by kernel_rfl) (fun w ⟨hr, h0, h1, h2, h3⟩ => by go_simp)) ?_
        refine wpAnyU_call (i := 35) (f := 20) (args := #[(.pointer (some ⟨t, 0, none⟩))]) (some 68) rfl rfl (by kernel_rfl) (by kernel_rfl) (by kernel_rfl) ?_
        refine (HSz.out _ HKA0.out).mono ?_
        rintro e wq0 ⟨rfl, hq0⟩
        have HKA1 := Lib.hid (HKA0.out.trans hq0 (fun _ hf => hf.elim))
        clear hq0 hS
        have hS := (HF.out _ HKA1.out).1
        refine ⟨_, rfl, fun _ => hS, ?_⟩
        refine wpAnyU_take (i := 37) (v := (.bool false)) (some 70) rfl rfl (by kernel_rfl) (by kernel_rfl) (by kernel_rfl) (by kernel_rfl) (fun _ _ _ h => h) hS (yields_of (by kernel_rfl) (fun w ⟨hr, h0, h1, h2, h3⟩ => by go_simp)) ?_
        refine wpAnyU_take (i := 38) (v := (.bool false)) (some 71) rfl rfl (by kernel_rfl) (by kernel_rfl) (by kernel_rfl) (by kernel_rfl) (fun _ _ _ h => h) hS (yields_of (by kernel_rfl) (fun w ⟨hr, h0, h1, h2, h3⟩ => by go_simp)) ?_
        refine wpAnyU_take (i := 39) (v := (.pointer (some ⟨t, 0, none⟩))) (some 72) rfl rfl (by kernel_rfl) (by kernel_rfl) (by kernel_rfl) (by kernel_rfl) (fun _ _ _ h => h) hS (yields_of (by kernel_rfl) (fun w ⟨hr, h0, h1, h2, h3⟩ => by go_simp)) ?_
        refine wpAnyU_take (i := 41) (v := (.int .i64 (n0 : Int))) (some 74) rfl rfl (by kernel_rfl) (by kernel_rfl) (by kernel_rfl) (by kernel_rfl) (fun _ _ _ h => h) hS (yields_of (by kernel_rfl) (fun w ⟨hr, h0, h1, h2, h3⟩ => by go_simp)) ?_
        refine wpAnyU_call (i := 40) (f := 22) (args := #[(.pointer (some ⟨t, 0, none⟩))]) (some 73) rfl rfl (by kernel_rfl) (by kernel_rfl) (by kernel_rfl) ?_
        refine (HLn.out _ HKA1.out).mono ?_
        rintro e wq1 ⟨rfl, hq1⟩
        have HKA2 := Lib.hid (HKA1.out.trans hq1 (fun _ hf => hf.elim))
        clear hq1 hS
        have hS := (HF.out _ HKA2.out).1
        refine ⟨_, rfl, fun _ => hS, ?_⟩
        refine wpAnyU_take (i := 42) (v := (.bool false)) (some 75) rfl rfl (by kernel_rfl) (by kernel_rfl) (by kernel_rfl) (by kernel_rfl) (fun _ _ _ h => h) hS (yields_of (by kernel_rfl) (fun w ⟨hr, h0, h1, h2, h3⟩ => by go_simp)) ?_
        refine wpAnyU_take (i := 43) (v := (.bool false)) (some 76) rfl rfl (by kernel_rfl) (by kernel_rfl) (by kernel_rfl) (by kernel_rfl) (fun _ _ _ h => h) hS (yields_of (by kernel_rfl) (fun w ⟨hr, h0, h1, h2, h3⟩ => by go_simp)) ?_
        refine wpAnyU_take (i := 44) (v := (.bool false)) (some 77) rfl rfl (by kernel_rfl) (by kernel_rfl) (by kernel_rfl) (by kernel_rfl) (fun _ _ _ h => h) hS (yields_of (by kernel_rfl) (fun w ⟨hr, h0, h1, h2, h3⟩ => by go_simp)) ?_
        refine wpAnyU_take (i := 45) (v := (.bool false)) (some 78) rfl rfl (by kernel_rfl) (by kernel_rfl) (by kernel_rfl) (by kernel_rfl) (fun _ _ _ h => h) hS (yields_of (by kernel_rfl) (fun w ⟨hr, h0, h1, h2, h3⟩ => by go_simp)) ?_
        refine wpAnyU_take (i := 46) (v := (.bool false)) (some 79) rfl rfl (by kernel_rfl) (by kernel_rfl) (by kernel_rfl) (by kernel_rfl) (fun _ _ _ h => h) hS (yields_of (by kernel_rfl) (fun w ⟨hr, h0, h1, h2, h3⟩ => by go_simp)) ?_
        refine wpAnyU_take (i := 47) (v := (.iface 55 (.int .i64 9))) (some 80) rfl rfl (by kernel_rfl) (by kernel_rfl) (by kernel_rfl) (by kernel_rfl) (fun _ _ _ h => h) hS (yields_of (by kernel_rfl) (fun w ⟨hr, h0, h1, h2, h3⟩ => by go_simp)) ?_
        refine wpAnyU_take (i := 48) (v := (.bool false)) (some 81) rfl rfl (by kernel_rfl) (by kernel_rfl) (by kernel_rfl) (by kernel_rfl) (fun _ _ _ h => h) hS (yields_of (by kernel_rfl) (fun w ⟨hr, h0, h1, h2, h3⟩ => by go_simp)) ?_
        refine wpAnyU_take (i := 49) (v := (.bool false)) (some 82) rfl rfl (by kernel_rfl) (by kernel_rfl) (by kernel_rfl) (by kernel_rfl) (fun _ _ _ h => h) hS (yields_of (by kernel_rfl) (fun w ⟨hr, h0, h1, h2, h3⟩ => by go_simp)) ?_
        refine wpAnyU_take (i := 50) (v := (.iface 55 (.int .i64 9))) (some 83) rfl rfl (by kernel_rfl) (by kernel_rfl) (by kernel_rfl) (by kernel_rfl) (fun _ _ _ h => h) hS (yields_of (by kernel_rfl) (fun w ⟨hr, h0, h1, h2, h3⟩ => by go_simp)) ?_
        refine wpAnyU_take (i := 53) (v := (.slice (some ⟨bp, op, none⟩) len cap)) (some 86) rfl rfl (by kernel_rfl) (by kernel_rfl) (by kernel_rfl) (by kernel_rfl) (fun _ _ _ h => h) hS (yields_of (by kernel_rfl) (fun w ⟨hr, h0, h1, h2, h3⟩ => by go_simp)) ?_
        refine wpAnyU_take (i := 54) (v := (.int .i64 (j : Int))) (some 87) rfl rfl (by kernel_rfl) (by kernel_rfl) (by kernel_rfl) (by kernel_rfl) (fun _ _ _ h => h) hS (yields_of (by kernel_rfl) (fun w ⟨hr, h0, h1, h2, h3⟩ => by go_simp)) ?_
        refine wpAnyU_take (i := 55) (v := (.pointer (some ⟨bp, op + j * 4, none⟩))) (some 88) rfl rfl (by kernel_rfl) (by kernel_rfl) (by kernel_rfl) (by kernel_rfl) (fun _ _ _ h => h) hS (yields_of (by kernel_rfl) (fun w ⟨hr, h0, h1, h2, h3⟩ => by go_simp)) ?_
        refine wpAnyU_take (i := 56) (v := (.agg (entC x).toArray)) (some 89) rfl rfl (by kernel_rfl) (by kernel_rfl) (by kernel_rfl) (by kernel_rfl) (fun _ _ _ h => h) hS (yieldsIf_load_mid (by kernel_rfl) 34 (.tmp 88) rfl bp (op + j * 4) (by kernel_rfl) (entC x) _ (fun w hw => hw.1) Try.underlying34 rfl (by rw [ent_size]; rfl)) ?_
        refine wpAnyU_call (i := 51) (f := 11) (args := #[(.iface 55 (.int .i64 9)), (.int .i64 9)]) (some 84) rfl rfl (by kernel_rfl) (by kernel_rfl) (by kernel_rfl) ?_
        refine (HIs.out _ HKA2.out).mono ?_
        rintro e wq2 ⟨rfl, hq2⟩
        have HKA3 := Lib.hid (HKA2.out.trans hq2 (fun _ hf => hf.elim))
        clear hq2 hS
        have hS := (HF.out _ HKA3.out).1
        refine ⟨_, rfl, fun _ => hS, ?_⟩
        refine wpAnyU_take (i := 52) (v := (.bool true)) (some 85) rfl rfl (by kernel_rfl) (by kernel_rfl) (by kernel_rfl) (by kernel_rfl) (fun _ _ _ h => h) hS (yields_of (by kernel_rfl) (fun w ⟨hr, h0, h1, h2, h3⟩ => by go_simp)) ?_
        refine wpAnyU_call (i := 57) (f := 12) (args := #[(.agg (entC x).toArray)]) (some 90) rfl rfl (by kernel_rfl) (by kernel_rfl) (by kernel_rfl) ?_
        refine (HRt.out _ HKA3.out).mono ?_
        rintro e wq3 ⟨rfl, hq3⟩
        have HKA4 := Lib.hid (HKA3.out.trans hq3 (fun _ hf => hf.elim))
        clear hq3 hS
        have hS := (HF.out _ HKA4.out).1
        refine ⟨_, rfl, fun _ => hS, ?_⟩
        refine wpAnyU_take (i := 58) (v := (.bool false)) (some 91) rfl rfl (by kernel_rfl) (by kernel_rfl) (by kernel_rfl) (by kernel_rfl) (fun _ _ _ h => h) hS (yields_of (by kernel_rfl) (fun w ⟨hr, h0, h1, h2, h3⟩ => by go_simp)) ?_
        refine wpAnyU_take (i := 59) (v := (.bool false)) (some 92) rfl rfl (by kernel_rfl) (by kernel_rfl) (by kernel_rfl) (by kernel_rfl) (fun _ _ _ h => h) hS (yields_of (by kernel_rfl) (fun w ⟨hr, h0, h1, h2, h3⟩ => by go_simp)) ?_
        refine wpAnyU_done (by kernel_rfl) ?_ _
        simp only [put_lit, List.set_cons_succ, List.set_cons_zero]
        clear hS
        have HI2 : Hid (∃ T X, Mt At w1 wq3 t T X ∧ T.length ≤ j + 1) := by obtain ⟨T, X, h1, h2⟩ := HNext.out; exact ⟨T, X, h1.still K HKA4.out, h2⟩
        go_wp2
        go_roundw
        case rel => exact ⟨j + 1, by omega, by first | rfl | go_num, HI2⟩
        case measure => simp [intOf]; omega
      · skip
        have hTT : Hid (sizeM (putM T x) = s0 ∧ (putM T x).length = n0) := by
          refine ⟨?_, ?_⟩
          · rw [size_put, if_neg (by omega)]; have := hs0.out; omega
          · rw [put_length, if_neg (by omega)]; have := hn0.out; omega
        have HSz : Hid (∀ W, Kept (fun _ => False) w5 W → Calls Try.prog 20 #[.pointer (some ⟨t, 0, none⟩)] W fun r w' => r = .returned (.int .i64 (s0 : Int)) ∧ Kept (fun _ => False) W w') := fun W hk => by
          have := K.size (h5.still K hk).sk (by have := put_len_le T x hTl; omega)
          rw [hTT.out.1] at this; exact this
        have HLn : Hid (∀ W, Kept (fun _ => False) w5 W → Calls Try.prog 22 #[.pointer (some ⟨t, 0, none⟩)] W fun r w' => r = .returned (.int .i64 (n0 : Int)) ∧ Kept (fun _ => False) W w') := fun W hk => by
          have := K.len (h5.still K hk).sk (by have := put_len_le T x hTl; omega)
          rw [hTT.out.2] at this; exact this
        have HRt : Hid (∀ W, Kept (fun _ => False) w5 W → Calls Try.prog 12 #[.agg (entC x).toArray] W fun r w' => r = .returned (.bool false) ∧ Kept (fun _ => False) W w') := fun W hk => by
          have := K.right x W hfx
          rw [show rightM x = false from by rw [putC_right (T := T), hc]; rfl] at this; exact this
        have HIs : Hid (∀ W, Kept (fun _ => False) w5 W → Calls Try.prog 11 #[(.iface 55 (.int .i64 1)), .int .i64 9] W fun r w' => r = .returned (.bool false) ∧ Kept (fun _ => False) W w') := fun W hk => (is_any 1 9 W).mono fun r w' ⟨h1, h2⟩ => ⟨h1, by rw [← h2]; exact Kept.refl _ _⟩
        have HNext : Hid (∃ T X, Mt At w1 w5 t T X ∧ T.length ≤ j + 1) := ⟨_, X5, h5, put_len_le T x hTl⟩
        rw [hc, show errV 55 1 = (.iface 55 (.int .i64 1)) from rfl]
        clear hc h5 hTT hTl hk5 hg5
        go_upto_region 11 with (fail)
        refine wp_region_until (SEnt bp (op + j * 4) x) 60 (by kernel_rfl) ?_
        have HKA0 : Hid (Kept (fun _ => False) w5 w5.drew) := (Kept.refl _ w5).drewN 1
        have hS := (HF.out _ HKA0.out).1
        refine wpAnyU_take (i := 0) (v := (.iface 55 (.int .i64 1))) (some 33) rfl rfl (by kernel_rfl) (by kernel_rfl) (by kernel_rfl) (by kernel_rfl) (fun _ _ _ h => h) hS (yields_of (by kernel_rfl) (fun w ⟨hr, h0, h1, h2, h3⟩ => by go_simp)) ?_
        refine wpAnyU_take (i := 1) (v := (.bool false)) (some 34) rfl rfl (by kernel_rfl) (by kernel_rfl) (by kernel_rfl) (by kernel_rfl) (fun _ _ _ h => h) hS (yields_of (by kernel_rfl) (fun w ⟨hr, h0, h1, h2, h3⟩ => by go_simp)) ?_
        refine wpAnyU_take (i := 2) (v := (.bool false)) (some 35) rfl rfl (by kernel_rfl) (by kernel_rfl) (by kernel_rfl) (by kernel_rfl) (fun _ _ _ h => h) hS (yields_of (by kernel_rfl) (fun w ⟨hr, h0, h1, h2, h3⟩ => by go_simp)) ?_
        refine wpAnyU_take (i := 3) (v := undef) (some 36) rfl rfl (by kernel_rfl) (by kernel_rfl) (by kernel_rfl) (by kernel_rfl) (fun _ _ _ h => h) hS (unwanted (by kernel_rfl)) ?_
        refine wpAnyU_take (i := 4) (v := undef) (some 37) rfl rfl (by kernel_rfl) (by kernel_rfl) (by kernel_rfl) (by kernel_rfl) (fun _ _ _ h => h) hS (unwanted (by kernel_rfl)) ?_
        refine wpAnyU_take (i := 5) (v := undef) (some 38) rfl rfl (by kernel_rfl) (by kernel_rfl) (by kernel_rfl) (by kernel_rfl) (fun _ _ _ h => h) hS (unwanted (by kernel_rfl)) ?_
        refine wpAnyU_take (i := 6) (v := undef) (some 39) rfl rfl (by kernel_rfl) (by kernel_rfl) (by kernel_rfl) (by kernel_rfl) (fun _ _ _ h => h) hS (unwanted (by kernel_rfl)) ?_
        refine wpAnyU_take (i := 7) (v := undef) (some 40) rfl rfl (by kernel_rfl) (by kernel_rfl) (by kernel_rfl) (by kernel_rfl) (fun _ _ _ h => h) hS (unwanted (by kernel_rfl)) ?_
        refine wpAnyU_take (i := 8) (v := undef) (some 41) rfl rfl (by kernel_rfl) (by kernel_rfl) (by kernel_rfl) (by kernel_rfl) (fun _ _ _ h => h) hS (unwanted (by kernel_rfl)) ?_
        refine wpAnyU_take (i := 9) (v := undef) (some 42) rfl rfl (by kernel_rfl) (by kernel_rfl) (by kernel_rfl) (by kernel_rfl) (fun _ _ _ h => h) hS (unwanted (by kernel_rfl)) ?_
        refine wpAnyU_take (i := 10) (v := undef) (some 43) rfl rfl (by kernel_rfl) (by kernel_rfl) (by kernel_rfl) (by kernel_rfl) (fun _ _ _ h => h) hS (unwanted (by kernel_rfl)) ?_
        refine wpAnyU_take (i := 11) (v := undef) (some 44) rfl rfl (by kernel_rfl) (by kernel_rfl) (by kernel_rfl) (by kernel_rfl) (fun _ _ _ h => h) hS (unwanted (by kernel_rfl)) ?_
        refine wpAnyU_take (i := 12) (v := undef) (some 45) rfl rfl (by kernel_rfl) (by kernel_rfl) (by kernel_rfl) (by kernel_rfl) (fun _ _ _ h => h) hS (unwanted (by kernel_rfl)) ?_
        refine wpAnyU_take (i := 13) (v := undef) (some 46) rfl rfl (by kernel_rfl) (by kernel_rfl) (by kernel_rfl) (by kernel_rfl) (fun _ _ _ h => h) hS (unwanted (by kernel_rfl)) ?_
        refine wpAnyU_take (i := 14) (v := undef) (some 47) rfl rfl (by kernel_rfl) (by kernel_rfl) (by kernel_rfl) (by kernel_rfl) (fun _ _ _ h => h) hS (unwanted (by kernel_rfl)) ?_
        refine wpAnyU_take (i := 15) (v := undef) (some 48) rfl rfl (by kernel_rfl) (by kernel_rfl) (by kernel_rfl) (by kernel_rfl) (fun _ _ _ h => h) hS (unwanted (by kernel_rfl)) ?_
        refine wpAnyU_take (i := 16) (v := undef) (some 49) rfl rfl (by kernel_rfl) (by kernel_rfl) (by kernel_rfl) (by kernel_rfl) (fun _ _ _ h => h) hS (unwanted (by kernel_rfl)) ?_
        refine wpAnyU_take (i := 17) (v := undef) (some 50) rfl rfl (by kernel_rfl) (by kernel_rfl) (by kernel_rfl) (by kernel_rfl) (fun _ _ _ h => h) hS (unwanted (by kernel_rfl)) ?_
        refine wpAnyU_take (i := 18) (v := undef) (some 51) rfl rfl (by kernel_rfl) (by kernel_rfl) (by kernel_rfl) (by kernel_rfl) (fun _ _ _ h => h) hS (unwanted (by kernel_rfl)) ?_
        refine wpAnyU_take (i := 19) (v := undef) (some 52) rfl rfl (by kernel_rfl) (by kernel_rfl) (by kernel_rfl) (by kernel_rfl) (fun _ _ _ h => h) hS (unwanted (by kernel_rfl)) ?_
        refine wpAnyU_take (i := 20) (v := undef) (some 53) rfl rfl (by kernel_rfl) (by kernel_rfl) (by kernel_rfl) (by kernel_rfl) (fun _ _ _ h => h) hS (unwanted (by kernel_rfl)) ?_
        refine wpAnyU_take (i := 21) (v := undef) (some 54) rfl rfl (by kernel_rfl) (by kernel_rfl) (by kernel_rfl) (by kernel_rfl) (fun _ _ _ h => h) hS (unwanted (by kernel_rfl)) ?_
        refine wpAnyU_take (i := 22) (v := undef) (some 55) rfl rfl (by kernel_rfl) (by kernel_rfl) (by kernel_rfl) (by kernel_rfl) (fun _ _ _ h => h) hS (unwanted (by kernel_rfl)) ?_
        refine wpAnyU_take (i := 23) (v := undef) (some 56) rfl rfl (by kernel_rfl) (by kernel_rfl) (by kernel_rfl) (by kernel_rfl) (fun _ _ _ h => h) hS (unwanted (by kernel_rfl)) ?_
        refine wpAnyU_take (i := 24) (v := undef) (some 57) rfl rfl (by kernel_rfl) (by kernel_rfl) (by kernel_rfl) (by kernel_rfl) (fun _ _ _ h => h) hS (unwanted (by kernel_rfl)) ?_
        refine wpAnyU_take (i := 25) (v := undef) (some 58) rfl rfl (by kernel_rfl) (by kernel_rfl) (by kernel_rfl) (by kernel_rfl) (fun _ _ _ h => h) hS (unwanted (by kernel_rfl)) ?_
        refine wpAnyU_take (i := 26) (v := undef) (some 59) rfl rfl (by kernel_rfl) (by kernel_rfl) (by kernel_rfl) (by kernel_rfl) (fun _ _ _ h => h) hS (unwanted (by kernel_rfl)) ?_
        refine wpAnyU_take (i := 27) (v := undef) (some 60) rfl rfl (by kernel_rfl) (by kernel_rfl) (by kernel_rfl) (by kernel_rfl) (fun _ _ _ h => h) hS (unwanted (by kernel_rfl)) ?_
        refine wpAnyU_take (i := 28) (v := undef) (some 61) rfl rfl (by kernel_rfl) (by kernel_rfl) (by kernel_rfl) (by kernel_rfl) (fun _ _ _ h => h) hS (unwanted (by kernel_rfl)) ?_
        refine wpAnyU_take (i := 29) (v := (.bool false)) (some 62) rfl rfl (by kernel_rfl) (by kernel_rfl) (by kernel_rfl) (by kernel_rfl) (fun _ _ _ h => h) hS (yields_of (by kernel_rfl) (fun w ⟨hr, h0, h1, h2, h3⟩ => by go_simp)) ?_
        refine wpAnyU_take (i := 30) (v := (.bool false)) (some 63) rfl rfl (by kernel_rfl) (by kernel_rfl) (by kernel_rfl) (by kernel_rfl) (fun _ _ _ h => h) hS (yields_of (by kernel_rfl) (fun w ⟨hr, h0, h1, h2, h3⟩ => by go_simp)) ?_
        refine wpAnyU_take (i := 31) (v := (.iface 55 (.int .i64 1))) (some 64) rfl rfl (by kernel_rfl) (by kernel_rfl) (by kernel_rfl) (by kernel_rfl) (fun _ _ _ h => h) hS (yields_of (by kernel_rfl) (fun w ⟨hr, h0, h1, h2, h3⟩ => by go_simp)) ?_
        refine wpAnyU_take (i := 32) (v := (.bool true)) (some 65) rfl rfl (by kernel_rfl) (by kernel_rfl) (by kernel_rfl) (by kernel_rfl) (fun _ _ _ h => h) hS (yields_of (by kernel_rfl) (fun w ⟨hr, h0, h1, h2, h3⟩ => by go_simp)) ?_
        refine wpAnyU_take (i := 33) (v := (.bool true)) (some 66) rfl rfl (by kernel_rfl) (by kernel_rfl) (by kernel_rfl) (by kernel_rfl) (fun _ _ _ h => h) hS (yields_of (by kernel_rfl) (fun w ⟨hr, h0, h1, h2, h3⟩ => by go_simp)) ?_
        refine wpAnyU_take (i := 34) (v := (.pointer (some ⟨t, 0, none⟩))) (some 67) rfl rfl (by kernel_rfl) (by kernel_rfl) (by kernel_rfl) (by kernel_rfl) (fun _ _ _ h => h) hS (yields_of (by kernel_rfl) (fun w ⟨hr, h0, h1, h2, h3⟩ => by go_simp)) ?_
        refine wpAnyU_take (i := 36) (v := (.int .i64 (s0 : Int))) (some 69) rfl rfl (by kernel_rfl) (by kernel_rfl) (by kernel_rfl) (by kernel_rfl) (fun _ _ _ h => h) hS (yields_of (by kernel_rfl) (fun w ⟨hr, h0, h1, h2, h3⟩ => by go_simp)) ?_
        refine wpAnyU_call (i := 35) (f := 20) (args := #[(.pointer (some ⟨t, 0, none⟩))]) (some 68) rfl rfl (by kernel_rfl) (by kernel_rfl) (by kernel_rfl) ?_
        refine (HSz.out _ HKA0.out).mono ?_
        rintro e wq0 ⟨rfl, hq0⟩
        have HKA1 := Lib.hid (HKA0.out.trans hq0 (fun _ hf => hf.elim))
        clear hq0 hS
        have hS := (HF.out _ HKA1.out).1
        refine ⟨_, rfl, fun _ => hS, ?_⟩
        refine wpAnyU_take (i := 37) (v := (.bool false)) (some 70) rfl rfl (by kernel_rfl) (by kernel_rfl) (by kernel_rfl) (by kernel_rfl) (fun _ _ _ h => h) hS (yields_of (by kernel_rfl) (fun w ⟨hr, h0, h1, h2, h3⟩ => by go_simp)) ?_
        refine wpAnyU_take (i := 38) (v := (.bool false)) (some 71) rfl rfl (by kernel_rfl) (by kernel_rfl) (by kernel_rfl) (by kernel_rfl) (fun _ _ _ h => h) hS (yields_of (by kernel_rfl) (fun w ⟨hr, h0, h1, h2, h3⟩ => by go_simp)) ?_
        refine wpAnyU_take (i := 39) (v := (.pointer (some ⟨t, 0, none⟩))) (some 72) rfl rfl (by kernel_rfl) (by kernel_rfl) (by kernel_rfl) (by kernel_rfl) (fun _ _ _ h => h) hS (yields_of (by kernel_rfl) (fun w ⟨hr, h0, h1, h2, h3⟩ => by go_simp)) ?_
        refine wpAnyU_take (i := 41) (v := (.int .i64 (n0 : Int))) (some 74) rfl rfl (by kernel_rfl) (by kernel_rfl) (by kernel_rfl) (by kernel_rfl) (fun _ _ _ h => h) hS (yields_of (by kernel_rfl) (fun w ⟨hr, h0, h1, h2, h3⟩ => by go_simp)) ?_
        refine wpAnyU_call (i := 40) (f := 22) (args := #[(.pointer (some ⟨t, 0, none⟩))]) (some 73) rfl rfl (by kernel_rfl) (by kernel_rfl) (by kernel_rfl) ?_
        refine (HLn.out _ HKA1.out).mono ?_
        rintro e wq1 ⟨rfl, hq1⟩
        have HKA2 := Lib.hid (HKA1.out.trans hq1 (fun _ hf => hf.elim))
        clear hq1 hS
        have hS := (HF.out _ HKA2.out).1
        refine ⟨_, rfl, fun _ => hS, ?_⟩
        refine wpAnyU_take (i := 42) (v := (.bool false)) (some 75) rfl rfl (by kernel_rfl) (by kernel_rfl) (by kernel_rfl) (by kernel_rfl) (fun _ _ _ h => h) hS (yields_of (by kernel_rfl) (fun w ⟨hr, h0, h1, h2, h3⟩ => by go_simp)) ?_
        refine wpAnyU_take (i := 43) (v := (.bool false)) (some 76) rfl rfl (by kernel_rfl) (by kernel_rfl) (by kernel_rfl) (by kernel_rfl) (fun _ _ _ h => h) hS (yields_of (by kernel_rfl) (fun w ⟨hr, h0, h1, h2, h3⟩ => by go_simp)) ?_
        refine wpAnyU_take (i := 44) (v := (.bool false)) (some 77) rfl rfl (by kernel_rfl) (by kernel_rfl) (by kernel_rfl) (by kernel_rfl) (fun _ _ _ h => h) hS (yields_of (by kernel_rfl) (fun w ⟨hr, h0, h1, h2, h3⟩ => by go_simp)) ?_
        refine wpAnyU_take (i := 45) (v := (.bool false)) (some 78) rfl rfl (by kernel_rfl) (by kernel_rfl) (by kernel_rfl) (by kernel_rfl) (fun _ _ _ h => h) hS (yields_of (by kernel_rfl) (fun w ⟨hr, h0, h1, h2, h3⟩ => by go_simp)) ?_
        refine wpAnyU_take (i := 46) (v := (.bool false)) (some 79) rfl rfl (by kernel_rfl) (by kernel_rfl) (by kernel_rfl) (by kernel_rfl) (fun _ _ _ h => h) hS (yields_of (by kernel_rfl) (fun w ⟨hr, h0, h1, h2, h3⟩ => by go_simp)) ?_
        refine wpAnyU_take (i := 47) (v := (.iface 55 (.int .i64 1))) (some 80) rfl rfl (by kernel_rfl) (by kernel_rfl) (by kernel_rfl) (by kernel_rfl) (fun _ _ _ h => h) hS (yields_of (by kernel_rfl) (fun w ⟨hr, h0, h1, h2, h3⟩ => by go_simp)) ?_
        refine wpAnyU_take (i := 48) (v := (.bool false)) (some 81) rfl rfl (by kernel_rfl) (by kernel_rfl) (by kernel_rfl) (by kernel_rfl) (fun _ _ _ h => h) hS (yields_of (by kernel_rfl) (fun w ⟨hr, h0, h1, h2, h3⟩ => by go_simp)) ?_
        refine wpAnyU_take (i := 49) (v := (.bool false)) (some 82) rfl rfl (by kernel_rfl) (by kernel_rfl) (by kernel_rfl) (by kernel_rfl) (fun _ _ _ h => h) hS (yields_of (by kernel_rfl) (fun w ⟨hr, h0, h1, h2, h3⟩ => by go_simp)) ?_
        refine wpAnyU_take (i := 50) (v := (.iface 55 (.int .i64 1))) (some 83) rfl rfl (by kernel_rfl) (by kernel_rfl) (by kernel_rfl) (by kernel_rfl) (fun _ _ _ h => h) hS (yields_of (by kernel_rfl) (fun w ⟨hr, h0, h1, h2, h3⟩ => by go_simp)) ?_
        refine wpAnyU_take (i := 53) (v := (.slice (some ⟨bp, op, none⟩) len cap)) (some 86) rfl rfl (by kernel_rfl) (by kernel_rfl) (by kernel_rfl) (by kernel_rfl) (fun _ _ _ h => h) hS (yields_of (by kernel_rfl) (fun w ⟨hr, h0, h1, h2, h3⟩ => by go_simp)) ?_
        refine wpAnyU_take (i := 54) (v := (.int .i64 (j : Int))) (some 87) rfl rfl (by kernel_rfl) (by kernel_rfl) (by kernel_rfl) (by kernel_rfl) (fun _ _ _ h => h) hS (yields_of (by kernel_rfl) (fun w ⟨hr, h0, h1, h2, h3⟩ => by go_simp)) ?_
        refine wpAnyU_take (i := 55) (v := (.pointer (some ⟨bp, op + j * 4, none⟩))) (some 88) rfl rfl (by kernel_rfl) (by kernel_rfl) (by kernel_rfl) (by kernel_rfl) (fun _ _ _ h => h) hS (yields_of (by kernel_rfl) (fun w ⟨hr, h0, h1, h2, h3⟩ => by go_simp)) ?_
        refine wpAnyU_take (i := 56) (v := (.agg (entC x).toArray)) (some 89) rfl rfl (by kernel_rfl) (by kernel_rfl) (by kernel_rfl) (by kernel_rfl) (fun _ _ _ h => h) hS (yieldsIf_load_mid (by kernel_rfl) 34 (.tmp 88) rfl bp (op + j * 4) (by kernel_rfl) (entC x) _ (fun w hw => hw.1) Try.underlying34 rfl (by rw [ent_size]; rfl)) ?_
        refine wpAnyU_call (i := 51) (f := 11) (args := #[(.iface 55 (.int .i64 1)), (.int .i64 9)]) (some 84) rfl rfl (by kernel_rfl) (by kernel_rfl) (by kernel_rfl) ?_
        refine (HIs.out _ HKA2.out).mono ?_
        rintro e wq2 ⟨rfl, hq2⟩
        have HKA3 := Lib.hid (HKA2.out.trans hq2 (fun _ hf => hf.elim))
        clear hq2 hS
        have hS := (HF.out _ HKA3.out).1
        refine ⟨_, rfl, fun _ => hS, ?_⟩
        refine wpAnyU_take (i := 52) (v := (.bool false)) (some 85) rfl rfl (by kernel_rfl) (by kernel_rfl) (by kernel_rfl) (by kernel_rfl) (fun _ _ _ h => h) hS (yields_of (by kernel_rfl) (fun w ⟨hr, h0, h1, h2, h3⟩ => by go_simp)) ?_
        refine wpAnyU_call (i := 57) (f := 12) (args := #[(.agg (entC x).toArray)]) (some 90) rfl rfl (by kernel_rfl) (by kernel_rfl) (by kernel_rfl) ?_
        refine (HRt.out _ HKA3.out).mono ?_
        rintro e wq3 ⟨rfl, hq3⟩
        have HKA4 := Lib.hid (HKA3.out.trans hq3 (fun _ hf => hf.elim))
        clear hq3 hS
        have hS := (HF.out _ HKA4.out).1
        refine ⟨_, rfl, fun _ => hS, ?_⟩
        refine wpAnyU_take (i := 58) (v := (.bool false)) (some 91) rfl rfl (by kernel_rfl) (by kernel_rfl) (by kernel_rfl) (by kernel_rfl) (fun _ _ _ h => h) hS (yields_of (by kernel_rfl) (fun w ⟨hr, h0, h1, h2, h3⟩ => by go_simp)) ?_
        refine wpAnyU_take (i := 59) (v := (.bool false)) (some 92) rfl rfl (by kernel_rfl) (by kernel_rfl) (by kernel_rfl) (by kernel_rfl) (fun _ _ _ h => h) hS (yields_of (by kernel_rfl) (fun w ⟨hr, h0, h1, h2, h3⟩ => by go_simp)) ?_
        refine wpAnyU_done (by kernel_rfl) ?_ _
        simp only [put_lit, List.set_cons_succ, List.set_cons_zero]
        clear hS
        have HI2 : Hid (∃ T X, Mt At w1 wq3 t T X ∧ T.length ≤ j + 1) := by obtain ⟨T, X, h1, h2⟩ := HNext.out; exact ⟨T, X, h1.still K HKA4.out, h2⟩
        go_wp2
        go_roundw
        case rel => exact ⟨j + 1, by omega, by first | rfl | go_num, HI2⟩
        case measure => simp [intOf]; omega
    · have hexit : ¬(j : Int) < (len : Int) ∨ ((j : Int) < (len : Int) ∧ ¬(j : Int) < 60) := by omega
      have HF := Lib.hid (HB1.out.trans (hMt.below.mono HB1.out.size))
      clear hMt hTl hI hlt
      rcases hexit with k1 | ⟨k1, k2⟩
      all_goals
        go_wp2
        go_ret
        exact ⟨rfl, HF.out⟩

end Go.Proofs.Ytlmlldcpllagbaa
