/- The reference of layer 12: Encode. -/
import Derived.Test.YtbiifeahdinjjaaR2c
import Derived.Test.YtbiifeahdinjjaaBkN
namespace Go.Proofs.Ytbiifeahdinjjaa
open Go.RowKit Go.Proofs Go.Proofs.Pk
set_option maxRecDepth 10000
attribute [local simp] mk_get wrap64_u8 mk_extract ByteArray.mk_append_mk get_1k

set_option maxHeartbeats 4000000 in
theorem rEncode (w : World) (ad : Option Addr) (len cap : Nat) (l : List MEnt) (h : EntsW w ad len l) (hlm : (len : Int) ≤ 140737488351232) :
    Calls Try.prog 11 #[.slice ad len cap] w fun e w' => e = .returned (.tuple #[.string ⟨(encB l).1.toArray⟩, .int .i64 ((encB l).2 : Int)]) ∧ Kept (fun _ => False) w w' := by
  have hlen := h.1
  by_cases hbig : 200 < l.length
  · have HV : Hid (encB l = ([], 5)) := by show _ = _; unfold encB; rw [if_pos hbig]
    have h1 : (200 : Int) < (len : Int) := by omega
    rw [HV.out]
    clear h hbig
    go_enter Try.func11, Try.ntmps11
    go_wp2
    go_ret2
    exact ⟨rfl, Kept.refl _ _⟩
  have h1 : ¬(200 : Int) < (len : Int) := by omega
  have CS := Lib.hid (rSorted w ad len cap l h hlm)
  obtain ⟨sb, hsb⟩ : ∃ sb, Hid (sb = sortB l) := ⟨sortB l, rfl⟩
  rw [← hsb.out] at CS
  cases sb with
  | false =>
    have HV : Hid (encB l = ([], 1)) := by show _ = _; unfold encB; rw [if_neg hbig, ← hsb.out]; rfl
    rw [HV.out]
    clear h hbig
    go_enter Try.func11, Try.ntmps11
    go_wp2_with fail
    refine CS.out.mono ?_
    rintro e wx ⟨rfl, hk⟩
    have HK := Lib.hid hk
    clear hk CS
    go_wp2
    go_ret2
    exact ⟨rfl, HK.out⟩
  | true =>
    have H := Lib.hid h
    have hss : Hid (sortB l = true) := hsb.out.symm
    have HV : Hid (encB l = (outB l len, 0)) := by have := out_all hbig hss.out; rw [hlen] at this; exact this
    rw [HV.out]
    have CL := Lib.hid (fun W : World => rNum12 len W (by unfold MaxN; omega))
    obtain ⟨w0, hw0⟩ : ∃ w0, w0 = w := ⟨_, rfl⟩
    rw [← hw0] at H CS ⊢
    clear h hbig
    go_enter Try.func11, Try.ntmps11
    clear hw0
    go_wp2_with fail
    refine CS.out.mono ?_
    rintro e wx ⟨rfl, hk⟩
    have HKx := Lib.hid hk
    clear hk CS
    go_wp2_with fail
    refine (CL.out _).mono ?_
    rintro e wy ⟨rfl, hk⟩
    have HKy := Lib.hid (HKx.out.trans hk (fun _ f => f.elim))
    clear hk CL
    obtain ⟨o0, ho0⟩ : ∃ o0, Hid (o0 = numL len) := ⟨numL len, rfl⟩
    rw [← ho0.out]
    have HI : Hid (o0 = outB l 0 ∧ Kept (fun _ => False) w0 wy) := ⟨by rw [ho0.out]; unfold outB; rw [hlen]; simp [bodyB], HKy.out⟩
    clear HKx HKy ho0
    go_wp2
    go_loopw [5, 6] (fun o i wr => ∃ j : Nat, j ≤ len ∧ i = .int .i64 (j : Int) ∧ o = .string ⟨(outB l j).toArray⟩ ∧ Kept (fun _ => False) w0 wr) (fun _ i _ => len - (intOf i).toNat)
    case atStart => exact ⟨0, Nat.zero_le _, rfl, by rw [HI.out.1], HI.out.2⟩
    case round =>
      obtain ⟨j, hj, rfl, rfl, hKr⟩ := hrel
      clear HI
      have HKwr : Hid (Kept (fun _ => False) w0 wr) := hKr
      clear hKr
      have j0 : (0 : Int) ≤ (j : Int) := by omega
      have HB := Lib.hid (out_bound hss.out j (by omega))
      obtain ⟨out, hout⟩ : ∃ out, Hid (out = outB l j) := ⟨outB l j, rfl⟩
      rw [← hout.out] at HB ⊢
      by_cases hlt : j < len
      case neg =>
        obtain rfl : j = len := by omega
        have jn : ¬(j : Int) < (j : Int) := by omega
        go_wp2
        go_ret2
        exact ⟨by rw [hout.out]; rfl, HKwr.out⟩
      have jn : (j : Int) < (len : Int) := by omega
      have hwj : IntKind.i64.wrap ((j : Int) + 1) = (j : Int) + 1 := IntWalk.i64_in _ (by omega)
      have hjl : j < l.length := by omega
      obtain ⟨b, off, rfl, hat⟩ := ents_at H.out hjl
      have HAT := Lib.hid hat
      clear hat
      obtain ⟨x, hx⟩ : ∃ x, Hid (x = l[j]) := ⟨l[j], rfl⟩
      have hrx : rightM x = true := by rw [hx.out]; exact sort_mem l none hss.out _ (List.getElem_mem hjl)
      obtain ⟨_, r2, r3, r4, r5, _⟩ := right_of hrx
      obtain ⟨n, hn⟩ : ∃ n, Hid (n = shareB (lastK [] (l.take j)) j x.1) := ⟨_, rfl⟩
      have hnl : n ≤ x.1.length := by rw [hn.out]; exact (share_le _ _ _).2
      obtain ⟨q, hq⟩ : ∃ q, Hid (q = x.2.1.toNat) := ⟨x.2.1.toNat, rfl⟩
      have hqx : x.2.1 = (q : Int) := by rw [hq.out]; omega
      have HS : Hid (∀ w' : World, Kept (fun _ => False) w0 w' → w'.cell? ⟨b, off + j * 4, none⟩ = some (.string ⟨(x.1).toArray⟩) ∧ w'.cell? ⟨b, off + j * 4 + 1, none⟩ = some (.int .i64 (q : Int)) ∧ w'.cell? ⟨b, off + j * 4 + 2, none⟩ = some (.bool x.2.2.1) ∧ w'.cell? ⟨b, off + j * 4 + 3, none⟩ = some (.string ⟨(x.2.2.2).toArray⟩)) := fun W hk => by
        have hr := HAT.out j hjl W hk
        rw [← hx.out] at hr
        exact ⟨hr 0 _ rfl, by rw [← hqx]; exact hr 1 _ rfl, hr 2 _ rfl, hr 3 _ rfl⟩
      obtain ⟨tl, htl⟩ : ∃ tl, tl = x.1.drop n := ⟨_, rfl⟩
      have htll : tl.length ≤ 80 := by rw [htl, List.length_drop]; omega
      have CN := Lib.hid (fun W : World => rNum12 n W (by unfold MaxN; omega))
      have CT := Lib.hid (fun W : World => rText12 tl W (by omega))
      have CQ := Lib.hid (fun W : World => rNum12 q W (by rw [hq.out]; unfold MaxN; omega))
      have C1 := Lib.hid (fun W : World => rNum12 1 W (by unfold MaxN; omega))
      have C0 := Lib.hid (fun W : World => rNum12 0 W (by unfold MaxN; omega))
      have CV := Lib.hid (fun W : World => rText12 x.2.2.2 W (by omega))
      rw [show ((1 : Nat) : Int) = 1 from rfl] at C1
      rw [show ((0 : Nat) : Int) = 0 from rfl] at C0
      have HREC : Hid (outB l (j + 1) = out ++ (numL n ++ txtL tl ++ numL q ++ dropB x)) := by
        show _ = _
        rw [out_step hjl, ← hout.out, ← hx.out, recB, ← hn.out, ← htl, ← hq.out]
      obtain ⟨A1, hA1⟩ : ∃ A1, Hid (A1 = numL n) := ⟨_, rfl⟩
      obtain ⟨A2, hA2⟩ : ∃ A2, Hid (A2 = txtL tl) := ⟨_, rfl⟩
      obtain ⟨A3, hA3⟩ : ∃ A3, Hid (A3 = numL q) := ⟨_, rfl⟩
      obtain ⟨A4, hA4⟩ : ∃ A4, Hid (A4 = numL 0) := ⟨_, rfl⟩
      obtain ⟨A5, hA5⟩ : ∃ A5, Hid (A5 = txtL x.2.2.2) := ⟨_, rfl⟩
      obtain ⟨A6, hA6⟩ : ∃ A6, Hid (A6 = numL 1) := ⟨_, rfl⟩
      have HOUT1 : Hid (x.2.2.1 = true → outB l (j + 1) = out ++ A1 ++ A2 ++ A3 ++ A6) := fun hd => by rw [HREC.out, dropB, if_pos hd, hA1.out, hA2.out, hA3.out, hA6.out]; simp only [List.append_assoc]
      have HOUT0 : Hid (x.2.2.1 = false → outB l (j + 1) = out ++ A1 ++ A2 ++ A3 ++ A4 ++ A5) := fun hd => by rw [HREC.out, dropB, if_neg (by rw [hd]; simp), hA1.out, hA2.out, hA3.out, hA4.out, hA5.out]; simp only [List.append_assoc]
      have a1 : A1.length ≤ 8 := by rw [hA1.out]; exact numL_len_le _
      have a2 : A2.length ≤ 88 := by rw [hA2.out]; have := numL_len_le tl.length; unfold txtL; rw [List.length_append]; omega
      have a3 : A3.length ≤ 8 := by rw [hA3.out]; exact numL_len_le _
      have a4 : A4.length ≤ 8 := by rw [hA4.out]; exact numL_len_le _
      have a5 : A5.length ≤ 308 := by rw [hA5.out]; have := numL_len_le x.2.2.2.length; unfold txtL; rw [List.length_append]; omega
      have a6 : A6.length ≤ 8 := by rw [hA6.out]; exact numL_len_le _
      have HBB := HB.out
      have z1 : ¬9223372036854775807 < out.length + A1.length := by omega
      have z2 : ¬9223372036854775807 < out.length + A1.length + A2.length := by omega
      have z3 : ¬9223372036854775807 < out.length + A1.length + A2.length + A3.length := by omega
      have z4 : ¬9223372036854775807 < out.length + A1.length + A2.length + A3.length + A4.length := by omega
      have z5 : ¬9223372036854775807 < out.length + A1.length + A2.length + A3.length + A4.length + A5.length := by omega
      have z6 : ¬9223372036854775807 < out.length + A1.length + A2.length + A3.length + A6.length := by omega
      have y3 : ¬9223372036854775807 < out.length + (A1.length + A2.length) + A3.length := by omega
      have y4 : ¬9223372036854775807 < out.length + (A1.length + (A2.length + A3.length)) + A4.length := by omega
      have y5 : ¬9223372036854775807 < out.length + (A1.length + (A2.length + (A3.length + A4.length))) + A5.length := by omega
      have y6 : ¬9223372036854775807 < out.length + (A1.length + (A2.length + A3.length)) + A6.length := by omega
      rw [← hA1.out] at CN
      rw [← hA2.out] at CT
      rw [← hA3.out] at CQ
      rw [← hA4.out] at C0
      rw [← hA5.out] at CV
      rw [← hA6.out] at C1
      clear a1 a2 a3 a4 a5 a6 HBB htll r2 r3 r4 r5 hrx hqx
      have HTL := Lib.hid htl
      clear htl
      by_cases hm : j % 4 = 0
      · have hmod : ((j : Int).tmod 4 == 0) = true := by rw [beq_iff_eq, Int.tmod_eq_emod_of_nonneg (by omega)]; omega
        obtain rfl : n = 0 := by rw [hn.out]; exact share_zero hm
        have HTL0 : tl = x.1 := by rw [HTL.out, List.drop_zero]
        rw [show ((0 : Nat) : Int) = 0 from rfl] at CN
        clear HTL
        subst HTL0
        have HKwr2 := HKwr
        go_wp2_with fail
        refine wp_region_until (fun w' => w'.cell? ⟨b, off + j * 4, none⟩ = some (.string ⟨(x.1).toArray⟩) ∧ w'.cell? ⟨b, off + j * 4 + 1, none⟩ = some (.int .i64 (q : Int)) ∧ w'.cell? ⟨b, off + j * 4 + 2, none⟩ = some (.bool x.2.2.1) ∧ w'.cell? ⟨b, off + j * 4 + 3, none⟩ = some (.string ⟨(x.2.2.2).toArray⟩)) 21 (by kernel_rfl) ?_
        have HKwrd : Hid (Kept (fun _ => False) w0 wr.drew) := HKwr.out.drewN 1
        have hSwrd := HS.out wr.drew HKwrd.out
        refine wpAnyU_take (i := 0) (v := (.string ⟨(out).toArray⟩)) (some 39) rfl rfl (by kernel_rfl) (by kernel_rfl) (by kernel_rfl) (by kernel_rfl) (fun _ _ _ h => h) hSwrd (yields_of (by kernel_rfl) (fun w ⟨s0, s1, s2, s3⟩ => by go_simp)) ?_
        refine wpAnyU_take (i := 1) (v := (.int .i64 (0 : Int))) (some 40) rfl rfl (by kernel_rfl) (by kernel_rfl) (by kernel_rfl) (by kernel_rfl) (fun _ _ _ h => h) hSwrd (yields_of (by kernel_rfl) (fun w ⟨s0, s1, s2, s3⟩ => by go_simp)) ?_
        refine wpAnyU_take (i := 4) (v := (.slice (some ⟨b, off, none⟩) len cap)) (some 43) rfl rfl (by kernel_rfl) (by kernel_rfl) (by kernel_rfl) (by kernel_rfl) (fun _ _ _ h => h) hSwrd (yields_of (by kernel_rfl) (fun w ⟨s0, s1, s2, s3⟩ => by go_simp)) ?_
        refine wpAnyU_take (i := 5) (v := (.int .i64 (j : Int))) (some 44) rfl rfl (by kernel_rfl) (by kernel_rfl) (by kernel_rfl) (by kernel_rfl) (fun _ _ _ h => h) hSwrd (yields_of (by kernel_rfl) (fun w ⟨s0, s1, s2, s3⟩ => by go_simp)) ?_
        refine wpAnyU_take (i := 6) (v := (.pointer (some ⟨b, off + j * 4, none⟩))) (some 45) rfl rfl (by kernel_rfl) (by kernel_rfl) (by kernel_rfl) (by kernel_rfl) (fun _ _ _ h => h) hSwrd (yields_of (by kernel_rfl) (fun w ⟨s0, s1, s2, s3⟩ => by go_simp)) ?_
        refine wpAnyU_take (i := 7) (v := (.pointer (some ⟨b, off + j * 4, none⟩))) (some 46) rfl rfl (by kernel_rfl) (by kernel_rfl) (by kernel_rfl) (by kernel_rfl) (fun _ _ _ h => h) hSwrd (yields_of (by kernel_rfl) (fun w ⟨s0, s1, s2, s3⟩ => by go_simp)) ?_
        refine wpAnyU_take (i := 8) (v := (.string ⟨(x.1).toArray⟩)) (some 47) rfl rfl (by kernel_rfl) (by kernel_rfl) (by kernel_rfl) (by kernel_rfl) (fun _ _ _ h => h) hSwrd (yields_of (by kernel_rfl) (fun w ⟨s0, s1, s2, s3⟩ => by go_simp)) ?_
        refine wpAnyU_take (i := 9) (v := (.int .i64 (0 : Int))) (some 48) rfl rfl (by kernel_rfl) (by kernel_rfl) (by kernel_rfl) (by kernel_rfl) (fun _ _ _ h => h) hSwrd (yields_of (by kernel_rfl) (fun w ⟨s0, s1, s2, s3⟩ => by go_simp)) ?_
        refine wpAnyU_take (i := 10) (v := (.string ⟨(x.1).toArray⟩)) (some 49) rfl rfl (by kernel_rfl) (by kernel_rfl) (by kernel_rfl) (by kernel_rfl) (fun _ _ _ h => h) hSwrd (yields_of (by kernel_rfl) (fun w ⟨s0, s1, s2, s3⟩ => by go_simp)) ?_
        refine wpAnyU_take (i := 13) (v := (.slice (some ⟨b, off, none⟩) len cap)) (some 52) rfl rfl (by kernel_rfl) (by kernel_rfl) (by kernel_rfl) (by kernel_rfl) (fun _ _ _ h => h) hSwrd (yields_of (by kernel_rfl) (fun w ⟨s0, s1, s2, s3⟩ => by go_simp)) ?_
        refine wpAnyU_take (i := 14) (v := (.int .i64 (j : Int))) (some 53) rfl rfl (by kernel_rfl) (by kernel_rfl) (by kernel_rfl) (by kernel_rfl) (fun _ _ _ h => h) hSwrd (yields_of (by kernel_rfl) (fun w ⟨s0, s1, s2, s3⟩ => by go_simp)) ?_
        refine wpAnyU_take (i := 15) (v := (.pointer (some ⟨b, off + j * 4, none⟩))) (some 54) rfl rfl (by kernel_rfl) (by kernel_rfl) (by kernel_rfl) (by kernel_rfl) (fun _ _ _ h => h) hSwrd (yields_of (by kernel_rfl) (fun w ⟨s0, s1, s2, s3⟩ => by go_simp)) ?_
        refine wpAnyU_take (i := 16) (v := (.pointer (some ⟨b, off + j * 4 + 1, none⟩))) (some 55) rfl rfl (by kernel_rfl) (by kernel_rfl) (by kernel_rfl) (by kernel_rfl) (fun _ _ _ h => h) hSwrd (yields_of (by kernel_rfl) (fun w ⟨s0, s1, s2, s3⟩ => by go_simp)) ?_
        refine wpAnyU_take (i := 17) (v := (.int .i64 (q : Int))) (some 56) rfl rfl (by kernel_rfl) (by kernel_rfl) (by kernel_rfl) (by kernel_rfl) (fun _ _ _ h => h) hSwrd (yields_of (by kernel_rfl) (fun w ⟨s0, s1, s2, s3⟩ => by go_simp)) ?_
        refine wpAnyU_call (i := 2) (f := 25) (args := #[(.int .i64 (0 : Int))]) (some 41) rfl rfl (by kernel_rfl) (by kernel_rfl) (by kernel_rfl) ?_
        refine (CN.out _).mono ?_
        rintro r wa ⟨rfl, hkwa⟩
        have HKwa := Lib.hid (HKwrd.out.trans hkwa (fun _ f => f.elim))
        clear hkwa
        have hSwa := HS.out wa HKwa.out
        refine ⟨_, rfl, fun _ => hSwa, ?_⟩
        refine wpAnyU_take (i := 3) (v := (.string ⟨(out ++ A1).toArray⟩)) (some 42) rfl rfl (by kernel_rfl) (by kernel_rfl) (by kernel_rfl) (by kernel_rfl) (fun _ _ _ h => h) hSwa (yields_of (by kernel_rfl) (fun w ⟨s0, s1, s2, s3⟩ => by go_simp)) ?_
        refine wpAnyU_call (i := 11) (f := 27) (args := #[(.string ⟨(x.1).toArray⟩)]) (some 50) rfl rfl (by kernel_rfl) (by kernel_rfl) (by kernel_rfl) ?_
        refine (CT.out _).mono ?_
        rintro r wb ⟨rfl, hkwb⟩
        have HKwb := Lib.hid (HKwa.out.trans hkwb (fun _ f => f.elim))
        clear hkwb
        have hSwb := HS.out wb HKwb.out
        refine ⟨_, rfl, fun _ => hSwb, ?_⟩
        refine wpAnyU_take (i := 12) (v := (.string ⟨(out ++ A1 ++ A2).toArray⟩)) (some 51) rfl rfl (by kernel_rfl) (by kernel_rfl) (by kernel_rfl) (by kernel_rfl) (fun _ _ _ h => h) hSwb (yields_of (by kernel_rfl) (fun w ⟨s0, s1, s2, s3⟩ => by go_simp)) ?_
        refine wpAnyU_call (i := 18) (f := 25) (args := #[(.int .i64 (q : Int))]) (some 57) rfl rfl (by kernel_rfl) (by kernel_rfl) (by kernel_rfl) ?_
        refine (CQ.out _).mono ?_
        rintro r wc ⟨rfl, hkwc⟩
        have HKwc := Lib.hid (HKwb.out.trans hkwc (fun _ f => f.elim))
        clear hkwc
        have hSwc := HS.out wc HKwc.out
        refine ⟨_, rfl, fun _ => hSwc, ?_⟩
        refine wpAnyU_take (i := 19) (v := (.string ⟨(out ++ A1 ++ A2 ++ A3).toArray⟩)) (some 58) rfl rfl (by kernel_rfl) (by kernel_rfl) (by kernel_rfl) (by kernel_rfl) (fun _ _ _ h => h) hSwc (yields_of (by kernel_rfl) (fun w ⟨s0, s1, s2, s3⟩ => by go_simp)) ?_
        refine wpAnyU_take (i := 20) (v := (.string ⟨(out ++ A1 ++ A2 ++ A3).toArray⟩)) (some 5) rfl rfl (by kernel_rfl) (by kernel_rfl) (by kernel_rfl) (by kernel_rfl) (fun _ _ _ h => h) hSwc (yields_of (by kernel_rfl) (fun w ⟨s0, s1, s2, s3⟩ => by go_simp)) ?_
        refine wpAnyU_done (by kernel_rfl) ?_ _
        simp only [put_lit, List.set_cons_succ, List.set_cons_zero]
        have c2 := hSwc.2.2.1
        obtain ⟨d, hd⟩ : ∃ d, Hid (d = x.2.2.1) := ⟨x.2.2.1, rfl⟩
        rw [← hd.out] at c2
        clear hSwc hSwb hSwa
        cases d with
        | true =>
          have HN : Hid (outB l (j + 1) = out ++ A1 ++ A2 ++ A3 ++ A6) := HOUT1.out hd.out.symm
          go_wp2_with fail
          refine (C1.out _).mono ?_
          rintro e wd ⟨rfl, hkd⟩
          have HKd := Lib.hid (HKwc.out.trans hkd (fun _ f => f.elim))
          clear hkd
          go_wp2
          go_roundw
          case rel => exact ⟨j + 1, by omega, by first | rfl | go_num, (by rw [HN.out]; try simp only [List.append_assoc]), HKd.out⟩
          case measure => simp [intOf]; omega
        | false =>
          have HN : Hid (outB l (j + 1) = out ++ A1 ++ A2 ++ A3 ++ A4 ++ A5) := HOUT0.out hd.out.symm
          go_wp2_with fail
          refine wp_region_until (fun w' => w'.cell? ⟨b, off + j * 4, none⟩ = some (.string ⟨(x.1).toArray⟩) ∧ w'.cell? ⟨b, off + j * 4 + 1, none⟩ = some (.int .i64 (q : Int)) ∧ w'.cell? ⟨b, off + j * 4 + 2, none⟩ = some (.bool x.2.2.1) ∧ w'.cell? ⟨b, off + j * 4 + 3, none⟩ = some (.string ⟨(x.2.2.2).toArray⟩)) 11 (by kernel_rfl) ?_
          have HKwcd : Hid (Kept (fun _ => False) w0 wc.drew) := HKwc.out.drewN 1
          have hSwcd := HS.out wc.drew HKwcd.out
          refine wpAnyU_take (i := 0) (v := (.string ⟨(out ++ A1 ++ A2 ++ A3).toArray⟩)) (some 67) rfl rfl (by kernel_rfl) (by kernel_rfl) (by kernel_rfl) (by kernel_rfl) (fun _ _ _ h => h) hSwcd (yields_of (by kernel_rfl) (fun w ⟨s0, s1, s2, s3⟩ => by go_simp)) ?_
          refine wpAnyU_take (i := 3) (v := (.slice (some ⟨b, off, none⟩) len cap)) (some 70) rfl rfl (by kernel_rfl) (by kernel_rfl) (by kernel_rfl) (by kernel_rfl) (fun _ _ _ h => h) hSwcd (yields_of (by kernel_rfl) (fun w ⟨s0, s1, s2, s3⟩ => by go_simp)) ?_
          refine wpAnyU_take (i := 4) (v := (.int .i64 (j : Int))) (some 71) rfl rfl (by kernel_rfl) (by kernel_rfl) (by kernel_rfl) (by kernel_rfl) (fun _ _ _ h => h) hSwcd (yields_of (by kernel_rfl) (fun w ⟨s0, s1, s2, s3⟩ => by go_simp)) ?_
          refine wpAnyU_take (i := 5) (v := (.pointer (some ⟨b, off + j * 4, none⟩))) (some 72) rfl rfl (by kernel_rfl) (by kernel_rfl) (by kernel_rfl) (by kernel_rfl) (fun _ _ _ h => h) hSwcd (yields_of (by kernel_rfl) (fun w ⟨s0, s1, s2, s3⟩ => by go_simp)) ?_
          refine wpAnyU_take (i := 6) (v := (.pointer (some ⟨b, off + j * 4 + 3, none⟩))) (some 73) rfl rfl (by kernel_rfl) (by kernel_rfl) (by kernel_rfl) (by kernel_rfl) (fun _ _ _ h => h) hSwcd (yields_of (by kernel_rfl) (fun w ⟨s0, s1, s2, s3⟩ => by go_simp)) ?_
          refine wpAnyU_take (i := 7) (v := (.string ⟨(x.2.2.2).toArray⟩)) (some 74) rfl rfl (by kernel_rfl) (by kernel_rfl) (by kernel_rfl) (by kernel_rfl) (fun _ _ _ h => h) hSwcd (yields_of (by kernel_rfl) (fun w ⟨s0, s1, s2, s3⟩ => by go_simp)) ?_
          refine wpAnyU_call (i := 1) (f := 25) (args := #[(.int .i64 0)]) (some 68) rfl rfl (by kernel_rfl) (by kernel_rfl) (by kernel_rfl) ?_
          refine (C0.out _).mono ?_
          rintro r we ⟨rfl, hkwe⟩
          have HKwe := Lib.hid (HKwcd.out.trans hkwe (fun _ f => f.elim))
          clear hkwe
          have hSwe := HS.out we HKwe.out
          refine ⟨_, rfl, fun _ => hSwe, ?_⟩
          refine wpAnyU_take (i := 2) (v := (.string ⟨(out ++ A1 ++ A2 ++ A3 ++ A4).toArray⟩)) (some 69) rfl rfl (by kernel_rfl) (by kernel_rfl) (by kernel_rfl) (by kernel_rfl) (fun _ _ _ h => h) hSwe (yields_of (by kernel_rfl) (fun w ⟨s0, s1, s2, s3⟩ => by go_simp)) ?_
          refine wpAnyU_call (i := 8) (f := 27) (args := #[(.string ⟨(x.2.2.2).toArray⟩)]) (some 75) rfl rfl (by kernel_rfl) (by kernel_rfl) (by kernel_rfl) ?_
          refine (CV.out _).mono ?_
          rintro r wf ⟨rfl, hkwf⟩
          have HKwf := Lib.hid (HKwe.out.trans hkwf (fun _ f => f.elim))
          clear hkwf
          have hSwf := HS.out wf HKwf.out
          refine ⟨_, rfl, fun _ => hSwf, ?_⟩
          refine wpAnyU_take (i := 9) (v := (.string ⟨(out ++ A1 ++ A2 ++ A3 ++ A4 ++ A5).toArray⟩)) (some 76) rfl rfl (by kernel_rfl) (by kernel_rfl) (by kernel_rfl) (by kernel_rfl) (fun _ _ _ h => h) hSwf (yields_of (by kernel_rfl) (fun w ⟨s0, s1, s2, s3⟩ => by go_simp)) ?_
          refine wpAnyU_take (i := 10) (v := (.string ⟨(out ++ A1 ++ A2 ++ A3 ++ A4 ++ A5).toArray⟩)) (some 5) rfl rfl (by kernel_rfl) (by kernel_rfl) (by kernel_rfl) (by kernel_rfl) (fun _ _ _ h => h) hSwf (yields_of (by kernel_rfl) (fun w ⟨s0, s1, s2, s3⟩ => by go_simp)) ?_
          refine wpAnyU_done (by kernel_rfl) ?_ _
          simp only [put_lit, List.set_cons_succ, List.set_cons_zero]
          go_wp2
          go_roundw
          case rel => exact ⟨j + 1, by omega, by first | rfl | go_num, (by rw [HN.out]; try simp only [List.append_assoc]), HKwf.out⟩
          case measure => simp [intOf]; omega
      · have hmod : ((j : Int).tmod 4 == 0) = false := by rw [beq_eq_false_iff_ne, Int.tmod_eq_emod_of_nonneg (by omega)]; omega
        obtain ⟨i, hji⟩ : ∃ i, i = j - 1 := ⟨_, rfl⟩
        have hil : i < l.length := by omega
        have hwi : IntKind.i64.wrap ((j : Int) - 1) = (i : Int) := by rw [IntWalk.i64_in _ (by omega)]; omega
        have i0 : (0 : Int) ≤ (i : Int) := by omega
        have inn : (i : Int) < (len : Int) := by omega
        obtain ⟨p, hp⟩ : ∃ p, Hid (p = l[i]) := ⟨l[i], rfl⟩
        have hpr : rightM p = true := by rw [hp.out]; exact sort_mem l none hss.out _ (List.getElem_mem hil)
        have hxr : rightM x = true := by rw [hx.out]; exact sort_mem l none hss.out _ (List.getElem_mem hjl)
        have hpl := (right_of hpr).2.1
        have hxl := (right_of hxr).2.1
        have hsh : lcpL p.1 x.1 = n := by
          rw [hn.out, hx.out, share_at hjl hm, hp.out]
          simp only [hji]
        have CSH := Lib.hid (fun W : World => rShared p.1 x.1 W (by omega) (by omega))
        rw [hsh] at CSH
        have HS2 : Hid (∀ w' : World, Kept (fun _ => False) w0 w' → w'.cell? ⟨b, off + i * 4, none⟩ = some (.string ⟨(p.1).toArray⟩) ∧ w'.cell? ⟨b, off + j * 4, none⟩ = some (.string ⟨(x.1).toArray⟩)) := fun W hk => by
          have hr := HAT.out i hil W hk
          rw [← hp.out] at hr
          exact ⟨hr 0 _ rfl, (HS.out W hk).1⟩
        clear hji hpr hxr hpl hxl hsh
        have hts : List.take (x.1.length - n) (List.drop n x.1) = tl := by rw [HTL.out, List.take_of_length_le (by rw [List.length_drop]; exact Nat.le_refl _)]
        have hmod2 : ((j : Int) % 4 == 0) = false := by rw [Int.tmod_eq_emod_of_nonneg (by omega)] at hmod; exact hmod
        go_wp2_with fail
        refine wp_region_until (fun w' => w'.cell? ⟨b, off + i * 4, none⟩ = some (.string ⟨(p.1).toArray⟩) ∧ w'.cell? ⟨b, off + j * 4, none⟩ = some (.string ⟨(x.1).toArray⟩)) 13 (by kernel_rfl) ?_
        have HKwrd : Hid (Kept (fun _ => False) w0 wr.drew) := HKwr.out.drewN 1
        have hSwrd := HS2.out wr.drew HKwrd.out
        refine wpAnyU_take (i := 0) (v := (.slice (some ⟨b, off, none⟩) len cap)) (some 27) rfl rfl (by kernel_rfl) (by kernel_rfl) (by kernel_rfl) (by kernel_rfl) (fun _ _ _ h => h) hSwrd (yields_of (by kernel_rfl) (fun w ⟨s0, s1⟩ => by go_simp)) ?_
        refine wpAnyU_take (i := 1) (v := (.int .i64 (j : Int))) (some 28) rfl rfl (by kernel_rfl) (by kernel_rfl) (by kernel_rfl) (by kernel_rfl) (fun _ _ _ h => h) hSwrd (yields_of (by kernel_rfl) (fun w ⟨s0, s1⟩ => by go_simp)) ?_
        refine wpAnyU_take (i := 2) (v := (.int .i64 (i : Int))) (some 29) rfl rfl (by kernel_rfl) (by kernel_rfl) (by kernel_rfl) (by kernel_rfl) (fun _ _ _ h => h) hSwrd (yields_of (by kernel_rfl) (fun w ⟨s0, s1⟩ => by go_simp)) ?_
        refine wpAnyU_take (i := 3) (v := (.pointer (some ⟨b, off + i * 4, none⟩))) (some 30) rfl rfl (by kernel_rfl) (by kernel_rfl) (by kernel_rfl) (by kernel_rfl) (fun _ _ _ h => h) hSwrd (yields_of (by kernel_rfl) (fun w ⟨s0, s1⟩ => by go_simp)) ?_
        refine wpAnyU_take (i := 4) (v := (.pointer (some ⟨b, off + i * 4, none⟩))) (some 31) rfl rfl (by kernel_rfl) (by kernel_rfl) (by kernel_rfl) (by kernel_rfl) (fun _ _ _ h => h) hSwrd (yields_of (by kernel_rfl) (fun w ⟨s0, s1⟩ => by go_simp)) ?_
        refine wpAnyU_take (i := 5) (v := (.string ⟨(p.1).toArray⟩)) (some 32) rfl rfl (by kernel_rfl) (by kernel_rfl) (by kernel_rfl) (by kernel_rfl) (fun _ _ _ h => h) hSwrd (yields_of (by kernel_rfl) (fun w ⟨s0, s1⟩ => by go_simp)) ?_
        refine wpAnyU_take (i := 6) (v := (.slice (some ⟨b, off, none⟩) len cap)) (some 33) rfl rfl (by kernel_rfl) (by kernel_rfl) (by kernel_rfl) (by kernel_rfl) (fun _ _ _ h => h) hSwrd (yields_of (by kernel_rfl) (fun w ⟨s0, s1⟩ => by go_simp)) ?_
        refine wpAnyU_take (i := 7) (v := (.int .i64 (j : Int))) (some 34) rfl rfl (by kernel_rfl) (by kernel_rfl) (by kernel_rfl) (by kernel_rfl) (fun _ _ _ h => h) hSwrd (yields_of (by kernel_rfl) (fun w ⟨s0, s1⟩ => by go_simp)) ?_
        refine wpAnyU_take (i := 8) (v := (.pointer (some ⟨b, off + j * 4, none⟩))) (some 35) rfl rfl (by kernel_rfl) (by kernel_rfl) (by kernel_rfl) (by kernel_rfl) (fun _ _ _ h => h) hSwrd (yields_of (by kernel_rfl) (fun w ⟨s0, s1⟩ => by go_simp)) ?_
        refine wpAnyU_take (i := 9) (v := (.pointer (some ⟨b, off + j * 4, none⟩))) (some 36) rfl rfl (by kernel_rfl) (by kernel_rfl) (by kernel_rfl) (by kernel_rfl) (fun _ _ _ h => h) hSwrd (yields_of (by kernel_rfl) (fun w ⟨s0, s1⟩ => by go_simp)) ?_
        refine wpAnyU_take (i := 10) (v := (.string ⟨(x.1).toArray⟩)) (some 37) rfl rfl (by kernel_rfl) (by kernel_rfl) (by kernel_rfl) (by kernel_rfl) (fun _ _ _ h => h) hSwrd (yields_of (by kernel_rfl) (fun w ⟨s0, s1⟩ => by go_simp)) ?_
        refine wpAnyU_call (i := 11) (f := 26) (args := #[(.string ⟨(p.1).toArray⟩), (.string ⟨(x.1).toArray⟩)]) (some 38) rfl rfl (by kernel_rfl) (by kernel_rfl) (by kernel_rfl) ?_
        refine (CSH.out _).mono ?_
        rintro r ws ⟨rfl, hkws⟩
        have HKws := Lib.hid (HKwrd.out.trans hkws (fun _ f => f.elim))
        clear hkws
        have hSws := HS2.out ws HKws.out
        refine ⟨_, rfl, fun _ => hSws, ?_⟩
        refine wpAnyU_take (i := 12) (v := (.int .i64 (n : Int))) (some 7) rfl rfl (by kernel_rfl) (by kernel_rfl) (by kernel_rfl) (by kernel_rfl) (fun _ _ _ h => h) hSws (yields_of (by kernel_rfl) (fun w ⟨s0, s1⟩ => by go_simp)) ?_
        refine wpAnyU_done (by kernel_rfl) ?_ _
        simp only [put_lit, List.set_cons_succ, List.set_cons_zero]
        clear hSwrd hSws HKwr HKwrd
        have HKws2 := HKws
        go_wp2_with fail
        refine wp_region_until (fun w' => w'.cell? ⟨b, off + j * 4, none⟩ = some (.string ⟨(x.1).toArray⟩) ∧ w'.cell? ⟨b, off + j * 4 + 1, none⟩ = some (.int .i64 (q : Int)) ∧ w'.cell? ⟨b, off + j * 4 + 2, none⟩ = some (.bool x.2.2.1) ∧ w'.cell? ⟨b, off + j * 4 + 3, none⟩ = some (.string ⟨(x.2.2.2).toArray⟩)) 21 (by kernel_rfl) ?_
        have HKwsd : Hid (Kept (fun _ => False) w0 ws.drew) := HKws.out.drewN 1
        have hSwsd := HS.out ws.drew HKwsd.out
        refine wpAnyU_take (i := 0) (v := (.string ⟨(out).toArray⟩)) (some 39) rfl rfl (by kernel_rfl) (by kernel_rfl) (by kernel_rfl) (by kernel_rfl) (fun _ _ _ h => h) hSwsd (yields_of (by kernel_rfl) (fun w ⟨s0, s1, s2, s3⟩ => by go_simp)) ?_
        refine wpAnyU_take (i := 1) (v := (.int .i64 (n : Int))) (some 40) rfl rfl (by kernel_rfl) (by kernel_rfl) (by kernel_rfl) (by kernel_rfl) (fun _ _ _ h => h) hSwsd (yields_of (by kernel_rfl) (fun w ⟨s0, s1, s2, s3⟩ => by go_simp)) ?_
        refine wpAnyU_take (i := 4) (v := (.slice (some ⟨b, off, none⟩) len cap)) (some 43) rfl rfl (by kernel_rfl) (by kernel_rfl) (by kernel_rfl) (by kernel_rfl) (fun _ _ _ h => h) hSwsd (yields_of (by kernel_rfl) (fun w ⟨s0, s1, s2, s3⟩ => by go_simp)) ?_
        refine wpAnyU_take (i := 5) (v := (.int .i64 (j : Int))) (some 44) rfl rfl (by kernel_rfl) (by kernel_rfl) (by kernel_rfl) (by kernel_rfl) (fun _ _ _ h => h) hSwsd (yields_of (by kernel_rfl) (fun w ⟨s0, s1, s2, s3⟩ => by go_simp)) ?_
        refine wpAnyU_take (i := 6) (v := (.pointer (some ⟨b, off + j * 4, none⟩))) (some 45) rfl rfl (by kernel_rfl) (by kernel_rfl) (by kernel_rfl) (by kernel_rfl) (fun _ _ _ h => h) hSwsd (yields_of (by kernel_rfl) (fun w ⟨s0, s1, s2, s3⟩ => by go_simp)) ?_
        refine wpAnyU_take (i := 7) (v := (.pointer (some ⟨b, off + j * 4, none⟩))) (some 46) rfl rfl (by kernel_rfl) (by kernel_rfl) (by kernel_rfl) (by kernel_rfl) (fun _ _ _ h => h) hSwsd (yields_of (by kernel_rfl) (fun w ⟨s0, s1, s2, s3⟩ => by go_simp)) ?_
        refine wpAnyU_take (i := 8) (v := (.string ⟨(x.1).toArray⟩)) (some 47) rfl rfl (by kernel_rfl) (by kernel_rfl) (by kernel_rfl) (by kernel_rfl) (fun _ _ _ h => h) hSwsd (yields_of (by kernel_rfl) (fun w ⟨s0, s1, s2, s3⟩ => by go_simp)) ?_
        refine wpAnyU_take (i := 9) (v := (.int .i64 (n : Int))) (some 48) rfl rfl (by kernel_rfl) (by kernel_rfl) (by kernel_rfl) (by kernel_rfl) (fun _ _ _ h => h) hSwsd (yields_of (by kernel_rfl) (fun w ⟨s0, s1, s2, s3⟩ => by go_simp)) ?_
        refine wpAnyU_take (i := 10) (v := (.string ⟨(tl).toArray⟩)) (some 49) rfl rfl (by kernel_rfl) (by kernel_rfl) (by kernel_rfl) (by kernel_rfl) (fun _ _ _ h => h) hSwsd (yields_of (by kernel_rfl) (fun w ⟨s0, s1, s2, s3⟩ => by go_simp)) ?_
        refine wpAnyU_take (i := 13) (v := (.slice (some ⟨b, off, none⟩) len cap)) (some 52) rfl rfl (by kernel_rfl) (by kernel_rfl) (by kernel_rfl) (by kernel_rfl) (fun _ _ _ h => h) hSwsd (yields_of (by kernel_rfl) (fun w ⟨s0, s1, s2, s3⟩ => by go_simp)) ?_
        refine wpAnyU_take (i := 14) (v := (.int .i64 (j : Int))) (some 53) rfl rfl (by kernel_rfl) (by kernel_rfl) (by kernel_rfl) (by kernel_rfl) (fun _ _ _ h => h) hSwsd (yields_of (by kernel_rfl) (fun w ⟨s0, s1, s2, s3⟩ => by go_simp)) ?_
        refine wpAnyU_take (i := 15) (v := (.pointer (some ⟨b, off + j * 4, none⟩))) (some 54) rfl rfl (by kernel_rfl) (by kernel_rfl) (by kernel_rfl) (by kernel_rfl) (fun _ _ _ h => h) hSwsd (yields_of (by kernel_rfl) (fun w ⟨s0, s1, s2, s3⟩ => by go_simp)) ?_
        refine wpAnyU_take (i := 16) (v := (.pointer (some ⟨b, off + j * 4 + 1, none⟩))) (some 55) rfl rfl (by kernel_rfl) (by kernel_rfl) (by kernel_rfl) (by kernel_rfl) (fun _ _ _ h => h) hSwsd (yields_of (by kernel_rfl) (fun w ⟨s0, s1, s2, s3⟩ => by go_simp)) ?_
        refine wpAnyU_take (i := 17) (v := (.int .i64 (q : Int))) (some 56) rfl rfl (by kernel_rfl) (by kernel_rfl) (by kernel_rfl) (by kernel_rfl) (fun _ _ _ h => h) hSwsd (yields_of (by kernel_rfl) (fun w ⟨s0, s1, s2, s3⟩ => by go_simp)) ?_
        refine wpAnyU_call (i := 2) (f := 25) (args := #[(.int .i64 (n : Int))]) (some 41) rfl rfl (by kernel_rfl) (by kernel_rfl) (by kernel_rfl) ?_
        refine (CN.out _).mono ?_
        rintro r wa ⟨rfl, hkwa⟩
        have HKwa := Lib.hid (HKwsd.out.trans hkwa (fun _ f => f.elim))
        clear hkwa
        have hSwa := HS.out wa HKwa.out
        refine ⟨_, rfl, fun _ => hSwa, ?_⟩
        refine wpAnyU_take (i := 3) (v := (.string ⟨(out ++ A1).toArray⟩)) (some 42) rfl rfl (by kernel_rfl) (by kernel_rfl) (by kernel_rfl) (by kernel_rfl) (fun _ _ _ h => h) hSwa (yields_of (by kernel_rfl) (fun w ⟨s0, s1, s2, s3⟩ => by go_simp)) ?_
        refine wpAnyU_call (i := 11) (f := 27) (args := #[(.string ⟨(tl).toArray⟩)]) (some 50) rfl rfl (by kernel_rfl) (by kernel_rfl) (by kernel_rfl) ?_
        refine (CT.out _).mono ?_
        rintro r wb ⟨rfl, hkwb⟩
        have HKwb := Lib.hid (HKwa.out.trans hkwb (fun _ f => f.elim))
        clear hkwb
        have hSwb := HS.out wb HKwb.out
        refine ⟨_, rfl, fun _ => hSwb, ?_⟩
        refine wpAnyU_take (i := 12) (v := (.string ⟨(out ++ A1 ++ A2).toArray⟩)) (some 51) rfl rfl (by kernel_rfl) (by kernel_rfl) (by kernel_rfl) (by kernel_rfl) (fun _ _ _ h => h) hSwb (yields_of (by kernel_rfl) (fun w ⟨s0, s1, s2, s3⟩ => by go_simp)) ?_
        refine wpAnyU_call (i := 18) (f := 25) (args := #[(.int .i64 (q : Int))]) (some 57) rfl rfl (by kernel_rfl) (by kernel_rfl) (by kernel_rfl) ?_
        refine (CQ.out _).mono ?_
        rintro r wc ⟨rfl, hkwc⟩
        have HKwc := Lib.hid (HKwb.out.trans hkwc (fun _ f => f.elim))
        clear hkwc
        have hSwc := HS.out wc HKwc.out
        refine ⟨_, rfl, fun _ => hSwc, ?_⟩
        refine wpAnyU_take (i := 19) (v := (.string ⟨(out ++ A1 ++ A2 ++ A3).toArray⟩)) (some 58) rfl rfl (by kernel_rfl) (by kernel_rfl) (by kernel_rfl) (by kernel_rfl) (fun _ _ _ h => h) hSwc (yields_of (by kernel_rfl) (fun w ⟨s0, s1, s2, s3⟩ => by go_simp)) ?_
        refine wpAnyU_take (i := 20) (v := (.string ⟨(out ++ A1 ++ A2 ++ A3).toArray⟩)) (some 5) rfl rfl (by kernel_rfl) (by kernel_rfl) (by kernel_rfl) (by kernel_rfl) (fun _ _ _ h => h) hSwc (yields_of (by kernel_rfl) (fun w ⟨s0, s1, s2, s3⟩ => by go_simp)) ?_
        refine wpAnyU_done (by kernel_rfl) ?_ _
        simp only [put_lit, List.set_cons_succ, List.set_cons_zero]
        have c2 := hSwc.2.2.1
        obtain ⟨d, hd⟩ : ∃ d, Hid (d = x.2.2.1) := ⟨x.2.2.1, rfl⟩
        rw [← hd.out] at c2
        clear hSwc hSwb hSwa
        cases d with
        | true =>
          have HN : Hid (outB l (j + 1) = out ++ A1 ++ A2 ++ A3 ++ A6) := HOUT1.out hd.out.symm
          go_wp2_with fail
          refine (C1.out _).mono ?_
          rintro e wd ⟨rfl, hkd⟩
          have HKd := Lib.hid (HKwc.out.trans hkd (fun _ f => f.elim))
          clear hkd
          go_wp2
          go_roundw
          case rel => exact ⟨j + 1, by omega, by first | rfl | go_num, (by rw [HN.out]; try simp only [List.append_assoc]), HKd.out⟩
          case measure => simp [intOf]; omega
        | false =>
          have HN : Hid (outB l (j + 1) = out ++ A1 ++ A2 ++ A3 ++ A4 ++ A5) := HOUT0.out hd.out.symm
          go_wp2_with fail
          refine wp_region_until (fun w' => w'.cell? ⟨b, off + j * 4, none⟩ = some (.string ⟨(x.1).toArray⟩) ∧ w'.cell? ⟨b, off + j * 4 + 1, none⟩ = some (.int .i64 (q : Int)) ∧ w'.cell? ⟨b, off + j * 4 + 2, none⟩ = some (.bool x.2.2.1) ∧ w'.cell? ⟨b, off + j * 4 + 3, none⟩ = some (.string ⟨(x.2.2.2).toArray⟩)) 11 (by kernel_rfl) ?_
          have HKwcd : Hid (Kept (fun _ => False) w0 wc.drew) := HKwc.out.drewN 1
          have hSwcd := HS.out wc.drew HKwcd.out
          refine wpAnyU_take (i := 0) (v := (.string ⟨(out ++ A1 ++ A2 ++ A3).toArray⟩)) (some 67) rfl rfl (by kernel_rfl) (by kernel_rfl) (by kernel_rfl) (by kernel_rfl) (fun _ _ _ h => h) hSwcd (yields_of (by kernel_rfl) (fun w ⟨s0, s1, s2, s3⟩ => by go_simp)) ?_
          refine wpAnyU_take (i := 3) (v := (.slice (some ⟨b, off, none⟩) len cap)) (some 70) rfl rfl (by kernel_rfl) (by kernel_rfl) (by kernel_rfl) (by kernel_rfl) (fun _ _ _ h => h) hSwcd (yields_of (by kernel_rfl) (fun w ⟨s0, s1, s2, s3⟩ => by go_simp)) ?_
          refine wpAnyU_take (i := 4) (v := (.int .i64 (j : Int))) (some 71) rfl rfl (by kernel_rfl) (by kernel_rfl) (by kernel_rfl) (by kernel_rfl) (fun _ _ _ h => h) hSwcd (yields_of (by kernel_rfl) (fun w ⟨s0, s1, s2, s3⟩ => by go_simp)) ?_
          refine wpAnyU_take (i := 5) (v := (.pointer (some ⟨b, off + j * 4, none⟩))) (some 72) rfl rfl (by kernel_rfl) (by kernel_rfl) (by kernel_rfl) (by kernel_rfl) (fun _ _ _ h => h) hSwcd (yields_of (by kernel_rfl) (fun w ⟨s0, s1, s2, s3⟩ => by go_simp)) ?_
          refine wpAnyU_take (i := 6) (v := (.pointer (some ⟨b, off + j * 4 + 3, none⟩))) (some 73) rfl rfl (by kernel_rfl) (by kernel_rfl) (by kernel_rfl) (by kernel_rfl) (fun _ _ _ h => h) hSwcd (yields_of (by kernel_rfl) (fun w ⟨s0, s1, s2, s3⟩ => by go_simp)) ?_
          refine wpAnyU_take (i := 7) (v := (.string ⟨(x.2.2.2).toArray⟩)) (some 74) rfl rfl (by kernel_rfl) (by kernel_rfl) (by kernel_rfl) (by kernel_rfl) (fun _ _ _ h => h) hSwcd (yields_of (by kernel_rfl) (fun w ⟨s0, s1, s2, s3⟩ => by go_simp)) ?_
          refine wpAnyU_call (i := 1) (f := 25) (args := #[(.int .i64 0)]) (some 68) rfl rfl (by kernel_rfl) (by kernel_rfl) (by kernel_rfl) ?_
          refine (C0.out _).mono ?_
          rintro r we ⟨rfl, hkwe⟩
          have HKwe := Lib.hid (HKwcd.out.trans hkwe (fun _ f => f.elim))
          clear hkwe
          have hSwe := HS.out we HKwe.out
          refine ⟨_, rfl, fun _ => hSwe, ?_⟩
          refine wpAnyU_take (i := 2) (v := (.string ⟨(out ++ A1 ++ A2 ++ A3 ++ A4).toArray⟩)) (some 69) rfl rfl (by kernel_rfl) (by kernel_rfl) (by kernel_rfl) (by kernel_rfl) (fun _ _ _ h => h) hSwe (yields_of (by kernel_rfl) (fun w ⟨s0, s1, s2, s3⟩ => by go_simp)) ?_
          refine wpAnyU_call (i := 8) (f := 27) (args := #[(.string ⟨(x.2.2.2).toArray⟩)]) (some 75) rfl rfl (by kernel_rfl) (by kernel_rfl) (by kernel_rfl) ?_
          refine (CV.out _).mono ?_
          rintro r wf ⟨rfl, hkwf⟩
          have HKwf := Lib.hid (HKwe.out.trans hkwf (fun _ f => f.elim))
          clear hkwf
          have hSwf := HS.out wf HKwf.out
          refine ⟨_, rfl, fun _ => hSwf, ?_⟩
          refine wpAnyU_take (i := 9) (v := (.string ⟨(out ++ A1 ++ A2 ++ A3 ++ A4 ++ A5).toArray⟩)) (some 76) rfl rfl (by kernel_rfl) (by kernel_rfl) (by kernel_rfl) (by kernel_rfl) (fun _ _ _ h => h) hSwf (yields_of (by kernel_rfl) (fun w ⟨s0, s1, s2, s3⟩ => by go_simp)) ?_
          refine wpAnyU_take (i := 10) (v := (.string ⟨(out ++ A1 ++ A2 ++ A3 ++ A4 ++ A5).toArray⟩)) (some 5) rfl rfl (by kernel_rfl) (by kernel_rfl) (by kernel_rfl) (by kernel_rfl) (fun _ _ _ h => h) hSwf (yields_of (by kernel_rfl) (fun w ⟨s0, s1, s2, s3⟩ => by go_simp)) ?_
          refine wpAnyU_done (by kernel_rfl) ?_ _
          simp only [put_lit, List.set_cons_succ, List.set_cons_zero]
          go_wp2
          go_roundw
          case rel => exact ⟨j + 1, by omega, by first | rfl | go_num, (by rw [HN.out]; try simp only [List.append_assoc]), HKwf.out⟩
          case measure => simp [intOf]; omega

end Go.Proofs.Ytbiifeahdinjjaa
