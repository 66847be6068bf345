/- The law DiskLasts, walked to its end. -/
import Derived.Test.YtgppbbbpekghiaaReadsW
import Derived.Test.YtgppbbbpekghiaaOrd
namespace Go.Proofs.Ytgppbbbpekghiaa
open Go.RowKit Go.Proofs Go.Proofs.Pk
set_option maxRecDepth 10000
attribute [local simp] mk_get wrap64_u8 mk_extract ByteArray.mk_append_mk get_1k

/-- What the first write of the cache's sector 1 has become, and the second one's sector 2. -/
def yL (ks : List Int) (torn : Int) (m : Nat) (pa pb : List UInt8) : List UInt8 :=
  if torn = 0 then pb.take m ++ pa.drop m else if 0 < ks.length ∧ ks.getD 0 0 % 2 ≠ 0 then pb else pa
def zL (ks : List Int) (torn : Int) (m : Nat) (pb : List UInt8) : List UInt8 :=
  if torn = 1 then pb.take m ++ (padL []).drop m else if 1 < ks.length ∧ ks.getD 1 0 % 2 ≠ 0 then pb else padL []
theorem crash_two (ks : List Int) (torn bytes : Int) (m : Nat) (hm : m = (min (max bytes 0) 64).toNat) (pa pb : List UInt8) :
    crashL ks torn bytes (syncL (List.replicate 3 (List.replicate 64 0)) [(0, pa), (1, pa)]) 0 [(1, pb), (2, pb)] = [pa, yL ks torn m pa pb, zL ks torn m pb] := by
  have e : syncL (List.replicate 3 (List.replicate 64 0)) [(0, pa), (1, pa)] = [pa, pa, padL []] := rfl
  rw [e]
  have h1 : crashOne ks torn bytes [pa, pa, padL []] 0 (1, pb) = [pa, yL ks torn m pa pb, padL []] := by
    unfold crashOne yL
    rw [← hm]
    by_cases ht : torn = 0
    · subst ht; rw [if_pos (show ((0 : Nat) : Int) = 0 from rfl), if_pos rfl]; rfl
    · rw [if_neg (fun h => ht (by simpa using h.symm)), if_neg ht]
      split <;> rfl
  rw [crashL, h1]
  show crashOne ks torn bytes _ (0 + 1) (2, pb) = _
  unfold crashOne zL
  rw [← hm]
  by_cases ht : torn = 1
  · subst ht; rw [if_pos (by decide), if_pos rfl]; rfl
  · rw [if_neg (fun h => ht (by simpa using h.symm)), if_neg ht]
    split <;> rfl

set_option maxHeartbeats 4000000 in
theorem lastsW (a b : List UInt8) (ad2 : Option Addr) (len2 cap2 : Nat) (ks : List Int) (torn bytes : Int) (w : World)
    (ha : (a.length : Int) ≤ 140737488351232) (hb : (b.length : Int) ≤ 140737488351232) (hks : Ints w ad2 len2 ks) (_hk : Fit64' ks)
    (_ht : -9223372036854775808 ≤ torn ∧ torn ≤ 9223372036854775807) (_hy : -9223372036854775808 ≤ bytes ∧ bytes ≤ 9223372036854775807) :
    Calls Try.prog 4 #[.string ⟨a.toArray⟩, .string ⟨b.toArray⟩, .slice ad2 len2 cap2, .int .i64 torn, .int .i64 bytes] w fun e w' => e = .returned (.bool true) ∧ Below w.heap.size w w' := by
  have HK := Lib.hid hks
  clear hks _hk _ht _hy
  go_enter Try.func4, Try.ntmps4
  go_wp2_with fail
  refine (examples_any _).mono ?_
  rintro e w1 ⟨rfl, b1⟩
  have B1 := Lib.hid b1
  clear b1
  go_upto_region 2 with (fail)
  go_cut [0] from 22 (fun s1 wx => s1 = .string ⟨(a.take 64).toArray⟩ ∧ wx = w1)
  case first =>
    by_cases hl : a.length ≤ 64
    · have HT := Lib.hid (List.take_of_length_le hl)
      have hl' : (a.length : Int) ≤ 64 := by omega
      clear hl
      go_wp2
      all_goals
        go_meet
        case rel => exact ⟨by rw [HT.out]; try simp, rfl⟩
    · have hl' : ¬(a.length : Int) ≤ 64 := by omega
      have hl2 : 64 < (a.length : Int) := by omega
      have hl3 : 64 ≤ a.length := by omega
      go_wp2
      all_goals
        go_meet
        case rel => exact ⟨rfl, rfl⟩
  case rest =>
  obtain ⟨rfl, hwx⟩ := hcut
  subst hwx
  have hs64 : (a.take 64).length ≤ 64 := by rw [List.length_take]; omega
  generalize a.take 64 = s at hs64 ⊢
  clear ha
  go_upto_region 3 with (fail)
  obtain ⟨w1, hw1⟩ : ∃ x, x = wc := ⟨_, rfl⟩
  rw [← hw1] at B1 ⊢
  clear hw1
  go_cut [1] from 22 (fun s1 wx => s1 = .string ⟨(b.take 64).toArray⟩ ∧ wx = w1)
  case first =>
    by_cases hl : b.length ≤ 64
    · have HT := Lib.hid (List.take_of_length_le hl)
      have hl' : (b.length : Int) ≤ 64 := by omega
      clear hl
      go_wp2
      all_goals
        go_meet
        case rel => exact ⟨by rw [HT.out]; try simp, rfl⟩
    · have hl' : ¬(b.length : Int) ≤ 64 := by omega
      have hl2 : 64 < (b.length : Int) := by omega
      have hl3 : 64 ≤ b.length := by omega
      go_wp2
      all_goals
        go_meet
        case rel => exact ⟨rfl, rfl⟩
  case rest =>
  obtain ⟨rfl, hwx⟩ := hcut
  subst hwx
  have ht64 : (b.take 64).length ≤ 64 := by rw [List.length_take]; omega
  generalize b.take 64 = t at ht64 ⊢
  clear hb
  obtain ⟨w1, hw1⟩ : ∃ x, x = wc := ⟨_, rfl⟩
  rw [← hw1] at B1 ⊢
  clear hw1
  have hpa : (padL s).length = 64 := padL_length s hs64
  have hpb : (padL t).length = 64 := padL_length t ht64
  go_wp2_with fail
  refine (aNw (w0 := w1) 3 (by decide) (by decide) (Below.refl _ _)).mono ?_
  rintro e w2 ⟨p, X, rfl, h⟩
  go_wp2_with fail
  refine (aWrP (L := List.replicate 3 (List.replicate 64 0)) (C := []) (n := 0) h 0 (by decide) s hs64 (by decide) (by decide)).mono ?_
  rintro e w3 ⟨rfl, X3, h3⟩
  clear h
  go_wp2_with fail
  refine (aWrP h3 1 (by decide) s hs64 (by simp) (by simp)).mono ?_
  rintro e w4 ⟨rfl, X4, h4⟩
  clear h3
  go_wp2_with fail
  refine (aSyP h4).mono ?_
  rintro e w5 ⟨rfl, X5, h5⟩
  clear h4
  go_wp2_with fail
  refine (aWrP h5 1 (by rw [syncL_length]; decide) t ht64 (by simp) (by simp)).mono ?_
  rintro e w6 ⟨rfl, X6, h6⟩
  clear h5
  go_wp2_with fail
  refine (aWrP h6 2 (by rw [syncL_length]; decide) t ht64 (by simp) (by simp)).mono ?_
  rintro e w7 ⟨rfl, X7, h7⟩
  have hI := h7.ints HK.out B1.out.size (belowT B1.out h7.bel)
  clear h6
  go_wp2_with fail
  refine (aCrP h7 ad2 len2 cap2 ks torn bytes hI.1 hI.2).mono ?_
  rintro e w8 ⟨rfl, X8, h8⟩
  clear h7 hI
  obtain ⟨m, hm⟩ : ∃ m, m = (min (max bytes 0) 64).toNat := ⟨_, rfl⟩
  have hm64 : m ≤ 64 := by omega
  have HBy : Hid (bytes < 0 ∧ (m : Int) = 0 ∨ 64 < bytes ∧ (m : Int) = 64 ∨ 0 ≤ bytes ∧ bytes ≤ 64 ∧ (m : Int) = bytes) := by show _ ∨ _; omega
  have hct := crash_two ks torn bytes m hm (padL s) (padL t)
  simp only [List.nil_append, List.cons_append] at h8
  rw [hct] at h8
  clear hct hm
  obtain ⟨y, hy⟩ : ∃ y, Hid (y = yL ks torn m (padL s) (padL t)) := ⟨yL ks torn m (padL s) (padL t), show _ = _ from rfl⟩
  obtain ⟨z, hz⟩ : ∃ z, Hid (z = zL ks torn m (padL t)) := ⟨zL ks torn m (padL t), show _ = _ from rfl⟩
  rw [← hy.out, ← hz.out] at h8
  have hy64 : y.length = 64 := h8.ok.sect y (by simp)
  have hz64 : z.length = 64 := h8.ok.sect z (by simp)
  go_wp2_with fail
  have r0 : Calls Try.prog 22 #[.pointer (some ⟨p, 0, none⟩), .int .i64 0] w8 fun e w' => e = .returned (.tuple #[.string ⟨(padL s).toArray⟩, .nilIface]) ∧ Al w1.heap.size w1 w' p ⟨[padL s, y, z], [], -1, false, _⟩ X8 := aRdP h8 0 (by simp)
  refine r0.mono ?_
  clear r0
  rintro e w9 ⟨rfl, h9⟩
  clear h8
  go_wp2_with fail
  have r1 : Calls Try.prog 22 #[.pointer (some ⟨p, 0, none⟩), .int .i64 1] w9 fun e w' => e = .returned (.tuple #[.string ⟨(y).toArray⟩, .nilIface]) ∧ Al w1.heap.size w1 w' p ⟨[padL s, y, z], [], -1, false, _⟩ X8 := aRdP h9 1 (by simp)
  refine r1.mono ?_
  clear r1
  rintro e w10 ⟨rfl, h10⟩
  clear h9
  go_wp2_with fail
  have r2 : Calls Try.prog 22 #[.pointer (some ⟨p, 0, none⟩), .int .i64 2] w10 fun e w' => e = .returned (.tuple #[.string ⟨(z).toArray⟩, .nilIface]) ∧ Al w1.heap.size w1 w' p ⟨[padL s, y, z], [], -1, false, _⟩ X8 := aRdP h10 2 (by simp)
  refine r2.mono ?_
  clear r2
  rintro e w11 ⟨rfl, h11⟩
  clear h10
  have HP : ∀ w0 : World, Hid (Calls Try.prog 26 #[.string ⟨s.toArray⟩] w0 fun e w' => e = .returned (.string ⟨(padL s).toArray⟩) ∧ Below w0.heap.size w0 w') := fun w0 => padded_any s hs64 w0
  have HQ : ∀ w0 : World, Hid (Calls Try.prog 26 #[.string ⟨t.toArray⟩] w0 fun e w' => e = .returned (.string ⟨(padL t).toArray⟩) ∧ Below w0.heap.size w0 w') := fun w0 => padded_any t ht64 w0
  have HZ : ∀ w0 : World, Hid (Calls Try.prog 26 #[.string ⟨#[]⟩] w0 fun e w' => e = .returned (.string ⟨(padL []).toArray⟩) ∧ Below w0.heap.size w0 w') := fun w0 => padded_any [] (by decide) w0
  have hp0 : (padL []).length = 64 := rfl
  have HPZ0 : Hid (padL [] = padL []) := rfl
  generalize padL s = pa at HP hpa hy ⊢
  generalize padL t = pb at HQ hpb hy hz ⊢
  have HPZ : Hid (∃ q, q = padL []) := ⟨_, rfl⟩
  obtain ⟨pz, hpz⟩ := HPZ.out
  have HPZ := Lib.hid hpz.symm
  rw [← hpz] at HZ hp0
  clear hpz HPZ0
  have HB := Lib.hid (belowT B1.out h11.bel)
  have hy64' : (y.length : Int) = 64 := by omega
  have hz64' : (z.length : Int) = 64 := by omega
  clear h11
  go_wp2_with fail
  refine (HP _).out.mono ?_
  rintro e w12 ⟨rfl, b12⟩
  have HB2 := Lib.hid (belowT HB.out b12)
  clear b12
  go_upto_region 18 with (fail)
  go_cut [20] from 99 (fun s20 wx => s20 = .int .i64 (m : Int) ∧ wx = w12)
  case first =>
    go_wp2
    all_goals
      go_meet
      case rel => exact ⟨by have := HBy.out; congr 1; omega, rfl⟩
  case rest =>
  obtain ⟨rfl, hwx⟩ := hcut
  subst hwx
  -- the drawn regions
  have hm0 : (0 : Int) ≤ (m : Int) := Int.natCast_nonneg _
  have hm1 : (m : Int) ≤ 64 := by omega
  have hpa' : (pa.length : Int) = 64 := by omega
  have hpb' : (pb.length : Int) = 64 := by omega
  have hpz' : (pz.length : Int) = 64 := by omega
  have hda : (pa.drop m).take (64 - m) = pa.drop m := List.take_of_length_le (by rw [List.length_drop]; omega)
  have hdz : (pz.drop m).take (64 - m) = pz.drop m := List.take_of_length_le (by rw [List.length_drop]; omega)
  have HDA := Lib.hid hda
  have HDZ := Lib.hid hdz
  have HI := HK.out.1
  clear hda hdz hy64 hz64 hy64' hz64' HBy HB
  by_cases ht0 : torn = 0
  · subst ht0
    obtain rfl : y = pb.take m ++ (pa.drop m).take (64 - m) := by rw [hy.out, yL, if_pos rfl, HDA.out]
    clear hy hz
    go_upto_region 20 with (fail)
    refine wp_region_until (fun _ => True) 15 (by kernel_rfl) ?_
    refine wpAnyU_take (i := 0) (v := (.bool true)) (some 104) rfl rfl (by kernel_rfl) (by kernel_rfl) (by kernel_rfl) (by kernel_rfl) (fun _ _ _ h => h) trivial (yields_of (by kernel_rfl) (fun w hw => by kernel_rfl)) ?_
    refine wpAnyU_take (i := 1) (v := (.bool true)) (some 105) rfl rfl (by kernel_rfl) (by kernel_rfl) (by kernel_rfl) (by kernel_rfl) (fun _ _ _ h => h) trivial (yields_of (by kernel_rfl) (fun w hw => by kernel_rfl)) ?_
    refine wpAnyU_take (i := 2) (v := (.string ⟨(pb.take m ++ (pa.drop m).take (64 - m)).toArray⟩)) (some 106) rfl rfl (by kernel_rfl) (by kernel_rfl) (by kernel_rfl) (by kernel_rfl) (fun _ _ _ h => h) trivial (yields_of (by kernel_rfl) (fun w hw => by kernel_rfl)) ?_
    refine wpAnyU_take (i := 3) (v := (.string ⟨t.toArray⟩)) (some 107) rfl rfl (by kernel_rfl) (by kernel_rfl) (by kernel_rfl) (by kernel_rfl) (fun _ _ _ h => h) trivial (yields_of (by kernel_rfl) (fun w hw => by kernel_rfl)) ?_
    refine wpAnyU_take (i := 5) (v := (.int .i64 (m : Int))) (some 109) rfl rfl (by kernel_rfl) (by kernel_rfl) (by kernel_rfl) (by kernel_rfl) (fun _ _ _ h => h) trivial (yields_of (by kernel_rfl) (fun w hw => by kernel_rfl)) ?_
    refine wpAnyU_take (i := 7) (v := (.string ⟨s.toArray⟩)) (some 111) rfl rfl (by kernel_rfl) (by kernel_rfl) (by kernel_rfl) (by kernel_rfl) (fun _ _ _ h => h) trivial (yields_of (by kernel_rfl) (fun w hw => by kernel_rfl)) ?_
    refine wpAnyU_take (i := 9) (v := (.int .i64 (m : Int))) (some 113) rfl rfl (by kernel_rfl) (by kernel_rfl) (by kernel_rfl) (by kernel_rfl) (fun _ _ _ h => h) trivial (yields_of (by kernel_rfl) (fun w hw => by kernel_rfl)) ?_
    refine wpAnyU_call (i := 4) (f := 26) (args := #[.string ⟨t.toArray⟩]) (some 108) rfl rfl (by kernel_rfl) (by kernel_rfl) (by kernel_rfl) ?_
    refine (HQ _).out.mono ?_
    rintro e wr4 ⟨rfl, br4⟩
    have HBr4 := Lib.hid (belowT HB2.out (by first | exact br4 | exact (Below.refl _ _).drew.trans br4))
    clear br4
    refine ⟨_, rfl, fun _ => trivial, ?_⟩
    refine wpAnyU_take (i := 6) (v := (.string ⟨(pb.take m).toArray⟩)) (some 110) rfl rfl (by kernel_rfl) (by kernel_rfl) (by kernel_rfl) (by kernel_rfl) (fun _ _ _ h => h) trivial (yields_of (by kernel_rfl) (fun w hw => by go_simp)) ?_
    refine wpAnyU_call (i := 8) (f := 26) (args := #[.string ⟨s.toArray⟩]) (some 112) rfl rfl (by kernel_rfl) (by kernel_rfl) (by kernel_rfl) ?_
    refine (HP _).out.mono ?_
    rintro e wr8 ⟨rfl, br8⟩
    have HBr8 := Lib.hid (belowT HBr4.out br8)
    clear br8
    refine ⟨_, rfl, fun _ => trivial, ?_⟩
    refine wpAnyU_take (i := 10) (v := (.string ⟨((pa.drop m).take (64 - m)).toArray⟩)) (some 114) rfl rfl (by kernel_rfl) (by kernel_rfl) (by kernel_rfl) (by kernel_rfl) (fun _ _ _ h => h) trivial (yields_of (by kernel_rfl) (fun w hw => by go_simp)) ?_
    refine wpAnyU_take (i := 11) (v := (.string ⟨(pb.take m ++ (pa.drop m).take (64 - m)).toArray⟩)) (some 115) rfl rfl (by kernel_rfl) (by kernel_rfl) (by kernel_rfl) (by kernel_rfl) (fun _ _ _ h => h) trivial (yields_of (by kernel_rfl) (fun w hw => by go_simp)) ?_
    refine wpAnyU_take (i := 12) (v := (.bool true)) (some 116) rfl rfl (by kernel_rfl) (by kernel_rfl) (by kernel_rfl) (by kernel_rfl) (fun _ _ _ h => h) trivial (yields_of (by kernel_rfl) (fun w hw => by go_simp)) ?_
    refine wpAnyU_take (i := 13) (v := (.bool true)) (some 117) rfl rfl (by kernel_rfl) (by kernel_rfl) (by kernel_rfl) (by kernel_rfl) (fun _ _ _ h => h) trivial (yields_of (by kernel_rfl) (fun w hw => by kernel_rfl)) ?_
    refine wpAnyU_take (i := 14) (v := (.bool true)) (some 10) rfl rfl (by kernel_rfl) (by kernel_rfl) (by kernel_rfl) (by kernel_rfl) (fun _ _ _ h => h) trivial (yields_of (by kernel_rfl) (fun w hw => by kernel_rfl)) ?_
    refine wpAnyU_done (by kernel_rfl) ?_ _
    go_wp2
    go_ret
    exact ⟨by kernel_rfl, HBr8.out⟩
  · have hy1 : y = if 0 < ks.length ∧ ks.getD 0 0 % 2 ≠ 0 then pb else pa := by rw [hy.out, yL, if_neg ht0]
    have ht0' : (torn == 0) = false := by simpa using ht0
    obtain ⟨kb, hkb⟩ : ∃ kb : Bool, Hid (kb = decide (0 < ks.length ∧ ks.getD 0 0 % 2 ≠ 0)) := ⟨_, show _ = _ from rfl⟩
    have HY : Hid (y = if kb then pb else pa) := by
      show y = _
      rw [hy1, hkb.out]
      by_cases h : 0 < ks.length ∧ ks.getD 0 0 % 2 ≠ 0
      · rw [if_pos h, if_pos (by simpa using h)]
      · rw [if_neg h, if_neg (by simpa using h)]
    clear hy hy1
    have hIw : Ints wc ad2 len2 ks := by
      refine ⟨HI, ?_⟩
      rcases HK.out.2 with h | ⟨b, off, h1, h2, h3⟩
      · exact .inl h
      · exact .inr ⟨b, off, h1, Nat.lt_of_lt_of_le h2 HB2.out.size, fun i hi => by rw [HB2.out.cell (p := ⟨b, off + i, none⟩) h2]; exact h3 i hi⟩
    go_upto_region 21 with (fail)
    go_cut [21] from 118 (fun s21 wx => s21 = .bool kb ∧ wx = wc)
    case first =>
      by_cases hl : (0 : Int) < (len2 : Int)
      · obtain ⟨b, off, rfl, hb, hcell⟩ := ints_cell hIw 0 (by omega)
        obtain ⟨x, hx⟩ : ∃ x, x = ks[0]'(by omega) := ⟨_, rfl⟩
        rw [← hx] at hcell
        have hx' : ks.getD 0 0 = x := by rw [hx]; simp [List.getD, show 0 < ks.length by omega]
        have hlk : 0 < ks.length := by omega
        have hk2 : Hid (kb = decide (x % 2 ≠ 0)) := by show kb = _; rw [hkb.out, hx']; simp [hlk]
        have hcell' : wc.cell? ⟨b, off, none⟩ = some (.int .i64 x) := hcell
        have hl2 : 0 < len2 := by omega
        clear hx hx' hlk hIw hcell HI HK
        by_cases hodd : x.tmod 2 = 0
        · have hk3 : kb = false := by rw [hk2.out]; simpa using (odd_iff x).1 hodd
          have HK3 := Lib.hid hk3
          clear hk2 hk3 hkb
          go_wp2
          all_goals
            go_meet
            case rel => exact ⟨by rw [HK3.out]; try simp [hodd], rfl⟩
        · have hk3 : kb = true := by rw [hk2.out]; simpa using fun h => hodd ((odd_iff x).2 h)
          have HK3 := Lib.hid hk3
          clear hk2 hk3 hkb
          go_wp2
          all_goals
            go_meet
            case rel => exact ⟨by rw [HK3.out]; simp [hodd], rfl⟩
      · have hk3 : kb = false := by rw [hkb.out]; simp; omega
        have HK3 := Lib.hid hk3
        have hl2 : ¬0 < len2 := by omega
        clear hk3 hIw HI HK
        go_wp2
        all_goals
          go_meet
          case rel => exact ⟨by rw [HK3.out], rfl⟩
    case rest =>
    obtain ⟨rfl, hwx⟩ := hcut
    subst hwx
    clear hIw HI
    cases kb with
    | true =>
      have hyp : y = pb := by rw [HY.out]; rfl
      rw [hyp]
      clear HY hkb hyp
      by_cases ht1 : torn = 1
      · subst ht1
        obtain rfl : z = pb.take m ++ (pz.drop m).take (64 - m) := by rw [hz.out, zL, if_pos rfl, HDZ.out, HPZ.out]
        clear hz
        go_upto_region 22 with (fail)
        refine wp_region_until (fun _ => True) 52 (by kernel_rfl) ?_
        refine wpAnyU_take (i := 0) (v := (.bool true)) (some 128) rfl rfl (by kernel_rfl) (by kernel_rfl) (by kernel_rfl) (by kernel_rfl) (fun _ _ _ h => h) trivial (yields_of (by kernel_rfl) (fun w hw => by kernel_rfl)) ?_
        refine wpAnyU_take (i := 1) (v := (.bool true)) (some 129) rfl rfl (by kernel_rfl) (by kernel_rfl) (by kernel_rfl) (by kernel_rfl) (fun _ _ _ h => h) trivial (yields_of (by kernel_rfl) (fun w hw => by kernel_rfl)) ?_
        refine wpAnyU_take (i := 2) (v := (.bool true)) (some 130) rfl rfl (by kernel_rfl) (by kernel_rfl) (by kernel_rfl) (by kernel_rfl) (fun _ _ _ h => h) trivial (yields_of (by kernel_rfl) (fun w hw => by kernel_rfl)) ?_
        refine wpAnyU_take (i := 3) (v := (.bool true)) (some 131) rfl rfl (by kernel_rfl) (by kernel_rfl) (by kernel_rfl) (by kernel_rfl) (fun _ _ _ h => h) trivial (yields_of (by kernel_rfl) (fun w hw => by kernel_rfl)) ?_
        refine wpAnyU_take (i := 4) (v := (.string ⟨pb.toArray⟩)) (some 132) rfl rfl (by kernel_rfl) (by kernel_rfl) (by kernel_rfl) (by kernel_rfl) (fun _ _ _ h => h) trivial (yields_of (by kernel_rfl) (fun w hw => by kernel_rfl)) ?_
        refine wpAnyU_take (i := 5) (v := (.string ⟨t.toArray⟩)) (some 133) rfl rfl (by kernel_rfl) (by kernel_rfl) (by kernel_rfl) (by kernel_rfl) (fun _ _ _ h => h) trivial (yields_of (by kernel_rfl) (fun w hw => by kernel_rfl)) ?_
        refine wpAnyU_call (i := 6) (f := 26) (args := #[.string ⟨t.toArray⟩]) (some 134) rfl rfl (by kernel_rfl) (by kernel_rfl) (by kernel_rfl) ?_
        refine (HQ _).out.mono ?_
        rintro e wr6 ⟨rfl, br6⟩
        have HBr6 := Lib.hid (belowT HB2.out (by first | exact br6 | exact (Below.refl _ _).drew.trans br6))
        clear br6
        refine ⟨_, rfl, fun _ => trivial, ?_⟩
        refine wpAnyU_take (i := 7) (v := (.bool true)) (some 135) rfl rfl (by kernel_rfl) (by kernel_rfl) (by kernel_rfl) (by kernel_rfl) (fun _ _ _ h => h) trivial (yields_of (by kernel_rfl) (fun w hw => by go_simp)) ?_
        refine wpAnyU_take (i := 8) (v := (.bool true)) (some 136) rfl rfl (by kernel_rfl) (by kernel_rfl) (by kernel_rfl) (by kernel_rfl) (fun _ _ _ h => h) trivial (yields_of (by kernel_rfl) (fun w hw => by kernel_rfl)) ?_
        refine wpAnyU_take (i := 9) (v := (.bool true)) (some 137) rfl rfl (by kernel_rfl) (by kernel_rfl) (by kernel_rfl) (by kernel_rfl) (fun _ _ _ h => h) trivial (yields_of (by kernel_rfl) (fun w hw => by kernel_rfl)) ?_
        refine wpAnyU_take (i := 10) (v := undef) (some 138) rfl rfl (by kernel_rfl) (by kernel_rfl) (by kernel_rfl) (by kernel_rfl) (fun _ _ _ h => h) trivial (unwanted (by kernel_rfl)) ?_
        refine wpAnyU_take (i := 11) (v := undef) (some 139) rfl rfl (by kernel_rfl) (by kernel_rfl) (by kernel_rfl) (by kernel_rfl) (fun _ _ _ h => h) trivial (unwanted (by kernel_rfl)) ?_
        refine wpAnyU_take (i := 12) (v := undef) (some 140) rfl rfl (by kernel_rfl) (by kernel_rfl) (by kernel_rfl) (by kernel_rfl) (fun _ _ _ h => h) trivial (unwanted (by kernel_rfl)) ?_
        refine wpAnyU_take (i := 13) (v := undef) (some 141) rfl rfl (by kernel_rfl) (by kernel_rfl) (by kernel_rfl) (by kernel_rfl) (fun _ _ _ h => h) trivial (unwanted (by kernel_rfl)) ?_
        refine wpAnyU_take (i := 14) (v := undef) (some 142) rfl rfl (by kernel_rfl) (by kernel_rfl) (by kernel_rfl) (by kernel_rfl) (fun _ _ _ h => h) trivial (unwanted (by kernel_rfl)) ?_
        refine wpAnyU_take (i := 15) (v := undef) (some 143) rfl rfl (by kernel_rfl) (by kernel_rfl) (by kernel_rfl) (by kernel_rfl) (fun _ _ _ h => h) trivial (unwanted (by kernel_rfl)) ?_
        refine wpAnyU_take (i := 16) (v := undef) (some 144) rfl rfl (by kernel_rfl) (by kernel_rfl) (by kernel_rfl) (by kernel_rfl) (fun _ _ _ h => h) trivial (unwanted (by kernel_rfl)) ?_
        refine wpAnyU_take (i := 17) (v := undef) (some 145) rfl rfl (by kernel_rfl) (by kernel_rfl) (by kernel_rfl) (by kernel_rfl) (fun _ _ _ h => h) trivial (unwanted (by kernel_rfl)) ?_
        refine wpAnyU_take (i := 18) (v := (.bool true)) (some 146) rfl rfl (by kernel_rfl) (by kernel_rfl) (by kernel_rfl) (by kernel_rfl) (fun _ _ _ h => h) trivial (yields_of (by kernel_rfl) (fun w hw => by kernel_rfl)) ?_
        refine wpAnyU_take (i := 19) (v := (.bool true)) (some 147) rfl rfl (by kernel_rfl) (by kernel_rfl) (by kernel_rfl) (by kernel_rfl) (fun _ _ _ h => h) trivial (yields_of (by kernel_rfl) (fun w hw => by kernel_rfl)) ?_
        refine wpAnyU_take (i := 20) (v := (.bool true)) (some 148) rfl rfl (by kernel_rfl) (by kernel_rfl) (by kernel_rfl) (by kernel_rfl) (fun _ _ _ h => h) trivial (yields_of (by kernel_rfl) (fun w hw => by kernel_rfl)) ?_
        refine wpAnyU_take (i := 21) (v := (.int .i64 1)) (some 149) rfl rfl (by kernel_rfl) (by kernel_rfl) (by kernel_rfl) (by kernel_rfl) (fun _ _ _ h => h) trivial (yields_of (by kernel_rfl) (fun w hw => by kernel_rfl)) ?_
        refine wpAnyU_take (i := 22) (v := (.bool true)) (some 150) rfl rfl (by kernel_rfl) (by kernel_rfl) (by kernel_rfl) (by kernel_rfl) (fun _ _ _ h => h) trivial (yields_of (by kernel_rfl) (fun w hw => by go_simp)) ?_
        refine wpAnyU_take (i := 23) (v := (.bool true)) (some 151) rfl rfl (by kernel_rfl) (by kernel_rfl) (by kernel_rfl) (by kernel_rfl) (fun _ _ _ h => h) trivial (yields_of (by kernel_rfl) (fun w hw => by kernel_rfl)) ?_
        refine wpAnyU_take (i := 24) (v := (.string ⟨(pb.take m ++ (pz.drop m).take (64 - m)).toArray⟩)) (some 152) rfl rfl (by kernel_rfl) (by kernel_rfl) (by kernel_rfl) (by kernel_rfl) (fun _ _ _ h => h) trivial (yields_of (by kernel_rfl) (fun w hw => by kernel_rfl)) ?_
        refine wpAnyU_take (i := 25) (v := (.string ⟨t.toArray⟩)) (some 153) rfl rfl (by kernel_rfl) (by kernel_rfl) (by kernel_rfl) (by kernel_rfl) (fun _ _ _ h => h) trivial (yields_of (by kernel_rfl) (fun w hw => by kernel_rfl)) ?_
        refine wpAnyU_take (i := 27) (v := (.int .i64 (m : Int))) (some 155) rfl rfl (by kernel_rfl) (by kernel_rfl) (by kernel_rfl) (by kernel_rfl) (fun _ _ _ h => h) trivial (yields_of (by kernel_rfl) (fun w hw => by kernel_rfl)) ?_
        refine wpAnyU_take (i := 30) (v := (.int .i64 (m : Int))) (some 158) rfl rfl (by kernel_rfl) (by kernel_rfl) (by kernel_rfl) (by kernel_rfl) (fun _ _ _ h => h) trivial (yields_of (by kernel_rfl) (fun w hw => by kernel_rfl)) ?_
        refine wpAnyU_call (i := 26) (f := 26) (args := #[.string ⟨t.toArray⟩]) (some 154) rfl rfl (by kernel_rfl) (by kernel_rfl) (by kernel_rfl) ?_
        refine (HQ _).out.mono ?_
        rintro e wr26 ⟨rfl, br26⟩
        have HBr26 := Lib.hid (belowT HBr6.out br26)
        clear br26
        refine ⟨_, rfl, fun _ => trivial, ?_⟩
        refine wpAnyU_take (i := 28) (v := (.string ⟨(pb.take m).toArray⟩)) (some 156) rfl rfl (by kernel_rfl) (by kernel_rfl) (by kernel_rfl) (by kernel_rfl) (fun _ _ _ h => h) trivial (yields_of (by kernel_rfl) (fun w hw => by go_simp)) ?_
        refine wpAnyU_call (i := 29) (f := 26) (args := #[.string ⟨#[]⟩]) (some 157) rfl rfl (by kernel_rfl) (by kernel_rfl) (by kernel_rfl) ?_
        refine (HZ _).out.mono ?_
        rintro e wr29 ⟨rfl, br29⟩
        have HBr29 := Lib.hid (belowT HBr26.out br29)
        clear br29
        refine ⟨_, rfl, fun _ => trivial, ?_⟩
        refine wpAnyU_take (i := 31) (v := (.string ⟨((pz.drop m).take (64 - m)).toArray⟩)) (some 159) rfl rfl (by kernel_rfl) (by kernel_rfl) (by kernel_rfl) (by kernel_rfl) (fun _ _ _ h => h) trivial (yields_of (by kernel_rfl) (fun w hw => by go_simp)) ?_
        refine wpAnyU_take (i := 32) (v := (.string ⟨(pb.take m ++ (pz.drop m).take (64 - m)).toArray⟩)) (some 160) rfl rfl (by kernel_rfl) (by kernel_rfl) (by kernel_rfl) (by kernel_rfl) (fun _ _ _ h => h) trivial (yields_of (by kernel_rfl) (fun w hw => by go_simp)) ?_
        refine wpAnyU_take (i := 33) (v := (.bool true)) (some 161) rfl rfl (by kernel_rfl) (by kernel_rfl) (by kernel_rfl) (by kernel_rfl) (fun _ _ _ h => h) trivial (yields_of (by kernel_rfl) (fun w hw => by go_simp)) ?_
        refine wpAnyU_take (i := 34) (v := (.bool true)) (some 162) rfl rfl (by kernel_rfl) (by kernel_rfl) (by kernel_rfl) (by kernel_rfl) (fun _ _ _ h => h) trivial (yields_of (by kernel_rfl) (fun w hw => by kernel_rfl)) ?_
        refine wpAnyU_take (i := 35) (v := (.bool true)) (some 163) rfl rfl (by kernel_rfl) (by kernel_rfl) (by kernel_rfl) (by kernel_rfl) (fun _ _ _ h => h) trivial (yields_of (by kernel_rfl) (fun w hw => by kernel_rfl)) ?_
        refine wpAnyU_take (i := 36) (v := undef) (some 164) rfl rfl (by kernel_rfl) (by kernel_rfl) (by kernel_rfl) (by kernel_rfl) (fun _ _ _ h => h) trivial (unwanted (by kernel_rfl)) ?_
        refine wpAnyU_take (i := 37) (v := undef) (some 165) rfl rfl (by kernel_rfl) (by kernel_rfl) (by kernel_rfl) (by kernel_rfl) (fun _ _ _ h => h) trivial (unwanted (by kernel_rfl)) ?_
        refine wpAnyU_take (i := 38) (v := undef) (some 166) rfl rfl (by kernel_rfl) (by kernel_rfl) (by kernel_rfl) (by kernel_rfl) (fun _ _ _ h => h) trivial (unwanted (by kernel_rfl)) ?_
        refine wpAnyU_take (i := 39) (v := undef) (some 167) rfl rfl (by kernel_rfl) (by kernel_rfl) (by kernel_rfl) (by kernel_rfl) (fun _ _ _ h => h) trivial (unwanted (by kernel_rfl)) ?_
        refine wpAnyU_take (i := 40) (v := undef) (some 168) rfl rfl (by kernel_rfl) (by kernel_rfl) (by kernel_rfl) (by kernel_rfl) (fun _ _ _ h => h) trivial (unwanted (by kernel_rfl)) ?_
        refine wpAnyU_take (i := 41) (v := undef) (some 169) rfl rfl (by kernel_rfl) (by kernel_rfl) (by kernel_rfl) (by kernel_rfl) (fun _ _ _ h => h) trivial (unwanted (by kernel_rfl)) ?_
        refine wpAnyU_take (i := 42) (v := undef) (some 170) rfl rfl (by kernel_rfl) (by kernel_rfl) (by kernel_rfl) (by kernel_rfl) (fun _ _ _ h => h) trivial (unwanted (by kernel_rfl)) ?_
        refine wpAnyU_take (i := 43) (v := undef) (some 171) rfl rfl (by kernel_rfl) (by kernel_rfl) (by kernel_rfl) (by kernel_rfl) (fun _ _ _ h => h) trivial (unwanted (by kernel_rfl)) ?_
        refine wpAnyU_take (i := 44) (v := undef) (some 172) rfl rfl (by kernel_rfl) (by kernel_rfl) (by kernel_rfl) (by kernel_rfl) (fun _ _ _ h => h) trivial (unwanted (by kernel_rfl)) ?_
        refine wpAnyU_take (i := 45) (v := undef) (some 173) rfl rfl (by kernel_rfl) (by kernel_rfl) (by kernel_rfl) (by kernel_rfl) (fun _ _ _ h => h) trivial (unwanted (by kernel_rfl)) ?_
        refine wpAnyU_take (i := 46) (v := undef) (some 174) rfl rfl (by kernel_rfl) (by kernel_rfl) (by kernel_rfl) (by kernel_rfl) (fun _ _ _ h => h) trivial (unwanted (by kernel_rfl)) ?_
        refine wpAnyU_take (i := 47) (v := undef) (some 175) rfl rfl (by kernel_rfl) (by kernel_rfl) (by kernel_rfl) (by kernel_rfl) (fun _ _ _ h => h) trivial (unwanted (by kernel_rfl)) ?_
        refine wpAnyU_take (i := 48) (v := undef) (some 176) rfl rfl (by kernel_rfl) (by kernel_rfl) (by kernel_rfl) (by kernel_rfl) (fun _ _ _ h => h) trivial (unwanted (by kernel_rfl)) ?_
        refine wpAnyU_take (i := 49) (v := (.bool true)) (some 177) rfl rfl (by kernel_rfl) (by kernel_rfl) (by kernel_rfl) (by kernel_rfl) (fun _ _ _ h => h) trivial (yields_of (by kernel_rfl) (fun w hw => by kernel_rfl)) ?_
        refine wpAnyU_take (i := 50) (v := (.bool true)) (some 178) rfl rfl (by kernel_rfl) (by kernel_rfl) (by kernel_rfl) (by kernel_rfl) (fun _ _ _ h => h) trivial (yields_of (by kernel_rfl) (fun w hw => by kernel_rfl)) ?_
        refine wpAnyU_take (i := 51) (v := (.bool true)) (some 10) rfl rfl (by kernel_rfl) (by kernel_rfl) (by kernel_rfl) (by kernel_rfl) (fun _ _ _ h => h) trivial (yields_of (by kernel_rfl) (fun w hw => by kernel_rfl)) ?_
        refine wpAnyU_done (by kernel_rfl) ?_ _
        go_wp2
        go_ret
        exact ⟨by kernel_rfl, HBr29.out⟩
      · have ht1' : (torn == 1) = false := by simpa using ht1
        have hz1 : z = pb ∨ z = pz := by
          rw [hz.out, zL, if_neg ht1, HPZ.out]; split
          · exact .inl rfl
          · exact .inr rfl
        clear hz
        by_cases hzb : z = pb
        · rw [hzb]
          clear hz1 hzb
          go_upto_region 22 with (fail)
          refine wp_region_until (fun _ => True) 52 (by kernel_rfl) ?_
          refine wpAnyU_take (i := 0) (v := (.bool true)) (some 128) rfl rfl (by kernel_rfl) (by kernel_rfl) (by kernel_rfl) (by kernel_rfl) (fun _ _ _ h => h) trivial (yields_of (by kernel_rfl) (fun w hw => by kernel_rfl)) ?_
          refine wpAnyU_take (i := 1) (v := (.bool true)) (some 129) rfl rfl (by kernel_rfl) (by kernel_rfl) (by kernel_rfl) (by kernel_rfl) (fun _ _ _ h => h) trivial (yields_of (by kernel_rfl) (fun w hw => by kernel_rfl)) ?_
          refine wpAnyU_take (i := 2) (v := (.bool true)) (some 130) rfl rfl (by kernel_rfl) (by kernel_rfl) (by kernel_rfl) (by kernel_rfl) (fun _ _ _ h => h) trivial (yields_of (by kernel_rfl) (fun w hw => by kernel_rfl)) ?_
          refine wpAnyU_take (i := 3) (v := (.bool true)) (some 131) rfl rfl (by kernel_rfl) (by kernel_rfl) (by kernel_rfl) (by kernel_rfl) (fun _ _ _ h => h) trivial (yields_of (by kernel_rfl) (fun w hw => by kernel_rfl)) ?_
          refine wpAnyU_take (i := 4) (v := (.string ⟨pb.toArray⟩)) (some 132) rfl rfl (by kernel_rfl) (by kernel_rfl) (by kernel_rfl) (by kernel_rfl) (fun _ _ _ h => h) trivial (yields_of (by kernel_rfl) (fun w hw => by kernel_rfl)) ?_
          refine wpAnyU_take (i := 5) (v := (.string ⟨t.toArray⟩)) (some 133) rfl rfl (by kernel_rfl) (by kernel_rfl) (by kernel_rfl) (by kernel_rfl) (fun _ _ _ h => h) trivial (yields_of (by kernel_rfl) (fun w hw => by kernel_rfl)) ?_
          refine wpAnyU_call (i := 6) (f := 26) (args := #[.string ⟨t.toArray⟩]) (some 134) rfl rfl (by kernel_rfl) (by kernel_rfl) (by kernel_rfl) ?_
          refine (HQ _).out.mono ?_
          rintro e wr6 ⟨rfl, br6⟩
          have HBr6 := Lib.hid (belowT HB2.out (by first | exact br6 | exact (Below.refl _ _).drew.trans br6))
          clear br6
          refine ⟨_, rfl, fun _ => trivial, ?_⟩
          refine wpAnyU_take (i := 7) (v := (.bool true)) (some 135) rfl rfl (by kernel_rfl) (by kernel_rfl) (by kernel_rfl) (by kernel_rfl) (fun _ _ _ h => h) trivial (yields_of (by kernel_rfl) (fun w hw => by go_simp)) ?_
          refine wpAnyU_take (i := 8) (v := (.bool true)) (some 136) rfl rfl (by kernel_rfl) (by kernel_rfl) (by kernel_rfl) (by kernel_rfl) (fun _ _ _ h => h) trivial (yields_of (by kernel_rfl) (fun w hw => by kernel_rfl)) ?_
          refine wpAnyU_take (i := 9) (v := (.bool true)) (some 137) rfl rfl (by kernel_rfl) (by kernel_rfl) (by kernel_rfl) (by kernel_rfl) (fun _ _ _ h => h) trivial (yields_of (by kernel_rfl) (fun w hw => by kernel_rfl)) ?_
          refine wpAnyU_take (i := 10) (v := undef) (some 138) rfl rfl (by kernel_rfl) (by kernel_rfl) (by kernel_rfl) (by kernel_rfl) (fun _ _ _ h => h) trivial (unwanted (by kernel_rfl)) ?_
          refine wpAnyU_take (i := 11) (v := undef) (some 139) rfl rfl (by kernel_rfl) (by kernel_rfl) (by kernel_rfl) (by kernel_rfl) (fun _ _ _ h => h) trivial (unwanted (by kernel_rfl)) ?_
          refine wpAnyU_take (i := 12) (v := undef) (some 140) rfl rfl (by kernel_rfl) (by kernel_rfl) (by kernel_rfl) (by kernel_rfl) (fun _ _ _ h => h) trivial (unwanted (by kernel_rfl)) ?_
          refine wpAnyU_take (i := 13) (v := undef) (some 141) rfl rfl (by kernel_rfl) (by kernel_rfl) (by kernel_rfl) (by kernel_rfl) (fun _ _ _ h => h) trivial (unwanted (by kernel_rfl)) ?_
          refine wpAnyU_take (i := 14) (v := undef) (some 142) rfl rfl (by kernel_rfl) (by kernel_rfl) (by kernel_rfl) (by kernel_rfl) (fun _ _ _ h => h) trivial (unwanted (by kernel_rfl)) ?_
          refine wpAnyU_take (i := 15) (v := undef) (some 143) rfl rfl (by kernel_rfl) (by kernel_rfl) (by kernel_rfl) (by kernel_rfl) (fun _ _ _ h => h) trivial (unwanted (by kernel_rfl)) ?_
          refine wpAnyU_take (i := 16) (v := undef) (some 144) rfl rfl (by kernel_rfl) (by kernel_rfl) (by kernel_rfl) (by kernel_rfl) (fun _ _ _ h => h) trivial (unwanted (by kernel_rfl)) ?_
          refine wpAnyU_take (i := 17) (v := undef) (some 145) rfl rfl (by kernel_rfl) (by kernel_rfl) (by kernel_rfl) (by kernel_rfl) (fun _ _ _ h => h) trivial (unwanted (by kernel_rfl)) ?_
          refine wpAnyU_take (i := 18) (v := (.bool true)) (some 146) rfl rfl (by kernel_rfl) (by kernel_rfl) (by kernel_rfl) (by kernel_rfl) (fun _ _ _ h => h) trivial (yields_of (by kernel_rfl) (fun w hw => by kernel_rfl)) ?_
          refine wpAnyU_take (i := 19) (v := (.bool true)) (some 147) rfl rfl (by kernel_rfl) (by kernel_rfl) (by kernel_rfl) (by kernel_rfl) (fun _ _ _ h => h) trivial (yields_of (by kernel_rfl) (fun w hw => by kernel_rfl)) ?_
          refine wpAnyU_take (i := 20) (v := (.bool true)) (some 148) rfl rfl (by kernel_rfl) (by kernel_rfl) (by kernel_rfl) (by kernel_rfl) (fun _ _ _ h => h) trivial (yields_of (by kernel_rfl) (fun w hw => by kernel_rfl)) ?_
          refine wpAnyU_take (i := 21) (v := (.int .i64 torn)) (some 149) rfl rfl (by kernel_rfl) (by kernel_rfl) (by kernel_rfl) (by kernel_rfl) (fun _ _ _ h => h) trivial (yields_of (by kernel_rfl) (fun w hw => by kernel_rfl)) ?_
          refine wpAnyU_take (i := 22) (v := (.bool false)) (some 150) rfl rfl (by kernel_rfl) (by kernel_rfl) (by kernel_rfl) (by kernel_rfl) (fun _ _ _ h => h) trivial (yields_of (by kernel_rfl) (fun w hw => by go_simp)) ?_
          refine wpAnyU_take (i := 23) (v := (.bool false)) (some 151) rfl rfl (by kernel_rfl) (by kernel_rfl) (by kernel_rfl) (by kernel_rfl) (fun _ _ _ h => h) trivial (yields_of (by kernel_rfl) (fun w hw => by kernel_rfl)) ?_
          refine wpAnyU_take (i := 24) (v := undef) (some 152) rfl rfl (by kernel_rfl) (by kernel_rfl) (by kernel_rfl) (by kernel_rfl) (fun _ _ _ h => h) trivial (unwanted (by kernel_rfl)) ?_
          refine wpAnyU_take (i := 25) (v := undef) (some 153) rfl rfl (by kernel_rfl) (by kernel_rfl) (by kernel_rfl) (by kernel_rfl) (fun _ _ _ h => h) trivial (unwanted (by kernel_rfl)) ?_
          refine wpAnyU_take (i := 26) (v := undef) (some 154) rfl rfl (by kernel_rfl) (by kernel_rfl) (by kernel_rfl) (by kernel_rfl) (fun _ _ _ h => h) trivial (unwanted (by kernel_rfl)) ?_
          refine wpAnyU_take (i := 27) (v := undef) (some 155) rfl rfl (by kernel_rfl) (by kernel_rfl) (by kernel_rfl) (by kernel_rfl) (fun _ _ _ h => h) trivial (unwanted (by kernel_rfl)) ?_
          refine wpAnyU_take (i := 28) (v := undef) (some 156) rfl rfl (by kernel_rfl) (by kernel_rfl) (by kernel_rfl) (by kernel_rfl) (fun _ _ _ h => h) trivial (unwanted (by kernel_rfl)) ?_
          refine wpAnyU_take (i := 29) (v := undef) (some 157) rfl rfl (by kernel_rfl) (by kernel_rfl) (by kernel_rfl) (by kernel_rfl) (fun _ _ _ h => h) trivial (unwanted (by kernel_rfl)) ?_
          refine wpAnyU_take (i := 30) (v := undef) (some 158) rfl rfl (by kernel_rfl) (by kernel_rfl) (by kernel_rfl) (by kernel_rfl) (fun _ _ _ h => h) trivial (unwanted (by kernel_rfl)) ?_
          refine wpAnyU_take (i := 31) (v := undef) (some 159) rfl rfl (by kernel_rfl) (by kernel_rfl) (by kernel_rfl) (by kernel_rfl) (fun _ _ _ h => h) trivial (unwanted (by kernel_rfl)) ?_
          refine wpAnyU_take (i := 32) (v := undef) (some 160) rfl rfl (by kernel_rfl) (by kernel_rfl) (by kernel_rfl) (by kernel_rfl) (fun _ _ _ h => h) trivial (unwanted (by kernel_rfl)) ?_
          refine wpAnyU_take (i := 33) (v := undef) (some 161) rfl rfl (by kernel_rfl) (by kernel_rfl) (by kernel_rfl) (by kernel_rfl) (fun _ _ _ h => h) trivial (unwanted (by kernel_rfl)) ?_
          refine wpAnyU_take (i := 34) (v := (.bool false)) (some 162) rfl rfl (by kernel_rfl) (by kernel_rfl) (by kernel_rfl) (by kernel_rfl) (fun _ _ _ h => h) trivial (yields_of (by kernel_rfl) (fun w hw => by kernel_rfl)) ?_
          refine wpAnyU_take (i := 35) (v := (.bool false)) (some 163) rfl rfl (by kernel_rfl) (by kernel_rfl) (by kernel_rfl) (by kernel_rfl) (fun _ _ _ h => h) trivial (yields_of (by kernel_rfl) (fun w hw => by kernel_rfl)) ?_
          refine wpAnyU_take (i := 36) (v := (.int .i64 torn)) (some 164) rfl rfl (by kernel_rfl) (by kernel_rfl) (by kernel_rfl) (by kernel_rfl) (fun _ _ _ h => h) trivial (yields_of (by kernel_rfl) (fun w hw => by kernel_rfl)) ?_
          refine wpAnyU_take (i := 37) (v := (.bool true)) (some 165) rfl rfl (by kernel_rfl) (by kernel_rfl) (by kernel_rfl) (by kernel_rfl) (fun _ _ _ h => h) trivial (yields_of (by kernel_rfl) (fun w hw => by go_simp)) ?_
          refine wpAnyU_take (i := 38) (v := (.bool true)) (some 166) rfl rfl (by kernel_rfl) (by kernel_rfl) (by kernel_rfl) (by kernel_rfl) (fun _ _ _ h => h) trivial (yields_of (by kernel_rfl) (fun w hw => by kernel_rfl)) ?_
          refine wpAnyU_take (i := 39) (v := (.string ⟨pb.toArray⟩)) (some 167) rfl rfl (by kernel_rfl) (by kernel_rfl) (by kernel_rfl) (by kernel_rfl) (fun _ _ _ h => h) trivial (yields_of (by kernel_rfl) (fun w hw => by kernel_rfl)) ?_
          refine wpAnyU_take (i := 40) (v := (.string ⟨t.toArray⟩)) (some 168) rfl rfl (by kernel_rfl) (by kernel_rfl) (by kernel_rfl) (by kernel_rfl) (fun _ _ _ h => h) trivial (yields_of (by kernel_rfl) (fun w hw => by kernel_rfl)) ?_
          refine wpAnyU_call (i := 41) (f := 26) (args := #[.string ⟨t.toArray⟩]) (some 169) rfl rfl (by kernel_rfl) (by kernel_rfl) (by kernel_rfl) ?_
          refine (HQ _).out.mono ?_
          rintro e wr41 ⟨rfl, br41⟩
          have HBr41 := Lib.hid (belowT HBr6.out br41)
          clear br41
          refine ⟨_, rfl, fun _ => trivial, ?_⟩
          refine wpAnyU_take (i := 42) (v := (.bool true)) (some 170) rfl rfl (by kernel_rfl) (by kernel_rfl) (by kernel_rfl) (by kernel_rfl) (fun _ _ _ h => h) trivial (yields_of (by kernel_rfl) (fun w hw => by go_simp)) ?_
          refine wpAnyU_take (i := 43) (v := (.bool true)) (some 171) rfl rfl (by kernel_rfl) (by kernel_rfl) (by kernel_rfl) (by kernel_rfl) (fun _ _ _ h => h) trivial (yields_of (by kernel_rfl) (fun w hw => by kernel_rfl)) ?_
          refine wpAnyU_take (i := 44) (v := undef) (some 172) rfl rfl (by kernel_rfl) (by kernel_rfl) (by kernel_rfl) (by kernel_rfl) (fun _ _ _ h => h) trivial (unwanted (by kernel_rfl)) ?_
          refine wpAnyU_take (i := 45) (v := undef) (some 173) rfl rfl (by kernel_rfl) (by kernel_rfl) (by kernel_rfl) (by kernel_rfl) (fun _ _ _ h => h) trivial (unwanted (by kernel_rfl)) ?_
          refine wpAnyU_take (i := 46) (v := undef) (some 174) rfl rfl (by kernel_rfl) (by kernel_rfl) (by kernel_rfl) (by kernel_rfl) (fun _ _ _ h => h) trivial (unwanted (by kernel_rfl)) ?_
          refine wpAnyU_take (i := 47) (v := (.bool true)) (some 175) rfl rfl (by kernel_rfl) (by kernel_rfl) (by kernel_rfl) (by kernel_rfl) (fun _ _ _ h => h) trivial (yields_of (by kernel_rfl) (fun w hw => by kernel_rfl)) ?_
          refine wpAnyU_take (i := 48) (v := (.bool true)) (some 176) rfl rfl (by kernel_rfl) (by kernel_rfl) (by kernel_rfl) (by kernel_rfl) (fun _ _ _ h => h) trivial (yields_of (by kernel_rfl) (fun w hw => by kernel_rfl)) ?_
          refine wpAnyU_take (i := 49) (v := (.bool true)) (some 177) rfl rfl (by kernel_rfl) (by kernel_rfl) (by kernel_rfl) (by kernel_rfl) (fun _ _ _ h => h) trivial (yields_of (by kernel_rfl) (fun w hw => by kernel_rfl)) ?_
          refine wpAnyU_take (i := 50) (v := (.bool true)) (some 178) rfl rfl (by kernel_rfl) (by kernel_rfl) (by kernel_rfl) (by kernel_rfl) (fun _ _ _ h => h) trivial (yields_of (by kernel_rfl) (fun w hw => by kernel_rfl)) ?_
          refine wpAnyU_take (i := 51) (v := (.bool true)) (some 10) rfl rfl (by kernel_rfl) (by kernel_rfl) (by kernel_rfl) (by kernel_rfl) (fun _ _ _ h => h) trivial (yields_of (by kernel_rfl) (fun w hw => by kernel_rfl)) ?_
          refine wpAnyU_done (by kernel_rfl) ?_ _
          go_wp2
          go_ret
          exact ⟨by kernel_rfl, HBr41.out⟩
        · have hzz := hz1.resolve_left hzb
          rw [hzz] at hzb ⊢
          clear hz1 hzz
          go_upto_region 22 with (fail)
          refine wp_region_until (fun _ => True) 52 (by kernel_rfl) ?_
          refine wpAnyU_take (i := 0) (v := (.bool true)) (some 128) rfl rfl (by kernel_rfl) (by kernel_rfl) (by kernel_rfl) (by kernel_rfl) (fun _ _ _ h => h) trivial (yields_of (by kernel_rfl) (fun w hw => by kernel_rfl)) ?_
          refine wpAnyU_take (i := 1) (v := (.bool true)) (some 129) rfl rfl (by kernel_rfl) (by kernel_rfl) (by kernel_rfl) (by kernel_rfl) (fun _ _ _ h => h) trivial (yields_of (by kernel_rfl) (fun w hw => by kernel_rfl)) ?_
          refine wpAnyU_take (i := 2) (v := (.bool true)) (some 130) rfl rfl (by kernel_rfl) (by kernel_rfl) (by kernel_rfl) (by kernel_rfl) (fun _ _ _ h => h) trivial (yields_of (by kernel_rfl) (fun w hw => by kernel_rfl)) ?_
          refine wpAnyU_take (i := 3) (v := (.bool true)) (some 131) rfl rfl (by kernel_rfl) (by kernel_rfl) (by kernel_rfl) (by kernel_rfl) (fun _ _ _ h => h) trivial (yields_of (by kernel_rfl) (fun w hw => by kernel_rfl)) ?_
          refine wpAnyU_take (i := 4) (v := (.string ⟨pb.toArray⟩)) (some 132) rfl rfl (by kernel_rfl) (by kernel_rfl) (by kernel_rfl) (by kernel_rfl) (fun _ _ _ h => h) trivial (yields_of (by kernel_rfl) (fun w hw => by kernel_rfl)) ?_
          refine wpAnyU_take (i := 5) (v := (.string ⟨t.toArray⟩)) (some 133) rfl rfl (by kernel_rfl) (by kernel_rfl) (by kernel_rfl) (by kernel_rfl) (fun _ _ _ h => h) trivial (yields_of (by kernel_rfl) (fun w hw => by kernel_rfl)) ?_
          refine wpAnyU_call (i := 6) (f := 26) (args := #[.string ⟨t.toArray⟩]) (some 134) rfl rfl (by kernel_rfl) (by kernel_rfl) (by kernel_rfl) ?_
          refine (HQ _).out.mono ?_
          rintro e wr6 ⟨rfl, br6⟩
          have HBr6 := Lib.hid (belowT HB2.out (by first | exact br6 | exact (Below.refl _ _).drew.trans br6))
          clear br6
          refine ⟨_, rfl, fun _ => trivial, ?_⟩
          refine wpAnyU_take (i := 7) (v := (.bool true)) (some 135) rfl rfl (by kernel_rfl) (by kernel_rfl) (by kernel_rfl) (by kernel_rfl) (fun _ _ _ h => h) trivial (yields_of (by kernel_rfl) (fun w hw => by go_simp)) ?_
          refine wpAnyU_take (i := 8) (v := (.bool true)) (some 136) rfl rfl (by kernel_rfl) (by kernel_rfl) (by kernel_rfl) (by kernel_rfl) (fun _ _ _ h => h) trivial (yields_of (by kernel_rfl) (fun w hw => by kernel_rfl)) ?_
          refine wpAnyU_take (i := 9) (v := (.bool true)) (some 137) rfl rfl (by kernel_rfl) (by kernel_rfl) (by kernel_rfl) (by kernel_rfl) (fun _ _ _ h => h) trivial (yields_of (by kernel_rfl) (fun w hw => by kernel_rfl)) ?_
          refine wpAnyU_take (i := 10) (v := undef) (some 138) rfl rfl (by kernel_rfl) (by kernel_rfl) (by kernel_rfl) (by kernel_rfl) (fun _ _ _ h => h) trivial (unwanted (by kernel_rfl)) ?_
          refine wpAnyU_take (i := 11) (v := undef) (some 139) rfl rfl (by kernel_rfl) (by kernel_rfl) (by kernel_rfl) (by kernel_rfl) (fun _ _ _ h => h) trivial (unwanted (by kernel_rfl)) ?_
          refine wpAnyU_take (i := 12) (v := undef) (some 140) rfl rfl (by kernel_rfl) (by kernel_rfl) (by kernel_rfl) (by kernel_rfl) (fun _ _ _ h => h) trivial (unwanted (by kernel_rfl)) ?_
          refine wpAnyU_take (i := 13) (v := undef) (some 141) rfl rfl (by kernel_rfl) (by kernel_rfl) (by kernel_rfl) (by kernel_rfl) (fun _ _ _ h => h) trivial (unwanted (by kernel_rfl)) ?_
          refine wpAnyU_take (i := 14) (v := undef) (some 142) rfl rfl (by kernel_rfl) (by kernel_rfl) (by kernel_rfl) (by kernel_rfl) (fun _ _ _ h => h) trivial (unwanted (by kernel_rfl)) ?_
          refine wpAnyU_take (i := 15) (v := undef) (some 143) rfl rfl (by kernel_rfl) (by kernel_rfl) (by kernel_rfl) (by kernel_rfl) (fun _ _ _ h => h) trivial (unwanted (by kernel_rfl)) ?_
          refine wpAnyU_take (i := 16) (v := undef) (some 144) rfl rfl (by kernel_rfl) (by kernel_rfl) (by kernel_rfl) (by kernel_rfl) (fun _ _ _ h => h) trivial (unwanted (by kernel_rfl)) ?_
          refine wpAnyU_take (i := 17) (v := undef) (some 145) rfl rfl (by kernel_rfl) (by kernel_rfl) (by kernel_rfl) (by kernel_rfl) (fun _ _ _ h => h) trivial (unwanted (by kernel_rfl)) ?_
          refine wpAnyU_take (i := 18) (v := (.bool true)) (some 146) rfl rfl (by kernel_rfl) (by kernel_rfl) (by kernel_rfl) (by kernel_rfl) (fun _ _ _ h => h) trivial (yields_of (by kernel_rfl) (fun w hw => by kernel_rfl)) ?_
          refine wpAnyU_take (i := 19) (v := (.bool true)) (some 147) rfl rfl (by kernel_rfl) (by kernel_rfl) (by kernel_rfl) (by kernel_rfl) (fun _ _ _ h => h) trivial (yields_of (by kernel_rfl) (fun w hw => by kernel_rfl)) ?_
          refine wpAnyU_take (i := 20) (v := (.bool true)) (some 148) rfl rfl (by kernel_rfl) (by kernel_rfl) (by kernel_rfl) (by kernel_rfl) (fun _ _ _ h => h) trivial (yields_of (by kernel_rfl) (fun w hw => by kernel_rfl)) ?_
          refine wpAnyU_take (i := 21) (v := (.int .i64 torn)) (some 149) rfl rfl (by kernel_rfl) (by kernel_rfl) (by kernel_rfl) (by kernel_rfl) (fun _ _ _ h => h) trivial (yields_of (by kernel_rfl) (fun w hw => by kernel_rfl)) ?_
          refine wpAnyU_take (i := 22) (v := (.bool false)) (some 150) rfl rfl (by kernel_rfl) (by kernel_rfl) (by kernel_rfl) (by kernel_rfl) (fun _ _ _ h => h) trivial (yields_of (by kernel_rfl) (fun w hw => by go_simp)) ?_
          refine wpAnyU_take (i := 23) (v := (.bool false)) (some 151) rfl rfl (by kernel_rfl) (by kernel_rfl) (by kernel_rfl) (by kernel_rfl) (fun _ _ _ h => h) trivial (yields_of (by kernel_rfl) (fun w hw => by kernel_rfl)) ?_
          refine wpAnyU_take (i := 24) (v := undef) (some 152) rfl rfl (by kernel_rfl) (by kernel_rfl) (by kernel_rfl) (by kernel_rfl) (fun _ _ _ h => h) trivial (unwanted (by kernel_rfl)) ?_
          refine wpAnyU_take (i := 25) (v := undef) (some 153) rfl rfl (by kernel_rfl) (by kernel_rfl) (by kernel_rfl) (by kernel_rfl) (fun _ _ _ h => h) trivial (unwanted (by kernel_rfl)) ?_
          refine wpAnyU_take (i := 26) (v := undef) (some 154) rfl rfl (by kernel_rfl) (by kernel_rfl) (by kernel_rfl) (by kernel_rfl) (fun _ _ _ h => h) trivial (unwanted (by kernel_rfl)) ?_
          refine wpAnyU_take (i := 27) (v := undef) (some 155) rfl rfl (by kernel_rfl) (by kernel_rfl) (by kernel_rfl) (by kernel_rfl) (fun _ _ _ h => h) trivial (unwanted (by kernel_rfl)) ?_
          refine wpAnyU_take (i := 28) (v := undef) (some 156) rfl rfl (by kernel_rfl) (by kernel_rfl) (by kernel_rfl) (by kernel_rfl) (fun _ _ _ h => h) trivial (unwanted (by kernel_rfl)) ?_
          refine wpAnyU_take (i := 29) (v := undef) (some 157) rfl rfl (by kernel_rfl) (by kernel_rfl) (by kernel_rfl) (by kernel_rfl) (fun _ _ _ h => h) trivial (unwanted (by kernel_rfl)) ?_
          refine wpAnyU_take (i := 30) (v := undef) (some 158) rfl rfl (by kernel_rfl) (by kernel_rfl) (by kernel_rfl) (by kernel_rfl) (fun _ _ _ h => h) trivial (unwanted (by kernel_rfl)) ?_
          refine wpAnyU_take (i := 31) (v := undef) (some 159) rfl rfl (by kernel_rfl) (by kernel_rfl) (by kernel_rfl) (by kernel_rfl) (fun _ _ _ h => h) trivial (unwanted (by kernel_rfl)) ?_
          refine wpAnyU_take (i := 32) (v := undef) (some 160) rfl rfl (by kernel_rfl) (by kernel_rfl) (by kernel_rfl) (by kernel_rfl) (fun _ _ _ h => h) trivial (unwanted (by kernel_rfl)) ?_
          refine wpAnyU_take (i := 33) (v := undef) (some 161) rfl rfl (by kernel_rfl) (by kernel_rfl) (by kernel_rfl) (by kernel_rfl) (fun _ _ _ h => h) trivial (unwanted (by kernel_rfl)) ?_
          refine wpAnyU_take (i := 34) (v := (.bool false)) (some 162) rfl rfl (by kernel_rfl) (by kernel_rfl) (by kernel_rfl) (by kernel_rfl) (fun _ _ _ h => h) trivial (yields_of (by kernel_rfl) (fun w hw => by kernel_rfl)) ?_
          refine wpAnyU_take (i := 35) (v := (.bool false)) (some 163) rfl rfl (by kernel_rfl) (by kernel_rfl) (by kernel_rfl) (by kernel_rfl) (fun _ _ _ h => h) trivial (yields_of (by kernel_rfl) (fun w hw => by kernel_rfl)) ?_
          refine wpAnyU_take (i := 36) (v := (.int .i64 torn)) (some 164) rfl rfl (by kernel_rfl) (by kernel_rfl) (by kernel_rfl) (by kernel_rfl) (fun _ _ _ h => h) trivial (yields_of (by kernel_rfl) (fun w hw => by kernel_rfl)) ?_
          refine wpAnyU_take (i := 37) (v := (.bool true)) (some 165) rfl rfl (by kernel_rfl) (by kernel_rfl) (by kernel_rfl) (by kernel_rfl) (fun _ _ _ h => h) trivial (yields_of (by kernel_rfl) (fun w hw => by go_simp)) ?_
          refine wpAnyU_take (i := 38) (v := (.bool true)) (some 166) rfl rfl (by kernel_rfl) (by kernel_rfl) (by kernel_rfl) (by kernel_rfl) (fun _ _ _ h => h) trivial (yields_of (by kernel_rfl) (fun w hw => by kernel_rfl)) ?_
          refine wpAnyU_take (i := 39) (v := (.string ⟨pz.toArray⟩)) (some 167) rfl rfl (by kernel_rfl) (by kernel_rfl) (by kernel_rfl) (by kernel_rfl) (fun _ _ _ h => h) trivial (yields_of (by kernel_rfl) (fun w hw => by kernel_rfl)) ?_
          refine wpAnyU_take (i := 40) (v := (.string ⟨t.toArray⟩)) (some 168) rfl rfl (by kernel_rfl) (by kernel_rfl) (by kernel_rfl) (by kernel_rfl) (fun _ _ _ h => h) trivial (yields_of (by kernel_rfl) (fun w hw => by kernel_rfl)) ?_
          refine wpAnyU_call (i := 41) (f := 26) (args := #[.string ⟨t.toArray⟩]) (some 169) rfl rfl (by kernel_rfl) (by kernel_rfl) (by kernel_rfl) ?_
          refine (HQ _).out.mono ?_
          rintro e wr41 ⟨rfl, br41⟩
          have HBr41 := Lib.hid (belowT HBr6.out br41)
          clear br41
          refine ⟨_, rfl, fun _ => trivial, ?_⟩
          refine wpAnyU_take (i := 42) (v := (.bool false)) (some 170) rfl rfl (by kernel_rfl) (by kernel_rfl) (by kernel_rfl) (by kernel_rfl) (fun _ _ _ h => h) trivial (yields_of (by kernel_rfl) (fun w hw => by go_simp)) ?_
          refine wpAnyU_take (i := 43) (v := (.bool false)) (some 171) rfl rfl (by kernel_rfl) (by kernel_rfl) (by kernel_rfl) (by kernel_rfl) (fun _ _ _ h => h) trivial (yields_of (by kernel_rfl) (fun w hw => by kernel_rfl)) ?_
          refine wpAnyU_take (i := 44) (v := (.string ⟨pz.toArray⟩)) (some 172) rfl rfl (by kernel_rfl) (by kernel_rfl) (by kernel_rfl) (by kernel_rfl) (fun _ _ _ h => h) trivial (yields_of (by kernel_rfl) (fun w hw => by kernel_rfl)) ?_
          refine wpAnyU_call (i := 45) (f := 26) (args := #[.string ⟨#[]⟩]) (some 173) rfl rfl (by kernel_rfl) (by kernel_rfl) (by kernel_rfl) ?_
          refine (HZ _).out.mono ?_
          rintro e wr45 ⟨rfl, br45⟩
          have HBr45 := Lib.hid (belowT HBr41.out br45)
          clear br45
          refine ⟨_, rfl, fun _ => trivial, ?_⟩
          refine wpAnyU_take (i := 46) (v := (.bool true)) (some 174) rfl rfl (by kernel_rfl) (by kernel_rfl) (by kernel_rfl) (by kernel_rfl) (fun _ _ _ h => h) trivial (yields_of (by kernel_rfl) (fun w hw => by go_simp)) ?_
          refine wpAnyU_take (i := 47) (v := (.bool true)) (some 175) rfl rfl (by kernel_rfl) (by kernel_rfl) (by kernel_rfl) (by kernel_rfl) (fun _ _ _ h => h) trivial (yields_of (by kernel_rfl) (fun w hw => by kernel_rfl)) ?_
          refine wpAnyU_take (i := 48) (v := (.bool true)) (some 176) rfl rfl (by kernel_rfl) (by kernel_rfl) (by kernel_rfl) (by kernel_rfl) (fun _ _ _ h => h) trivial (yields_of (by kernel_rfl) (fun w hw => by kernel_rfl)) ?_
          refine wpAnyU_take (i := 49) (v := (.bool true)) (some 177) rfl rfl (by kernel_rfl) (by kernel_rfl) (by kernel_rfl) (by kernel_rfl) (fun _ _ _ h => h) trivial (yields_of (by kernel_rfl) (fun w hw => by kernel_rfl)) ?_
          refine wpAnyU_take (i := 50) (v := (.bool true)) (some 178) rfl rfl (by kernel_rfl) (by kernel_rfl) (by kernel_rfl) (by kernel_rfl) (fun _ _ _ h => h) trivial (yields_of (by kernel_rfl) (fun w hw => by kernel_rfl)) ?_
          refine wpAnyU_take (i := 51) (v := (.bool true)) (some 10) rfl rfl (by kernel_rfl) (by kernel_rfl) (by kernel_rfl) (by kernel_rfl) (fun _ _ _ h => h) trivial (yields_of (by kernel_rfl) (fun w hw => by kernel_rfl)) ?_
          refine wpAnyU_done (by kernel_rfl) ?_ _
          go_wp2
          go_ret
          exact ⟨by kernel_rfl, HBr45.out⟩
    | false =>
      have hyp : y = pa := by rw [HY.out]; rfl
      rw [hyp]
      clear HY hkb hyp
      by_cases ht1 : torn = 1
      · subst ht1
        obtain rfl : z = pb.take m ++ (pz.drop m).take (64 - m) := by rw [hz.out, zL, if_pos rfl, HDZ.out, HPZ.out]
        clear hz
        go_upto_region 22 with (fail)
        refine wp_region_until (fun _ => True) 52 (by kernel_rfl) ?_
        refine wpAnyU_take (i := 0) (v := (.bool true)) (some 128) rfl rfl (by kernel_rfl) (by kernel_rfl) (by kernel_rfl) (by kernel_rfl) (fun _ _ _ h => h) trivial (yields_of (by kernel_rfl) (fun w hw => by kernel_rfl)) ?_
        refine wpAnyU_take (i := 1) (v := (.bool true)) (some 129) rfl rfl (by kernel_rfl) (by kernel_rfl) (by kernel_rfl) (by kernel_rfl) (fun _ _ _ h => h) trivial (yields_of (by kernel_rfl) (fun w hw => by kernel_rfl)) ?_
        refine wpAnyU_take (i := 2) (v := (.bool false)) (some 130) rfl rfl (by kernel_rfl) (by kernel_rfl) (by kernel_rfl) (by kernel_rfl) (fun _ _ _ h => h) trivial (yields_of (by kernel_rfl) (fun w hw => by kernel_rfl)) ?_
        refine wpAnyU_take (i := 3) (v := (.bool false)) (some 131) rfl rfl (by kernel_rfl) (by kernel_rfl) (by kernel_rfl) (by kernel_rfl) (fun _ _ _ h => h) trivial (yields_of (by kernel_rfl) (fun w hw => by kernel_rfl)) ?_
        refine wpAnyU_take (i := 4) (v := undef) (some 132) rfl rfl (by kernel_rfl) (by kernel_rfl) (by kernel_rfl) (by kernel_rfl) (fun _ _ _ h => h) trivial (unwanted (by kernel_rfl)) ?_
        refine wpAnyU_take (i := 5) (v := undef) (some 133) rfl rfl (by kernel_rfl) (by kernel_rfl) (by kernel_rfl) (by kernel_rfl) (fun _ _ _ h => h) trivial (unwanted (by kernel_rfl)) ?_
        refine wpAnyU_take (i := 6) (v := undef) (some 134) rfl rfl (by kernel_rfl) (by kernel_rfl) (by kernel_rfl) (by kernel_rfl) (fun _ _ _ h => h) trivial (unwanted (by kernel_rfl)) ?_
        refine wpAnyU_take (i := 7) (v := undef) (some 135) rfl rfl (by kernel_rfl) (by kernel_rfl) (by kernel_rfl) (by kernel_rfl) (fun _ _ _ h => h) trivial (unwanted (by kernel_rfl)) ?_
        refine wpAnyU_take (i := 8) (v := (.bool false)) (some 136) rfl rfl (by kernel_rfl) (by kernel_rfl) (by kernel_rfl) (by kernel_rfl) (fun _ _ _ h => h) trivial (yields_of (by kernel_rfl) (fun w hw => by kernel_rfl)) ?_
        refine wpAnyU_take (i := 9) (v := (.bool false)) (some 137) rfl rfl (by kernel_rfl) (by kernel_rfl) (by kernel_rfl) (by kernel_rfl) (fun _ _ _ h => h) trivial (yields_of (by kernel_rfl) (fun w hw => by kernel_rfl)) ?_
        refine wpAnyU_take (i := 10) (v := (.bool false)) (some 138) rfl rfl (by kernel_rfl) (by kernel_rfl) (by kernel_rfl) (by kernel_rfl) (fun _ _ _ h => h) trivial (yields_of (by kernel_rfl) (fun w hw => by kernel_rfl)) ?_
        refine wpAnyU_take (i := 11) (v := (.bool true)) (some 139) rfl rfl (by kernel_rfl) (by kernel_rfl) (by kernel_rfl) (by kernel_rfl) (fun _ _ _ h => h) trivial (yields_of (by kernel_rfl) (fun w hw => by kernel_rfl)) ?_
        refine wpAnyU_take (i := 12) (v := (.bool true)) (some 140) rfl rfl (by kernel_rfl) (by kernel_rfl) (by kernel_rfl) (by kernel_rfl) (fun _ _ _ h => h) trivial (yields_of (by kernel_rfl) (fun w hw => by kernel_rfl)) ?_
        refine wpAnyU_take (i := 13) (v := (.string ⟨pa.toArray⟩)) (some 141) rfl rfl (by kernel_rfl) (by kernel_rfl) (by kernel_rfl) (by kernel_rfl) (fun _ _ _ h => h) trivial (yields_of (by kernel_rfl) (fun w hw => by kernel_rfl)) ?_
        refine wpAnyU_take (i := 14) (v := (.string ⟨s.toArray⟩)) (some 142) rfl rfl (by kernel_rfl) (by kernel_rfl) (by kernel_rfl) (by kernel_rfl) (fun _ _ _ h => h) trivial (yields_of (by kernel_rfl) (fun w hw => by kernel_rfl)) ?_
        refine wpAnyU_call (i := 15) (f := 26) (args := #[.string ⟨s.toArray⟩]) (some 143) rfl rfl (by kernel_rfl) (by kernel_rfl) (by kernel_rfl) ?_
        refine (HP _).out.mono ?_
        rintro e wr15 ⟨rfl, br15⟩
        have HBr15 := Lib.hid (belowT HB2.out (by first | exact br15 | exact (Below.refl _ _).drew.trans br15))
        clear br15
        refine ⟨_, rfl, fun _ => trivial, ?_⟩
        refine wpAnyU_take (i := 16) (v := (.bool true)) (some 144) rfl rfl (by kernel_rfl) (by kernel_rfl) (by kernel_rfl) (by kernel_rfl) (fun _ _ _ h => h) trivial (yields_of (by kernel_rfl) (fun w hw => by go_simp)) ?_
        refine wpAnyU_take (i := 17) (v := (.bool true)) (some 145) rfl rfl (by kernel_rfl) (by kernel_rfl) (by kernel_rfl) (by kernel_rfl) (fun _ _ _ h => h) trivial (yields_of (by kernel_rfl) (fun w hw => by kernel_rfl)) ?_
        refine wpAnyU_take (i := 18) (v := (.bool true)) (some 146) rfl rfl (by kernel_rfl) (by kernel_rfl) (by kernel_rfl) (by kernel_rfl) (fun _ _ _ h => h) trivial (yields_of (by kernel_rfl) (fun w hw => by kernel_rfl)) ?_
        refine wpAnyU_take (i := 19) (v := (.bool true)) (some 147) rfl rfl (by kernel_rfl) (by kernel_rfl) (by kernel_rfl) (by kernel_rfl) (fun _ _ _ h => h) trivial (yields_of (by kernel_rfl) (fun w hw => by kernel_rfl)) ?_
        refine wpAnyU_take (i := 20) (v := (.bool true)) (some 148) rfl rfl (by kernel_rfl) (by kernel_rfl) (by kernel_rfl) (by kernel_rfl) (fun _ _ _ h => h) trivial (yields_of (by kernel_rfl) (fun w hw => by kernel_rfl)) ?_
        refine wpAnyU_take (i := 21) (v := (.int .i64 1)) (some 149) rfl rfl (by kernel_rfl) (by kernel_rfl) (by kernel_rfl) (by kernel_rfl) (fun _ _ _ h => h) trivial (yields_of (by kernel_rfl) (fun w hw => by kernel_rfl)) ?_
        refine wpAnyU_take (i := 22) (v := (.bool true)) (some 150) rfl rfl (by kernel_rfl) (by kernel_rfl) (by kernel_rfl) (by kernel_rfl) (fun _ _ _ h => h) trivial (yields_of (by kernel_rfl) (fun w hw => by go_simp)) ?_
        refine wpAnyU_take (i := 23) (v := (.bool true)) (some 151) rfl rfl (by kernel_rfl) (by kernel_rfl) (by kernel_rfl) (by kernel_rfl) (fun _ _ _ h => h) trivial (yields_of (by kernel_rfl) (fun w hw => by kernel_rfl)) ?_
        refine wpAnyU_take (i := 24) (v := (.string ⟨(pb.take m ++ (pz.drop m).take (64 - m)).toArray⟩)) (some 152) rfl rfl (by kernel_rfl) (by kernel_rfl) (by kernel_rfl) (by kernel_rfl) (fun _ _ _ h => h) trivial (yields_of (by kernel_rfl) (fun w hw => by kernel_rfl)) ?_
        refine wpAnyU_take (i := 25) (v := (.string ⟨t.toArray⟩)) (some 153) rfl rfl (by kernel_rfl) (by kernel_rfl) (by kernel_rfl) (by kernel_rfl) (fun _ _ _ h => h) trivial (yields_of (by kernel_rfl) (fun w hw => by kernel_rfl)) ?_
        refine wpAnyU_take (i := 27) (v := (.int .i64 (m : Int))) (some 155) rfl rfl (by kernel_rfl) (by kernel_rfl) (by kernel_rfl) (by kernel_rfl) (fun _ _ _ h => h) trivial (yields_of (by kernel_rfl) (fun w hw => by kernel_rfl)) ?_
        refine wpAnyU_take (i := 30) (v := (.int .i64 (m : Int))) (some 158) rfl rfl (by kernel_rfl) (by kernel_rfl) (by kernel_rfl) (by kernel_rfl) (fun _ _ _ h => h) trivial (yields_of (by kernel_rfl) (fun w hw => by kernel_rfl)) ?_
        refine wpAnyU_call (i := 26) (f := 26) (args := #[.string ⟨t.toArray⟩]) (some 154) rfl rfl (by kernel_rfl) (by kernel_rfl) (by kernel_rfl) ?_
        refine (HQ _).out.mono ?_
        rintro e wr26 ⟨rfl, br26⟩
        have HBr26 := Lib.hid (belowT HBr15.out br26)
        clear br26
        refine ⟨_, rfl, fun _ => trivial, ?_⟩
        refine wpAnyU_take (i := 28) (v := (.string ⟨(pb.take m).toArray⟩)) (some 156) rfl rfl (by kernel_rfl) (by kernel_rfl) (by kernel_rfl) (by kernel_rfl) (fun _ _ _ h => h) trivial (yields_of (by kernel_rfl) (fun w hw => by go_simp)) ?_
        refine wpAnyU_call (i := 29) (f := 26) (args := #[.string ⟨#[]⟩]) (some 157) rfl rfl (by kernel_rfl) (by kernel_rfl) (by kernel_rfl) ?_
        refine (HZ _).out.mono ?_
        rintro e wr29 ⟨rfl, br29⟩
        have HBr29 := Lib.hid (belowT HBr26.out br29)
        clear br29
        refine ⟨_, rfl, fun _ => trivial, ?_⟩
        refine wpAnyU_take (i := 31) (v := (.string ⟨((pz.drop m).take (64 - m)).toArray⟩)) (some 159) rfl rfl (by kernel_rfl) (by kernel_rfl) (by kernel_rfl) (by kernel_rfl) (fun _ _ _ h => h) trivial (yields_of (by kernel_rfl) (fun w hw => by go_simp)) ?_
        refine wpAnyU_take (i := 32) (v := (.string ⟨(pb.take m ++ (pz.drop m).take (64 - m)).toArray⟩)) (some 160) rfl rfl (by kernel_rfl) (by kernel_rfl) (by kernel_rfl) (by kernel_rfl) (fun _ _ _ h => h) trivial (yields_of (by kernel_rfl) (fun w hw => by go_simp)) ?_
        refine wpAnyU_take (i := 33) (v := (.bool true)) (some 161) rfl rfl (by kernel_rfl) (by kernel_rfl) (by kernel_rfl) (by kernel_rfl) (fun _ _ _ h => h) trivial (yields_of (by kernel_rfl) (fun w hw => by go_simp)) ?_
        refine wpAnyU_take (i := 34) (v := (.bool true)) (some 162) rfl rfl (by kernel_rfl) (by kernel_rfl) (by kernel_rfl) (by kernel_rfl) (fun _ _ _ h => h) trivial (yields_of (by kernel_rfl) (fun w hw => by kernel_rfl)) ?_
        refine wpAnyU_take (i := 35) (v := (.bool true)) (some 163) rfl rfl (by kernel_rfl) (by kernel_rfl) (by kernel_rfl) (by kernel_rfl) (fun _ _ _ h => h) trivial (yields_of (by kernel_rfl) (fun w hw => by kernel_rfl)) ?_
        refine wpAnyU_take (i := 36) (v := undef) (some 164) rfl rfl (by kernel_rfl) (by kernel_rfl) (by kernel_rfl) (by kernel_rfl) (fun _ _ _ h => h) trivial (unwanted (by kernel_rfl)) ?_
        refine wpAnyU_take (i := 37) (v := undef) (some 165) rfl rfl (by kernel_rfl) (by kernel_rfl) (by kernel_rfl) (by kernel_rfl) (fun _ _ _ h => h) trivial (unwanted (by kernel_rfl)) ?_
        refine wpAnyU_take (i := 38) (v := undef) (some 166) rfl rfl (by kernel_rfl) (by kernel_rfl) (by kernel_rfl) (by kernel_rfl) (fun _ _ _ h => h) trivial (unwanted (by kernel_rfl)) ?_
        refine wpAnyU_take (i := 39) (v := undef) (some 167) rfl rfl (by kernel_rfl) (by kernel_rfl) (by kernel_rfl) (by kernel_rfl) (fun _ _ _ h => h) trivial (unwanted (by kernel_rfl)) ?_
        refine wpAnyU_take (i := 40) (v := undef) (some 168) rfl rfl (by kernel_rfl) (by kernel_rfl) (by kernel_rfl) (by kernel_rfl) (fun _ _ _ h => h) trivial (unwanted (by kernel_rfl)) ?_
        refine wpAnyU_take (i := 41) (v := undef) (some 169) rfl rfl (by kernel_rfl) (by kernel_rfl) (by kernel_rfl) (by kernel_rfl) (fun _ _ _ h => h) trivial (unwanted (by kernel_rfl)) ?_
        refine wpAnyU_take (i := 42) (v := undef) (some 170) rfl rfl (by kernel_rfl) (by kernel_rfl) (by kernel_rfl) (by kernel_rfl) (fun _ _ _ h => h) trivial (unwanted (by kernel_rfl)) ?_
        refine wpAnyU_take (i := 43) (v := undef) (some 171) rfl rfl (by kernel_rfl) (by kernel_rfl) (by kernel_rfl) (by kernel_rfl) (fun _ _ _ h => h) trivial (unwanted (by kernel_rfl)) ?_
        refine wpAnyU_take (i := 44) (v := undef) (some 172) rfl rfl (by kernel_rfl) (by kernel_rfl) (by kernel_rfl) (by kernel_rfl) (fun _ _ _ h => h) trivial (unwanted (by kernel_rfl)) ?_
        refine wpAnyU_take (i := 45) (v := undef) (some 173) rfl rfl (by kernel_rfl) (by kernel_rfl) (by kernel_rfl) (by kernel_rfl) (fun _ _ _ h => h) trivial (unwanted (by kernel_rfl)) ?_
        refine wpAnyU_take (i := 46) (v := undef) (some 174) rfl rfl (by kernel_rfl) (by kernel_rfl) (by kernel_rfl) (by kernel_rfl) (fun _ _ _ h => h) trivial (unwanted (by kernel_rfl)) ?_
        refine wpAnyU_take (i := 47) (v := undef) (some 175) rfl rfl (by kernel_rfl) (by kernel_rfl) (by kernel_rfl) (by kernel_rfl) (fun _ _ _ h => h) trivial (unwanted (by kernel_rfl)) ?_
        refine wpAnyU_take (i := 48) (v := undef) (some 176) rfl rfl (by kernel_rfl) (by kernel_rfl) (by kernel_rfl) (by kernel_rfl) (fun _ _ _ h => h) trivial (unwanted (by kernel_rfl)) ?_
        refine wpAnyU_take (i := 49) (v := (.bool true)) (some 177) rfl rfl (by kernel_rfl) (by kernel_rfl) (by kernel_rfl) (by kernel_rfl) (fun _ _ _ h => h) trivial (yields_of (by kernel_rfl) (fun w hw => by kernel_rfl)) ?_
        refine wpAnyU_take (i := 50) (v := (.bool true)) (some 178) rfl rfl (by kernel_rfl) (by kernel_rfl) (by kernel_rfl) (by kernel_rfl) (fun _ _ _ h => h) trivial (yields_of (by kernel_rfl) (fun w hw => by kernel_rfl)) ?_
        refine wpAnyU_take (i := 51) (v := (.bool true)) (some 10) rfl rfl (by kernel_rfl) (by kernel_rfl) (by kernel_rfl) (by kernel_rfl) (fun _ _ _ h => h) trivial (yields_of (by kernel_rfl) (fun w hw => by kernel_rfl)) ?_
        refine wpAnyU_done (by kernel_rfl) ?_ _
        go_wp2
        go_ret
        exact ⟨by kernel_rfl, HBr29.out⟩
      · have ht1' : (torn == 1) = false := by simpa using ht1
        have hz1 : z = pb ∨ z = pz := by
          rw [hz.out, zL, if_neg ht1, HPZ.out]; split
          · exact .inl rfl
          · exact .inr rfl
        clear hz
        by_cases hzb : z = pb
        · rw [hzb]
          clear hz1 hzb
          go_upto_region 22 with (fail)
          refine wp_region_until (fun _ => True) 52 (by kernel_rfl) ?_
          refine wpAnyU_take (i := 0) (v := (.bool true)) (some 128) rfl rfl (by kernel_rfl) (by kernel_rfl) (by kernel_rfl) (by kernel_rfl) (fun _ _ _ h => h) trivial (yields_of (by kernel_rfl) (fun w hw => by kernel_rfl)) ?_
          refine wpAnyU_take (i := 1) (v := (.bool true)) (some 129) rfl rfl (by kernel_rfl) (by kernel_rfl) (by kernel_rfl) (by kernel_rfl) (fun _ _ _ h => h) trivial (yields_of (by kernel_rfl) (fun w hw => by kernel_rfl)) ?_
          refine wpAnyU_take (i := 2) (v := (.bool false)) (some 130) rfl rfl (by kernel_rfl) (by kernel_rfl) (by kernel_rfl) (by kernel_rfl) (fun _ _ _ h => h) trivial (yields_of (by kernel_rfl) (fun w hw => by kernel_rfl)) ?_
          refine wpAnyU_take (i := 3) (v := (.bool false)) (some 131) rfl rfl (by kernel_rfl) (by kernel_rfl) (by kernel_rfl) (by kernel_rfl) (fun _ _ _ h => h) trivial (yields_of (by kernel_rfl) (fun w hw => by kernel_rfl)) ?_
          refine wpAnyU_take (i := 4) (v := undef) (some 132) rfl rfl (by kernel_rfl) (by kernel_rfl) (by kernel_rfl) (by kernel_rfl) (fun _ _ _ h => h) trivial (unwanted (by kernel_rfl)) ?_
          refine wpAnyU_take (i := 5) (v := undef) (some 133) rfl rfl (by kernel_rfl) (by kernel_rfl) (by kernel_rfl) (by kernel_rfl) (fun _ _ _ h => h) trivial (unwanted (by kernel_rfl)) ?_
          refine wpAnyU_take (i := 6) (v := undef) (some 134) rfl rfl (by kernel_rfl) (by kernel_rfl) (by kernel_rfl) (by kernel_rfl) (fun _ _ _ h => h) trivial (unwanted (by kernel_rfl)) ?_
          refine wpAnyU_take (i := 7) (v := undef) (some 135) rfl rfl (by kernel_rfl) (by kernel_rfl) (by kernel_rfl) (by kernel_rfl) (fun _ _ _ h => h) trivial (unwanted (by kernel_rfl)) ?_
          refine wpAnyU_take (i := 8) (v := (.bool false)) (some 136) rfl rfl (by kernel_rfl) (by kernel_rfl) (by kernel_rfl) (by kernel_rfl) (fun _ _ _ h => h) trivial (yields_of (by kernel_rfl) (fun w hw => by kernel_rfl)) ?_
          refine wpAnyU_take (i := 9) (v := (.bool false)) (some 137) rfl rfl (by kernel_rfl) (by kernel_rfl) (by kernel_rfl) (by kernel_rfl) (fun _ _ _ h => h) trivial (yields_of (by kernel_rfl) (fun w hw => by kernel_rfl)) ?_
          refine wpAnyU_take (i := 10) (v := (.bool false)) (some 138) rfl rfl (by kernel_rfl) (by kernel_rfl) (by kernel_rfl) (by kernel_rfl) (fun _ _ _ h => h) trivial (yields_of (by kernel_rfl) (fun w hw => by kernel_rfl)) ?_
          refine wpAnyU_take (i := 11) (v := (.bool true)) (some 139) rfl rfl (by kernel_rfl) (by kernel_rfl) (by kernel_rfl) (by kernel_rfl) (fun _ _ _ h => h) trivial (yields_of (by kernel_rfl) (fun w hw => by kernel_rfl)) ?_
          refine wpAnyU_take (i := 12) (v := (.bool true)) (some 140) rfl rfl (by kernel_rfl) (by kernel_rfl) (by kernel_rfl) (by kernel_rfl) (fun _ _ _ h => h) trivial (yields_of (by kernel_rfl) (fun w hw => by kernel_rfl)) ?_
          refine wpAnyU_take (i := 13) (v := (.string ⟨pa.toArray⟩)) (some 141) rfl rfl (by kernel_rfl) (by kernel_rfl) (by kernel_rfl) (by kernel_rfl) (fun _ _ _ h => h) trivial (yields_of (by kernel_rfl) (fun w hw => by kernel_rfl)) ?_
          refine wpAnyU_take (i := 14) (v := (.string ⟨s.toArray⟩)) (some 142) rfl rfl (by kernel_rfl) (by kernel_rfl) (by kernel_rfl) (by kernel_rfl) (fun _ _ _ h => h) trivial (yields_of (by kernel_rfl) (fun w hw => by kernel_rfl)) ?_
          refine wpAnyU_call (i := 15) (f := 26) (args := #[.string ⟨s.toArray⟩]) (some 143) rfl rfl (by kernel_rfl) (by kernel_rfl) (by kernel_rfl) ?_
          refine (HP _).out.mono ?_
          rintro e wr15 ⟨rfl, br15⟩
          have HBr15 := Lib.hid (belowT HB2.out (by first | exact br15 | exact (Below.refl _ _).drew.trans br15))
          clear br15
          refine ⟨_, rfl, fun _ => trivial, ?_⟩
          refine wpAnyU_take (i := 16) (v := (.bool true)) (some 144) rfl rfl (by kernel_rfl) (by kernel_rfl) (by kernel_rfl) (by kernel_rfl) (fun _ _ _ h => h) trivial (yields_of (by kernel_rfl) (fun w hw => by go_simp)) ?_
          refine wpAnyU_take (i := 17) (v := (.bool true)) (some 145) rfl rfl (by kernel_rfl) (by kernel_rfl) (by kernel_rfl) (by kernel_rfl) (fun _ _ _ h => h) trivial (yields_of (by kernel_rfl) (fun w hw => by kernel_rfl)) ?_
          refine wpAnyU_take (i := 18) (v := (.bool true)) (some 146) rfl rfl (by kernel_rfl) (by kernel_rfl) (by kernel_rfl) (by kernel_rfl) (fun _ _ _ h => h) trivial (yields_of (by kernel_rfl) (fun w hw => by kernel_rfl)) ?_
          refine wpAnyU_take (i := 19) (v := (.bool true)) (some 147) rfl rfl (by kernel_rfl) (by kernel_rfl) (by kernel_rfl) (by kernel_rfl) (fun _ _ _ h => h) trivial (yields_of (by kernel_rfl) (fun w hw => by kernel_rfl)) ?_
          refine wpAnyU_take (i := 20) (v := (.bool true)) (some 148) rfl rfl (by kernel_rfl) (by kernel_rfl) (by kernel_rfl) (by kernel_rfl) (fun _ _ _ h => h) trivial (yields_of (by kernel_rfl) (fun w hw => by kernel_rfl)) ?_
          refine wpAnyU_take (i := 21) (v := (.int .i64 torn)) (some 149) rfl rfl (by kernel_rfl) (by kernel_rfl) (by kernel_rfl) (by kernel_rfl) (fun _ _ _ h => h) trivial (yields_of (by kernel_rfl) (fun w hw => by kernel_rfl)) ?_
          refine wpAnyU_take (i := 22) (v := (.bool false)) (some 150) rfl rfl (by kernel_rfl) (by kernel_rfl) (by kernel_rfl) (by kernel_rfl) (fun _ _ _ h => h) trivial (yields_of (by kernel_rfl) (fun w hw => by go_simp)) ?_
          refine wpAnyU_take (i := 23) (v := (.bool false)) (some 151) rfl rfl (by kernel_rfl) (by kernel_rfl) (by kernel_rfl) (by kernel_rfl) (fun _ _ _ h => h) trivial (yields_of (by kernel_rfl) (fun w hw => by kernel_rfl)) ?_
          refine wpAnyU_take (i := 24) (v := undef) (some 152) rfl rfl (by kernel_rfl) (by kernel_rfl) (by kernel_rfl) (by kernel_rfl) (fun _ _ _ h => h) trivial (unwanted (by kernel_rfl)) ?_
          refine wpAnyU_take (i := 25) (v := undef) (some 153) rfl rfl (by kernel_rfl) (by kernel_rfl) (by kernel_rfl) (by kernel_rfl) (fun _ _ _ h => h) trivial (unwanted (by kernel_rfl)) ?_
          refine wpAnyU_take (i := 26) (v := undef) (some 154) rfl rfl (by kernel_rfl) (by kernel_rfl) (by kernel_rfl) (by kernel_rfl) (fun _ _ _ h => h) trivial (unwanted (by kernel_rfl)) ?_
          refine wpAnyU_take (i := 27) (v := undef) (some 155) rfl rfl (by kernel_rfl) (by kernel_rfl) (by kernel_rfl) (by kernel_rfl) (fun _ _ _ h => h) trivial (unwanted (by kernel_rfl)) ?_
          refine wpAnyU_take (i := 28) (v := undef) (some 156) rfl rfl (by kernel_rfl) (by kernel_rfl) (by kernel_rfl) (by kernel_rfl) (fun _ _ _ h => h) trivial (unwanted (by kernel_rfl)) ?_
          refine wpAnyU_take (i := 29) (v := undef) (some 157) rfl rfl (by kernel_rfl) (by kernel_rfl) (by kernel_rfl) (by kernel_rfl) (fun _ _ _ h => h) trivial (unwanted (by kernel_rfl)) ?_
          refine wpAnyU_take (i := 30) (v := undef) (some 158) rfl rfl (by kernel_rfl) (by kernel_rfl) (by kernel_rfl) (by kernel_rfl) (fun _ _ _ h => h) trivial (unwanted (by kernel_rfl)) ?_
          refine wpAnyU_take (i := 31) (v := undef) (some 159) rfl rfl (by kernel_rfl) (by kernel_rfl) (by kernel_rfl) (by kernel_rfl) (fun _ _ _ h => h) trivial (unwanted (by kernel_rfl)) ?_
          refine wpAnyU_take (i := 32) (v := undef) (some 160) rfl rfl (by kernel_rfl) (by kernel_rfl) (by kernel_rfl) (by kernel_rfl) (fun _ _ _ h => h) trivial (unwanted (by kernel_rfl)) ?_
          refine wpAnyU_take (i := 33) (v := undef) (some 161) rfl rfl (by kernel_rfl) (by kernel_rfl) (by kernel_rfl) (by kernel_rfl) (fun _ _ _ h => h) trivial (unwanted (by kernel_rfl)) ?_
          refine wpAnyU_take (i := 34) (v := (.bool false)) (some 162) rfl rfl (by kernel_rfl) (by kernel_rfl) (by kernel_rfl) (by kernel_rfl) (fun _ _ _ h => h) trivial (yields_of (by kernel_rfl) (fun w hw => by kernel_rfl)) ?_
          refine wpAnyU_take (i := 35) (v := (.bool false)) (some 163) rfl rfl (by kernel_rfl) (by kernel_rfl) (by kernel_rfl) (by kernel_rfl) (fun _ _ _ h => h) trivial (yields_of (by kernel_rfl) (fun w hw => by kernel_rfl)) ?_
          refine wpAnyU_take (i := 36) (v := (.int .i64 torn)) (some 164) rfl rfl (by kernel_rfl) (by kernel_rfl) (by kernel_rfl) (by kernel_rfl) (fun _ _ _ h => h) trivial (yields_of (by kernel_rfl) (fun w hw => by kernel_rfl)) ?_
          refine wpAnyU_take (i := 37) (v := (.bool true)) (some 165) rfl rfl (by kernel_rfl) (by kernel_rfl) (by kernel_rfl) (by kernel_rfl) (fun _ _ _ h => h) trivial (yields_of (by kernel_rfl) (fun w hw => by go_simp)) ?_
          refine wpAnyU_take (i := 38) (v := (.bool true)) (some 166) rfl rfl (by kernel_rfl) (by kernel_rfl) (by kernel_rfl) (by kernel_rfl) (fun _ _ _ h => h) trivial (yields_of (by kernel_rfl) (fun w hw => by kernel_rfl)) ?_
          refine wpAnyU_take (i := 39) (v := (.string ⟨pb.toArray⟩)) (some 167) rfl rfl (by kernel_rfl) (by kernel_rfl) (by kernel_rfl) (by kernel_rfl) (fun _ _ _ h => h) trivial (yields_of (by kernel_rfl) (fun w hw => by kernel_rfl)) ?_
          refine wpAnyU_take (i := 40) (v := (.string ⟨t.toArray⟩)) (some 168) rfl rfl (by kernel_rfl) (by kernel_rfl) (by kernel_rfl) (by kernel_rfl) (fun _ _ _ h => h) trivial (yields_of (by kernel_rfl) (fun w hw => by kernel_rfl)) ?_
          refine wpAnyU_call (i := 41) (f := 26) (args := #[.string ⟨t.toArray⟩]) (some 169) rfl rfl (by kernel_rfl) (by kernel_rfl) (by kernel_rfl) ?_
          refine (HQ _).out.mono ?_
          rintro e wr41 ⟨rfl, br41⟩
          have HBr41 := Lib.hid (belowT HBr15.out br41)
          clear br41
          refine ⟨_, rfl, fun _ => trivial, ?_⟩
          refine wpAnyU_take (i := 42) (v := (.bool true)) (some 170) rfl rfl (by kernel_rfl) (by kernel_rfl) (by kernel_rfl) (by kernel_rfl) (fun _ _ _ h => h) trivial (yields_of (by kernel_rfl) (fun w hw => by go_simp)) ?_
          refine wpAnyU_take (i := 43) (v := (.bool true)) (some 171) rfl rfl (by kernel_rfl) (by kernel_rfl) (by kernel_rfl) (by kernel_rfl) (fun _ _ _ h => h) trivial (yields_of (by kernel_rfl) (fun w hw => by kernel_rfl)) ?_
          refine wpAnyU_take (i := 44) (v := undef) (some 172) rfl rfl (by kernel_rfl) (by kernel_rfl) (by kernel_rfl) (by kernel_rfl) (fun _ _ _ h => h) trivial (unwanted (by kernel_rfl)) ?_
          refine wpAnyU_take (i := 45) (v := undef) (some 173) rfl rfl (by kernel_rfl) (by kernel_rfl) (by kernel_rfl) (by kernel_rfl) (fun _ _ _ h => h) trivial (unwanted (by kernel_rfl)) ?_
          refine wpAnyU_take (i := 46) (v := undef) (some 174) rfl rfl (by kernel_rfl) (by kernel_rfl) (by kernel_rfl) (by kernel_rfl) (fun _ _ _ h => h) trivial (unwanted (by kernel_rfl)) ?_
          refine wpAnyU_take (i := 47) (v := (.bool true)) (some 175) rfl rfl (by kernel_rfl) (by kernel_rfl) (by kernel_rfl) (by kernel_rfl) (fun _ _ _ h => h) trivial (yields_of (by kernel_rfl) (fun w hw => by kernel_rfl)) ?_
          refine wpAnyU_take (i := 48) (v := (.bool true)) (some 176) rfl rfl (by kernel_rfl) (by kernel_rfl) (by kernel_rfl) (by kernel_rfl) (fun _ _ _ h => h) trivial (yields_of (by kernel_rfl) (fun w hw => by kernel_rfl)) ?_
          refine wpAnyU_take (i := 49) (v := (.bool true)) (some 177) rfl rfl (by kernel_rfl) (by kernel_rfl) (by kernel_rfl) (by kernel_rfl) (fun _ _ _ h => h) trivial (yields_of (by kernel_rfl) (fun w hw => by kernel_rfl)) ?_
          refine wpAnyU_take (i := 50) (v := (.bool true)) (some 178) rfl rfl (by kernel_rfl) (by kernel_rfl) (by kernel_rfl) (by kernel_rfl) (fun _ _ _ h => h) trivial (yields_of (by kernel_rfl) (fun w hw => by kernel_rfl)) ?_
          refine wpAnyU_take (i := 51) (v := (.bool true)) (some 10) rfl rfl (by kernel_rfl) (by kernel_rfl) (by kernel_rfl) (by kernel_rfl) (fun _ _ _ h => h) trivial (yields_of (by kernel_rfl) (fun w hw => by kernel_rfl)) ?_
          refine wpAnyU_done (by kernel_rfl) ?_ _
          go_wp2
          go_ret
          exact ⟨by kernel_rfl, HBr41.out⟩
        · have hzz := hz1.resolve_left hzb
          rw [hzz] at hzb ⊢
          clear hz1 hzz
          go_upto_region 22 with (fail)
          refine wp_region_until (fun _ => True) 52 (by kernel_rfl) ?_
          refine wpAnyU_take (i := 0) (v := (.bool true)) (some 128) rfl rfl (by kernel_rfl) (by kernel_rfl) (by kernel_rfl) (by kernel_rfl) (fun _ _ _ h => h) trivial (yields_of (by kernel_rfl) (fun w hw => by kernel_rfl)) ?_
          refine wpAnyU_take (i := 1) (v := (.bool true)) (some 129) rfl rfl (by kernel_rfl) (by kernel_rfl) (by kernel_rfl) (by kernel_rfl) (fun _ _ _ h => h) trivial (yields_of (by kernel_rfl) (fun w hw => by kernel_rfl)) ?_
          refine wpAnyU_take (i := 2) (v := (.bool false)) (some 130) rfl rfl (by kernel_rfl) (by kernel_rfl) (by kernel_rfl) (by kernel_rfl) (fun _ _ _ h => h) trivial (yields_of (by kernel_rfl) (fun w hw => by kernel_rfl)) ?_
          refine wpAnyU_take (i := 3) (v := (.bool false)) (some 131) rfl rfl (by kernel_rfl) (by kernel_rfl) (by kernel_rfl) (by kernel_rfl) (fun _ _ _ h => h) trivial (yields_of (by kernel_rfl) (fun w hw => by kernel_rfl)) ?_
          refine wpAnyU_take (i := 4) (v := undef) (some 132) rfl rfl (by kernel_rfl) (by kernel_rfl) (by kernel_rfl) (by kernel_rfl) (fun _ _ _ h => h) trivial (unwanted (by kernel_rfl)) ?_
          refine wpAnyU_take (i := 5) (v := undef) (some 133) rfl rfl (by kernel_rfl) (by kernel_rfl) (by kernel_rfl) (by kernel_rfl) (fun _ _ _ h => h) trivial (unwanted (by kernel_rfl)) ?_
          refine wpAnyU_take (i := 6) (v := undef) (some 134) rfl rfl (by kernel_rfl) (by kernel_rfl) (by kernel_rfl) (by kernel_rfl) (fun _ _ _ h => h) trivial (unwanted (by kernel_rfl)) ?_
          refine wpAnyU_take (i := 7) (v := undef) (some 135) rfl rfl (by kernel_rfl) (by kernel_rfl) (by kernel_rfl) (by kernel_rfl) (fun _ _ _ h => h) trivial (unwanted (by kernel_rfl)) ?_
          refine wpAnyU_take (i := 8) (v := (.bool false)) (some 136) rfl rfl (by kernel_rfl) (by kernel_rfl) (by kernel_rfl) (by kernel_rfl) (fun _ _ _ h => h) trivial (yields_of (by kernel_rfl) (fun w hw => by kernel_rfl)) ?_
          refine wpAnyU_take (i := 9) (v := (.bool false)) (some 137) rfl rfl (by kernel_rfl) (by kernel_rfl) (by kernel_rfl) (by kernel_rfl) (fun _ _ _ h => h) trivial (yields_of (by kernel_rfl) (fun w hw => by kernel_rfl)) ?_
          refine wpAnyU_take (i := 10) (v := (.bool false)) (some 138) rfl rfl (by kernel_rfl) (by kernel_rfl) (by kernel_rfl) (by kernel_rfl) (fun _ _ _ h => h) trivial (yields_of (by kernel_rfl) (fun w hw => by kernel_rfl)) ?_
          refine wpAnyU_take (i := 11) (v := (.bool true)) (some 139) rfl rfl (by kernel_rfl) (by kernel_rfl) (by kernel_rfl) (by kernel_rfl) (fun _ _ _ h => h) trivial (yields_of (by kernel_rfl) (fun w hw => by kernel_rfl)) ?_
          refine wpAnyU_take (i := 12) (v := (.bool true)) (some 140) rfl rfl (by kernel_rfl) (by kernel_rfl) (by kernel_rfl) (by kernel_rfl) (fun _ _ _ h => h) trivial (yields_of (by kernel_rfl) (fun w hw => by kernel_rfl)) ?_
          refine wpAnyU_take (i := 13) (v := (.string ⟨pa.toArray⟩)) (some 141) rfl rfl (by kernel_rfl) (by kernel_rfl) (by kernel_rfl) (by kernel_rfl) (fun _ _ _ h => h) trivial (yields_of (by kernel_rfl) (fun w hw => by kernel_rfl)) ?_
          refine wpAnyU_take (i := 14) (v := (.string ⟨s.toArray⟩)) (some 142) rfl rfl (by kernel_rfl) (by kernel_rfl) (by kernel_rfl) (by kernel_rfl) (fun _ _ _ h => h) trivial (yields_of (by kernel_rfl) (fun w hw => by kernel_rfl)) ?_
          refine wpAnyU_call (i := 15) (f := 26) (args := #[.string ⟨s.toArray⟩]) (some 143) rfl rfl (by kernel_rfl) (by kernel_rfl) (by kernel_rfl) ?_
          refine (HP _).out.mono ?_
          rintro e wr15 ⟨rfl, br15⟩
          have HBr15 := Lib.hid (belowT HB2.out (by first | exact br15 | exact (Below.refl _ _).drew.trans br15))
          clear br15
          refine ⟨_, rfl, fun _ => trivial, ?_⟩
          refine wpAnyU_take (i := 16) (v := (.bool true)) (some 144) rfl rfl (by kernel_rfl) (by kernel_rfl) (by kernel_rfl) (by kernel_rfl) (fun _ _ _ h => h) trivial (yields_of (by kernel_rfl) (fun w hw => by go_simp)) ?_
          refine wpAnyU_take (i := 17) (v := (.bool true)) (some 145) rfl rfl (by kernel_rfl) (by kernel_rfl) (by kernel_rfl) (by kernel_rfl) (fun _ _ _ h => h) trivial (yields_of (by kernel_rfl) (fun w hw => by kernel_rfl)) ?_
          refine wpAnyU_take (i := 18) (v := (.bool true)) (some 146) rfl rfl (by kernel_rfl) (by kernel_rfl) (by kernel_rfl) (by kernel_rfl) (fun _ _ _ h => h) trivial (yields_of (by kernel_rfl) (fun w hw => by kernel_rfl)) ?_
          refine wpAnyU_take (i := 19) (v := (.bool true)) (some 147) rfl rfl (by kernel_rfl) (by kernel_rfl) (by kernel_rfl) (by kernel_rfl) (fun _ _ _ h => h) trivial (yields_of (by kernel_rfl) (fun w hw => by kernel_rfl)) ?_
          refine wpAnyU_take (i := 20) (v := (.bool true)) (some 148) rfl rfl (by kernel_rfl) (by kernel_rfl) (by kernel_rfl) (by kernel_rfl) (fun _ _ _ h => h) trivial (yields_of (by kernel_rfl) (fun w hw => by kernel_rfl)) ?_
          refine wpAnyU_take (i := 21) (v := (.int .i64 torn)) (some 149) rfl rfl (by kernel_rfl) (by kernel_rfl) (by kernel_rfl) (by kernel_rfl) (fun _ _ _ h => h) trivial (yields_of (by kernel_rfl) (fun w hw => by kernel_rfl)) ?_
          refine wpAnyU_take (i := 22) (v := (.bool false)) (some 150) rfl rfl (by kernel_rfl) (by kernel_rfl) (by kernel_rfl) (by kernel_rfl) (fun _ _ _ h => h) trivial (yields_of (by kernel_rfl) (fun w hw => by go_simp)) ?_
          refine wpAnyU_take (i := 23) (v := (.bool false)) (some 151) rfl rfl (by kernel_rfl) (by kernel_rfl) (by kernel_rfl) (by kernel_rfl) (fun _ _ _ h => h) trivial (yields_of (by kernel_rfl) (fun w hw => by kernel_rfl)) ?_
          refine wpAnyU_take (i := 24) (v := undef) (some 152) rfl rfl (by kernel_rfl) (by kernel_rfl) (by kernel_rfl) (by kernel_rfl) (fun _ _ _ h => h) trivial (unwanted (by kernel_rfl)) ?_
          refine wpAnyU_take (i := 25) (v := undef) (some 153) rfl rfl (by kernel_rfl) (by kernel_rfl) (by kernel_rfl) (by kernel_rfl) (fun _ _ _ h => h) trivial (unwanted (by kernel_rfl)) ?_
          refine wpAnyU_take (i := 26) (v := undef) (some 154) rfl rfl (by kernel_rfl) (by kernel_rfl) (by kernel_rfl) (by kernel_rfl) (fun _ _ _ h => h) trivial (unwanted (by kernel_rfl)) ?_
          refine wpAnyU_take (i := 27) (v := undef) (some 155) rfl rfl (by kernel_rfl) (by kernel_rfl) (by kernel_rfl) (by kernel_rfl) (fun _ _ _ h => h) trivial (unwanted (by kernel_rfl)) ?_
          refine wpAnyU_take (i := 28) (v := undef) (some 156) rfl rfl (by kernel_rfl) (by kernel_rfl) (by kernel_rfl) (by kernel_rfl) (fun _ _ _ h => h) trivial (unwanted (by kernel_rfl)) ?_
          refine wpAnyU_take (i := 29) (v := undef) (some 157) rfl rfl (by kernel_rfl) (by kernel_rfl) (by kernel_rfl) (by kernel_rfl) (fun _ _ _ h => h) trivial (unwanted (by kernel_rfl)) ?_
          refine wpAnyU_take (i := 30) (v := undef) (some 158) rfl rfl (by kernel_rfl) (by kernel_rfl) (by kernel_rfl) (by kernel_rfl) (fun _ _ _ h => h) trivial (unwanted (by kernel_rfl)) ?_
          refine wpAnyU_take (i := 31) (v := undef) (some 159) rfl rfl (by kernel_rfl) (by kernel_rfl) (by kernel_rfl) (by kernel_rfl) (fun _ _ _ h => h) trivial (unwanted (by kernel_rfl)) ?_
          refine wpAnyU_take (i := 32) (v := undef) (some 160) rfl rfl (by kernel_rfl) (by kernel_rfl) (by kernel_rfl) (by kernel_rfl) (fun _ _ _ h => h) trivial (unwanted (by kernel_rfl)) ?_
          refine wpAnyU_take (i := 33) (v := undef) (some 161) rfl rfl (by kernel_rfl) (by kernel_rfl) (by kernel_rfl) (by kernel_rfl) (fun _ _ _ h => h) trivial (unwanted (by kernel_rfl)) ?_
          refine wpAnyU_take (i := 34) (v := (.bool false)) (some 162) rfl rfl (by kernel_rfl) (by kernel_rfl) (by kernel_rfl) (by kernel_rfl) (fun _ _ _ h => h) trivial (yields_of (by kernel_rfl) (fun w hw => by kernel_rfl)) ?_
          refine wpAnyU_take (i := 35) (v := (.bool false)) (some 163) rfl rfl (by kernel_rfl) (by kernel_rfl) (by kernel_rfl) (by kernel_rfl) (fun _ _ _ h => h) trivial (yields_of (by kernel_rfl) (fun w hw => by kernel_rfl)) ?_
          refine wpAnyU_take (i := 36) (v := (.int .i64 torn)) (some 164) rfl rfl (by kernel_rfl) (by kernel_rfl) (by kernel_rfl) (by kernel_rfl) (fun _ _ _ h => h) trivial (yields_of (by kernel_rfl) (fun w hw => by kernel_rfl)) ?_
          refine wpAnyU_take (i := 37) (v := (.bool true)) (some 165) rfl rfl (by kernel_rfl) (by kernel_rfl) (by kernel_rfl) (by kernel_rfl) (fun _ _ _ h => h) trivial (yields_of (by kernel_rfl) (fun w hw => by go_simp)) ?_
          refine wpAnyU_take (i := 38) (v := (.bool true)) (some 166) rfl rfl (by kernel_rfl) (by kernel_rfl) (by kernel_rfl) (by kernel_rfl) (fun _ _ _ h => h) trivial (yields_of (by kernel_rfl) (fun w hw => by kernel_rfl)) ?_
          refine wpAnyU_take (i := 39) (v := (.string ⟨pz.toArray⟩)) (some 167) rfl rfl (by kernel_rfl) (by kernel_rfl) (by kernel_rfl) (by kernel_rfl) (fun _ _ _ h => h) trivial (yields_of (by kernel_rfl) (fun w hw => by kernel_rfl)) ?_
          refine wpAnyU_take (i := 40) (v := (.string ⟨t.toArray⟩)) (some 168) rfl rfl (by kernel_rfl) (by kernel_rfl) (by kernel_rfl) (by kernel_rfl) (fun _ _ _ h => h) trivial (yields_of (by kernel_rfl) (fun w hw => by kernel_rfl)) ?_
          refine wpAnyU_call (i := 41) (f := 26) (args := #[.string ⟨t.toArray⟩]) (some 169) rfl rfl (by kernel_rfl) (by kernel_rfl) (by kernel_rfl) ?_
          refine (HQ _).out.mono ?_
          rintro e wr41 ⟨rfl, br41⟩
          have HBr41 := Lib.hid (belowT HBr15.out br41)
          clear br41
          refine ⟨_, rfl, fun _ => trivial, ?_⟩
          refine wpAnyU_take (i := 42) (v := (.bool false)) (some 170) rfl rfl (by kernel_rfl) (by kernel_rfl) (by kernel_rfl) (by kernel_rfl) (fun _ _ _ h => h) trivial (yields_of (by kernel_rfl) (fun w hw => by go_simp)) ?_
          refine wpAnyU_take (i := 43) (v := (.bool false)) (some 171) rfl rfl (by kernel_rfl) (by kernel_rfl) (by kernel_rfl) (by kernel_rfl) (fun _ _ _ h => h) trivial (yields_of (by kernel_rfl) (fun w hw => by kernel_rfl)) ?_
          refine wpAnyU_take (i := 44) (v := (.string ⟨pz.toArray⟩)) (some 172) rfl rfl (by kernel_rfl) (by kernel_rfl) (by kernel_rfl) (by kernel_rfl) (fun _ _ _ h => h) trivial (yields_of (by kernel_rfl) (fun w hw => by kernel_rfl)) ?_
          refine wpAnyU_call (i := 45) (f := 26) (args := #[.string ⟨#[]⟩]) (some 173) rfl rfl (by kernel_rfl) (by kernel_rfl) (by kernel_rfl) ?_
          refine (HZ _).out.mono ?_
          rintro e wr45 ⟨rfl, br45⟩
          have HBr45 := Lib.hid (belowT HBr41.out br45)
          clear br45
          refine ⟨_, rfl, fun _ => trivial, ?_⟩
          refine wpAnyU_take (i := 46) (v := (.bool true)) (some 174) rfl rfl (by kernel_rfl) (by kernel_rfl) (by kernel_rfl) (by kernel_rfl) (fun _ _ _ h => h) trivial (yields_of (by kernel_rfl) (fun w hw => by go_simp)) ?_
          refine wpAnyU_take (i := 47) (v := (.bool true)) (some 175) rfl rfl (by kernel_rfl) (by kernel_rfl) (by kernel_rfl) (by kernel_rfl) (fun _ _ _ h => h) trivial (yields_of (by kernel_rfl) (fun w hw => by kernel_rfl)) ?_
          refine wpAnyU_take (i := 48) (v := (.bool true)) (some 176) rfl rfl (by kernel_rfl) (by kernel_rfl) (by kernel_rfl) (by kernel_rfl) (fun _ _ _ h => h) trivial (yields_of (by kernel_rfl) (fun w hw => by kernel_rfl)) ?_
          refine wpAnyU_take (i := 49) (v := (.bool true)) (some 177) rfl rfl (by kernel_rfl) (by kernel_rfl) (by kernel_rfl) (by kernel_rfl) (fun _ _ _ h => h) trivial (yields_of (by kernel_rfl) (fun w hw => by kernel_rfl)) ?_
          refine wpAnyU_take (i := 50) (v := (.bool true)) (some 178) rfl rfl (by kernel_rfl) (by kernel_rfl) (by kernel_rfl) (by kernel_rfl) (fun _ _ _ h => h) trivial (yields_of (by kernel_rfl) (fun w hw => by kernel_rfl)) ?_
          refine wpAnyU_take (i := 51) (v := (.bool true)) (some 10) rfl rfl (by kernel_rfl) (by kernel_rfl) (by kernel_rfl) (by kernel_rfl) (fun _ _ _ h => h) trivial (yields_of (by kernel_rfl) (fun w hw => by kernel_rfl)) ?_
          refine wpAnyU_done (by kernel_rfl) ?_ _
          go_wp2
          go_ret
          exact ⟨by kernel_rfl, HBr45.out⟩

end Go.Proofs.Ytgppbbbpekghiaa
