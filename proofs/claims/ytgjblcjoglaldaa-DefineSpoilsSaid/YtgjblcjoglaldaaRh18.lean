/- The reference of layer 18: Decode. -/
import Derived.Test.YtgjblcjoglaldaaRf18
namespace Go.Proofs.Ytgjblcjoglaldaa
open Go.RowKit Go.Proofs Go.Proofs.Pk
set_option maxRecDepth 10000
attribute [local simp] mk_get wrap64_u8 mk_extract ByteArray.mk_append_mk get_1k

set_option maxHeartbeats 8000000 in
theorem rDec18 (w : World) (b : DTxt) (hb : b.length ≤ 1048576) : Calls Try.prog 17 #[.string ⟨b.toArray⟩] w (RdE18 w (decD b)) := by
  have HD := Lib.hid (PD.new w)
  obtain ⟨Z, hZ⟩ : ∃ Z, Hid (Z = decD b) := ⟨_, rfl⟩
  rw [← hZ.out]
  go_enter Try.func17, Try.ntmps17
  go_upto_region 2 with fail
  obtain ⟨dz, hdz⟩ : ∃ dz, dz = w.heap.size + 1 := ⟨_, rfl⟩
  obtain ⟨r, hr⟩ : ∃ r, r = w.heap.size := ⟨_, rfl⟩
  rw [← hdz, ← hr] at HD
  change Code.wp _ _ _ _ ((w.alloc (.cells #[.string ⟨#[]⟩, .slice none 0 0] 24)).alloc (.cells #[.string ⟨#[]⟩, .slice none 0 0] 24))
  generalize (w.alloc (.cells #[.string ⟨#[]⟩, .slice none 0 0] 24)).alloc (.cells #[.string ⟨#[]⟩, .slice none 0 0] 24) = wa at HD ⊢
  rw [← hdz, ← hr]
  have hrw : w.heap.size ≤ r := by omega
  clear hdz hr
  have HT := Lib.hid (fun W : World => rReadText b W (by unfold maxLen; omega))
  have ht1 := rdTxt_len b
  have ht2 := rdTxt_fstD b
  have HZ1 : Hid ((rdTxt b).2.2 ≠ 0 → Z = (zeroD, false)) := fun h => by rw [hZ.out]; exact decD_txt h
  have HZ2 : Hid ((rdTxt b).2.2 = 0 → (rdNum (rdTxt b).2.1).2.2 ≠ 0 → Z = (zeroD, false)) := fun h h' => by rw [hZ.out]; exact decD_num h h'
  have HZ3 : Hid ((rdTxt b).2.2 = 0 → (rdNum (rdTxt b).2.1).2.2 = 0 → rdSteps (rdNum (rdTxt b).2.1).1 (rdNum (rdTxt b).2.1).2.1 = none → Z = (zeroD, false)) := fun h h' h'' => by rw [hZ.out]; exact decD_steps h h' h''
  have HZ4 : Hid ((rdTxt b).2.2 = 0 → (rdNum (rdTxt b).2.1).2.2 = 0 → ∀ T s, rdSteps (rdNum (rdTxt b).2.1).1 (rdNum (rdTxt b).2.1).2.1 = some (T, s) → Z = if encD ((rdTxt b).1, T) = (b, true) then (((rdTxt b).1, T), true) else (zeroD, false)) := fun h h' T s h'' => by rw [hZ.out]; exact decD_end h h' h''
  clear hZ
  generalize rdTxt b = tr at HT ht1 ht2 HZ1 HZ2 HZ3 HZ4
  obtain ⟨nm, m0, c0⟩ := tr
  simp only at HT ht1 ht2 HZ1 HZ2 HZ3 HZ4
  go_wp2_with fail
  refine (HT.out _).mono ?_
  rintro e w1 ⟨rfl, hbl⟩
  have HD1 := Lib.hid (HD.out.quiet (Kept.of_below _ hbl))
  clear hbl HT HD
  by_cases hc0 : c0 = 0
  case neg =>
    have hne : ((c0 : Int) != 0) = true := by rw [bne_iff_ne]; omega
    have HZ := Lib.hid (HZ1.out hc0)
    have r0 := Holds.cell HD1.out.res 0 _ rfl
    have r1 := Holds.cell HD1.out.res 1 _ rfl
    have q0 := Holds.free HD1.out.res 0
    have q1 := Holds.free HD1.out.res 1
    have z0 := Holds.cell HD1.out.zer 0 _ rfl
    have z1 := Holds.cell HD1.out.zer 1 _ rfl
    clear HZ1 HZ2 HZ3 HZ4 hc0
    go_wp2
    exact dd_no HZ.out HD1.out rfl rfl
  subst hc0
  clear HZ1
  have HN := Lib.hid (fun W : World => rRead m0 W (by unfold maxLen; omega))
  have hn1 := rdNum_len m0
  have hn2 := rdNum_le m0
  have HZ2' : Hid ((rdNum m0).2.2 ≠ 0 → Z = (zeroD, false)) := HZ2.out rfl
  have HZ3' : Hid ((rdNum m0).2.2 = 0 → rdSteps (rdNum m0).1 (rdNum m0).2.1 = none → Z = (zeroD, false)) := HZ3.out rfl
  have HZ4' : Hid ((rdNum m0).2.2 = 0 → ∀ T s, rdSteps (rdNum m0).1 (rdNum m0).2.1 = some (T, s) → Z = if encD (nm, T) = (b, true) then ((nm, T), true) else (zeroD, false)) := HZ4.out rfl
  clear HZ2 HZ3 HZ4
  generalize rdNum m0 = tr at HN hn1 hn2 HZ2' HZ3' HZ4'
  obtain ⟨n, m1, c1⟩ := tr
  simp only at HN hn1 hn2 HZ2' HZ3' HZ4'
  have hn53 : (n : Int) ≤ 9007199254740991 := by unfold MaxN at hn2; omega
  clear hn2
  go_wp2_with fail
  refine (HN.out _).mono ?_
  rintro e w2 ⟨rfl, hbl⟩
  have HD2 := Lib.hid (HD1.out.quiet (Kept.of_below _ hbl))
  clear hbl HN HD1
  by_cases hc1 : c1 = 0
  case neg =>
    have hne : ((c1 : Int) != 0) = true := by rw [bne_iff_ne]; omega
    have HZ := Lib.hid (HZ2'.out hc1)
    have r0 := Holds.cell HD2.out.res 0 _ rfl
    have r1 := Holds.cell HD2.out.res 1 _ rfl
    have q0 := Holds.free HD2.out.res 0
    have q1 := Holds.free HD2.out.res 1
    have z0 := Holds.cell HD2.out.zer 0 _ rfl
    have z1 := Holds.cell HD2.out.zer 1 _ rfl
    clear HZ2' HZ3' HZ4' hc1
    go_wp2
    exact dd_no HZ.out HD2.out rfl rfl
  subst hc1
  have HZ3 : Hid (rdSteps n m1 = none → Z = (zeroD, false)) := HZ3'.out rfl
  have HZ4 : Hid (∀ T s, rdSteps n m1 = some (T, s) → Z = if encD (nm, T) = (b, true) then ((nm, T), true) else (zeroD, false)) := HZ4'.out rfl
  clear HZ2' HZ3' HZ4'
  obtain ⟨q, hq⟩ : ∃ q, Hid (q = w2.heap.size) := ⟨_, rfl⟩
  have hlen : m1.length ≤ 1048576 := by omega
  have HPn := Lib.hid (PL.new w2 nm)
  have hka := (Kept.refl (fun _ => False) w2).alloc (.cells #[.string ⟨nm.toArray⟩, .slice none 0 0] 24)
  have HDq := Lib.hid (HD2.out.quiet hka)
  have hrq : r < q ∧ dz < q ∧ w.heap.size ≤ q := ⟨by rw [hq.out]; exact HD2.out.res.lt, by rw [hq.out]; exact HD2.out.zer.lt, by rw [hq.out]; have := HD2.out.res.lt; omega⟩
  go_upto_region 9 with fail
  rw [← hq.out] at HPn ⊢
  clear HD2 hka hq
  generalize w2.alloc (.cells #[.string ⟨nm.toArray⟩, .slice none 0 0] 24) = wq at HPn HDq ⊢
  have HC0 : Hid ((PD w wq r dz ∧ PL wq q nm none 0 0 []) ∧ GoesS n m1 0 [] m1) := ⟨⟨HDq.out, HPn.out⟩, GoesS.start _ _⟩
  clear HPn HDq
  go_wp2
  go_loopw [9, 12] (fun x9 x12 wr => ∃ (k : Nat) (rest : DTxt) (a : Option Addr) (c : Nat) (T : List StV), k ≤ n ∧ x9 = .string ⟨rest.toArray⟩ ∧ x12 = .int .i64 (k : Int) ∧ Hid ((PD w wr r dz ∧ PL wr q nm a k c T) ∧ GoesS n m1 k T rest)) (fun _ i _ => n - (intOf i).toNat)
  case atStart => exact ⟨0, m1, none, 0, [], Nat.zero_le _, rfl, rfl, HC0⟩
  case round =>
    clear HC0
    rename World => w3
    obtain ⟨k, rest, a, c, T, hk, rfl, rfl, HC⟩ := hrel
    have k0 : (0 : Int) ≤ (k : Int) := by omega
    have hkl : k ≤ 1048577 ∧ rest.length ≤ 1048576 := by have := HC.out.2.2.2; omega
    have r0 := Holds.cell HC.out.1.1.res 0 _ rfl
    have r1 := Holds.cell HC.out.1.1.res 1 _ rfl
    have q0 := Holds.free HC.out.1.1.res 0
    have q1 := Holds.free HC.out.1.1.res 1
    by_cases hlt : k < n
    case neg =>
      obtain rfl : k = n := by omega
      have xN : ¬(k : Int) < (k : Int) := by omega
      have HV0 := Lib.hid (HZ4.out T rest (HC.out.2.done rfl))
      have CE := rEnc18 w3 a k c (nm, T) (HC.out.1.2.df (by omega) (by omega))
      obtain ⟨⟨s, ok⟩, hr5⟩ : ∃ r, r = encD (nm, T) := ⟨_, rfl⟩
      rw [← hr5] at CE HV0
      unfold defC at CE
      simp only at CE
      have CE := Lib.hid CE
      obtain ⟨c0, c1⟩ := (show _ ∧ _ from ⟨Holds.cell HC.out.1.2.box 0 _ rfl, Holds.cell HC.out.1.2.box 1 _ rfl⟩)
      clear hr5 HZ3 HZ4 r0 r1 q0 q1
      go_wp2_with fail
      refine CE.out.mono ?_
      rintro e w4 ⟨rfl, hkk⟩
      have HP := Lib.hid (And.intro (HC.out.1.1.quiet hkk) (HC.out.1.2.quiet hkk))
      clear hkk CE HC c0 c1
      have r0 := Holds.cell HP.out.1.res 0 _ rfl
      have r1 := Holds.cell HP.out.1.res 1 _ rfl
      have q0 := Holds.free HP.out.1.res 0
      have q1 := Holds.free HP.out.1.res 1
      have z0 := Holds.cell HP.out.1.zer 0 _ rfl
      have z1 := Holds.cell HP.out.1.zer 1 _ rfl
      cases ok with
      | false =>
        have HV : Hid (Z = (zeroD, false)) := by show _ = _; rw [HV0.out, if_neg (by simp)]
        clear HV0
        go_wp2
        exact dd_no HV.out HP.out.1 rfl rfl
      | true =>
        by_cases hab : s = b
        case neg =>
          have hq : (s == b) = false := by simpa using hab
          have HV : Hid (Z = (zeroD, false)) := by show _ = _; rw [HV0.out, if_neg (fun h => hab (Prod.mk.inj h).1)]
          clear HV0 hab
          go_wp2
          exact dd_no HV.out HP.out.1 rfl rfl
        have HV : Hid (Z = ((nm, T), true)) := by show _ = _; rw [HV0.out, if_pos (by rw [hab])]
        clear HV0
        subst hab
        have c0 := Holds.cell HP.out.2.box 0 _ rfl
        have c1 := Holds.cell HP.out.2.box 1 _ rfl
        go_wp2
        exact dd_yes HV.out HP.out.1 HP.out.2 (by omega) (by omega) (by omega) rfl rfl
    have xN : (k : Int) < (n : Int) := by omega
    have hwx : IntKind.i64.wrap ((k : Int) + 1) = (k : Int) + 1 := IntWalk.i64_in _ (by omega)
    have HN := Lib.hid (fun W : World => rRead rest W (by unfold maxLen; omega))
    have hl1 := rdNum_len rest
    have hf1 := rdNum_le rest
    have HG1 : Hid ((rdNum rest).2.2 ≠ 0 → rdSteps n m1 = none) := HC.out.2.no1 hlt
    have HG2 : Hid ((rdNum (rdNum rest).2.1).2.2 ≠ 0 → rdSteps n m1 = none) := HC.out.2.no2 hlt
    have HG3 : Hid ((rdNum rest).2.2 = 0 → (rdNum (rdNum rest).2.1).2.2 = 0 → GoesS n m1 (k + 1) (T ++ [(((rdNum rest).1 : Int), ((rdNum (rdNum rest).2.1).1 : Int))]) (rdNum (rdNum rest).2.1).2.1) := HC.out.2.step hlt
    have HM : Hid (PD w w3 r dz ∧ PL w3 q nm a k c T) := HC.out.1
    clear HC r0 r1 q0 q1
    generalize rdNum rest = tr at HN hl1 hf1 HG1 HG2 HG3
    obtain ⟨x, m2, e1⟩ := tr
    simp only at HN hl1 hf1 HG1 HG2 HG3
    go_wp2_with fail
    refine (HN.out _).mono ?_
    rintro e w4 ⟨rfl, hbl⟩
    have HM4 := Lib.hid (And.intro (HM.out.1.quiet (Kept.of_below _ hbl)) (HM.out.2.quiet (Kept.of_below _ hbl)))
    clear hbl HN HM
    by_cases he1 : e1 = 0
    case neg =>
      have hne : ((e1 : Int) != 0) = true := by rw [bne_iff_ne]; omega
      have HZ := Lib.hid (HZ3.out (HG1.out he1))
      have r0 := Holds.cell HM4.out.1.res 0 _ rfl
      have r1 := Holds.cell HM4.out.1.res 1 _ rfl
      have q0 := Holds.free HM4.out.1.res 0
      have q1 := Holds.free HM4.out.1.res 1
      have z0 := Holds.cell HM4.out.1.zer 0 _ rfl
      have z1 := Holds.cell HM4.out.1.zer 1 _ rfl
      clear HG1 HG2 HG3 HZ3 HZ4 he1
      go_wp2
      exact dd_no HZ.out HM4.out.1 rfl rfl
    subst he1
    clear HG1
    have HN := Lib.hid (fun W : World => rRead m2 W (by unfold maxLen; omega))
    have hl2 := rdNum_len m2
    have hf2 := rdNum_le m2
    have HG3' : Hid ((rdNum m2).2.2 = 0 → GoesS n m1 (k + 1) (T ++ [((x : Int), ((rdNum m2).1 : Int))]) (rdNum m2).2.1) := HG3.out rfl
    clear HG3
    generalize rdNum m2 = tr at HN hl2 hf2 HG2 HG3'
    obtain ⟨y, m3, e2⟩ := tr
    simp only at HN hl2 hf2 HG2 HG3'
    go_wp2_with fail
    refine (HN.out _).mono ?_
    rintro e w5 ⟨rfl, hbl⟩
    have HM5 := Lib.hid (And.intro (HM4.out.1.quiet (Kept.of_below _ hbl)) (HM4.out.2.quiet (Kept.of_below _ hbl)))
    clear hbl HN HM4
    by_cases he2 : e2 = 0
    case neg =>
      have hne : ((e2 : Int) != 0) = true := by rw [bne_iff_ne]; omega
      have HZ := Lib.hid (HZ3.out (HG2.out he2))
      have r0 := Holds.cell HM5.out.1.res 0 _ rfl
      have r1 := Holds.cell HM5.out.1.res 1 _ rfl
      have q0 := Holds.free HM5.out.1.res 0
      have q1 := Holds.free HM5.out.1.res 1
      have z0 := Holds.cell HM5.out.1.zer 0 _ rfl
      have z1 := Holds.cell HM5.out.1.zer 1 _ rfl
      clear HG2 HG3' HZ3 HZ4 he2
      go_wp2
      exact dd_no HZ.out HM5.out.1 rfl rfl
    subst he2
    have HG := Lib.hid (HG3'.out rfl)
    have HF : Hid (FitSt ((x : Int), (y : Int))) := by unfold MaxN at hf1 hf2; exact ⟨⟨by omega, by omega⟩, ⟨by omega, by omega⟩⟩
    clear HG2 HG3' hf1 hf2
    obtain ⟨a2, c2, W2, x1, x2, x3, x4⟩ := PL.add HM5.out.2 ((x : Int), (y : Int)) HF.out (by omega)
    simp only at x1
    have HY := Lib.hid x1
    have p0 := Holds.cell HM5.out.2.box 1 _ rfl
    have p1 := Holds.cell x2 1 _ rfl
    have f1 := Holds.free x2 1
    have HN : Hid ((PD w (W2.setCell ⟨q, 1, none⟩ (.slice a2 (k + 1) c2)) r dz ∧ PL (W2.setCell ⟨q, 1, none⟩ (.slice a2 (k + 1) c2)) q nm a2 (k + 1) c2 (T ++ [((x : Int), (y : Int))])) ∧ GoesS n m1 (k + 1) (T ++ [((x : Int), (y : Int))]) m3) :=
      ⟨⟨HM5.out.1.past x4 (by omega) (by omega) (by omega), x3⟩, HG.out⟩
    clear x1 x2 x3 x4 HM5 HG HF
    go_wp2_with (at_builtin; refine wpList_of_run rfl (some 70) rfl (exec_append (s := .tmp 65) (x := .tmp 69) HY.out (by rfl) (by rfl) (by rfl) (by rfl)) ?_)
    go_wp2
    go_roundw
    case rel => exact ⟨k + 1, m3, a2, c2, _, hlt, by first | rfl | go_num, by first | rfl | go_num, HN⟩
    case measure => simp [intOf]; omega

end Go.Proofs.Ytgjblcjoglaldaa
