/- The law DefineBack (layer 18), walked over the contract of the program's definitions. -/
import Derived.Test.YtgjblcjoglaldaaBy18
namespace Go.Proofs.Ytgjblcjoglaldaa
open Go.RowKit Go.Proofs Go.Proofs.Pk
set_option maxRecDepth 10000
attribute [local simp] mk_get wrap64_u8 mk_extract ByteArray.mk_append_mk get_1k

theorem is33 (W : World) : Calls Try.prog 20 #[.iface 49 (.int .i64 3), .int .i64 3] W fun e w' => e = .returned (.bool true) ∧ W = w' := is_any 3 3 W
theorem body_len {d : DefV} (h : rightD d = true) : (bodyD d).length ≤ 200 := by
  obtain ⟨h1, h2, h3⟩ := right_ofD h
  have h4 := (name_ofD h1).2.2
  have hs : ∀ l : List StV, (l.flatMap stepB).length ≤ 16 * l.length := fun l => by
    induction l with
    | nil => simp
    | cons a r ih =>
      rw [List.flatMap_cons, List.length_append, List.length_cons]
      have e1 := numL_len_le a.1.toNat
      have e2 := numL_len_le a.2.toNat
      have : (stepB a).length ≤ 16 := by unfold stepB; rw [List.length_append]; omega
      omega
  have e := hs d.2
  have e1 := numL_len_le d.1.length
  have e2 := numL_len_le d.2.length
  unfold bodyD txtL
  simp only [List.length_append]
  omega

set_option maxHeartbeats 16000000 in
theorem back18 {N : Nat} (hN : 140737489000000 ≤ N) (K : DfK N) (ad : Option Addr) (len cap : Nat) (d : DefV) (b : DTxt) (cut : Int) (more : DTxt) (w : World) (hb : (b.length : Int) ≤ 140737488351232) (hm : (more.length : Int) ≤ 140737488351232) (hf : FitI cut) (h0 : DefW w ad len cap d) :
    Calls Try.prog 5 #[defC d.1 ad len cap, .string ⟨b.toArray⟩, .int .i64 cut, .string ⟨more.toArray⟩] w fun e w' => e = .returned (.bool true) ∧ Kept (fun _ => False) w w' := by
  have HB := Lib.hid (DBox.new (Kept.refl _ w) h0)
  obtain ⟨nm, hnm⟩ : ∃ nm, Hid (nm = d.1) := ⟨_, rfl⟩
  have HDB := Lib.hid (fun W : World => K.decode W b (by omega))
  obtain ⟨⟨a, ok⟩, hao⟩ : ∃ r, Hid (r = encD d) := ⟨_, rfl⟩
  obtain ⟨ev, hev⟩ : ∃ ev, Hid (ev = errV 49 (if ok = true then 0 else 1)) := ⟨_, rfl⟩
  unfold defC
  rw [← hnm.out] at HB ⊢
  clear h0
  go_enter Try.func5, Try.ntmps5
  go_upto_region 1 with fail
  obtain ⟨g, hg⟩ : ∃ g, g = w.heap.size := ⟨_, rfl⟩
  rw [← hg] at HB ⊢
  change Code.wp _ _ _ _ (w.alloc (.cells #[.string ⟨nm.toArray⟩, .slice ad len cap] 24))
  generalize w.alloc (.cells #[.string ⟨nm.toArray⟩, .slice ad len cap] 24) = wa at HB ⊢
  clear hg
  have HX := Lib.hid (examples18 K wa)
  go_wp2_with fail
  refine HX.out.mono ?_
  rintro e w1 ⟨rfl, hk⟩
  have HB1 := Lib.hid (HB.out.quiet hk)
  clear hk HX HB
  have C1 := K.encode w1 ad len cap d HB1.out.df
  unfold defC at C1
  rw [← hnm.out, ← hao.out] at C1
  simp only at C1
  rw [← hev.out] at C1
  have C1 := Lib.hid C1
  obtain ⟨d0, d1⟩ := HB1.out.cells
  rw [← hnm.out] at d0
  go_wp2_with fail
  refine C1.out.mono ?_
  rintro e w2 ⟨rfl, hk⟩
  have HB2 := Lib.hid (HB1.out.quiet hk)
  clear hk C1 HB1 d0 d1
  cases ok
  case' false =>
    obtain rfl : ev = .iface 49 (.int .i64 1) := hev.out
    have HBz : Hid (DBox w w2 g ad len cap d) := HB2.out
    clear HB2
    go_upto_region 12 with fail
  case' true =>
    obtain rfl : ev = .nilIface := hev.out
    obtain ⟨hrt, habb⟩ := encD_ok hao.out.symm
    have HRt := Lib.hid hrt
    have HAb := Lib.hid habb
    have hal : a.length ≤ 200 := by rw [habb]; exact body_len hrt
    have han : ¬a = [] := by rw [habb]; exact body_ne
    have hae : (a == []) = false := by simpa using han
    have hapos : 0 < a.length := List.length_pos_iff.2 han
    have C1 := K.decode w2 a (by omega)
    rw [decD_iff.2 hao.out.symm] at C1
    have C1 := Lib.hid C1
    have hdl := HB2.out.df.1.1
    clear hrt habb han hao
    go_wp2_with fail
    refine C1.out.mono ?_
    intro e w3 he
    obtain ⟨ad2, cap2, rfl, hown, hfs, hk⟩ := he.get
    rw [hdl] at hown ⊢
    have hyd := own_df (nm := d.1) hown hdl hfs (by have := (right_ofD HRt.out).2.1.2; omega) (by have := (name_ofD (right_ofD HRt.out).1).2.2; omega)
    have HB3 := Lib.hid (And.intro (HB2.out.quiet hk) hyd)
    clear he hown hfs hk hyd C1 HB2
    unfold defC
    rw [← hnm.out, if_pos rfl]
    go_upto_region 5 with fail
    have HB4 := Lib.hid (And.intro (HB3.out.1.quiet ((Kept.refl _ w3).alloc (.cells #[.string ⟨nm.toArray⟩, .slice ad2 len cap2] 24))) (And.intro (HB3.out.2.kept ((Kept.refl _ w3).alloc (.cells #[.string ⟨nm.toArray⟩, .slice ad2 len cap2] 24))) (Holds.new w3 [.string ⟨nm.toArray⟩, .slice ad2 len cap2] 24)))
    obtain ⟨xb, hxb⟩ : ∃ xb, xb = w3.heap.size := ⟨_, rfl⟩
    rw [← hxb] at HB4 ⊢
    change Code.wp _ _ _ _ (w3.alloc (.cells #[.string ⟨nm.toArray⟩, .slice ad2 len cap2] 24))
    have HB4' : Hid (DBox w (w3.alloc (.cells #[.string ⟨nm.toArray⟩, .slice ad2 len cap2] 24)) g ad len cap d ∧ DefW (w3.alloc (.cells #[.string ⟨nm.toArray⟩, .slice ad2 len cap2] 24)) ad2 len cap2 d ∧ Holds (w3.alloc (.cells #[.string ⟨nm.toArray⟩, .slice ad2 len cap2] 24)) xb [.string ⟨nm.toArray⟩, .slice ad2 len cap2] 24) := HB4.out
    clear HB4 hxb HB3
    generalize w3.alloc (.cells #[.string ⟨nm.toArray⟩, .slice ad2 len cap2] 24) = w4 at HB4' ⊢
    obtain ⟨d0, d1⟩ := HB4'.out.1.cells
    have x0 := Holds.cell HB4'.out.2.2 0 _ rfl
    have x1 := Holds.cell HB4'.out.2.2 1 _ rfl
    have HS := Lib.hid (defsSame w4 ad2 ad len cap2 len cap d HB4'.out.2.1 HB4'.out.1.df)
    unfold defC at HS
    rw [← hnm.out] at d0 HS
    go_wp2_with fail
    refine HS.out.mono ?_
    rintro e w5 ⟨rfl, hk⟩
    have HB5 := Lib.hid (HB4'.out.1.quiet hk)
    clear hk HS HB4' d0 d1 x0 x1
    go_upto_if 44 with fail
    go_cut [2] from 43 (fun x wx => ∃ c : Nat, (c : Int) ≤ 9223372036854775807 ∧ x = .int .i64 (c : Int) ∧ wx = w5)
    case first =>
      unfold FitI at hf
      by_cases hc : cut < 0
      · obtain ⟨c, rfl⟩ : ∃ c : Nat, cut = -((c : Int) + 1) := ⟨(-(cut + 1)).toNat, by omega⟩
        have e1 : IntKind.i64.wrap (-((c : Int) + 1) + 1) = -(c : Int) := by rw [IntWalk.i64_in _ (by omega)]; omega
        have e2 : IntKind.i64.wrap (-(-(c : Int))) = (c : Int) := by rw [IntWalk.i64_in _ (by omega)]; omega
        go_wp2
        go_meet
        case rel => exact ⟨c, by omega, by first | rfl | go_num, rfl⟩
      · obtain ⟨c, rfl⟩ : ∃ c : Nat, cut = (c : Int) := ⟨cut.toNat, by omega⟩
        go_wp2
        go_meet
        case rel => exact ⟨c, by omega, rfl, rfl⟩
    case' rest =>
    obtain ⟨c, hc, rfl, hwx⟩ := hcut
    rw [hwx]
    clear hwx wc
    obtain ⟨n, hn'⟩ : ∃ n, n = a.length := ⟨_, rfl⟩
    obtain ⟨m, hm'⟩ : ∃ m, m = c % n := ⟨_, rfl⟩
    have hmn : m < a.length := by rw [hm', hn']; exact Nat.mod_lt _ hapos
    have C1 := K.decode w5 (a.take m) (by rw [List.length_take]; omega)
    have hcut := decD_cut HRt.out (j := m) (by rw [← HAb.out]; exact hmn)
    rw [← HAb.out] at hcut
    rw [decD_no hcut] at C1
    have C1 := Lib.hid C1
    have CM := Lib.hid (fun W : World => K.decode W (a ++ more) (by rw [List.length_append]; omega))
    have hmm : Hid ((more == []) = true ∨ ((more == []) = false ∧ decD (a ++ more) = (zeroD, false))) := by
      by_cases hq : more = []
      · exact .inl (by simpa using hq)
      · exact .inr ⟨by simpa using hq, by rw [HAb.out]; exact decD_no (decD_more HRt.out hq)⟩
    have q2 : (c : Int).tmod (n : Int) = (m : Int) := by rw [Int.tmod_eq_emod_of_nonneg (by omega), hm']; rfl
    have hn0 : ¬(n : Int) = 0 := by omega
    have hn : (a.length : Int) = (n : Int) := by omega
    have hm1 : (0 : Int) ≤ (m : Int) := by omega
    have hm2 : (m : Int) ≤ (n : Int) := by omega
    have hov : ¬9223372036854775807 < a.length + more.length := by omega
    clear hcut hmn hm' hn' hapos hal
    go_wp2_with fail
    refine C1.out.mono ?_
    intro e w6 he
    obtain ⟨ad3, cap3, rfl, -, -, hk⟩ := he.get
    have HB6 := Lib.hid (HB5.out.quiet hk)
    clear he hk C1 HB5
    rw [if_neg (by simp)]
    unfold defC zeroD
    simp only [List.length_nil]
    have HB7 := Lib.hid (HB6.out.quiet ((Kept.refl _ w6).alloc (.cells #[.string ⟨#[]⟩, .slice ad3 0 cap3] 24)))
    go_upto_region 9 with fail
    change Code.wp _ _ _ _ (w6.alloc (.cells #[.string ⟨#[]⟩, .slice ad3 0 cap3] 24))
    generalize w6.alloc (.cells #[.string ⟨#[]⟩, .slice ad3 0 cap3] 24) = w7 at HB7 ⊢
    clear HB6
    generalize decD (a ++ more) = z at CM hmm
    obtain ⟨zd, fz⟩ := z
    obtain ⟨zn, zt⟩ := zd
    go_wp2_with fail
    refine (CM.out _).mono ?_
    intro e w8 he
    have hge := he.get
    obtain ⟨fv, hfv⟩ : ∃ fv : Value, Hid (fv = if fz = true then .nilIface else .iface 49 (.int .i64 3)) := ⟨_, rfl⟩
    rw [← hfv.out] at hge
    obtain ⟨ad4, cap4, rfl, -, -, hk⟩ := hge
    have HB8 := Lib.hid (HB7.out.quiet hk)
    clear he hk CM HB7
    unfold defC
    simp only
    have HB9 := Lib.hid (HB8.out.quiet ((Kept.refl _ w8).alloc (.cells #[.string ⟨zn.toArray⟩, .slice ad4 zt.length cap4] 24)))
    go_upto_region 10 with fail
    change Code.wp _ _ _ _ (w8.alloc (.cells #[.string ⟨zn.toArray⟩, .slice ad4 zt.length cap4] 24))
    generalize w8.alloc (.cells #[.string ⟨zn.toArray⟩, .slice ad4 zt.length cap4] 24) = w9 at HB9 ⊢
    clear HB8
    go_wp2_with fail
    refine (is33 _).mono ?_
    rintro e w10 ⟨rfl, rfl⟩
    have HBz : Hid (DBox w w9 g ad len cap d) := HB9.out
    clear HB9
    rcases hmm.out with hme | ⟨hme, hz⟩
    case' inl => go_upto_region 12 with fail
    case' inr =>
      obtain rfl : fz = false := (Prod.mk.inj hz).2
      obtain rfl : fv = .iface 49 (.int .i64 3) := hfv.out
      go_wp2_with fail
      refine (is33 _).mono ?_
      rintro e w10 ⟨rfl, rfl⟩
      go_upto_region 12 with fail
  all_goals
    go_wp2_with fail
    refine (HDB.out _).mono ?_
    intro e w20 he
    obtain ⟨⟨y, fine⟩, hz⟩ : ∃ r, Hid (r = decD b) := ⟨_, rfl⟩
    rw [← hz.out] at he
    have hge := he.get
    clear he HDB
    cases fine
    case' false =>
      obtain rfl : y = zeroD := by have h := decD_no (b := b) (by rw [← hz.out]); rw [← hz.out] at h; exact (Prod.mk.inj h).1
      obtain ⟨ad5, cap5, rfl, -, -, hk⟩ := hge
      have HY := Lib.hid ((HBz.out.quiet hk).quiet ((Kept.refl _ w20).alloc (.cells #[.string ⟨#[]⟩, .slice ad5 0 cap5] 24)))
      have hbx := Holds.new w20 [.string ⟨#[]⟩, .slice ad5 0 cap5] 24
      have f0 := Holds.cell hbx 0 _ rfl
      rw [if_neg (by simp)]
      unfold defC zeroD
      simp only [List.length_nil]
      go_upto_region 13 with fail
      obtain ⟨yb, hyb⟩ : ∃ yb, yb = w20.heap.size := ⟨_, rfl⟩
      change World.cell? (w20.alloc (.cells #[.string ⟨#[]⟩, .slice ad5 0 cap5] 24)) _ = _ at f0
      rw [← hyb] at f0 ⊢
      change Code.wp _ _ _ _ (w20.alloc (.cells #[.string ⟨#[]⟩, .slice ad5 0 cap5] 24))
      clear hbx hyb hk HBz
      generalize w20.alloc (.cells #[.string ⟨#[]⟩, .slice ad5 0 cap5] 24) = w21 at HY f0 ⊢
      go_wp2
      go_ret
      exact ⟨rfl, HY.out.kept⟩
    case' true =>
      have henc := decD_iff.1 hz.out.symm
      have hyr := (encD_ok henc).1
      obtain ⟨ad5, cap5, rfl, hown, hfs, hk⟩ := hge
      obtain ⟨yn, yt⟩ := y
      have hyd := own_df (nm := yn) hown rfl hfs (by have := (right_ofD hyr).2.1.2; simp only at this ⊢; omega) (by have := (name_ofD (right_ofD hyr).1).2.2; simp only at this ⊢; omega)
      have HY := Lib.hid (DBox.new (HBz.out.quiet hk).kept hyd)
      rw [if_pos rfl]
      unfold defC
      go_upto_region 13 with fail
      obtain ⟨yb, hyb⟩ : ∃ yb, yb = w20.heap.size := ⟨_, rfl⟩
      rw [← hyb] at HY ⊢
      change Code.wp _ _ _ _ (w20.alloc (.cells #[.string ⟨yn.toArray⟩, .slice ad5 yt.length cap5] 24))
      have HY' : Hid (DBox w (w20.alloc (.cells #[.string ⟨yn.toArray⟩, .slice ad5 yt.length cap5] 24)) yb ad5 yt.length cap5 (yn, yt)) := HY.out
      clear hyb hk HBz HY hown hfs hyd hz
      generalize w20.alloc (.cells #[.string ⟨yn.toArray⟩, .slice ad5 yt.length cap5] 24) = w21 at HY' ⊢
      obtain ⟨d0, d1⟩ := HY'.out.cells
      have C1 := K.encode w21 ad5 yt.length cap5 (yn, yt) HY'.out.df
      rw [henc] at C1
      have C1 := Lib.hid C1
      unfold defC at C1
      have HRy := Lib.hid hyr
      clear henc hyr
      go_wp2_with fail
      refine C1.out.mono ?_
      rintro e w22 ⟨rfl, hk⟩
      have HY2 := Lib.hid (HY'.out.quiet hk)
      clear hk C1 HY' d0 d1
      obtain ⟨d0, d1⟩ := HY2.out.cells
      have C1 := K.right w22 ad5 yt.length cap5 (yn, yt) HY2.out.df
      rw [HRy.out] at C1
      have C1 := Lib.hid C1
      unfold defC at C1
      simp only [if_true]
      rw [show errV 49 0 = .nilIface from rfl]
      go_wp2_with fail
      refine C1.out.mono ?_
      rintro e w23 ⟨rfl, hk⟩
      have HK := Lib.hid (HY2.out.quiet hk).kept
      clear hk C1 HY2 d0 d1
      go_wp2
      go_ret
      exact ⟨rfl, HK.out⟩

end Go.Proofs.Ytgjblcjoglaldaa
