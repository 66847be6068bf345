/- The law SkipSeeks, walked over the contract of the program's list. -/
import Derived.Test.YtiglkadejbjdcaaLi9
import Derived.StillTailTactics
import Derived.BigQuiet
import Derived.Deep.Cut
import Derived.Deep.CutRange
namespace Go.Proofs.Ytiglkadejbjdcaa
open Go.RowKit Go.Proofs Go.Proofs.Pk
set_option maxRecDepth 10000
attribute [local simp] mk_get wrap64_u8 mk_extract ByteArray.mk_append_mk get_1k

set_option maxHeartbeats 4000000 in
theorem seeks9 {At : SkOf} (K : SkK At) (ad : Option Addr) (len cap : Nat) (ps : List PutW) (w : World) (h0 : PutsW w ad len ps) (hks : ∀ u ∈ ps, u.key.length ≤ 140737488351232) :
    Calls Try.prog 6 #[.slice ad len cap] w fun e w' => e = .returned (.bool true) ∧ Below w.heap.size w w' := by
  have HE := Lib.hid (examples9 K w)
  have HA := Lib.hid (And.intro h0 hks)
  clear h0 hks
  go_enter Try.func6, Try.ntmps6
  go_wp2_with fail
  refine HE.out.mono ?_
  clear HE
  rintro e w1 ⟨rfl, hb1⟩
  have HB1 := Lib.hid hb1
  have HN := Lib.hid (Li9.new K w1)
  clear hb1
  go_wp2_with fail
  refine HN.out.mono ?_
  clear HN
  rintro e w2 ⟨l, X2, rfl, h2, -⟩
  have HI : Hid (∃ E X, Li9 At w1 w2 l E X ∧ E.length ≤ 0 ∧ KeysIn E) := ⟨[], X2, h2, Nat.le_refl _, KeysIn.nil⟩
  clear h2
  go_wp2
  rename World => wq
  go_loopw [5] (fun i wr => ∃ j : Nat, j ≤ 100 ∧ i = .int .i64 (j : Int) ∧ Hid (∃ E X, Li9 At w1 wr l E X ∧ E.length ≤ j ∧ KeysIn E)) (fun i _ => 100 - (intOf i).toNat)
  case atStart => exact ⟨0, by omega, rfl, HI⟩
  case round =>
    obtain ⟨j, hj, rfl, hI⟩ := hrel
    clear HI
    obtain ⟨E, X, hLi, hEl, hKe⟩ := hI.out
    by_cases hlt : j < len ∧ j < 100
    · obtain ⟨g1, g2⟩ := hlt
      obtain ⟨bp, op, rfl, hbp, hjl, hfu, d0, d1, d2⟩ := putsW_at HA.out.1 (HB1.out.trans (hLi.below.mono HB1.out.size)) j g1
      have hku := HA.out.2 _ (List.getElem_mem hjl)
      obtain ⟨pk, hpk⟩ : ∃ pk, pk = (ps[j]).key := ⟨_, rfl⟩
      obtain ⟨pv, hpv⟩ : ∃ pv, pv = (ps[j]).value := ⟨_, rfl⟩
      obtain ⟨ph, hph⟩ : ∃ ph, ph = (ps[j]).h := ⟨_, rfl⟩
      rw [← hpk] at d0 hku
      rw [← hpv] at d1
      rw [← hph] at d2 hfu
      have k1 : (j : Int) < (len : Int) := by omega
      have k2 : (j : Int) < 100 := by omega
      have k0 : (0 : Int) ≤ (j : Int) := by omega
      have hwj : IntKind.i64.wrap ((j : Int) + 1) = (j : Int) + 1 := IntWalk.i64_in _ (by omega)
      have HPu := Lib.hid ((hLi.still K ((Kept.refl _ wr).drewN 1)).put K (by omega) pk pv ph hfu)
      have HK2 : Hid ((putE E pk pv ph).length ≤ j + 1 ∧ KeysIn (putE E pk pv ph)) := ⟨putE_len_le E pk pv ph hEl, hKe.put pv ph hku⟩
      clear hLi hI hEl hKe hku hpk hpv hph hbp hjl hfu g1 g2
      go_wp2_with fail
      go_still_tail 16, (by kernel_rfl)
      change wpList _ _ _ _ _ wr.drew
      go_wp2_with fail
      refine HPu.out.mono ?_
      clear HPu
      rintro e w4 ⟨rfl, hk4, X4, h4, hg4⟩
      have HIE : Hid (∃ E X, Li9 At w1 w4 l E X ∧ E.length ≤ j + 1 ∧ KeysIn E) := ⟨_, X4, h4, HK2.out⟩
      clear h4 hk4 hg4
      go_wp2
      go_roundw
      case rel => exact ⟨j + 1, by omega, by first | rfl | go_num, HIE⟩
      case measure => simp [intOf]; omega
    · have hexit : ¬(j : Int) < (len : Int) ∨ ((j : Int) < (len : Int) ∧ ¬(j : Int) < 100) := by omega
      obtain ⟨T, hT⟩ : ∃ T, Hid (T = E.map (·.1)) := ⟨_, rfl⟩
      have hok := K.ok hLi.sk
      have hTn : T.length = E.length := by rw [hT.out]; simp
      have hla := K.lane hLi.sk (by omega) 0 (by unfold FitH; omega)
      rw [hok.lane0 0 (Int.le_refl 0), ← hT.out] at hla
      obtain ⟨n, hn⟩ : ∃ n, n = T.length := ⟨_, rfl⟩
      rw [← hn] at hla
      have HLa := Lib.hid hla
      have HM : Hid (SkOk E ∧ KeysIn E ∧ E.length = n ∧ n ≤ 100 ∧ T.length = n) := ⟨hok, hKe, by omega, by omega, by omega⟩
      have HLi := Lib.hid hLi
      clear hlt hLi hI hEl hKe hok hTn hla hn hj
      go_upto_region 6 with (fail)
      go_cut [28] from 21 to 47 (fun s28 wx => s28 = .bool false ∧ wx = wr)
      case first =>
        clear HLa
        rcases hexit with e1 | ⟨e1, e2⟩
        all_goals
          go_wp2
          go_meet
          case rel => exact ⟨rfl, rfl⟩
      case rest =>
        obtain ⟨rfl, hwc⟩ := hcut
        rw [hwc]
        clear hwc hexit
        go_wp2_with fail
        refine HLa.out.mono ?_
        clear HLa
        rintro e w3 ⟨vl, rfl, ho3, hk3⟩
        obtain ⟨adl, capl, rfl, hst3⟩ := own_strsL ho3 (by have := HM.out.2.2.2.2; omega)
        have HSt := Lib.hid hst3
        have HL3 := Lib.hid (HLi.out.still K hk3)
        have HI3 : Hid (Kept (fun _ => False) w3 w3) := Kept.refl _ _
        clear ho3 hst3 hk3 HLi
        go_wp2
        rename World => wl
        go_loopw [8, 7] (fun i a wr => ∃ m : Nat, m ≤ n ∧ i = .int .i64 (m : Int) ∧ a = .string ⟨(curE E m).toArray⟩ ∧ Hid (Kept (fun _ => False) wl wr)) (fun i _ _ => n - (intOf i).toNat)
        case atStart => exact ⟨0, Nat.zero_le _, rfl, rfl, HI3⟩
        case round =>
          obtain ⟨m, hm, rfl, rfl, hKm⟩ := hrel
          clear HI3
          by_cases hml : m < n
          · have hmE : m < E.length := by have := HM.out.2.2.1; omega
            obtain ⟨bl, ol, rfl, hmT, hcl⟩ := strs_at HSt.out m hml
            have hse := K.seek (HL3.out.still K hKm.out).sk (by have := HM.out.2.2.1; have := HM.out.2.2.2.1; omega) (curE E m)
            rw [seek_cur HM.out.1 hmE] at hse
            obtain ⟨kk, hkk⟩ : ∃ kk, kk = (E[m]).1 := ⟨_, rfl⟩
            obtain ⟨vv, hvv⟩ : ∃ vv, vv = (E[m]).2.1 := ⟨_, rfl⟩
            have hge := HM.out.1.get m hmE
            have hTm : T[m] = kk := by rw [hkk]; simp [hT.out]
            have hkl : kk.length ≤ 140737488351232 := by rw [hkk]; exact HM.out.2.1 _ (List.getElem_mem hmE)
            have HCu : Hid (curE E (m + 1) = kk ++ [0]) := by show _ = _; rw [curE_succ hmE, hkk]
            rw [hTm] at hcl
            rw [← hkk, ← hvv] at hse hge
            have hgt : ∀ W, Kept (fun _ => False) wl W → Calls Try.prog 11 #[.pointer (some ⟨l, 0, none⟩), .string ⟨kk.toArray⟩] W fun e w' => e = .returned (.tuple #[.string ⟨vv.toArray⟩, .bool true]) ∧ Kept (fun _ => False) W w' := fun W hk => by
              have := K.get (HL3.out.still K hk).sk (by have := HM.out.2.2.1; have := HM.out.2.2.2.1; omega) kk
              rw [hge] at this
              exact this
            have HSe := Lib.hid hse
            have HGt := Lib.hid hgt
            have HCl := Lib.hid hcl
            have hm1 : (m : Int) < (n : Int) := by omega
            have k0 : (0 : Int) ≤ (m : Int) := by omega
            have hwm : IntKind.i64.wrap ((m : Int) + 1) = (m : Int) + 1 := IntWalk.i64_in _ (by have := HM.out.2.2.2.1; omega)
            have hlen1 : ¬9223372036854775807 < kk.length + 1 := by omega
            clear hse hgt hcl hge hkk hvv hTm hkl hmT hmE
            go_wp2_with fail
            refine HSe.out.mono ?_
            clear HSe
            rintro e x1 ⟨rfl, hx1⟩
            have HK1 := Lib.hid (hKm.out.trans hx1 (fun _ hf => hf.elim))
            have HG1 := Lib.hid (HGt.out x1 HK1.out)
            clear hx1 HGt
            go_wp2_with fail
            refine HG1.out.mono ?_
            clear HG1
            rintro e x2 ⟨rfl, hx2⟩
            have HK2 := Lib.hid (HK1.out.trans hx2 (fun _ hf => hf.elim))
            have c0 := HCl.out x2 HK2.out
            clear hx2 HCl
            go_wp2
            go_roundw
            case rel => exact ⟨m + 1, by omega, by first | rfl | go_num, by rw [HCu.out], HK2⟩
            case measure => simp [intOf]; omega
          · obtain rfl : m = n := by omega
            have hse := K.seek (HL3.out.still K hKm.out).sk (by have := HM.out.2.2.1; have := HM.out.2.2.2.1; omega) (curE E m)
            rw [show seekE E (curE E m) = ([], [], false) from by have := seek_end HM.out.1; rw [HM.out.2.2.1] at this; exact this] at hse
            have hln : ∀ W, Kept (fun _ => False) wl W → Calls Try.prog 20 #[.pointer (some ⟨l, 0, none⟩)] W fun e w' => e = .returned (.int .i64 (m : Int)) ∧ Kept (fun _ => False) W w' := fun W hk => by
              have := K.len (HL3.out.still K hk).sk (by have := HM.out.2.2.1; have := HM.out.2.2.2.1; omega)
              rw [HM.out.2.2.1] at this
              exact this
            have HSe := Lib.hid hse
            have HLn := Lib.hid hln
            clear hse hln hm hml
            generalize curE E m = cm at HSe ⊢
            go_wp2_with fail
            refine HSe.out.mono ?_
            clear HSe
            rintro e x1 ⟨rfl, hx1⟩
            have HK1 := Lib.hid (hKm.out.trans hx1 (fun _ hf => hf.elim))
            have HL1 := Lib.hid (HLn.out x1 HK1.out)
            clear hx1 HLn
            go_wp2_with fail
            refine HL1.out.mono ?_
            clear HL1
            rintro e x2 ⟨rfl, hx2⟩
            have hbf := HB1.out.trans (((HL3.out.still K HK1.out).still K hx2).below.mono HB1.out.size)
            clear hx2
            go_wp2
            go_ret
            exact ⟨rfl, hbf⟩

end Go.Proofs.Ytiglkadejbjdcaa
