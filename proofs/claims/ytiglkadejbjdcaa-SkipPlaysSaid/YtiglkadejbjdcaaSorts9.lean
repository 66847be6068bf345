/- The law SkipSorts, walked over the contract of the program's list. -/
import Derived.Test.YtiglkadejbjdcaaLi9
import Derived.StillTailTactics
import Derived.Sort.Walk0
import Derived.BigQuiet
import Derived.Deep.QuietTactic
import Derived.Deep.Cut
import Derived.Deep.CutRange
namespace Go.Proofs.Ytiglkadejbjdcaa
open Go.RowKit Go.Proofs Go.Proofs.Pk
set_option maxRecDepth 10000
attribute [local simp] mk_get wrap64_u8 mk_extract ByteArray.mk_append_mk get_1k

/-- What was put last with a key, and whether it was put at all. -/
def valP (qs : List PutW) (k : Txt) : Txt × Bool := qs.foldl (fun r p => if p.key = k then (p.value, true) else r) ([], false)
theorem valP_succ (qs : List PutW) (k : Txt) (j : Nat) (hj : j < qs.length) : valP (qs.take (j + 1)) k = if (qs[j]).key = k then ((qs[j]).value, true) else valP (qs.take j) k := by
  unfold valP
  rw [List.take_succ_eq_append_getElem hj, List.foldl_append]
  rfl
theorem PutsW.take {w : World} {ad : Option Addr} {len : Nat} {l : List PutW} (h : PutsW w ad len l) (n : Nat) (hn : n ≤ len) : PutsW w ad n (l.take n) := by
  refine ⟨by rw [List.length_take, h.1]; omega, ?_⟩
  rcases h.2 with h0 | ⟨b, off, h1, h2, h3⟩
  · exact .inl (by rw [h0]; simp)
  · refine .inr ⟨b, off, h1, h2, fun i hi => ?_⟩
    rw [List.length_take] at hi
    have := h3 i (by omega)
    simpa using this
/-- The lane below the one of that number. -/
def laneN (E : List Ent) (t : Nat) : List Txt := laneE E ((t : Int) - 1)
theorem laneN_succ (E : List Ent) (t : Nat) : laneN E (t + 1) = laneE E (t : Int) := by unfold laneN; congr 1; omega
theorem laneN_sub (E : List Ent) (t : Nat) : (laneE E (t : Int)).Sublist (laneN E t) := by
  have := laneE_sub E ((t : Int) - 1)
  rw [show (t : Int) - 1 + 1 = t from by omega] at this
  exact this
theorem drop_sub {T U : List Txt} {m q : Nat} (h : (T.drop m).Sublist (U.drop q)) (hm : m < T.length) : q < U.length := by
  rcases Nat.lt_or_ge q U.length with h1 | h1
  · exact h1
  · rw [List.drop_of_length_le h1] at h
    have := h.length_le
    simp at this; omega
theorem drop_step {T U : List Txt} {m q : Nat} (h : (T.drop m).Sublist (U.drop q)) : (T.drop (m + 1)).Sublist (U.drop q) := by
  rw [← List.drop_drop]
  exact (List.drop_sublist 1 _).trans h
theorem drop_skip {T U : List Txt} {m q : Nat} (h : (T.drop m).Sublist (U.drop q)) (hm : m < T.length) (hq : q < U.length) (hne : U[q] ≠ T[m]) : (T.drop m).Sublist (U.drop (q + 1)) := by
  rw [List.drop_eq_getElem_cons hm, List.drop_eq_getElem_cons hq] at h
  rw [List.drop_eq_getElem_cons hm]
  generalize T[m] = x at h hne ⊢
  generalize U[q] = y at h hne
  cases h with
  | cons _ h => exact h
  | cons_cons _ h => exact absurd rfl hne

set_option maxHeartbeats 8000000 in
theorem sorts9 {At : SkOf} (K : SkK At) (ad : Option Addr) (len cap : Nat) (ps : List PutW) (w : World) (h0 : PutsW w ad len ps) (hlc : len ≤ cap) :
    Calls Try.prog 4 #[.slice ad len cap] w fun e w' => e = .returned (.bool true) ∧ Below w.heap.size w w' := by
  have HE := Lib.hid (examples9 K w)
  obtain ⟨n, hn⟩ : ∃ n, n = min len 150 := ⟨_, rfl⟩
  obtain ⟨qs, hqs⟩ : ∃ qs, Hid (qs = ps.take n) := ⟨_, rfl⟩
  have HQ : Hid (PutsW w ad n qs) := by rw [hqs.out]; exact h0.take n (by omega)
  have HN0 : Hid (n = min len 150) := hn
  have HA := Lib.hid h0
  have hn150 : n ≤ 150 := by omega
  have hnc : (len : Int) ≤ (cap : Int) := by omega
  have hmi : (min (len : Int) 150) ≤ (cap : Int) := by omega
  have hmin : (min (len : Int) 150).toNat = n := by omega
  have HMin := Lib.hid hmin
  clear h0 hn hmin
  go_enter Try.func4, Try.ntmps4
  go_wp2_with fail
  refine HE.out.mono ?_
  clear HE
  rintro e w1 ⟨rfl, hb1⟩
  have HB1 := Lib.hid hb1
  have HN := Lib.hid (Li9.new K w1)
  clear hb1
  go_wp2_with fail
  refine HN.out.mono ?_
  clear HN
  rintro e w2 ⟨l, X2, rfl, h2, -⟩
  have HI : Hid (∃ E X, Li9 At w1 w2 l E X ∧ E.length ≤ 0 ∧ ∀ k, getE E k = valP (qs.take 0) k) := ⟨[], X2, h2, Nat.le_refl _, fun k => rfl⟩
  clear h2
  go_upto_region 5 with (fail)
  go_cut [0] from 21 (fun s0 wx => (∃ ad', s0 = .slice ad' n cap ∧ PutsW w ad' n qs) ∧ wx = w2)
  case first =>
    have HP : Hid (∀ a, (∃ b off, ad = some ⟨b, off, none⟩ ∧ a = ad) ∨ ps = [] → PutsW w a n qs) := fun a ha => by
      rcases ha with ⟨_, _, _, rfl⟩ | ha
      · exact HQ.out
      · have hn0 : n = 0 := by have := HN0.out; have := HA.out.1; rw [ha] at this; simp at this; omega
        have hq0 : qs = [] := by rw [hqs.out, ha]; simp
        rw [hn0, hq0]; exact ⟨rfl, .inl rfl⟩
    have HAd : Hid ((∃ b off, ad = some ⟨b, off, none⟩) ∨ ps = []) := by
      rcases HA.out.2 with h0 | ⟨b, off, h1, _⟩
      · exact .inr h0
      · exact .inl ⟨b, off, h1⟩
    rcases HAd.out with ⟨b, off, rfl⟩ | hps
    · have HP2 := Lib.hid (HP.out _ (.inl ⟨b, off, rfl, rfl⟩))
      by_cases hl : len ≤ 150
      · have hnl : Hid (n = len) := by show _ = _; have := HN0.out; omega
        have hl' : (len : Int) ≤ 150 := by omega
        clear hl HP HAd
        go_wp2
        all_goals
          go_meet
          case rel =>
            refine And.intro (Exists.intro ?zA (And.intro ?zE ?zP)) rfl
            case zE => first | (rw [HMin.out]; done) | (rw [hnl.out]; done)
            case zP => exact HP2.out
      · have hnl : Hid (n = 150) := by show _ = _; have := HN0.out; omega
        have hl' : ¬(len : Int) ≤ 150 := by omega
        have hl2 : 150 < (len : Int) := by omega
        clear hl HP HAd
        go_wp2
        all_goals
          go_meet
          case rel =>
            refine And.intro (Exists.intro ?xA (And.intro ?xE ?xP)) rfl
            case xE => first | (rw [HMin.out]; done) | (rw [hnl.out]; done)
            case xP => exact HP2.out
    · have HP2 := Lib.hid (fun a => HP.out a (.inr hps))
      have hl0 : len = 0 := by rw [← HA.out.1, hps]; rfl
      have hnl : Hid (n = 0) := by show _ = _; have := HN0.out; omega
      clear HP HAd hps HA HN0 HMin hmi hnc hlc
      subst hl0
      go_wp2
      all_goals
        go_meet
        case rel =>
          refine And.intro (Exists.intro ?yA (And.intro ?yE ?yP)) rfl
          case yE => first | (rw [show (min (0 : Int) 150).toNat = 0 from rfl, hnl.out]; done) | (rw [hnl.out]; done)
          case yP => exact HP2.out _
  case rest =>
  obtain ⟨⟨ad', rfl, hPW⟩, hwx⟩ := hcut
  subst hwx
  have HP := Lib.hid hPW
  have hqn : qs.length = n := hPW.1
  clear hPW HQ HA HN0 HMin hmi hnc hqs hlc
  go_wp2
  rename World => wq
  go_loopw [5] (fun i wr => ∃ j : Nat, j ≤ n ∧ i = .int .i64 (j : Int) ∧ Hid (∃ E X, Li9 At w1 wr l E X ∧ E.length ≤ j ∧ ∀ k, getE E k = valP (qs.take j) k)) (fun i _ => n - (intOf i).toNat)
  case atStart => exact ⟨0, by omega, rfl, HI⟩
  case round =>
    obtain ⟨j, hj, rfl, hI⟩ := hrel
    clear HI
    obtain ⟨E, X, hLi, hEl, hVa⟩ := hI.out
    by_cases hlt : j < n
    · obtain ⟨bp, op, rfl, hjl, hfu, hcs⟩ := putsW_all HP.out j hlt
      obtain ⟨d0, d1, d2⟩ := hcs wr (HB1.out.trans (hLi.below.mono HB1.out.size))
      have hvs := valP_succ qs
      obtain ⟨pk, hpk⟩ : ∃ pk, pk = (qs[j]).key := ⟨_, rfl⟩
      obtain ⟨pv, hpv⟩ : ∃ pv, pv = (qs[j]).value := ⟨_, rfl⟩
      obtain ⟨ph, hph⟩ : ∃ ph, ph = (qs[j]).h := ⟨_, rfl⟩
      rw [← hpk] at d0
      rw [← hpv] at d1
      rw [← hph] at d2 hfu
      have k1 : (j : Int) < (n : Int) := by omega
      have k0 : (0 : Int) ≤ (j : Int) := by omega
      have hwj : IntKind.i64.wrap ((j : Int) + 1) = (j : Int) + 1 := IntWalk.i64_in _ (by omega)
      have HPu := Lib.hid ((hLi.still K ((Kept.refl _ wr).drewN 1)).put K (by omega) pk pv ph hfu)
      have HK2 : Hid ((putE E pk pv ph).length ≤ j + 1 ∧ ∀ k, getE (putE E pk pv ph) k = valP (qs.take (j + 1)) k) := ⟨putE_len_le E pk pv ph hEl, fun k => by
        rw [(K.ok hLi.sk).get_put, hvs k j hjl, ← hpk, ← hpv, hVa k]
        by_cases e : k = pk
        · rw [if_pos e, if_pos e.symm]
        · rw [if_neg e, if_neg (fun h => e h.symm)]⟩
      clear hLi hI hEl hVa hvs hpk hpv hph hjl hfu hcs hlt
      go_wp2_with fail
      go_still_tail 16, (by kernel_rfl)
      change wpList _ _ _ _ _ wr.drew
      go_wp2_with fail
      refine HPu.out.mono ?_
      clear HPu
      rintro e w4 ⟨rfl, hk4, X4, h4, hg4⟩
      have HIE : Hid (∃ E X, Li9 At w1 w4 l E X ∧ E.length ≤ j + 1 ∧ ∀ k, getE E k = valP (qs.take (j + 1)) k) := ⟨_, X4, h4, HK2.out⟩
      clear h4 hk4 hg4
      go_wp2
      go_roundw
      case rel => exact ⟨j + 1, by omega, by first | rfl | go_num, HIE⟩
      case measure => simp [intOf]; omega
    · obtain rfl : j = n := by omega
      obtain ⟨T, hT⟩ : ∃ T, Hid (T = E.map (·.1)) := ⟨_, rfl⟩
      have hok := K.ok hLi.sk
      obtain ⟨N, hN⟩ : ∃ N, N = T.length := ⟨_, rfl⟩
      have hTn : E.length = N := by rw [hN, hT.out]; simp
      have hla := K.lane hLi.sk (by omega) 0 (by unfold FitH; omega)
      rw [hok.lane0 0 (Int.le_refl 0), ← hT.out, ← hN] at hla
      have HLa := Lib.hid hla
      have HV : Hid (∀ k, getE E k = valP qs k) := fun k => by rw [hVa k, List.take_of_length_le (by omega)]
      have HM : Hid (SkOk E ∧ E.length = N ∧ N ≤ 150 ∧ T.length = N) := ⟨hok, hTn, by omega, hN.symm⟩
      have HLi := Lib.hid hLi
      have HQn := Lib.hid hqn
      clear hlt hLi hI hEl hVa hok hTn hla hN hj hqn
      go_wp2_with fail
      refine HLa.out.mono ?_
      clear HLa
      rintro e w3 ⟨vl, rfl, ho3, hk3⟩
      obtain ⟨adl, capl, rfl, hst3⟩ := own_strsL ho3 (by have := HM.out.2.2.2; omega)
      have HSt := Lib.hid hst3
      have HL3 := Lib.hid (HLi.out.still K hk3)
      have HI3 : Hid (Kept (fun _ => False) w3 w3) := Kept.refl _ _
      clear ho3 hst3 hk3 HLi
      go_wp2
      rename World => wl
      go_loopw [7] (fun i wr => ∃ m : Nat, m ≤ N ∧ i = .int .i64 (m : Int) ∧ Hid (Kept (fun _ => False) wl wr)) (fun i _ => N - (intOf i).toNat)
      case atStart => exact ⟨0, Nat.zero_le _, rfl, HI3⟩
      case round =>
        obtain ⟨m, hm, rfl, hKm⟩ := hrel
        clear HI3
        by_cases hml : m < N
        · have hmE : m < E.length := by have := HM.out.2.1; omega
          obtain ⟨bl, ol, rfl, hmT, hcl⟩ := strs_at HSt.out m hml
          obtain ⟨kk, hkk⟩ : ∃ kk, kk = T[m] := ⟨_, rfl⟩
          have hTE : kk = (E[m]).1 := by rw [hkk]; simp [hT.out]
          have hge : getE E kk = ((E[m]).2.1, true) := by rw [hTE]; exact HM.out.1.get m hmE
          have hvq : valP qs kk = ((E[m]).2.1, true) := by rw [← HV.out]; exact hge
          have hpr : 0 < m → ∃ y : Txt, (∀ W, Kept (fun _ => False) wl W → W.cell? ⟨bl, ol + (m - 1), none⟩ = some (.string ⟨y.toArray⟩)) ∧ y < kk := fun h0 => by
            obtain ⟨b2, o2, e2, hm2, hc2⟩ := strs_at HSt.out (m - 1) (by omega)
            cases e2
            refine ⟨_, hc2, ?_⟩
            have h3 := HM.out.1.lt (i := m - 1) (j := m) (by omega) hmE
            rw [hTE]
            have h4 : T[m - 1] = (E[m - 1]'(by omega)).1 := by simp [hT.out]
            rw [h4]; exact h3
          obtain ⟨vv, hvv⟩ : ∃ vv, vv = (E[m]).2.1 := ⟨_, rfl⟩
          rw [← hvv] at hge hvq
          rw [← hkk] at hcl
          have HPr := Lib.hid hpr
          have HCl := Lib.hid hcl
          have HVq := Lib.hid hvq
          have HGe := Lib.hid hge
          have HIm := Lib.hid hKm.out
          have hm1 : (m : Int) < (N : Int) := by omega
          have k0 : (0 : Int) ≤ (m : Int) := by omega
          have hwm : IntKind.i64.wrap ((m : Int) + 1) = (m : Int) + 1 := IntWalk.i64_in _ (by have := HM.out.2.2.1; omega)
          clear hpr hcl hvq hge hkk hvv hTE hmT hmE hKm
          go_wp2
          rename World => wm
          go_loopw [10, 8, 9] (fun i v t wr => ∃ k : Nat, k ≤ j ∧ i = .int .i64 (k : Int) ∧ v = .string ⟨(valP (qs.take k) kk).1.toArray⟩ ∧ t = .bool (valP (qs.take k) kk).2 ∧ Hid (Kept (fun _ => False) wl wr)) (fun i _ _ _ => j - (intOf i).toNat)
          case atStart => exact ⟨0, Nat.zero_le _, rfl, by first | rfl | simp [valP], by first | rfl | simp [valP], HIm⟩
          case round =>
            obtain ⟨k, hk, rfl, rfl, rfl, hKk⟩ := hrel
            clear HIm
            have cl := HCl.out wr hKk.out
            by_cases hkj : k < j
            · obtain ⟨bp, op, rfl, hkl, -, hcs⟩ := putsW_all HP.out k hkj
              obtain ⟨d0, d1, -⟩ := hcs wr (HB1.out.trans ((HL3.out.still K hKk.out).below.mono HB1.out.size))
              have hv1 := valP_succ qs kk k hkl
              obtain ⟨pk, hpk⟩ : ∃ pk, pk = (qs[k]).key := ⟨_, rfl⟩
              obtain ⟨pv, hpv⟩ : ∃ pv, pv = (qs[k]).value := ⟨_, rfl⟩
              rw [← hpk] at d0 hv1
              rw [← hpv] at d1 hv1
              generalize valP (qs.take k) kk = r0 at hv1 ⊢
              have k1 : (k : Int) < (j : Int) := by omega
              have k00 : (0 : Int) ≤ (k : Int) := by omega
              have hwk : IntKind.i64.wrap ((k : Int) + 1) = (k : Int) + 1 := IntWalk.i64_in _ (by omega)
              have HKd : Hid (∀ q, Kept (fun _ => False) wl (wr.drewN q)) := fun q => hKk.out.drewN q
              clear hcs hpk hpv hkl hkj hKk
              by_cases hpe : pk = kk
              · rw [if_pos hpe] at hv1
                have HV1 := Lib.hid hv1
                clear hv1
                rw [hpe] at d0
                clear hpe
                go_wp2
                go_quiet (fail)
                go_wp2
                go_roundw
                case rel => exact ⟨k + 1, by omega, by first | rfl | go_num, by rw [HV1.out], by rw [HV1.out], HKd.out _⟩
                case measure => simp [intOf]; omega
              · rw [if_neg hpe] at hv1
                have HV1 := Lib.hid hv1
                have hne : (pk == kk) = false := by simpa using hpe
                clear hv1 hpe
                go_wp2
                go_quiet (fail)
                go_wp2
                go_roundw
                case rel => exact ⟨k + 1, by omega, by first | rfl | go_num, by rw [HV1.out], by rw [HV1.out], HKd.out _⟩
                case measure => simp [intOf]; omega
            · obtain rfl : k = j := by omega
              have hvk : valP (qs.take k) kk = (vv, true) := by rw [List.take_of_length_le (by have := HQn.out; omega)]; exact HVq.out
              rw [hvk]
              have hgt := K.get (HL3.out.still K hKk.out).sk (by have := HM.out.2.1; have := HM.out.2.2.1; omega) kk
              rw [HGe.out] at hgt
              have HGt := Lib.hid hgt
              clear hvk hgt hk hkj
              go_wp2_with fail
              refine HGt.out.mono ?_
              clear HGt
              rintro e x1 ⟨rfl, hx1⟩
              have HK1 := Lib.hid (hKk.out.trans hx1 (fun _ hf => hf.elim))
              have HKd : Hid (∀ q, Kept (fun _ => False) wl (x1.drewN q)) := fun q => HK1.out.drewN q
              clear cl
              have cl1 := HCl.out x1 HK1.out
              by_cases hm0 : 0 < m
              · obtain ⟨y, hcy, hyk⟩ := HPr.out hm0
                have cy := hcy x1 HK1.out
                have hm0' : (0 : Int) < (m : Int) := by omega
                have hwm1 : IntKind.i64.wrap ((m : Int) - 1) = ((m - 1 : Nat) : Int) := by have := HM.out.2.2.1; rw [IntWalk.i64_in _ (by omega)]; omega
                have hm11 : ((m - 1 : Nat) : Int) < (N : Int) := by omega
                have hl1 : Op.bytesLess kk y = false := by
                  rw [bytesLess_eq]
                  exact decide_eq_false (fun h => List.lt_irrefl _ (List.lt_trans h hyk))
                have hl2 : (kk == y) = false := by
                  rw [beq_eq_false_iff_ne]
                  rintro rfl
                  exact List.lt_irrefl _ hyk
                have hmd : decide ((0 : Int) < (m : Int)) = true := by simpa using hm0
                clear hcy hyk hx1
                generalize m - 1 = mp at cy hwm1 hm11
                go_wp2
                go_quiet (fail)
                go_wp2
                go_roundw
                case rel => exact ⟨m + 1, by omega, by first | rfl | go_num, HKd.out _⟩
                case measure => simp [intOf]; omega
              · have hm0' : ¬(0 : Int) < (m : Int) := by omega
                have hmd : decide ((0 : Int) < (m : Int)) = false := by simpa using hm0
                clear hx1
                go_wp2
                go_quiet (fail)
                go_wp2
                go_roundw
                case rel => exact ⟨m + 1, by omega, by first | rfl | go_num, HKd.out _⟩
                case measure => simp [intOf]; omega
        · obtain rfl : m = N := by omega
          have hln := K.len (HL3.out.still K hKm.out).sk (by have := HM.out.2.1; have := HM.out.2.2.1; omega)
          rw [HM.out.2.1] at hln
          have HLn := Lib.hid hln
          have HKm := Lib.hid hKm.out
          clear hln hKm hm hml
          go_wp2_with fail
          refine HLn.out.mono ?_
          clear HLn
          rintro e x1 ⟨rfl, hx1⟩
          have hk1 := HKm.out.trans hx1 (fun _ hf => hf.elim)
          have HI4 : Hid (Strs x1 adl m (laneN E 1) ∧ Kept (fun _ => False) wl x1) := by
            refine ⟨?_, hk1⟩
            rw [laneN_succ E 0, show laneE E ((0 : Nat) : Int) = E.map (·.1) from HM.out.1.lane0 _ (Int.le_refl _), ← hT.out]
            exact HSt.out.below (hk1.below (Nat.le_refl _) (fun _ hf => hf.elim))
          clear hx1 hk1 HKm
          go_wp2
          rename World => wz
          go_loopw [13, 6] (fun h b wr => ∃ (t nb : Nat) (adb : Option Addr) (capb : Nat), 1 ≤ t ∧ t ≤ 12 ∧ h = .int .i64 (t : Int) ∧ b = .slice adb nb capb ∧ Hid (Strs wr adb nb (laneN E t) ∧ Kept (fun _ => False) wl wr)) (fun h _ _ => 12 - (intOf h).toNat)
          case atStart => exact ⟨1, m, adl, capl, by omega, by omega, rfl, rfl, HI4⟩
          case round =>
            obtain ⟨t, nb, adb, capb, ht1, ht12, rfl, rfl, hSK⟩ := hrel
            clear HI4
            have hlan := K.lane (HL3.out.still K hSK.out.2).sk (by have := HM.out.2.1; have := HM.out.2.2.1; omega) (t : Int) (by unfold FitH; omega)
            by_cases ht : t < 12
            · obtain ⟨T2, hT2⟩ : ∃ T2, Hid (T2 = laneE E (t : Int)) := ⟨_, rfl⟩
              obtain ⟨TB, hTB⟩ : ∃ TB, Hid (TB = laneN E t) := ⟨_, rfl⟩
              obtain ⟨n2, hn2⟩ : ∃ n2, n2 = T2.length := ⟨_, rfl⟩
              rw [← hT2.out, ← hn2] at hlan
              have HLan := Lib.hid hlan
              have HSub : Hid (T2.Sublist TB ∧ TB.length = nb ∧ T2.length = n2 ∧ T2 = laneN E (t + 1)) := by
                refine ⟨?_, ?_, hn2.symm, ?_⟩
                · rw [hT2.out, hTB.out]; exact laneN_sub E t
                · rw [hTB.out]; exact hSK.out.1.1
                · rw [laneN_succ]; exact hT2.out
              have HHt : Hid (∀ i (h : i < T2.length), (t : Int) < (heightE E T2[i] : Int)) := fun i h => by
                have := HM.out.1.lane_height (t : Int) T2[i] (by rw [← hT2.out]; exact List.getElem_mem h)
                exact this
              have HSB : Hid (Strs wr adb nb TB ∧ Kept (fun _ => False) wl wr) := by rw [hTB.out]; exact hSK.out
              have HN2 : Hid ((n2 : Int) ≤ 150 ∧ (nb : Int) ≤ 150) := by
                have h1 : T2.length ≤ E.length := by rw [hT2.out]; unfold laneE; rw [List.length_map]; exact List.length_filter_le _ _
                have h2 : TB.length ≤ E.length := by rw [hTB.out]; unfold laneN laneE; rw [List.length_map]; exact List.length_filter_le _ _
                have h3 := HSub.out.2.1
                have h4 := HM.out
                exact ⟨by omega, by omega⟩
              have t1 : (t : Int) < 12 := by omega
              have hwt : IntKind.i64.wrap ((t : Int) + 1) = (t : Int) + 1 := IntWalk.i64_in _ (by omega)
              clear hlan hSK hT2 hTB hn2
              go_wp2_with fail
              refine HLan.out.mono ?_
              clear HLan
              rintro e w4 ⟨v4, rfl, ho4, hk4⟩
              obtain ⟨ad2, cap2, rfl, hst4⟩ := own_strsL ho4 (by have := HSub.out.2.2.1; omega)
              have HB4 : Hid (Strs w4 adb nb TB) := HSB.out.1.below (hk4.below (Nat.le_refl _) (fun _ hf => hf.elim))
              have HS4 := Lib.hid hst4
              have HK4 := Lib.hid (HSB.out.2.trans hk4 (fun _ hf => hf.elim))
              have HI5 : Hid ((T2.drop 0).Sublist (TB.drop 0) ∧ Kept (fun _ => False) w4 w4) := ⟨HSub.out.1, Kept.refl _ _⟩
              clear ho4 hst4 hk4 HSB
              go_wp2
              rename World => wy
              go_loopw [16, 15] (fun i a wr => ∃ (p q : Nat), p ≤ n2 ∧ q ≤ nb ∧ i = .int .i64 (p : Int) ∧ a = .int .i64 (q : Int) ∧ Hid ((T2.drop p).Sublist (TB.drop q) ∧ Kept (fun _ => False) wy wr)) (fun i _ _ => n2 - (intOf i).toNat)
              case atStart => exact ⟨0, 0, Nat.zero_le _, Nat.zero_le _, rfl, rfl, HI5⟩
              case round =>
                obtain ⟨p, q0, hp, hq0, rfl, rfl, hI5⟩ := hrel
                clear HI5
                by_cases hpn : p < n2
                · obtain ⟨b2, o2, rfl, hp2, hc2⟩ := strs_at HS4.out p hpn
                  obtain ⟨xx, hxx⟩ : ∃ xx, xx = T2[p] := ⟨_, rfl⟩
                  have hht := HHt.out p hp2
                  rw [← hxx] at hc2 hht
                  have hH : ∀ W, Kept (fun _ => False) wy W → Calls Try.prog 15 #[.pointer (some ⟨l, 0, none⟩), .string ⟨xx.toArray⟩] W fun e w' => e = .returned (.int .i64 (heightE E xx : Int)) ∧ Kept (fun _ => False) W w' := fun W hk =>
                    K.height (HL3.out.still K (HK4.out.trans hk (fun _ hf => hf.elim))).sk (by have := HM.out.2.1; have := HM.out.2.2.1; omega) xx
                  have HH := Lib.hid hH
                  have HC2 := Lib.hid hc2
                  have HXX := Lib.hid (Exists.intro (p := fun h : p < T2.length => xx = T2[p]) hp2 hxx)
                  have HIq := Lib.hid hI5.out
                  generalize heightE E xx = hg at hht HH
                  have p1 : (p : Int) < (n2 : Int) := by omega
                  have p0 : (0 : Int) ≤ (p : Int) := by omega
                  have hwp : IntKind.i64.wrap ((p : Int) + 1) = (p : Int) + 1 := IntWalk.i64_in _ (by have := HN2.out; omega)
                  clear hc2 hH hxx hp2 hI5 hpn
                  go_wp2
                  rename World => wv
                  go_loopw [15] (fun a wr => ∃ q : Nat, q ≤ nb ∧ a = .int .i64 (q : Int) ∧ Hid ((T2.drop p).Sublist (TB.drop q) ∧ Kept (fun _ => False) wy wr)) (fun a _ => nb - (intOf a).toNat)
                  case atStart => exact ⟨q0, hq0, rfl, HIq⟩
                  case round =>
                    obtain ⟨q, hq, rfl, hIq⟩ := hrel
                    clear HIq hq0
                    obtain ⟨hpT, hxx⟩ := HXX.out
                    have hqB : q < TB.length := drop_sub hIq.out.1 hpT
                    have hqn : q < nb := by have := HSub.out.2.1; omega
                    obtain ⟨bb, ob, rfl, hqB2, hcb⟩ := strs_at HB4.out q hqn
                    obtain ⟨yy, hyy⟩ : ∃ yy, yy = TB[q] := ⟨_, rfl⟩
                    rw [← hyy] at hcb
                    have cb := hcb wr hIq.out.2
                    have c2 := HC2.out wr hIq.out.2
                    have q1 : (q : Int) < (nb : Int) := by omega
                    have q0' : (0 : Int) ≤ (q : Int) := by omega
                    have hwq : IntKind.i64.wrap ((q : Int) + 1) = (q : Int) + 1 := IntWalk.i64_in _ (by have := HN2.out; omega)
                    have HKd : Hid (∀ z, Kept (fun _ => False) wy (wr.drewN z)) := fun z => hIq.out.2.drewN z
                    by_cases hyx : yy = xx
                    · have HSt2 : Hid ((T2.drop (p + 1)).Sublist (TB.drop q)) := drop_step hIq.out.1
                      have hyb : (yy == xx) = true := by simpa using hyx
                      have hqe : ((q : Int) == (nb : Int)) = false := by rw [beq_eq_false_iff_ne]; omega
                      have hHd := Lib.hid (fun z => HH.out (wr.drewN z) (HKd.out z))
                      have hle : ¬(hg : Int) ≤ (t : Int) := by omega
                      clear hIq hqB hqB2 hpT hxx hyy hcb hyx hqn
                      go_wp2
                      go_quiet (fail)
                      go_wp2_with fail
                      refine (hHd.out _).mono ?_
                      clear hHd
                      rintro e x2 ⟨rfl, hx2⟩
                      have HIz : Hid ((T2.drop (p + 1)).Sublist (TB.drop q) ∧ Kept (fun _ => False) wy x2) := ⟨HSt2.out, (HKd.out _).trans hx2 (fun _ hf => hf.elim)⟩
                      clear hx2
                      go_wp2
                      go_roundw
                      case rel => exact ⟨p + 1, q, by omega, by omega, by first | rfl | go_num, rfl, HIz⟩
                      case measure => simp [intOf]; omega
                    · have HSt2 : Hid ((T2.drop p).Sublist (TB.drop (q + 1))) := drop_skip hIq.out.1 hpT hqB (by rw [← hyy, ← hxx]; exact hyx)
                      have hyb : (yy == xx) = false := by simpa using hyx
                      clear hIq hqB hqB2 hpT hxx hyy hcb hyx hqn
                      go_wp2
                      go_quiet (fail)
                      go_wp2
                      go_roundw
                      case rel => exact ⟨q + 1, by omega, by first | rfl | go_num, HSt2.out, HKd.out _⟩
                      case measure => simp [intOf]; omega
                · have HIE : Hid (Strs wr ad2 n2 (laneN E (t + 1)) ∧ Kept (fun _ => False) wl wr) := by
                    rw [← HSub.out.2.2.2]
                    exact ⟨HS4.out.below (hI5.out.2.below (Nat.le_refl _) (fun _ hf => hf.elim)), HK4.out.trans hI5.out.2 (fun _ hf => hf.elim)⟩
                  have p1 : ¬(p : Int) < (n2 : Int) := by omega
                  clear hI5 hpn
                  go_wp2
                  go_roundw
                  case rel => exact ⟨t + 1, n2, ad2, cap2, by omega, by omega, by first | rfl | go_num, rfl, HIE⟩
                  case measure => simp [intOf]; omega
            · obtain rfl : t = 12 := by omega
              rw [show laneE E ((12 : Nat) : Int) = [] from HM.out.1.lane12 _ (Int.le_refl _)] at hlan
              have HLan := Lib.hid hlan
              have HKz := Lib.hid hSK.out.2
              clear hlan hSK ht ht1 ht12
              go_wp2_with fail
              refine HLan.out.mono ?_
              clear HLan
              rintro e w4 ⟨v4, rfl, ho4, hk4⟩
              obtain ⟨ad2, cap2, rfl, -⟩ := own_strsL ho4 rfl
              have hbf := HB1.out.trans (((HL3.out.still K HKz.out).still K hk4).below.mono HB1.out.size)
              clear ho4 hk4
              go_wp2
              go_ret
              exact ⟨rfl, hbf⟩

end Go.Proofs.Ytiglkadejbjdcaa
