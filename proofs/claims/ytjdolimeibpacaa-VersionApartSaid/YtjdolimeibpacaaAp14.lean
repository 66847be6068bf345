/- The law VersionApart. -/
import Derived.Test.YtjdolimeibpacaaBx14
import Derived.BigQuiet
import Derived.Sort.Walk0
namespace Go.Proofs.Ytjdolimeibpacaa
open Go.RowKit Go.Proofs Go.Proofs.Pk
set_option maxRecDepth 10000
attribute [local simp] mk_get wrap64_u8 mk_extract ByteArray.mk_append_mk get_1k

theorem leq_is (x y : VTxt) : (Op.bytesLess x y || x == y) = decide (¬y < x) := by
  rw [bytesLess_eq]
  by_cases h : x = y
  · subst h
    rw [decide_eq_false (List.lt_irrefl x), decide_eq_true (List.lt_irrefl x)]; simp
  · have h2 : (x == y) = false := by simpa using h
    rw [h2, Bool.or_false]
    by_cases k : x < y
    · rw [decide_eq_true k, decide_eq_true (vlt_asymm k)]
    · rw [decide_eq_false k, decide_eq_false (fun hn => hn (vlt_tri h k))]

set_option maxHeartbeats 4000000 in
theorem apart14 {N : Int} (K : VnK N) (ad : Option Addr) (len cap : Nat) (ad2 : Option Addr) (len2 cap2 : Nat) (v : VerV) (key : VTxt) (w : World) (h0 : VerW w ad len cap ad2 len2 cap2 v) :
    Calls Try.prog 7 #[verC ad len cap ad2 len2 cap2 v.2.2, .string ⟨key.toArray⟩] w fun e w' => e = .returned (.bool true) ∧ Kept (fun _ => False) w w' := by
  have hlen := h0.1.1
  have b1 : (len : Int) * 56 ≤ 140737488351232 := h0.2.1.2.2.1
  have HB := Lib.hid (VBox.new (Kept.refl _ w) h0)
  obtain ⟨s, hs⟩ : ∃ s, s = v.2.2 := ⟨_, rfl⟩
  obtain ⟨rv, hrv⟩ : ∃ rv, Hid (rv = rightV v) := ⟨_, rfl⟩
  have HS := Lib.hid hs
  clear h0
  unfold verC
  rw [← hs] at HB ⊢
  clear hs
  go_enter Try.func7, Try.ntmps7
  go_upto_region 1 with fail
  obtain ⟨g, hg⟩ : ∃ g, g = w.heap.size := ⟨_, rfl⟩
  rw [← hg] at HB ⊢
  generalize w.alloc (.cells #[.slice ad len cap, .slice ad2 len2 cap2, .int .i64 s] 25) = wa at HB ⊢
  clear hg
  have HX := Lib.hid (examples14 K wa)
  go_wp2_with fail
  refine HX.out.mono ?_
  rintro e w1 ⟨rfl, hk⟩
  have HB1 := Lib.hid (HB.out.quiet hk)
  clear hk HX HB
  obtain ⟨d0, d1, d2⟩ := HB1.out.cells
  have HR := Lib.hid (K.right w1 ad len cap ad2 len2 cap2 v HB1.out.ver)
  unfold verC at HR
  rw [← HS.out] at d2 HR
  rw [← hrv.out] at HR
  go_wp2_with fail
  refine HR.out.mono ?_
  rintro e w3 ⟨rfl, hk⟩
  have HI := Lib.hid (HB1.out.quiet hk)
  clear hk HR HB1 d0 d1 d2
  cases rv with
  | false =>
    go_wp2
    go_ret
    exact ⟨rfl, HI.out.kept⟩
  | true =>
    go_wp2
    obtain ⟨w3', hw3'⟩ : ∃ w3', w3' = w3 := ⟨_, rfl⟩
    rw [← hw3'] at HI ⊢
    clear hw3'
    go_loopw [6] (fun n wr => ∃ k : Nat, (1 ≤ k ∧ k ≤ 4) ∧ n = .int .i64 (k : Int) ∧ Hid (VBox w wr g ad len cap ad2 len2 cap2 v)) (fun n _ => 4 - (intOf n).toNat)
    case atStart => exact ⟨1, by omega, rfl, HI⟩
    case round =>
      obtain ⟨k, ⟨hk1, hk4⟩, rfl, hJ⟩ := hrel
      clear HI
      have k0 : (0 : Int) ≤ (k : Int) := by omega
      have hwk : IntKind.i64.wrap ((k : Int) + 1) = (k : Int) + 1 := IntWalk.i64_in _ (by omega)
      by_cases hlk : k < 4
      case neg =>
        obtain rfl : k = 4 := by omega
        have HK := Lib.hid hJ.out.kept
        clear hJ
        go_wp2
        go_ret
        exact ⟨rfl, HK.out⟩
      have kN : (k : Int) < 4 := by omega
      obtain ⟨d0, d1, d2⟩ := hJ.out.cells
      have HLv := Lib.hid (K.level _ ad len cap ad2 len2 cap2 v (k : Int) hJ.out.ver (by unfold FitV; omega))
      unfold verC at HLv
      rw [← HS.out] at d2 HLv
      obtain ⟨L, hL⟩ : ∃ L, L = levelV v (k : Int) := ⟨_, rfl⟩
      have hll : L.length ≤ v.1.length := by rw [hL]; exact List.length_filter_le _ _
      have hap : ∀ i j (hij : i < j) (hj : j < L.length), L[i].2.2.2.1 < L[j].2.2.1 := fun i j hij hj => by
        subst hL
        exact List.pairwise_iff_getElem.1 (level_apart hrv.out.symm (by omega)) i j (by omega) hj hij
      have HAP := Lib.hid hap
      rw [← hL] at HLv
      clear hL hap
      go_wp2_with fail
      refine HLv.out.mono ?_
      rintro e w5 ⟨ax, lx, cx, rfl, hmx, hk⟩
      have hlx := hmx.1
      have HL : Hid (VBox w w5 g ad len cap ad2 len2 cap2 v ∧ MetasW w5 ax lx L ∧ ((0 : Nat) = 0 ∨ (0 : Nat) = 1 ∧ ∃ p, ∃ hp : p < L.length, p < 0 ∧ ¬L[p].2.2.2.1 < key)) := ⟨hJ.out.quiet hk, hmx, .inl rfl⟩
      clear hk HLv hJ d0 d1 d2 hmx
      go_wp2
      obtain ⟨w6, hw6⟩ : ∃ w6, w6 = w5 := ⟨_, rfl⟩
      rw [← hw6] at HL ⊢
      clear hw6
      go_loopw [7, 9] (fun m i wr => ∃ c j : Nat, (c ≤ 1 ∧ j ≤ lx) ∧ m = .int .i64 (c : Int) ∧ i = .int .i64 (j : Int) ∧ Hid (VBox w wr g ad len cap ad2 len2 cap2 v ∧ MetasW wr ax lx L ∧ (c = 0 ∨ c = 1 ∧ ∃ p, ∃ hp : p < L.length, p < j ∧ ¬L[p].2.2.2.1 < key))) (fun _ i _ => lx - (intOf i).toNat)
      case atStart => exact ⟨0, 0, ⟨by omega, by omega⟩, rfl, rfl, HL.out.1, HL.out.2.1, .inl rfl⟩
      case round =>
        obtain ⟨c, j, ⟨hc1, hj⟩, rfl, rfl, hI⟩ := hrel
        clear HL
        have j0 : (0 : Int) ≤ (j : Int) := by omega
        have c0' : (0 : Int) ≤ (c : Int) := by omega
        have hwj : IntKind.i64.wrap ((j : Int) + 1) = (j : Int) + 1 := IntWalk.i64_in _ (by omega)
        by_cases hlt : j < lx
        case neg =>
          obtain rfl : j = lx := by omega
          have jN : ¬(j : Int) < (j : Int) := by omega
          have cN : ¬(1 : Int) < (c : Int) := by omega
          have HK := Lib.hid hI.out.1
          clear hI
          go_wp2
          go_roundw
          case rel => exact ⟨k + 1, by omega, by first | rfl | go_num, HK⟩
          case measure => simp [intOf]; omega
        have jN : (j : Int) < (lx : Int) := by omega
        have hjT : j < L.length := by omega
        obtain ⟨b, off, rfl, hb, e0, e1, e2, e3, e4, _⟩ := hI.out.2.1.at j hjT
        obtain ⟨x, hx⟩ : ∃ x : VTxt, Hid (x = L[j].2.2.1) := ⟨L[j].2.2.1, rfl⟩
        obtain ⟨y, hy⟩ : ∃ y : VTxt, Hid (y = L[j].2.2.2.1) := ⟨L[j].2.2.2.1, rfl⟩
        rw [← hx.out] at e2
        rw [← hy.out] at e3
        -- does the key lie in it?
        obtain ⟨c', hc', HN⟩ : ∃ c' : Nat, ((decide (¬key < x) && decide (¬y < key)) = true ∧ c' = c + 1 ∨ (decide (¬key < x) && decide (¬y < key)) = false ∧ c' = c) ∧
            Hid (c' ≤ 1 ∧ (c' = 0 ∨ c' = 1 ∧ ∃ p, ∃ hp : p < L.length, p < j + 1 ∧ ¬L[p].2.2.2.1 < key)) := by
          by_cases hin : ¬key < x ∧ ¬y < key
          · refine ⟨c + 1, .inl ⟨by simp [hin.1, hin.2], rfl⟩, ?_⟩
            rcases hI.out.2.2 with h | ⟨h, p, hp, hpj, hpk⟩
            · exact ⟨by omega, .inr ⟨by omega, j, hjT, by omega, by rw [← hy.out]; exact hin.2⟩⟩
            · exact absurd (vle_lt hpk (HAP.out p j hpj hjT)) (by rw [← hx.out]; exact hin.1)
          · refine ⟨c, .inr ⟨?_, rfl⟩, hc1, ?_⟩
            · rw [Bool.eq_false_iff]; intro h; simp only [Bool.and_eq_true, decide_eq_true_eq] at h; exact hin h
            · rcases hI.out.2.2 with h | ⟨h, p, hp, hpj, hpk⟩
              · exact .inl h
              · exact .inr ⟨h, p, hp, by omega, hpk⟩
        have HV := Lib.hid (fun n => And.intro (hI.out.1.quiet ((Kept.refl _ wr).drewN n)) (metas_kept hI.out.2.1 ((Kept.refl _ wr).drewN n)))
        obtain ⟨bx, hbx⟩ : ∃ bx, (Op.bytesLess x key || x == key) = bx := ⟨_, rfl⟩
        obtain ⟨by', hby⟩ : ∃ by', (Op.bytesLess key y || key == y) = by' := ⟨_, rfl⟩
        rw [← leq_is, ← leq_is, hbx, hby] at hc'
        have hwc : IntKind.i64.wrap ((c : Int) + 1) = (c : Int) + 1 := IntWalk.i64_in _ (by omega)
        clear e0 e1 e4
        by_cases hj0 : j = 0
        · have jz : ¬(0 : Int) < (j : Int) := by omega
          have jzd : decide (0 < j) = false := decide_eq_false (by omega)
          clear hj0
          cases bx with
          | false =>
            have hcc : c' = c := by rcases hc' with ⟨h1, h2⟩ | ⟨h1, h2⟩ <;> simp_all
            rw [hcc] at HN
            have HCC : Hid (c ≤ 1) := HN.out.1
            have HN2 := Lib.hid HN.out.2
            clear HN hc' hcc hI
            go_wp2_with fail
            go_quiet (fail)
            go_wp2
            go_roundw
            case rel => exact ⟨c, j + 1, ⟨HCC.out, by omega⟩, by first | rfl | go_num, by first | rfl | go_num, (HV.out _).1, (HV.out _).2, HN2.out⟩
            case measure => simp [intOf]; omega
          | true =>
            cases by' with
            | false =>
              have hcc : c' = c := by rcases hc' with ⟨h1, h2⟩ | ⟨h1, h2⟩ <;> simp_all
              rw [hcc] at HN
              have HCC : Hid (c ≤ 1) := HN.out.1
              have HN2 := Lib.hid HN.out.2
              clear HN hc' hcc hI
              go_wp2_with fail
              go_quiet (fail)
              go_wp2
              go_roundw
              case rel => exact ⟨c, j + 1, ⟨HCC.out, by omega⟩, by first | rfl | go_num, by first | rfl | go_num, (HV.out _).1, (HV.out _).2, HN2.out⟩
              case measure => simp [intOf]; omega
            | true =>
              have hcc : c' = (c + 1) := by rcases hc' with ⟨h1, h2⟩ | ⟨h1, h2⟩ <;> simp_all
              rw [hcc] at HN
              have HCC : Hid ((c + 1) ≤ 1) := HN.out.1
              have HN2 := Lib.hid HN.out.2
              clear HN hc' hcc hI
              go_wp2_with fail
              go_quiet (fail)
              go_wp2
              go_roundw
              case rel => exact ⟨(c + 1), j + 1, ⟨HCC.out, by omega⟩, by first | rfl | go_num, by first | rfl | go_num, (HV.out _).1, (HV.out _).2, HN2.out⟩
              case measure => simp [intOf]; omega
        · obtain ⟨i, hij⟩ : ∃ i, Hid (j = i + 1) := ⟨j - 1, by show _ = _; omega⟩
          have jz : (0 : Int) < (j : Int) := by omega
          have jzd : decide (0 < j) = true := decide_eq_true (by omega)
          clear hj0
          have hiT : i < L.length := by have := hij.out; omega
          have hwi : IntKind.i64.wrap ((j : Int) - 1) = (i : Int) := by rw [IntWalk.i64_in _ (by omega)]; have := hij.out; omega
          have i0 : (0 : Int) ≤ (i : Int) := by omega
          have iN : (i : Int) < (lx : Int) := by have := hij.out; omega
          obtain ⟨b', off', he, hb', f0, f1, f2, f3, f4, _⟩ := hI.out.2.1.at i hiT
          injection he with he
          injection he with z1 z2
          subst z1; subst z2
          have hlt2 := HAP.out i j (by have := hij.out; omega) hjT
          obtain ⟨z, hz⟩ : ∃ z : VTxt, z = L[i].2.2.2.1 := ⟨L[i].2.2.2.1, rfl⟩
          rw [← hz] at f3 hlt2
          rw [← hx.out] at hlt2
          have hzl : Op.bytesLess z x = true := by rw [bytesLess_eq]; exact decide_eq_true hlt2
          clear f0 f1 f2 f4 hz hlt2
          cases bx with
          | false =>
            have hcc : c' = c := by rcases hc' with ⟨h1, h2⟩ | ⟨h1, h2⟩ <;> simp_all
            rw [hcc] at HN
            have HCC : Hid (c ≤ 1) := HN.out.1
            have HN2 := Lib.hid HN.out.2
            clear HN hc' hcc hI
            go_wp2_with fail
            go_quiet (fail)
            go_wp2
            go_roundw
            case rel => exact ⟨c, j + 1, ⟨HCC.out, by omega⟩, by first | rfl | go_num, by first | rfl | go_num, (HV.out _).1, (HV.out _).2, HN2.out⟩
            case measure => simp [intOf]; omega
          | true =>
            cases by' with
            | false =>
              have hcc : c' = c := by rcases hc' with ⟨h1, h2⟩ | ⟨h1, h2⟩ <;> simp_all
              rw [hcc] at HN
              have HCC : Hid (c ≤ 1) := HN.out.1
              have HN2 := Lib.hid HN.out.2
              clear HN hc' hcc hI
              go_wp2_with fail
              go_quiet (fail)
              go_wp2
              go_roundw
              case rel => exact ⟨c, j + 1, ⟨HCC.out, by omega⟩, by first | rfl | go_num, by first | rfl | go_num, (HV.out _).1, (HV.out _).2, HN2.out⟩
              case measure => simp [intOf]; omega
            | true =>
              have hcc : c' = (c + 1) := by rcases hc' with ⟨h1, h2⟩ | ⟨h1, h2⟩ <;> simp_all
              rw [hcc] at HN
              have HCC : Hid ((c + 1) ≤ 1) := HN.out.1
              have HN2 := Lib.hid HN.out.2
              clear HN hc' hcc hI
              go_wp2_with fail
              go_quiet (fail)
              go_wp2
              go_roundw
              case rel => exact ⟨(c + 1), j + 1, ⟨HCC.out, by omega⟩, by first | rfl | go_num, by first | rfl | go_num, (HV.out _).1, (HV.out _).2, HN2.out⟩
              case measure => simp [intOf]; omega

end Go.Proofs.Ytjdolimeibpacaa
