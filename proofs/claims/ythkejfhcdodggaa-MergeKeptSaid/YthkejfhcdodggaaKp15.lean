/- The law MergeKept (layer 15), walked over the contracts of the program's merge and blocks. -/
import Derived.Test.YthkejfhcdodggaaAg15
import Derived.Test.YthkejfhcdodggaaJ08
namespace Go.Proofs.Ythkejfhcdodggaa
open Go.RowKit Go.Proofs Go.Proofs.Pk
set_option maxRecDepth 10000
attribute [local simp] mk_get wrap64_u8 mk_extract ByteArray.mk_append_mk get_1k

def AtP15 (at0 : Int) (p : Nat) : Prop := (at0 < 0 ∧ IntKind.i64.wrap (at0 + 1) = at0 + 1 ∧ IntKind.i64.wrap (-(at0 + 1)) = (p : Int)) ∨ (at0 = (p : Int) ∧ ¬(p : Int) < 0)
theorem at_p15 {at0 : Int} (hf : -9223372036854775808 ≤ at0 ∧ at0 ≤ 9223372036854775807) : ∃ p : Nat, AtP15 at0 p ∧ (p : Int) ≤ 9223372036854775807 := by
  by_cases h : at0 < 0
  · refine ⟨(-(at0 + 1)).toNat, .inl ⟨h, IntWalk.i64_in _ (by omega), ?_⟩, by omega⟩
    rw [IntWalk.i64_in _ (by omega)]; omega
  · exact ⟨at0.toNat, .inr ⟨by omega, by omega⟩, by omega⟩
/-- The number that is seen at: the greatest there is, or one of those kept. -/
def SqS (w : World) (kd : Option Addr) (kl p : Nat) (s : Int) : Prop :=
  (kl = 0 ∧ s = 9007199254740991 ∧ ∀ W, Kept (fun _ => False) w W → True) ∨
  ((0 : Int) < (kl : Int) ∧ (p : Int).tmod 2 = 0 ∧ s = 9007199254740991 ∧ ∀ W, Kept (fun _ => False) w W → True) ∨
  (∃ (g o h c : Nat), kd = some ⟨g, o, none⟩ ∧ (0 : Int) < (kl : Int) ∧ (p : Int).tmod 2 = 1 ∧ (p : Int).tdiv 2 = (h : Int) ∧ (h : Int).tmod (kl : Int) = (c : Int) ∧ (0 : Int) ≤ (c : Int) ∧ (c : Int) < (kl : Int) ∧ ¬(kl : Int) = 0 ∧ IntKind.i64.wrap (h : Int) = (h : Int) ∧ ∀ W, Kept (fun _ => False) w W → W.cell? ⟨g, o + c, none⟩ = some (.int .i64 s))
theorem sq_of {w : World} {kd : Option Addr} {kl : Nat} {ks : List Int} (h : Ints w kd kl ks) (p : Nat) (hp63 : (p : Int) ≤ 9223372036854775807) : ∃ s, SqS w kd kl p s ∧ (s ∈ ks ∨ s = 9007199254740991) := by
  have hl := h.1
  by_cases h0 : kl = 0
  · exact ⟨_, .inl ⟨h0, rfl, fun _ _ => trivial⟩, .inr rfl⟩
  · by_cases hp : p % 2 = 0
    · refine ⟨_, .inr (.inl ⟨by omega, ?_, rfl, fun _ _ => trivial⟩), .inr rfl⟩
      rw [Int.tmod_eq_emod_of_nonneg (by omega)]; omega
    · have hc : p / 2 % kl < kl := Nat.mod_lt _ (by omega)
      have hc2 : p / 2 % kl < ks.length := by omega
      rcases h.2 with h1 | ⟨g, o, h1, h2, h3⟩
      · rw [h1] at hl; simp at hl; omega
      · refine ⟨ks[p / 2 % kl], .inr (.inr ⟨g, o, p / 2, p / 2 % kl, h1, by omega, ?_, ?_, ?_, by omega, by omega, by omega, IntWalk.i64_in _ (by omega), fun W hk => ?_⟩), .inl (List.getElem_mem _)⟩
        · rw [Int.tmod_eq_emod_of_nonneg (by omega)]; omega
        · rw [Int.tdiv_eq_ediv_of_nonneg (by omega)]; omega
        · rw [Int.tmod_eq_emod_of_nonneg (by omega)]; rfl
        · exact (hk.cell (p := ⟨g, o + p / 2 % kl, none⟩) h2 (fun f => f)).trans (h3 _ hc2)
theorem kept_of {T : List MEnt} (h : sortB T = true) {ks : List Int} {s : Int} (hs : s ∈ ks ∨ s = 9007199254740991) : Kept1 T ks s := by
  rcases hs with hs | rfl
  · exact .inl hs
  · refine .inr fun e he => ?_
    have := (sort_iff.1 h).2 e he
    unfold rightM at this
    simp only [decide_eq_true_eq] at this
    exact this.2.2.2.2.1
theorem seeR_ok {T : List MEnt} (h : sortB T = true) (s : Int) : seeR T s = (seeM T s, true) := by unfold seeR; rw [if_pos h]
theorem seeR_no {T : List MEnt} (h : ¬sortB T = true) (s : Int) : seeR T s = ([], false) := by unfold seeR; rw [if_neg h]
theorem see_len (T : List MEnt) (s : Int) : (seeM T s).length ≤ T.length := List.length_filter_le _ _

set_option maxHeartbeats 20000000 in
theorem kept_go (K : MgK) (J : BkJ) (ad kd : Option Addr) (len cap n cap2 kl kc p : Nat) (ks : List Int) (b : Bool) (which s : Int) (T : List MEnt) (w : World) (HE : ExH15 w) (hsl : CutS ad len cap n cap2 80) (hp : AtP15 which p) (hsq : SqS w kd kl p s) (hks : s ∈ ks ∨ s = 9007199254740991) (hfs : FitN s) (HI : Hid (InE w ad n T kd kl ks)) (hkd : Hid (kd = none → kl = 0 ∧ kc = 0)) :
    Calls Try.prog 6 #[.slice ad len cap, .slice kd kl kc, .bool b, .int .i64 which] w fun e w' => e = .returned (.bool true) ∧ Kept (fun _ => False) w w' := by
  have kn : (0 : Int) ≤ (n : Int) := Int.natCast_nonneg n
  have HQ := Lib.hid (And.intro hks hfs)
  have HP := Lib.hid hp
  have HS := Lib.hid hsq
  clear hks hfs hp hsq
  rcases hsl with ⟨b0, off, rfl, k1, k2, k3, rfl⟩ | ⟨rfl, rfl, rfl, rfl, rfl⟩
  all_goals
    go_enter Try.func6, Try.ntmps6
    go_wp2_with fail
    refine HE.out.mono ?_
    clear HE
    rintro e w1 ⟨rfl, hk1⟩
    have HK1 := Lib.hid hk1
    clear hk1
    go_wp2_with fail
    refine (HI.out.fold K _ kc b HK1.out (by omega) hkd.out).mono ?_
    by_cases hs : sortB T = true
    rotate_left
    · rw [foldR_no hs]
      intro e w2 h
      obtain ⟨ad2, c2, rfl, hk2⟩ := h.bad
      have HK2 := Lib.hid (HK1.out.trans hk2 (fun _ h => h.elim))
      have hO := fun cap => J.sorted w2 _ _ cap T (ents_keptK HI.out.1 HK2.out) (by have := HI.out.2.1; omega)
      rw [Bool.eq_false_iff.2 hs] at hO
      have HO := Lib.hid hO
      clear h hk2 HK1 HI hs HP HS HQ hO
      go_wp2_with fail
      refine (HO.out _).mono ?_
      clear HO
      rintro e w3 ⟨rfl, hk3⟩
      have HK3 := Lib.hid (HK2.out.trans hk3 (fun _ h => h.elim))
      clear hk3 HK2
      go_wp2
      go_ret
      exact ⟨rfl, HK3.out⟩
    rw [foldR_ok hs]
    intro e w2 h
    obtain ⟨ad2, c2, rfl, hA2, hk2, hc2⟩ := h.okC
    have HK2 := Lib.hid (HK1.out.trans hk2 (fun _ h => h.elim))
    have HT := Lib.hid hs
    have hl1 := fold_len T ks b
    have hn := HI.out.2.1
    have hT := HI.out.1.1
    obtain ⟨F, hF⟩ : ∃ F, F = foldM T ks b := ⟨_, rfl⟩
    have HF := Lib.hid hF
    rw [← hF] at hA2 hl1 hc2
    have HC2 := Lib.hid hc2
    rw [← hF]
    have HA2 := Lib.hid hA2
    have HJ := Lib.hid (show F.length ≤ T.length ∧ T.length ≤ 100 from ⟨hl1, by omega⟩)
    have hsee : Hid (seeM F s = seeM T s) := by rw [hF]; exact see_fold hs b (kept_of hs HQ.out.1)
    have hsf : Hid (sortB F = true) := by rw [hF]; exact fold_sort hs ks b
    have hmf := Int.ofNat_le.2 (show F.length ≤ _ from HI.out.1.1 ▸ hl1)
    try simp only [Int.natCast_zero] at hmf
    have h3 := fun cap hcp => K.see w2 _ _ cap T s (ents_keptK HI.out.1 HK2.out) (by have := HI.out.2.1; omega) hcp HQ.out.2
    rw [seeR_ok hs] at h3
    have hS1 := see_len T s
    obtain ⟨S, hS⟩ : ∃ S, S = seeM T s := ⟨_, rfl⟩
    rw [← hS] at h3 hS1 hsee
    have HSl := Lib.hid (show S.length ≤ 20000 from by omega)
    have H3 := Lib.hid h3
    clear h hk2 hA2 HK1 hs hF hl1 hT hn h3 hS hS1 hc2
    rcases HP.out with ⟨p1, p2, p3⟩ | ⟨rfl, p1⟩
    all_goals
      rcases HS.out with ⟨rfl, rfl, hC⟩ | ⟨m1, m2, rfl, hC⟩ | ⟨g, o, h, c, rfl, m1, m2, m3, m4, m5, m6, m7, m8, hC⟩
      all_goals
        have hcell := hC w2 HK2.out
        clear hC
        go_wp2_with fail
        refine (H3.out _ (by omega)).mono ?_
        clear H3
        intro e w3 h
        obtain ⟨ad3, c3, rfl, hA3, hk3⟩ := h.ok
        have HK3 := Lib.hid (HK2.out.trans hk3 (fun _ h => h.elim))
        have HA3 := Lib.hid hA3
        have HF3 := Lib.hid (ents_keptK HA2.out hk3)
        have h4 := K.see w3 ad2 F.length c2 F _ HF3.out (by have := HJ.out; omega) HC2.out HQ.out.2
        rw [seeR_ok hsf.out, hsee.out] at h4
        have H4 := Lib.hid h4
        clear h hk3 hA3 HK2 hcell HP HS h4
        go_wp2_with fail
        refine H4.out.mono ?_
        clear H4
        intro e w4 h
        obtain ⟨ad4, c4, rfl, hA4, hk4⟩ := h.ok
        have HK4 := Lib.hid (HK3.out.trans hk4 (fun _ h => h.elim))
        have HF4 := Lib.hid (ents_keptK HF3.out hk4)
        have H5 := Lib.hid (ents15 w4 ad3 ad4 S.length c3 S.length c4 S S (ents_keptK HA3.out hk4) hA4 HSl.out HSl.out)
        clear h hk4 HK3 hA4 HA3 HF3 hsee HSl HQ
        go_wp2_with fail
        refine H5.out.mono ?_
        clear H5
        rintro e w5 ⟨x, rfl, hx, hk5⟩
        obtain rfl : x = true := hx.2 rfl
        have HK5 := Lib.hid (HK4.out.trans hk5 (fun _ h => h.elim))
        have h6 := J.sorted w5 ad2 F.length c2 F (ents_keptK HF4.out hk5) (by have := HJ.out; omega)
        rw [hsf.out] at h6
        have H6 := Lib.hid h6
        clear hx hk5 HK4 HF4 h6 hsf
        go_wp2_with fail
        refine H6.out.mono ?_
        clear H6
        rintro e w6 ⟨rfl, hk6⟩
        have HK6 := Lib.hid (HK5.out.trans hk6 (fun _ h => h.elim))
        clear hk6 HK5 HJ HF HA2
        go_wp2
        go_ret
        first | exact ⟨rfl, HK6.out⟩ | exact ⟨ret_bool (decide_eq_true (by omega)), HK6.out⟩

theorem kept15 (K : MgK) (J : BkJ) (ad : Option Addr) (len cap : Nat) (l : List MEnt) (kd : Option Addr) (kl kc : Nat) (ks : List Int) (b : Bool) (which : Int) (w : World) (h0 : EntsW w ad len l) (hb : FlatE ad ∧ len ≤ cap ∧ (len : Int) * 48 ≤ 140737488351232 ∧ (ad = none → len = 0 ∧ cap = 0))
    (hi : Ints w kd kl ks) (hf : Fit64 ks) (hk : (kl : Int) * 8 ≤ 140737488351232) (hw : -9223372036854775808 ≤ which ∧ which ≤ 9223372036854775807) (hkd : kd = none → kl = 0 ∧ kc = 0) :
    Calls Try.prog 6 #[.slice ad len cap, .slice kd kl kc, .bool b, .int .i64 which] w fun e w' => e = .returned (.bool true) ∧ Kept (fun _ => False) w w' := by
  obtain ⟨n, cap2, hc, h1, _, h2⟩ := cut_in h0 hb 80
  obtain ⟨p, hp, hp63⟩ := at_p15 hw
  obtain ⟨s, hs, hks⟩ := sq_of hi p hp63
  have hfs : FitN s := by
    rcases hks with h | rfl
    · exact hf s h
    · unfold FitN; omega
  exact kept_go K J ad kd len cap n cap2 kl kc p ks b which s (l.take n) w (Lib.hid (examples15 K w)) hc hp hs hks hfs (Lib.hid ⟨h2, by omega, hi, hf, hk⟩) (Lib.hid hkd)

end Go.Proofs.Ythkejfhcdodggaa
