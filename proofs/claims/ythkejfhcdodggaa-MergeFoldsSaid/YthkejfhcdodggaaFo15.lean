/- The law MergeFolds (layer 15), walked over the contract of the program's merge. -/
import Derived.Test.YthkejfhcdodggaaAg15
import Derived.Test.YthkejfhcdodggaaKp15
import Derived.Test.YthkejfhcdodggaaRf15
namespace Go.Proofs.Ythkejfhcdodggaa
open Go.RowKit Go.Proofs Go.Proofs.Pk
set_option maxRecDepth 10000
attribute [local simp] mk_get wrap64_u8 mk_extract ByteArray.mk_append_mk get_1k

theorem OutE.any {w w' : World} {l : List MEnt} {o : Bool} {e : Ending} (h : OutE w (l, o) e w') : ∃ (ad : Option Addr) (cap : Nat), e = .returned (.tuple #[.slice ad l.length cap, errV 50 (if o = true then 0 else 1)]) ∧ EntsW w' ad l.length l ∧ Kept (fun _ => False) w w' := by
  obtain ⟨ad, cap, h1, h2, h3, _⟩ := h
  exact ⟨ad, cap, h1, h2, h3⟩
theorem RefE.any {w w' : World} {l : List MEnt} {o : Bool} {e : Ending} (h : RefE w (l, o) e w') : ∃ (ad : Option Addr) (cap : Nat), e = .returned (.tuple #[.slice ad l.length cap, .bool o]) ∧ EntsW w' ad l.length l ∧ Kept (fun _ => False) w w' := h

set_option maxHeartbeats 8000000 in
theorem folds_go (K : MgK) (ad kd : Option Addr) (len cap n cap2 kl kc : Nat) (ks : List Int) (b : Bool) (s : Int) (T : List MEnt) (w : World) (HE : ExH15 w) (hsl : CutS ad len cap n cap2 100) (hfs : FitN s) (HI : Hid (InE w ad n T kd kl ks)) (hkd : Hid (kd = none → kl = 0 ∧ kc = 0)) :
    Calls Try.prog 4 #[.slice ad len cap, .slice kd kl kc, .bool b, .int .i64 s] w fun e w' => e = .returned (.bool true) ∧ Kept (fun _ => False) w w' := by
  have kn : (0 : Int) ≤ (n : Int) := Int.natCast_nonneg n
  have HQ := Lib.hid hfs
  clear hfs
  obtain ⟨F, o1, hF⟩ : ∃ F o1, Hid ((F, o1) = foldR T ks b) := ⟨_, _, rfl⟩
  obtain ⟨S, o2, hS⟩ : ∃ S o2, Hid ((S, o2) = seeR T s) := ⟨_, _, rfl⟩
  have hoo : o1 = sortB T ∧ o2 = sortB T := by
    have h1 := hF.out
    have h2 := hS.out
    unfold foldR at h1
    unfold seeR at h2
    constructor
    · by_cases h : sortB T = true
      · rw [if_pos h] at h1; rw [(Prod.mk.inj h1).2, h]
      · rw [if_neg h] at h1; rw [(Prod.mk.inj h1).2, Bool.eq_false_iff.2 h]
    · by_cases h : sortB T = true
      · rw [if_pos h] at h2; rw [(Prod.mk.inj h2).2, h]
      · rw [if_neg h] at h2; rw [(Prod.mk.inj h2).2, Bool.eq_false_iff.2 h]
  obtain rfl : o1 = o2 := hoo.1.trans hoo.2.symm
  have hlF : F.length ≤ 20000 := by
    have h1 := hF.out
    have h2 := HI.out.2.1
    have h3 := HI.out.1.1
    unfold foldR at h1
    by_cases h : sortB T = true
    · rw [if_pos h] at h1; rw [(Prod.mk.inj h1).1]; have := fold_len T ks b; omega
    · rw [if_neg h] at h1; rw [(Prod.mk.inj h1).1]; simp
  have hlS : S.length ≤ 20000 := by
    have h1 := hS.out
    have h2 := HI.out.2.1
    have h3 := HI.out.1.1
    unfold seeR at h1
    by_cases h : sortB T = true
    · rw [if_pos h] at h1; rw [(Prod.mk.inj h1).1]; have := see_len T s; omega
    · rw [if_neg h] at h1; rw [(Prod.mk.inj h1).1]; simp
  have HLL := Lib.hid (And.intro hlF hlS)
  clear hoo hlF hlS
  have HFold : Hid (∀ (cap : Nat), n ≤ cap → ∀ (W : World), Kept (fun _ => False) w W → Calls Try.prog 15 #[.slice ad n cap, .slice kd kl kc, .bool b] W (OutE W (F, o1)) ∧ Calls Try.prog 16 #[.slice ad n cap, .slice kd kl kc, .bool b] W (RefE W (F, o1)) ∧ Calls Try.prog 17 #[.slice ad n cap, .int .i64 s] W (OutE W (S, o1)) ∧ Calls Try.prog 18 #[.slice ad n cap, .int .i64 s] W (RefE W (S, o1)))   := fun cap hcp W hk => by
    have he := ents_keptK HI.out.1 hk
    have hn : n ≤ 1000 := by have := HI.out.2.1; omega
    have hi := ints_kept HI.out.2.2.1 hk
    refine ⟨?_, ?_, ?_, ?_⟩
    · rw [hF.out]; exact K.fold W ad n cap T kd kl kc ks b he hn hcp hi HI.out.2.2.2.1 hkd.out HI.out.2.2.2.2
    · rw [hF.out]; exact rFold W ad n cap T kd kl kc ks b he hn hi HI.out.2.2.2.2
    · rw [hS.out]; exact K.see W ad n cap T s he hn hcp HQ.out
    · rw [hS.out]; exact rSee W ad n cap T s he hn
  clear hF hS HI HQ
  rcases hsl with ⟨b0, off, rfl, k1, k2, k3, rfl⟩ | ⟨rfl, rfl, rfl, rfl, rfl⟩
  all_goals
    cases o1
    all_goals
      go_enter Try.func4, Try.ntmps4
      go_wp2_with fail
      refine HE.out.mono ?_
      clear HE
      rintro e w1 ⟨rfl, hk1⟩
      have HK1 := Lib.hid hk1
      have h1 := fun cap hcp => (HFold.out cap hcp w1 hk1).1
      have H1 := Lib.hid h1
      clear hk1 h1
      go_wp2_with fail
      refine (H1.out _ (by omega)).mono ?_
      clear H1
      intro e w2 h
      first | (obtain ⟨ad2, c2, rfl, hA, hk⟩ := h.ok) | (obtain ⟨ad2, c2, rfl, hA, hk⟩ := h.any)
      have HK2 := Lib.hid (HK1.out.trans hk (fun _ h => h.elim))
      have HA := Lib.hid hA
      have h2 := fun cap hcp => (HFold.out cap hcp w2 HK2.out).2.1
      have H2 := Lib.hid h2
      clear h hk hA h2 HK1
      go_wp2_with fail
      refine (H2.out _ (by omega)).mono ?_
      clear H2
      intro e w3 h
      obtain ⟨ad3, c3, rfl, hB, hk⟩ := h.any
      have HK3 := Lib.hid (HK2.out.trans hk (fun _ h => h.elim))
      have HA3 := Lib.hid (ents_keptK HA.out hk)
      have HB := Lib.hid hB
      have h3 := fun cap hcp => (HFold.out cap hcp w3 HK3.out).2.2.1
      have H3 := Lib.hid h3
      clear h hk hB h3 HK2 HA
      go_wp2_with fail
      refine (H3.out _ (by omega)).mono ?_
      clear H3
      intro e w4 h
      first | (obtain ⟨ad4, c4, rfl, hC, hk⟩ := h.ok) | (obtain ⟨ad4, c4, rfl, hC, hk⟩ := h.any)
      have HK4 := Lib.hid (HK3.out.trans hk (fun _ h => h.elim))
      have HA4 := Lib.hid (ents_keptK HA3.out hk)
      have HB4 := Lib.hid (ents_keptK HB.out hk)
      have HC := Lib.hid hC
      have h4 := fun cap hcp => (HFold.out cap hcp w4 HK4.out).2.2.2
      have H4 := Lib.hid h4
      clear h hk hC h4 HK3 HA3 HB HFold
      go_wp2_with fail
      refine (H4.out _ (by omega)).mono ?_
      clear H4
      intro e w5 h
      obtain ⟨ad5, c5, rfl, hD, hk⟩ := h.any
      have HK5 := Lib.hid (HK4.out.trans hk (fun _ h => h.elim))
      have H5 := Lib.hid (ents15 w5 ad2 ad3 F.length c2 F.length c3 F F (ents_keptK HA4.out hk) (ents_keptK HB4.out hk) HLL.out.1 HLL.out.1)
      have HC5 := Lib.hid (ents_keptK HC.out hk)
      have HD := Lib.hid hD
      clear h hk hD HK4 HA4 HB4 HC
      go_wp2_with fail
      refine H5.out.mono ?_
      clear H5
      rintro e w6 ⟨x, rfl, hx, hk⟩
      obtain rfl : x = true := hx.2 rfl
      have HK6 := Lib.hid (HK5.out.trans hk (fun _ h => h.elim))
      have H6 := Lib.hid (ents15 w6 ad4 ad5 S.length c4 S.length c5 S S (ents_keptK HC5.out hk) (ents_keptK HD.out hk) HLL.out.2 HLL.out.2)
      clear hx hk HK5 HC5 HD HLL
      go_wp2_with fail
      refine H6.out.mono ?_
      clear H6
      rintro e w7 ⟨x, rfl, hx, hk⟩
      obtain rfl : x = true := hx.2 rfl
      have HK7 := Lib.hid (HK6.out.trans hk (fun _ h => h.elim))
      clear hx hk HK6
      first
        | (go_wp2
           go_ret
           exact ⟨rfl, HK7.out⟩)
        | (have HIs := Lib.hid (fun W : World => is_any 1 1 W)
           go_wp2_with (go_at_call 14; refine (HIs.out _).mono ?_; rintro e wz ⟨rfl, rfl⟩)
           go_ret
           exact ⟨rfl, HK7.out⟩)

theorem folds15 (K : MgK) (ad : Option Addr) (len cap : Nat) (l : List MEnt) (kd : Option Addr) (kl kc : Nat) (ks : List Int) (b : Bool) (s : Int) (w : World) (h0 : EntsW w ad len l) (hb : FlatE ad ∧ len ≤ cap ∧ (len : Int) * 48 ≤ 140737488351232 ∧ (ad = none → len = 0 ∧ cap = 0))
    (hi : Ints w kd kl ks) (hf : Fit64 ks) (hk : (kl : Int) * 8 ≤ 140737488351232) (hkd : kd = none → kl = 0 ∧ kc = 0) (hs : FitN s) :
    Calls Try.prog 4 #[.slice ad len cap, .slice kd kl kc, .bool b, .int .i64 s] w fun e w' => e = .returned (.bool true) ∧ Kept (fun _ => False) w w' := by
  obtain ⟨n, cap2, hc, h1, _, h2⟩ := cut_in h0 hb 100
  exact folds_go K ad kd len cap n cap2 kl kc ks b s (l.take n) w (Lib.hid (examples15 K w)) hc hs (Lib.hid ⟨h2, by omega, hi, hf, hk⟩) (Lib.hid hkd)

end Go.Proofs.Ythkejfhcdodggaa
