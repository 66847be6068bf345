/- The law MergeAgain (layer 15), walked over the contract of the program's merge. -/
import Derived.Test.YthkejfhcdodggaaEx15
import Derived.Test.YthkejfhcdodggaaEs15
import Derived.Test.YthkejfhcdodggaaJ07
namespace Go.Proofs.Ythkejfhcdodggaa
open Go.RowKit Go.Proofs Go.Proofs.Pk
set_option maxRecDepth 10000
attribute [local simp] mk_get wrap64_u8 mk_extract ByteArray.mk_append_mk get_1k

abbrev ExH15 (w : World) : Prop := Hid (Calls Try.prog 10 #[] w fun e w' => e = .returned (.bool true) ∧ Kept (fun _ => False) w w')
theorem OutE.bad {w w' : World} {e : Ending} (h : OutE w ([], false) e w') : ∃ (ad : Option Addr) (cap : Nat), e = .returned (.tuple #[.slice ad 0 cap, .iface 50 (.int .i64 1)]) ∧ Kept (fun _ => False) w w' := by
  obtain ⟨ad, cap, h1, _, h2, _⟩ := h
  exact ⟨ad, cap, h1, h2⟩
theorem NewE.bad {w w' : World} {e : Ending} (h : NewE w ([], false) e w') : ∃ (ad : Option Addr) (cap : Nat), e = .returned (.tuple #[.slice ad 0 cap, .iface 50 (.int .i64 1)]) ∧ Kept (fun _ => False) w w' := h.out.bad
theorem ints_kept {w w' : World} {ad : Option Addr} {len : Nat} {l : List Int} (h : Ints w ad len l) (hk : Kept (fun _ => False) w w') : Ints w' ad len l := h.kept hk (.inr fun _ _ _ f => f)
/-- A list among the arguments, cut. -/
def CutS (ad : Option Addr) (len cap n cap2 : Nat) (m : Int) : Prop := (∃ b off, ad = some ⟨b, off, none⟩ ∧ min (len : Int) m = (n : Int) ∧ (n : Int) ≤ (cap : Int) ∧ (len : Int) ≤ (cap : Int) ∧ cap2 = cap) ∨ (ad = Option.none ∧ len = 0 ∧ cap = 0 ∧ n = 0 ∧ cap2 = 0)
/-- What a list and some numbers are. -/
def InE (w : World) (ad : Option Addr) (n : Nat) (T : List MEnt) (kd : Option Addr) (kl : Nat) (ks : List Int) : Prop := EntsW w ad n T ∧ n ≤ 100 ∧ Ints w kd kl ks ∧ Fit64 ks ∧ (kl : Int) * 8 ≤ 140737488351232
theorem InE.fold {w : World} {ad kd : Option Addr} {n kl : Nat} {T : List MEnt} {ks : List Int} (h : InE w ad n T kd kl ks) (K : MgK) (cap kc : Nat) (b : Bool) {W : World} (hk : Kept (fun _ => False) w W) (hc : n ≤ cap) (hkd : kd = none → kl = 0 ∧ kc = 0) :
    Calls Try.prog 15 #[.slice ad n cap, .slice kd kl kc, .bool b] W (OutE W (foldR T ks b)) :=
  K.fold W ad n cap T kd kl kc ks b (ents_keptK h.1 hk) (by have := h.2.1; omega) hc (ints_kept h.2.2.1 hk) h.2.2.2.1 hkd h.2.2.2.2
theorem InE.fold0 {w : World} {ad kd : Option Addr} {n kl : Nat} {T : List MEnt} {ks : List Int} (h : InE w ad n T kd kl ks) (K : MgK) (b : Bool) {W : World} (hk : Kept (fun _ => False) w W) (hs : sortB T = true) (cap : Nat) (hc : n ≤ cap) :
    Calls Try.prog 15 #[.slice ad n cap, .slice none 0 0, .bool b] W (OutE W (foldM T [] b, true)) := by
  have := K.fold W ad n cap T Option.none 0 0 [] b (ents_keptK h.1 hk) (by have := h.2.1; omega) hc ⟨rfl, .inl rfl⟩ (by unfold Fit64; simp) (fun _ => ⟨rfl, rfl⟩) (by decide)
  unfold foldR at this
  rwa [if_pos hs] at this
theorem foldR_ok {T : List MEnt} (h : sortB T = true) (ks : List Int) (b : Bool) : foldR T ks b = (foldM T ks b, true) := by unfold foldR; rw [if_pos h]
theorem foldR_no {T : List MEnt} (h : ¬sortB T = true) (ks : List Int) (b : Bool) : foldR T ks b = ([], false) := by unfold foldR; rw [if_neg h]
theorem fold_len (T : List MEnt) (ks : List Int) (b : Bool) : (foldM T ks b).length ≤ T.length := (fold_sub T ks b).length_le

set_option maxHeartbeats 4000000 in
theorem again_go (K : MgK) (ad kd : Option Addr) (len cap n cap2 kl kc : Nat) (ks : List Int) (b : Bool) (T : List MEnt) (w : World) (HE : ExH15 w) (hsl : CutS ad len cap n cap2 80) (HI : Hid (InE w ad n T kd kl ks)) (hkd : Hid (kd = none → kl = 0 ∧ kc = 0)) :
    Calls Try.prog 7 #[.slice ad len cap, .slice kd kl kc, .bool b] w fun e w' => e = .returned (.bool true) ∧ Kept (fun _ => False) w w' := by
  have kn : (0 : Int) ≤ (n : Int) := Int.natCast_nonneg n
  rcases hsl with ⟨b0, off, rfl, k1, k2, k3, rfl⟩ | ⟨rfl, rfl, rfl, rfl, rfl⟩
  all_goals
    go_enter Try.func7, Try.ntmps7
    go_wp2_with fail
    refine HE.out.mono ?_
    clear HE
    rintro e w1 ⟨rfl, hk1⟩
    have HK1 := Lib.hid hk1
    clear hk1
    go_wp2_with fail
    refine (HI.out.fold K _ kc b HK1.out (by omega) hkd.out).mono ?_
    by_cases hs : sortB T = true
    rotate_left
    · rw [foldR_no hs]
      intro e w2 h
      obtain ⟨ad2, c2, rfl, hk2⟩ := h.bad
      have HK2 := Lib.hid (HK1.out.trans hk2 (fun _ h => h.elim))
      clear h hk2 HK1 HI hs
      go_wp2
      go_ret
      exact ⟨rfl, HK2.out⟩
    rw [foldR_ok hs]
    intro e w2 h
    obtain ⟨ad2, c2, rfl, hA2, hk2, hc2⟩ := h.okC
    have HK2 := Lib.hid (HK1.out.trans hk2 (fun _ h => h.elim))
    have HA2 := Lib.hid hA2
    have HS := Lib.hid hs
    have hl1 := fold_len T ks b
    have hT := HI.out.1.1
    have hn := HI.out.2.1
    obtain ⟨F, hF⟩ : ∃ F, F = foldM T ks b := ⟨_, rfl⟩
    have HF := Lib.hid hF
    rw [← hF] at HA2 hl1 hc2
    have HC2 := Lib.hid hc2
    rw [← hF]
    have HJ := Lib.hid (show F.length ≤ 100 from by omega)
    have h3 : Calls Try.prog 15 #[.slice ad2 F.length c2, .slice kd kl kc, .bool b] w2 (OutE w2 (F, true)) := by
      have := K.fold w2 ad2 F.length c2 F kd kl kc ks b HA2.out (by have := HJ.out; omega) HC2.out (ints_kept HI.out.2.2.1 HK2.out) HI.out.2.2.2.1 hkd.out HI.out.2.2.2.2
      rwa [foldR_ok (by rw [HF.out]; exact fold_sort HS.out ks b), show foldM F ks b = F from by rw [HF.out]; exact fold_again HS.out ks b] at this
    have H3 := Lib.hid h3
    clear h hk2 hA2 HK1 hs hF h3 hl1 hT hn hc2
    go_wp2_with fail
    refine H3.out.mono ?_
    clear H3
    intro e w3 h
    obtain ⟨ad3, c3, rfl, hA3, hk3⟩ := h.ok
    have HK3 := Lib.hid (HK2.out.trans hk3 (fun _ h => h.elim))
    have HA3 := Lib.hid (ents_keptK HA2.out hk3)
    have HB3 := Lib.hid hA3
    have h4 := Lib.hid (fun cap hc => HI.out.fold0 K b HK3.out HS.out cap hc)
    clear h hk3 hA3 HK2 HA2
    go_wp2_with fail
    refine (h4.out _ (by omega)).mono ?_
    clear h4
    intro e w4 h
    obtain ⟨ad4, c4, rfl, hA4, hk4⟩ := h.ok
    have HK4 := Lib.hid (HK3.out.trans hk4 (fun _ h => h.elim))
    have H5 := Lib.hid (ents15 w4 ad2 ad3 F.length c2 F.length c3 F F (ents_keptK HA3.out hk4) (ents_keptK HB3.out hk4) (by have := HJ.out; omega) (by have := HJ.out; omega))
    have hle := fold_less HS.out ks b
    rw [← HF.out] at hle
    generalize (foldM T [] b).length = m at hle
    generalize F.length = f at hle H5
    clear h hk4 hA4 HK3 HA3 HB3 HJ HF
    go_wp2_with fail
    refine H5.out.mono ?_
    clear H5
    rintro e w5 ⟨x, rfl, hx, hk5⟩
    obtain rfl : x = true := hx.2 rfl
    have HK5 := Lib.hid (HK4.out.trans hk5 (fun _ h => h.elim))
    have hmf : (m : Int) ≤ (f : Int) := by omega
    clear hx hk5 HK4 hle
    go_wp2
    go_ret
    exact ⟨rfl, HK5.out⟩

/-- A list among the arguments, cut at a number. -/
theorem cut_in {w : World} {ad : Option Addr} {len cap : Nat} {l : List MEnt} (h : EntsW w ad len l) (hb : FlatE ad ∧ len ≤ cap ∧ (len : Int) * 48 ≤ 140737488351232 ∧ (ad = none → len = 0 ∧ cap = 0)) (m : Nat) : ∃ (n cap2 : Nat), CutS ad len cap n cap2 (m : Int) ∧ n ≤ m ∧ n ≤ len ∧ EntsW w ad n (l.take n) := by
  obtain ⟨hfl, hlc, _, hno⟩ := hb
  rcases hfl with rfl | ⟨b, off, rfl⟩
  · obtain ⟨rfl, rfl⟩ := hno rfl
    refine ⟨0, 0, .inr ⟨rfl, rfl, rfl, rfl, rfl⟩, by omega, by omega, ⟨by simp, .inl (by simp)⟩⟩
  · exact ⟨min len m, cap, .inl ⟨b, off, rfl, by omega, by omega, by omega, rfl⟩, by omega, by omega, h.head _ (by omega)⟩
theorem again15 (K : MgK) (ad : Option Addr) (len cap : Nat) (l : List MEnt) (kd : Option Addr) (kl kc : Nat) (ks : List Int) (b : Bool) (w : World) (h0 : EntsW w ad len l) (hb : FlatE ad ∧ len ≤ cap ∧ (len : Int) * 48 ≤ 140737488351232 ∧ (ad = none → len = 0 ∧ cap = 0))
    (hi : Ints w kd kl ks) (hf : Fit64 ks) (hk : (kl : Int) * 8 ≤ 140737488351232) (hkd : kd = none → kl = 0 ∧ kc = 0) :
    Calls Try.prog 7 #[.slice ad len cap, .slice kd kl kc, .bool b] w fun e w' => e = .returned (.bool true) ∧ Kept (fun _ => False) w w' := by
  obtain ⟨n, cap2, hc, h1, _, h2⟩ := cut_in h0 hb 80
  exact again_go K ad kd len cap n cap2 kl kc ks b (l.take n) w (Lib.hid (examples15 K w)) hc (Lib.hid ⟨h2, by omega, hi, hf, hk⟩) (Lib.hid hkd)

end Go.Proofs.Ythkejfhcdodggaa
