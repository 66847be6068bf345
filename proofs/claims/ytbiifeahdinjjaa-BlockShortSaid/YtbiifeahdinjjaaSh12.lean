/- The law BlockShort (layer 12), walked over the contract of the program's blocks. -/
import Derived.Test.YtbiifeahdinjjaaCu12
namespace Go.Proofs.Ytbiifeahdinjjaa
open Go.RowKit Go.Proofs Go.Proofs.Pk
set_option maxRecDepth 10000
attribute [local simp] mk_get wrap64_u8 mk_extract ByteArray.mk_append_mk get_1k

set_option maxHeartbeats 2000000 in
theorem short_none (w : World) (HE : Hid (Calls Try.prog 9 #[] w fun e w' => e = .returned (.bool true) ∧ Kept (fun _ => False) w w'))
    (HF : Hid (∀ W, Kept (fun _ => False) w W → Calls Try.prog 10 #[.slice none 0 0] W fun e w' => e = .returned (.tuple #[.string ⟨#[0]⟩, .nilIface]) ∧ Kept (fun _ => False) W w')) :
    Calls Try.prog 8 #[.slice none 0 0] w fun e w' => e = .returned (.bool true) ∧ Kept (fun _ => False) w w' := by
  go_enter Try.func8, Try.ntmps8
  go_wp2_with fail
  refine HE.out.mono ?_
  clear HE
  rintro e w1 ⟨rfl, hk1⟩
  have HK1 := Lib.hid hk1
  clear hk1
  go_wp2_with fail
  refine (HF.out _ HK1.out).mono ?_
  clear HF
  rintro e w2 ⟨rfl, hk2⟩
  have HK2 := Lib.hid (HK1.out.trans hk2 (fun _ h => h.elim))
  clear hk2 HK1
  go_wp2
  go_loopw [6, 7] (fun n i wr => n = .int .i64 3 ∧ i = .int .i64 0 ∧ Hid (Kept (fun _ => False) w wr)) (fun _ _ _ => 0)
  case atStart => exact ⟨rfl, rfl, HK2⟩
  case round =>
    obtain ⟨rfl, rfl, hK⟩ := hrel
    clear HK2
    go_wp2
    go_ret
    exact ⟨rfl, hK.out⟩

set_option maxHeartbeats 2000000 in
theorem short_bad (b off len cap m c : Nat) (w : World) (k1 : min (len : Int) 60 = (m : Int)) (k2 : (m : Int) ≤ (cap : Int)) (k3 : (0 : Int) ≤ (m : Int)) (k4 : (len : Int) ≤ (cap : Int))
    (HE : Hid (Calls Try.prog 9 #[] w fun e w' => e = .returned (.bool true) ∧ Kept (fun _ => False) w w'))
    (HF : Hid (∀ W, Kept (fun _ => False) w W → Calls Try.prog 10 #[.slice (some ⟨b, off, none⟩) m cap] W fun e w' => e = .returned (.tuple #[.string ⟨#[]⟩, .iface 45 (.int .i64 (c : Int))]) ∧ Kept (fun _ => False) W w')) :
    Calls Try.prog 8 #[.slice (some ⟨b, off, none⟩) len cap] w fun e w' => e = .returned (.bool true) ∧ Kept (fun _ => False) w w' := by
  go_enter Try.func8, Try.ntmps8
  go_wp2_with fail
  refine HE.out.mono ?_
  clear HE
  rintro e w1 ⟨rfl, hk1⟩
  have HK1 := Lib.hid hk1
  clear hk1
  go_wp2_with fail
  refine (HF.out _ HK1.out).mono ?_
  clear HF
  rintro e w2 ⟨rfl, hk2⟩
  have HK2 := Lib.hid (HK1.out.trans hk2 (fun _ h => h.elim))
  clear hk2 HK1
  go_wp2
  go_ret
  exact ⟨rfl, HK2.out⟩

/-- What the law sums up. -/
def sumE (l : List MEnt) (j : Nat) : Nat := 3 + ((l.take j).map fun e => (encB [e]).1.length + 2).sum
theorem sumE_step {l : List MEnt} {j : Nat} (hj : j < l.length) : sumE l (j + 1) = sumE l j + (encB [l[j]]).1.length + 2 := by
  unfold sumE
  rw [List.take_succ_eq_append_getElem hj, List.map_append, List.sum_append]
  simp
  omega
theorem enc1_len {l : List MEnt} (hs : sortB l = true) {j : Nat} (hj : j < l.length) : ∃ a, encB [l[j]] = (a, 0) ∧ a.length ≤ 84808 := by
  have h := enc_one (sort_mem l none hs _ (List.getElem_mem hj))
  exact ⟨_, h, (enc_len h).2⟩
theorem sumE_le {l : List MEnt} (hs : sortB l = true) : ∀ j, j ≤ l.length → sumE l j ≤ 3 + 84810 * j
  | 0, _ => by simp [sumE]
  | j + 1, h => by
    have h1 := sumE_le hs j (by omega)
    obtain ⟨a, h2, h3⟩ := enc1_len hs (show j < l.length by omega)
    rw [sumE_step (by omega), h2]
    show sumE l j + a.length + 2 ≤ _
    omega

set_option maxHeartbeats 4000000 in
theorem short_go (b off len cap m : Nat) (a : Txt) (T : List MEnt) (w : World) (k1 : min (len : Int) 60 = (m : Int)) (k2 : (m : Int) ≤ (cap : Int)) (k3 : (0 : Int) ≤ (m : Int)) (k4 : (len : Int) ≤ (cap : Int)) (hT : T.length = m) (hm : m ≤ 60) (he : encB T = (a, 0))
    (HE : Hid (Calls Try.prog 9 #[] w fun e w' => e = .returned (.bool true) ∧ Kept (fun _ => False) w w'))
    (HF : Hid (∀ W, Kept (fun _ => False) w W → Calls Try.prog 10 #[.slice (some ⟨b, off, none⟩) m cap] W fun e w' => e = .returned (.tuple #[.string ⟨a.toArray⟩, .nilIface]) ∧ Kept (fun _ => False) W w'))
    (HG : Hid (∀ j, ∀ h : j < T.length, ∀ W, Kept (fun _ => False) w W → Calls Try.prog 10 #[.slice (some ⟨b, off + j * 4, none⟩) 1 (cap - j)] W fun e w' => e = .returned (.tuple #[.string ⟨(encB [T[j]]).1.toArray⟩, .nilIface]) ∧ Kept (fun _ => False) W w')) :
    Calls Try.prog 8 #[.slice (some ⟨b, off, none⟩) len cap] w fun e w' => e = .returned (.bool true) ∧ Kept (fun _ => False) w w' := by
  have hs := (enc_ok he).2.1
  have hsh := enc_short (by omega) he
  obtain ⟨n, hn⟩ : ∃ n : Nat, Hid (n = a.length) := ⟨_, rfl⟩
  have hnn : (a.length : Int) = (n : Int) := by rw [hn.out]
  have HH := Lib.hid (And.intro hs (And.intro hT (show n ≤ sumE T m by rw [hn.out]; unfold sumE; rw [← hT, List.take_length]; exact hsh)))
  clear hs hsh he hT
  go_enter Try.func8, Try.ntmps8
  go_wp2_with fail
  refine HE.out.mono ?_
  clear HE
  rintro e w1 ⟨rfl, hk1⟩
  have HK1 := Lib.hid hk1
  clear hk1
  go_wp2_with fail
  refine (HF.out _ HK1.out).mono ?_
  clear HF
  rintro e w2 ⟨rfl, hk2⟩
  have HK2 := Lib.hid (HK1.out.trans hk2 (fun _ h => h.elim))
  clear hk2 HK1
  go_wp2
  clear k1
  go_loopw [6, 7] (fun v i wr => ∃ j : Nat, j ≤ m ∧ v = .int .i64 (sumE T j : Int) ∧ i = .int .i64 (j : Int) ∧ Hid (Kept (fun _ => False) w wr)) (fun _ i _ => m - (intOf i).toNat)
  case atStart => exact ⟨0, Nat.zero_le _, by simp [sumE], rfl, HK2⟩
  case round =>
    obtain ⟨j, hj, rfl, rfl, hK⟩ := hrel
    clear HK2
    have j0 : (0 : Int) ≤ (j : Int) := by omega
    have hwj : IntKind.i64.wrap ((j : Int) + 1) = (j : Int) + 1 := IntWalk.i64_in _ (by omega)
    have hle := sumE_le HH.out.1 j (by rw [HH.out.2.1]; exact hj)
    by_cases hlt : j < m
    · have hjT : j < T.length := by rw [HH.out.2.1]; exact hlt
      have jn : (j : Int) < (m : Int) := by omega
      have k5 : (j : Int) + 1 ≤ (cap : Int) := by omega
      have k6 : (j : Int) ≤ (j : Int) + 1 := by omega
      have hcj : ¬cap = j := by omega
      have hst := sumE_step hjT
      obtain ⟨a1, ha1, hl1⟩ := enc1_len HH.out.1 hjT
      have HG1 := HG.out j hjT wr hK.out
      rw [ha1] at HG1 hst
      obtain ⟨n1, hn1⟩ : ∃ n1 : Nat, Hid (n1 = a1.length) := ⟨_, rfl⟩
      have hnn1 : (a1.length : Int) = (n1 : Int) := by rw [hn1.out]
      obtain ⟨S, hS⟩ : ∃ S : Nat, Hid (S = sumE T j) := ⟨_, rfl⟩
      obtain ⟨S2, hS2⟩ : ∃ S2 : Nat, Hid (S2 = sumE T (j + 1)) := ⟨_, rfl⟩
      have hss : S2 = S + n1 + 2 := by rw [hS2.out, hS.out, hn1.out]; exact hst
      have hle2 : S ≤ 3 + 84810 * j := by rw [hS.out]; exact hle
      have hn1l : n1 ≤ 84808 := by rw [hn1.out]; exact hl1
      have y1 : IntKind.i64.wrap ((S : Int) + (n1 : Int)) = (S : Int) + (n1 : Int) := IntWalk.i64_in _ (by omega)
      have y2 : IntKind.i64.wrap ((S : Int) + (n1 : Int) + 2) = (S2 : Int) := by rw [IntWalk.i64_in _ (by omega)]; omega
      have HG2 := Lib.hid HG1
      rw [← hS.out]
      clear hst ha1 hl1 HG1 hss hle hle2 hn1l hjT
      go_wp2_with fail
      refine HG2.out.mono ?_
      clear HG2
      rintro e w3 ⟨rfl, hk3⟩
      have HK3 := Lib.hid (hK.out.trans hk3 (fun _ h => h.elim))
      clear hk3 hK
      go_wp2
      go_roundw
      case rel => exact ⟨j + 1, by omega, by rw [← hS2.out], by first | rfl | go_num, HK3⟩
      case measure => simp [intOf]; omega
    · obtain rfl : j = m := by omega
      have jn : ¬(j : Int) < (j : Int) := by omega
      obtain ⟨S, hS⟩ : ∃ S : Nat, Hid (S = sumE T j) := ⟨_, rfl⟩
      have hns : (n : Int) ≤ (S : Int) := by rw [hS.out]; have := HH.out.2.2; omega
      rw [← hS.out]
      clear hle
      go_wp2
      go_ret
      exact ⟨rfl, hK.out⟩

theorem short12 (K : BkK) (ad : Option Addr) (len cap : Nat) (l : List MEnt) (w : World) (h0 : EntsW w ad len l) (hb : FlatE ad ∧ len ≤ cap ∧ (len : Int) * 48 ≤ 140737488351232 ∧ (ad = none → len = 0 ∧ cap = 0)) :
    Calls Try.prog 8 #[.slice ad len cap] w fun e w' => e = .returned (.bool true) ∧ Kept (fun _ => False) w w' := by
  have HE := Lib.hid (examples12 K w)
  have hlen := h0.1
  obtain ⟨hfl, hc1, hc2, hn⟩ := hb
  have hF : ∀ (ad : Option Addr) (n c : Nat) (l : List MEnt), EntsW w ad n l → n ≤ len + 1 → ∀ W, Kept (fun _ => False) w W → Calls Try.prog 10 #[.slice ad n c] W fun e w' => e = .returned (.tuple #[.string ⟨(encB l).1.toArray⟩, errV 45 (encB l).2]) ∧ Kept (fun _ => False) W w' :=
    fun ad n c l h hn W hk => K.encode W ad n c l (ents_keptK h hk) (by omega)
  rcases hfl with h1 | ⟨b, off, h1⟩
  · obtain ⟨hl0, hc0⟩ := hn h1
    subst h1 hl0 hc0
    have hl0 : l = [] := List.length_eq_zero_iff.1 hlen
    subst hl0
    exact short_none w HE (Lib.hid (hF _ _ _ _ h0 (by omega)))
  subst h1
  obtain ⟨m, hm⟩ : ∃ m : Nat, m = min len 60 := ⟨_, rfl⟩
  have hT : (l.take m).length = m := by rw [List.length_take]; omega
  have HF := hF _ m cap _ (h0.head m (by omega)) (by omega)
  obtain ⟨⟨a, c⟩, hac⟩ : ∃ x, x = encB (l.take m) := ⟨_, rfl⟩
  rw [← hac] at HF
  rcases c with _ | c
  · refine short_go b off len cap m a (l.take m) w (by omega) (by omega) (by omega) (by omega) hT (by omega) hac.symm HE (Lib.hid HF) (Lib.hid fun j hj W hk => ?_)
    have hjl : j < l.length := by rw [List.length_take] at hj; omega
    have hp := h0.part j 1 (by omega)
    have e : (l.drop j).take 1 = [(l.take m)[j]] := by
      rw [List.drop_eq_getElem_cons hjl]
      show [l[j]] = _
      rw [List.getElem_take]
    rw [e] at hp
    have := hF _ 1 (cap - j) _ hp (by omega) W hk
    have h2 := enc1_len (enc_ok hac.symm).2.1 hj
    obtain ⟨a1, ha1, _⟩ := h2
    rw [ha1] at this ⊢
    exact this
  · have ha : a = [] := by
      have := enc_bad (l := l.take m) (by rw [← hac]; exact Nat.succ_ne_zero c)
      rw [← hac] at this; exact this
    subst ha
    exact short_bad b off len cap m (c + 1) w (by omega) (by omega) (by omega) (by omega) HE (Lib.hid HF)

end Go.Proofs.Ytbiifeahdinjjaa
