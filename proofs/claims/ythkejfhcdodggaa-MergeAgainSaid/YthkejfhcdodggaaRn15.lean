/- The reference of layer 15: needed. -/
import Derived.Test.YthkejfhcdodggaaRs15
namespace Go.Proofs.Ythkejfhcdodggaa
open Go.RowKit Go.Proofs Go.Proofs.Pk
set_option maxRecDepth 10000
attribute [local simp] mk_get wrap64_u8 mk_extract ByteArray.mk_append_mk get_1k

/-- Is the number one that needs the place? -/
def wantB (x p n : Int) : Bool := decide (x ≤ n) && decide (n < p)
theorem need_of_want {l : List MEnt} (hu : UpM l) {j : Nat} (hj : j < l.length) (ks : List Int) (h0 : ¬j = 0) (hk : (l[j - 1]'(by omega)).1 = l[j].1) :
    needM l ks l[j] = ks.any (wantB l[j].2.1 (l[j - 1]'(by omega)).2.1) := by
  have h := need_at hu hj ks
  rw [Bool.eq_iff_iff, h, List.any_eq_true]
  unfold wantB
  simp only [h0, hk, ne_eq, not_true_eq_false, or_self, false_or, Bool.and_eq_true, decide_eq_true_eq]
theorem ints_at {w : World} {ad : Option Addr} {len : Nat} {ks : List Int} (h : Ints w ad len ks) {i : Nat} (hi : i < ks.length) : ∃ g o, ad = some ⟨g, o, none⟩ ∧ w.cell? ⟨g, o + i, none⟩ = some (.int .i64 ks[i]) := by
  rcases h.2 with h0 | ⟨g, o, h1, _, h3⟩
  · rw [h0] at hi; simp at hi
  · exact ⟨g, o, h1, h3 i hi⟩

set_option maxHeartbeats 16000000 in
theorem rNeeded (w : World) (ad : Option Addr) (len cap j : Nat) (l : List MEnt) (kd : Option Addr) (kl kc : Nat) (ks : List Int) (h : EntsW w ad len l) (hlm : len ≤ 1000) (hu : UpM l) (hj : j < l.length) (hi : Ints w kd kl ks) (hkl : (kl : Int) * 8 ≤ 140737488351232) :
    Calls Try.prog 32 #[.slice ad len cap, .int .i64 (j : Int), .slice kd kl kc] w fun e w' => e = .returned (.bool (needM l ks l[j])) ∧ Kept (fun _ => False) w w' := by
  have hlen := h.1
  have hil := hi.1
  obtain ⟨b, off, rfl, hb, x0, x1, _, _⟩ := h.atS j hj
  obtain ⟨x, hx⟩ : ∃ x, x = l[j] := ⟨_, rfl⟩
  rw [← hx] at x0 x1 ⊢
  have HI := Lib.hid hi
  have j0 : (0 : Int) ≤ (j : Int) := by omega
  have jn : (j : Int) < (len : Int) := by omega
  by_cases h0 : j = 0
  · have HV : Hid (needM l ks x = true) := by rw [hx]; exact (need_at hu hj ks).2 (.inl (.inl h0))
    subst h0
    clear hx hi
    go_enter Try.func32, Try.ntmps32
    go_wp2
    go_quiet (fail)
    go_wp2
    go_ret
    exact ⟨by rw [HV.out]; rfl, (Kept.refl _ w).drewN _⟩
  obtain ⟨b', off', he, _, p0, p1, _, _⟩ := h.atS (j - 1) (by omega)
  cases he
  have hjb : ((j : Int) == 0) = false := by rw [beq_eq_false_iff_ne]; omega
  have hj0 : ¬(j : Int) = 0 := by omega
  obtain ⟨q, hq⟩ : ∃ q, q = j - 1 := ⟨_, rfl⟩
  have q1 : IntKind.i64.wrap ((j : Int) - 1) = (q : Int) := by rw [IntWalk.i64_in _ (by omega)]; omega
  have q2 : (q : Int) < (len : Int) := by omega
  have q3 : (0 : Int) ≤ (q : Int) := by omega
  have hwant : (l[j - 1]'(by omega)).1 = x.1 → needM l ks x = ks.any (wantB x.2.1 (l[j - 1]'(by omega)).2.1) := by rw [hx]; exact need_of_want hu hj ks h0
  have hhead : ¬(l[j - 1]'(by omega)).1 = x.1 → needM l ks x = true := fun hk => by rw [hx] at hk ⊢; exact (need_at hu hj ks).2 (.inl (.inr hk))
  obtain ⟨p, hp⟩ : ∃ p, p = l[j - 1]'(by omega) := ⟨_, rfl⟩
  rw [← hp] at p0 p1 hwant hhead
  rw [← hq] at p0 p1
  clear hx hp hq hi
  by_cases hk : p.1 = x.1
  case neg =>
    have HV := Lib.hid (hhead hk)
    have hkb : (p.1 == x.1) = false := by simpa using hk
    clear hwant hhead
    go_enter Try.func32, Try.ntmps32
    go_wp2
    go_quiet (fail)
    go_wp2
    go_ret
    exact ⟨by rw [HV.out]; rfl, (Kept.refl _ w).drewN _⟩
  have HV := Lib.hid (hwant hk)
  rw [hk] at p0
  clear hwant hhead
  obtain ⟨nd, hnd⟩ : ∃ nd, Hid (nd = needM l ks x) := ⟨_, rfl⟩
  rw [← hnd.out] at HV ⊢
  obtain ⟨s, hs⟩ : ∃ s, s = x.2.1 := ⟨_, rfl⟩
  obtain ⟨t, ht⟩ : ∃ t, t = p.2.1 := ⟨_, rfl⟩
  rw [← hs] at x1 HV
  rw [← ht] at p1 HV
  obtain ⟨K, hK⟩ : ∃ K, K = x.1 := ⟨_, rfl⟩
  rw [← hK] at x0 p0
  clear hnd hs ht hK hk h
  obtain ⟨w0, hw0⟩ : ∃ w0, w0 = w := ⟨_, rfl⟩
  rw [← hw0] at HI x0 x1 p0 p1 hb ⊢
  clear hw0
  go_enter Try.func32, Try.ntmps32
  go_wp2
  go_quiet (fail)
  obtain ⟨wy, hwy⟩ : ∃ wy, wy = w0.drewN nq := ⟨_, rfl⟩
  rw [← hwy]
  have HR : Hid (Kept (fun _ => False) w0 wy ∧ (ks.take 0).any (wantB s t) = false) := by rw [hwy]; exact ⟨(Kept.refl _ w0).drewN _, rfl⟩
  have HX : Hid (∀ W, Kept (fun _ => False) w0 W → W.cell? ⟨b, off + j * 4 + 1, none⟩ = some (.int .i64 s) ∧ W.cell? ⟨b, off + q * 4 + 1, none⟩ = some (.int .i64 t)) := fun W hk => ⟨(hk.cell (p := ⟨b, off + j * 4 + 1, none⟩) hb (fun f => f)).trans x1, (hk.cell (p := ⟨b, off + q * 4 + 1, none⟩) hb (fun f => f)).trans p1⟩
  clear hwy x0 x1 p0 p1
  go_wp2
  go_loopw [7] (fun i wr => ∃ k : Nat, k ≤ kl ∧ i = .int .i64 (k : Int) ∧ Hid (Kept (fun _ => False) w0 wr ∧ (ks.take k).any (wantB s t) = false)) (fun i _ => kl - (intOf i).toNat)
  case atStart => exact ⟨0, Nat.zero_le _, rfl, HR⟩
  case round =>
    obtain ⟨k, hk, rfl, hR⟩ := hrel
    clear HR
    have k0 : (0 : Int) ≤ (k : Int) := by omega
    by_cases hlt : k < kl
    case neg =>
      obtain rfl : k = kl := by omega
      have kn : ¬(k : Int) < (k : Int) := by omega
      have HN : Hid (nd = false) := by
        have := hR.out.2
        rw [List.take_of_length_le (by omega)] at this
        rw [HV.out]; exact this
      have HK : Hid (Kept (fun _ => False) w0 wr) := hR.out.1
      clear hR
      go_wp2
      go_ret
      exact ⟨by rw [HN.out]; rfl, HK.out⟩
    have kn : (k : Int) < (kl : Int) := by omega
    have hwk : IntKind.i64.wrap ((k : Int) + 1) = (k : Int) + 1 := IntWalk.i64_in _ (by omega)
    have hkk : k < ks.length := by omega
    obtain ⟨g, o, rfl, y0⟩ := ints_at (HI.out.kept hR.out.1 (.inr fun _ _ _ f => f)) hkk
    obtain ⟨x1, p1⟩ := HX.out wr hR.out.1
    have htk : (ks.take (k + 1)).any (wantB s t) = ((ks.take k).any (wantB s t) || wantB s t ks[k]) := by rw [List.take_succ_eq_append_getElem hkk, List.any_append]; simp
    have hmem : wantB s t ks[k] = true → ks.any (wantB s t) = true := fun h => List.any_eq_true.2 ⟨_, List.getElem_mem hkk, h⟩
    obtain ⟨n, hn⟩ : ∃ n, n = ks[k] := ⟨_, rfl⟩
    rw [← hn] at y0 htk hmem
    rw [hR.out.2, Bool.false_or] at htk
    have HT := Lib.hid htk
    have HM := Lib.hid hmem
    have HK : Hid (Kept (fun _ => False) w0 wr) := hR.out.1
    clear htk hmem hn hR
    by_cases h1 : s ≤ n
    · by_cases h2 : n < t
      · have HN : Hid (nd = true) := by rw [HV.out]; exact HM.out (by unfold wantB; simp [h1, h2])
        clear HT HM
        go_wp2
        go_quiet (fail)
        go_wp2
        go_ret
        exact ⟨by rw [HN.out]; rfl, HK.out.drewN _⟩
      · have HN : Hid ((ks.take (k + 1)).any (wantB s t) = false) := by rw [HT.out]; show (decide (s ≤ n) && decide (n < t)) = false; rw [decide_eq_false h2, Bool.and_false]
        clear HT HM
        go_wp2
        go_quiet (fail)
        go_wp2
        go_roundw
        case rel => exact ⟨k + 1, hlt, by first | rfl | go_num, HK.out.drewN _, HN.out⟩
        case measure => simp [intOf]; omega
    · have HN : Hid ((ks.take (k + 1)).any (wantB s t) = false) := by rw [HT.out]; show (decide (s ≤ n) && decide (n < t)) = false; rw [decide_eq_false h1, Bool.false_and]
      have hd1 : decide (s ≤ n) = false := decide_eq_false h1
      clear HT HM
      go_wp2
      go_quiet (fail)
      go_wp2
      go_roundw
      case rel => exact ⟨k + 1, hlt, by first | rfl | go_num, HK.out.drewN _, HN.out⟩
      case measure => simp [intOf]; omega

end Go.Proofs.Ythkejfhcdodggaa
