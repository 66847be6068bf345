/- The law BlockBack (layer 12), walked over the contract of the program's blocks. -/
import Derived.Test.YtbiifeahdinjjaaCu12
import Derived.Test.YtbiifeahdinjjaaEs12
namespace Go.Proofs.Ytbiifeahdinjjaa
open Go.RowKit Go.Proofs Go.Proofs.Pk
set_option maxRecDepth 10000
attribute [local simp] mk_get wrap64_u8 mk_extract ByteArray.mk_append_mk get_1k

/-- Decode of what is a block, and of what is none. -/
def Deco (w : World) (b : Txt) (L : List MEnt) : Prop := ∀ W, Kept (fun _ => False) w W → Calls Try.prog 13 #[.string ⟨b.toArray⟩] W fun e w' => ∃ ad cap, e = .returned (.tuple #[.slice ad L.length cap, .nilIface]) ∧ EntsW w' ad L.length L ∧ Kept (fun _ => False) W w'
def DecoNo (w : World) (b : Txt) : Prop := ∀ W, Kept (fun _ => False) w W → Calls Try.prog 13 #[.string ⟨b.toArray⟩] W fun e w' => ∃ ad cap, e = .returned (.tuple #[.slice ad 0 cap, .iface 45 (.int .i64 3)]) ∧ Kept (fun _ => False) W w'
theorem BkK.deco (K : BkK) {w : World} {b : Txt} {L : List MEnt} (h : encB L = (b, 0)) : Deco w b L := fun W _ => by
  refine (K.decode b W (by have := (enc_len h).2; omega)).mono ?_
  rw [dec_iff.2 h]
  rintro e w' ⟨ad, cap, rfl, ho, hf, hk⟩
  exact ⟨ad, cap, rfl, owns_ents ho hf, hk⟩
theorem BkK.decoNo (K : BkK) {w : World} {b : Txt} (h : (decB b).2 = false) (hb : (b.length : Int) ≤ 140737488351232) : DecoNo w b := fun W _ => by
  refine (K.decode b W (by omega)).mono ?_
  rw [dec_no h]
  rintro e w' ⟨ad, cap, rfl, ho, hf, hk⟩
  exact ⟨ad, cap, rfl, hk⟩

set_option maxHeartbeats 4000000 in
theorem back_two (K : BkK) (ad : Option Addr) (len cap c : Nat) (a b : Txt) (L : List MEnt) (ok : Bool) (w : World) (l : List MEnt) (h0 : EntsW w ad len l) (hc : c = 0 → encB l = (a, 0)) (hL : ok = true → encB L = (b, 0))
    (HE : Hid (Calls Try.prog 9 #[] w fun e w' => e = .returned (.bool true) ∧ Kept (fun _ => False) w w'))
    (HF : Hid (∀ W, Kept (fun _ => False) w W → Calls Try.prog 10 #[.slice ad len cap] W fun e w' => e = .returned (.tuple #[.string ⟨a.toArray⟩, errV 45 c]) ∧ Kept (fun _ => False) W w'))
    (HN : ok = false → Hid (DecoNo w b)) :
    Calls Try.prog 5 #[.slice ad len cap, .string ⟨b.toArray⟩] w fun e w' => e = .returned (.bool true) ∧ Kept (fun _ => False) w w' := by
  have hlen := h0.1
  have H0 := Lib.hid (And.intro h0 hlen)
  clear h0
  rcases c with _ | c
  · have hc0 := hc rfl
    have hl200 := (enc_ok hc0).1
    have HD : Hid (Deco w a l) := K.deco hc0
    have HL2 := Lib.hid hl200
    rw [show errV 45 0 = .nilIface from rfl] at HF
    clear hc hc0 hl200
    go_enter Try.func5, Try.ntmps5
    go_wp2_with fail
    refine HE.out.mono ?_
    clear HE
    rintro e w1 ⟨rfl, hk1⟩
    have HK1 := Lib.hid hk1
    clear hk1
    go_wp2_with fail
    refine (HF.out _ HK1.out).mono ?_
    clear HF
    rintro e w2 ⟨rfl, hk2⟩
    have HK2 := Lib.hid (HK1.out.trans hk2 (fun _ h => h.elim))
    clear hk2 HK1
    go_wp2_with fail
    refine (HD.out _ HK2.out).mono ?_
    clear HD
    rintro e w3 ⟨ad3, cap3, rfl, hw3, hk3⟩
    rw [hlen] at hw3 ⊢
    have HK3 := Lib.hid (HK2.out.trans hk3 (fun _ h => h.elim))
    have HS := Lib.hid (entsSame12 w3 ad ad3 len cap cap3 l (ents_keptK H0.out.1 HK3.out) hw3 (by have := HL2.out; omega))
    clear hk3 HK2 hw3
    go_wp2_with fail
    refine HS.out.mono ?_
    clear HS
    rintro e w4 ⟨rfl, hk4⟩
    have HK4 := Lib.hid (HK3.out.trans hk4 (fun _ h => h.elim))
    clear hk4 HK3
    cases ok with
    | false =>
      go_wp2_with fail
      refine ((HN (by simp)).out _ HK4.out).mono ?_
      clear HN
      rintro e w5 ⟨ad5, cap5, rfl, hk5⟩
      have HK5 := Lib.hid (HK4.out.trans hk5 (fun _ h => h.elim))
      clear hk5 HK4
      go_wp2
      go_ret
      exact ⟨rfl, HK5.out⟩
    | true =>
      have HLb := Lib.hid (hL (by simp))
      clear hL HN
      have HD : Hid (Deco w b L) := K.deco HLb.out
      go_wp2_with fail
      refine (HD.out _ HK4.out).mono ?_
      clear HD
      rintro e w5 ⟨ad5, cap5, rfl, hw5, hk5⟩
      obtain ⟨n, hn⟩ : ∃ n, n = L.length := ⟨_, rfl⟩
      rw [← hn] at hw5 ⊢
      have hnl : (n : Int) ≤ 140737488351232 := by have := (enc_ok HLb.out).1; omega
      have HK5 := Lib.hid (HK4.out.trans hk5 (fun _ h => h.elim))
      have HE5 := Lib.hid (K.encode w5 ad5 n cap5 L hw5 hnl)
      rw [HLb.out, show errV 45 ((b, 0) : Txt × Nat).2 = .nilIface from rfl] at HE5
      have HW5 := Lib.hid (fun (W : World) (h : Kept (fun _ => False) w5 W) => K.sorted W ad5 n cap5 L (ents_keptK hw5 h) hnl)
      rw [(enc_ok HLb.out).2.1] at HW5
      clear hk5 HK4 hw5 hn
      go_wp2_with fail
      refine HE5.out.mono ?_
      clear HE5
      rintro e w6 ⟨rfl, hk6⟩
      have HK6 := Lib.hid (HK5.out.trans hk6 (fun _ h => h.elim))
      have HS6 := Lib.hid (HW5.out _ hk6)
      clear hk6 HK5 HW5
      go_wp2_with fail
      refine HS6.out.mono ?_
      clear HS6
      rintro e w7 ⟨rfl, hk7⟩
      have HK7 := Lib.hid (HK6.out.trans hk7 (fun _ h => h.elim))
      clear hk7 HK6
      go_wp2
      go_ret
      exact ⟨rfl, HK7.out⟩
  · rw [show errV 45 (c + 1) = .iface 45 (.int .i64 ((c + 1 : Nat) : Int)) from rfl] at HF
    clear hc
    go_enter Try.func5, Try.ntmps5
    go_wp2_with fail
    refine HE.out.mono ?_
    clear HE
    rintro e w1 ⟨rfl, hk1⟩
    have HK1 := Lib.hid hk1
    clear hk1
    go_wp2_with fail
    refine (HF.out _ HK1.out).mono ?_
    clear HF
    rintro e w2 ⟨rfl, hk2⟩
    have HK4 := Lib.hid (HK1.out.trans hk2 (fun _ h => h.elim))
    clear hk2 HK1
    cases ok with
    | false =>
      go_wp2_with fail
      refine ((HN (by simp)).out _ HK4.out).mono ?_
      clear HN
      rintro e w5 ⟨ad5, cap5, rfl, hk5⟩
      have HK5 := Lib.hid (HK4.out.trans hk5 (fun _ h => h.elim))
      clear hk5 HK4
      go_wp2
      go_ret
      exact ⟨rfl, HK5.out⟩
    | true =>
      have HLb := Lib.hid (hL (by simp))
      clear hL HN
      have HD : Hid (Deco w b L) := K.deco HLb.out
      go_wp2_with fail
      refine (HD.out _ HK4.out).mono ?_
      clear HD
      rintro e w5 ⟨ad5, cap5, rfl, hw5, hk5⟩
      obtain ⟨n, hn⟩ : ∃ n, n = L.length := ⟨_, rfl⟩
      rw [← hn] at hw5 ⊢
      have hnl : (n : Int) ≤ 140737488351232 := by have := (enc_ok HLb.out).1; omega
      have HK5 := Lib.hid (HK4.out.trans hk5 (fun _ h => h.elim))
      have HE5 := Lib.hid (K.encode w5 ad5 n cap5 L hw5 hnl)
      rw [HLb.out, show errV 45 ((b, 0) : Txt × Nat).2 = .nilIface from rfl] at HE5
      have HW5 := Lib.hid (fun (W : World) (h : Kept (fun _ => False) w5 W) => K.sorted W ad5 n cap5 L (ents_keptK hw5 h) hnl)
      rw [(enc_ok HLb.out).2.1] at HW5
      clear hk5 HK4 hw5 hn
      go_wp2_with fail
      refine HE5.out.mono ?_
      clear HE5
      rintro e w6 ⟨rfl, hk6⟩
      have HK6 := Lib.hid (HK5.out.trans hk6 (fun _ h => h.elim))
      have HS6 := Lib.hid (HW5.out _ hk6)
      clear hk6 HK5 HW5
      go_wp2_with fail
      refine HS6.out.mono ?_
      clear HS6
      rintro e w7 ⟨rfl, hk7⟩
      have HK7 := Lib.hid (HK6.out.trans hk7 (fun _ h => h.elim))
      clear hk7 HK6
      go_wp2
      go_ret
      exact ⟨rfl, HK7.out⟩

theorem back12 (K : BkK) (ad : Option Addr) (len cap : Nat) (l : List MEnt) (b : Txt) (w : World) (h0 : EntsW w ad len l) (hl : (len : Int) * 48 ≤ 140737488351232) (hb : (b.length : Int) ≤ 140737488351232) :
    Calls Try.prog 5 #[.slice ad len cap, .string ⟨b.toArray⟩] w fun e w' => e = .returned (.bool true) ∧ Kept (fun _ => False) w w' := by
  have HE := Lib.hid (examples12 K w)
  have HF := Lib.hid (fun (W : World) (h : Kept (fun _ => False) w W) => K.encode W ad len cap l (ents_keptK h0 h) (by omega))
  refine back_two K ad len cap (encB l).2 (encB l).1 b (decB b).1 (decB b).2 w l h0 (fun h => by rw [← h]) (fun h => dec_iff.1 (by rw [← h])) HE HF (fun h => Lib.hid (K.decoNo h hb))

end Go.Proofs.Ytbiifeahdinjjaa
