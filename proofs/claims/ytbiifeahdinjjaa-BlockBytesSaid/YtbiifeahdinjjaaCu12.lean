/- The law BlockCuts (layer 12), walked over the contract of the program's blocks. -/
import Derived.Test.YtbiifeahdinjjaaPa12
import Derived.Test.YtbiifeahdinjjaaBkN
namespace Go.Proofs.Ytbiifeahdinjjaa
open Go.RowKit Go.Proofs Go.Proofs.Pk
set_option maxRecDepth 10000
attribute [local simp] mk_get wrap64_u8 mk_extract ByteArray.mk_append_mk get_1k

theorem enc_len {l : List MEnt} {a : Txt} (h : encB l = (a, 0)) : 0 < a.length ∧ a.length ≤ 84808 := by
  obtain ⟨h1, h2, h3⟩ := enc_ok h
  have h4 := out_all (by omega) h2
  rw [h] at h4
  have h5 := out_bound h2 l.length (Nat.le_refl _)
  have h6 : a = outB l l.length := congrArg Prod.fst h4
  rw [← h6] at h5
  refine ⟨?_, by omega⟩
  rw [h3, List.length_append, numL_length]
  omega
theorem is_33 (w : World) : Calls Try.prog 15 #[.iface 45 (.int .i64 3), .int .i64 3] w fun e w' => e = .returned (.bool true) ∧ Kept (fun _ => False) w w' :=
  (is_any 3 3 w).mono fun _ _ ⟨h1, h2⟩ => ⟨h1, by rw [← h2]; exact Kept.refl _ _⟩

set_option maxHeartbeats 4000000 in
theorem cuts_bad (ad : Option Addr) (len cap : Nat) (cut : Int) (more : Txt) (w : World) (c : Nat)
    (HE : Hid (Calls Try.prog 9 #[] w fun e w' => e = .returned (.bool true) ∧ Kept (fun _ => False) w w'))
    (HF : Hid (∀ W, Kept (fun _ => False) w W → Calls Try.prog 10 #[.slice ad len cap] W fun e w' => e = .returned (.tuple #[.string ⟨#[]⟩, .iface 45 (.int .i64 (c : Int))]) ∧ Kept (fun _ => False) W w')) :
    Calls Try.prog 6 #[.slice ad len cap, .int .i64 cut, .string ⟨more.toArray⟩] w fun e w' => e = .returned (.bool true) ∧ Kept (fun _ => False) w w' := by
  go_enter Try.func6, Try.ntmps6
  go_wp2_with fail
  refine HE.out.mono ?_
  clear HE
  rintro e w1 ⟨rfl, hk1⟩
  have HK1 := Lib.hid hk1
  clear hk1
  go_wp2_with fail
  refine (HF.out _ HK1.out).mono ?_
  clear HF
  rintro e w2 ⟨rfl, hk2⟩
  have HK2 := Lib.hid (HK1.out.trans hk2 (fun _ h => h.elim))
  clear hk2 HK1
  go_wp2
  go_ret
  exact ⟨rfl, HK2.out⟩

set_option maxHeartbeats 4000000 in
theorem cuts_go (ad : Option Addr) (len cap : Nat) (cut : Int) (p n c : Nat) (a more : Txt) (e2 : Nat) (L2 : List MEnt) (w : World) (hp : AtP cut p) (hn : (a.length : Int) = (n : Int)) (hn0 : ¬(n : Int) = 0) (q2 : (p : Int).tmod (n : Int) = (c : Int)) (hc1 : (0 : Int) ≤ (c : Int)) (hc2 : (c : Int) ≤ (n : Int)) (hov : ¬9223372036854775807 < a.length + more.length) (hae : (a == []) = false)
    (hme : e2 = 3 ∨ (more == []) = true)
    (HE : Hid (Calls Try.prog 9 #[] w fun e w' => e = .returned (.bool true) ∧ Kept (fun _ => False) w w'))
    (HF : Hid (∀ W, Kept (fun _ => False) w W → Calls Try.prog 10 #[.slice ad len cap] W fun e w' => e = .returned (.tuple #[.string ⟨a.toArray⟩, .nilIface]) ∧ Kept (fun _ => False) W w'))
    (H1 : Hid (∀ W, Calls Try.prog 13 #[.string ⟨(a.take c).toArray⟩] W (DecK W ([], false))))
    (H2 : Hid (∀ W, Calls Try.prog 13 #[.string ⟨(a ++ more).toArray⟩] W fun e w' => ∃ v, e = .returned (.tuple #[v, errV 45 e2]) ∧ Kept (fun _ => False) W w')) :
    Calls Try.prog 6 #[.slice ad len cap, .int .i64 cut, .string ⟨more.toArray⟩] w fun e w' => e = .returned (.bool true) ∧ Kept (fun _ => False) w w' := by
  rcases hp with ⟨p1, p2, p3⟩ | ⟨rfl, p1⟩
  all_goals
    go_enter Try.func6, Try.ntmps6
    go_wp2_with fail
    refine HE.out.mono ?_
    clear HE
    rintro e w1 ⟨rfl, hk1⟩
    have HK1 := Lib.hid hk1
    clear hk1
    go_wp2_with fail
    refine (HF.out _ HK1.out).mono ?_
    clear HF
    rintro e w2 ⟨rfl, hk2⟩
    have HK2 := Lib.hid (HK1.out.trans hk2 (fun _ h => h.elim))
    clear hk2 HK1
    go_wp2_with fail
    refine (H1.out _).mono ?_
    clear H1
    rintro e w3 ⟨ad3, cap3, rfl, -, -, hk3⟩
    rw [show errV 45 (if (([], false) : List MEnt × Bool).2 = true then 0 else 3) = .iface 45 (.int .i64 3) from rfl, show (([], false) : List MEnt × Bool).1.length = 0 from rfl]
    have HK3 := Lib.hid (HK2.out.trans hk3 (fun _ h => h.elim))
    clear hk3 HK2
    go_wp2_with fail
    refine (H2.out _).mono ?_
    clear H2
    rintro e w4 ⟨v, rfl, hk4⟩
    have HK4 := Lib.hid (HK3.out.trans hk4 (fun _ h => h.elim))
    clear hk4 HK3
    rcases hme with rfl | hme
    · rw [show errV 45 3 = .iface 45 (.int .i64 3) from rfl]
      cases hme : (more == []) with
      | true =>
        go_wp2_with fail
        refine (is_33 _).mono ?_
        rintro e w5 ⟨rfl, hk5⟩
        have HK5 := Lib.hid (HK4.out.trans hk5 (fun _ h => h.elim))
        clear hk5 HK4
        go_wp2
        go_ret
        exact ⟨rfl, HK5.out⟩
      | false =>
        go_wp2_with fail
        refine (is_33 _).mono ?_
        rintro e w5 ⟨rfl, hk5⟩
        have HK5 := Lib.hid (HK4.out.trans hk5 (fun _ h => h.elim))
        clear hk5 HK4
        go_wp2_with fail
        refine (is_33 _).mono ?_
        rintro e w6 ⟨rfl, hk6⟩
        have HK6 := Lib.hid (HK5.out.trans hk6 (fun _ h => h.elim))
        clear hk6 HK5
        go_wp2
        go_ret
        exact ⟨rfl, HK6.out⟩
    · go_wp2_with fail
      refine (is_33 _).mono ?_
      rintro e w5 ⟨rfl, hk5⟩
      have HK5 := Lib.hid (HK4.out.trans hk5 (fun _ h => h.elim))
      clear hk5 HK4
      go_wp2
      go_ret
      exact ⟨rfl, HK5.out⟩

theorem cuts12 (K : BkK) (ad : Option Addr) (len cap : Nat) (l : List MEnt) (cut : Int) (more : Txt) (w : World) (h0 : EntsW w ad len l) (hl : (len : Int) * 48 ≤ 140737488351232) (hm : (more.length : Int) ≤ 140737488351232) (hf : -9223372036854775808 ≤ cut ∧ cut ≤ 9223372036854775807) :
    Calls Try.prog 6 #[.slice ad len cap, .int .i64 cut, .string ⟨more.toArray⟩] w fun e w' => e = .returned (.bool true) ∧ Kept (fun _ => False) w w' := by
  have HE := Lib.hid (examples12 K w)
  have HF := fun (W : World) (h : Kept (fun _ => False) w W) => K.encode W ad len cap l (ents_keptK h0 h) (by omega)
  obtain ⟨⟨a, c⟩, hac⟩ : ∃ x, x = encB l := ⟨_, rfl⟩
  rw [← hac] at HF
  rcases c with _ | c
  · obtain ⟨h1, h2⟩ := enc_len hac.symm
    obtain ⟨p, hp⟩ := at_p hf
    have hlt : p % a.length < a.length := Nat.mod_lt _ h1
    have hd1 := dec_cut hac.symm hlt
    refine cuts_go ad len cap cut p a.length (p % a.length) a more (if more = [] then 0 else 3) [] w hp rfl (by omega) (by rw [Int.tmod_eq_emod_of_nonneg (by omega)]; rfl) (by omega) (by omega) (by omega) ?_ ?_ HE (Lib.hid HF) (Lib.hid fun W => ?_) (Lib.hid fun W => ?_)
    · cases a with
      | nil => simp at h1
      | cons _ _ => rfl
    · cases more with
      | nil => exact .inr rfl
      | cons _ _ => exact .inl rfl
    · have := K.decode (a.take (p % a.length)) W (by rw [List.length_take]; omega)
      rw [hd1] at this
      exact this
    · have := K.decode (a ++ more) W (by rw [List.length_append]; omega)
      refine this.mono ?_
      rintro e w' ⟨ad', cap', rfl, _, _, hk⟩
      have e : (if (decB (a ++ more)).2 = true then 0 else 3) = (if more = [] then 0 else 3) := by
        by_cases h : more = []
        · subst h
          rw [List.append_nil, if_pos rfl, dec_iff.2 hac.symm, if_pos rfl]
        · rw [if_neg h, dec_more hac.symm h, if_neg (by simp)]
      rw [e]
      exact ⟨_, rfl, hk⟩
  · have ha : a = [] := by
      have := enc_bad (l := l) (by rw [← hac]; exact Nat.succ_ne_zero c)
      rw [← hac] at this; exact this
    subst ha
    exact cuts_bad ad len cap cut more w (c + 1) HE (Lib.hid HF)

end Go.Proofs.Ytbiifeahdinjjaa
