/- Layer 14's landed program: its reader: fail, number, text, table, numbers. -/
import Derived.Test.YtjdolimeibpacaaGreatVpM
import Derived.Test.YtjdolimeibpacaaGreatOw14
import Derived.Test.YtjdolimeibpacaaGreatPackT
import Derived.Laws.ResultCell
namespace Go.Proofs.YtjdolimeibpacaaGreat
open Go.RowKit Go.Proofs Go.Proofs.Pk
set_option maxRecDepth 10000

/-- A reader: what is left, whether it failed. -/
def RdP (w : World) (p : Nat) (o : Option VTxt) : Prop := Holds w p [.string ⟨(restO o).toArray⟩, .bool o.isNone] 66
theorem RdP.kept {w w' : World} {p : Nat} {o : Option VTxt} {X : Nat → Prop} (h : RdP w p o) (hk : Kept X w w') (hx : ¬X p) : RdP w' p o := Holds.of_block h (hk.block p (Holds.lt h) hx)

theorem fail14 (p : Nat) (o : Option VTxt) (w : World) (h : RdP w p o) : Calls Tryz.prog 54 #[.pointer (some ⟨p, 0, none⟩)] w fun e w' => e = .returned (.tuple #[]) ∧ RdP w' p none ∧ Kept (fun k => k = p) w w' := by
  have c0 := Holds.cell h 0 _ rfl
  have f0 := Holds.free h 0
  have c1 := Holds.cell h 1 _ rfl
  have f1 := Holds.free h 1
  have HN : Hid (RdP ((w.setCell ⟨p, 0, none⟩ (.string ⟨#[]⟩)).setCell ⟨p, 1, none⟩ (.bool true)) p none ∧ Kept (fun k => k = p) w ((w.setCell ⟨p, 0, none⟩ (.string ⟨#[]⟩)).setCell ⟨p, 1, none⟩ (.bool true))) :=
    Lib.hid ⟨(Holds.set h 0 (.string ⟨#[]⟩)).set 1 (.bool true), ((Kept.refl (fun k => k = p) w).setCell (p := ⟨p, 0, none⟩) rfl _).setCell (p := ⟨p, 1, none⟩) rfl _⟩
  clear h
  go_enter Tryz.func54, Tryz.ntmps54
  go_wp2
  exact ⟨rfl, _, (by kernel_rfl), rfl, HN.out⟩

set_option maxHeartbeats 2000000 in
theorem num14 (p : Nat) (o : Option VTxt) (most : Nat) (w : World) (hb : (restO o).length ≤ maxLen) (h : RdP w p o) :
    Calls Tryz.prog 24 #[.pointer (some ⟨p, 0, none⟩), .int .i64 (most : Int)] w fun e w' => e = .returned (.int .i64 (numP most o).1) ∧ RdP w' p (numP most o).2 ∧ Kept (fun k => k = p) w w' := by
  have hR := pRead (restO o) w hb
  have c0 := Holds.cell h 0 _ rfl
  have HH := Lib.hid h
  have hon : o.isNone = true → (rdNum (restO o)).2.2 ≠ 0 := by intro h; cases o with | none => simp [restO, rdNum] | some b => cases h
  obtain ⟨z, hz⟩ : ∃ z, z = numP most o := ⟨_, rfl⟩
  unfold numP at hz
  rw [show numP most o = z from by rw [hz]; rfl]
  obtain ⟨⟨n, rest, c⟩, hr⟩ : ∃ r, r = rdNum (restO o) := ⟨_, rfl⟩
  rw [← hr] at hR hz hon
  simp only at hR hz hon
  have HR := Lib.hid hR
  clear hR hr hb h
  by_cases hc : c = 0
  · subst hc
    rw [errV_zero] at HR
    by_cases hm : most < n
    · rw [if_pos (.inr hm)] at hz
      subst hz
      have nN : (most : Int) < (n : Int) := by omega
      clear hon hm
      go_enter Tryz.func24, Tryz.ntmps24
      go_wp2_with fail
      refine HR.out.mono ?_
      clear HR
      rintro e w2 ⟨rfl, hb2⟩
      have hk2 := Kept.of_below (fun _ => False) hb2
      have HF := Lib.hid (fail14 p o w2 (HH.out.kept hk2 (fun f => f)))
      have HK := Lib.hid hk2
      clear hb2 hk2 c0
      go_wp2_with fail
      refine HF.out.mono ?_
      clear HF
      rintro e w3 ⟨rfl, hr3, hk3⟩
      have HE := Lib.hid (And.intro hr3 ((HK.out.mono (fun _ f => f.elim)).trans hk3 (fun k h => .inl h)))
      clear hr3 hk3 HK
      go_wp2
      go_ret
      exact ⟨rfl, HE.out⟩
    · rw [if_neg (by omega)] at hz
      subst hz
      have nN : ¬(most : Int) < (n : Int) := by omega
      have hsome : o.isNone = false := by
        cases ho : o.isNone with
        | false => rfl
        | true => exact absurd rfl (hon ho)
      clear hon hm
      go_enter Tryz.func24, Tryz.ntmps24
      go_wp2_with fail
      refine HR.out.mono ?_
      clear HR
      rintro e w2 ⟨rfl, hb2⟩
      have h2 := HH.out.kept (Kept.of_below (fun _ => False) hb2) (fun f => f)
      have c2 := Holds.cell h2 0 _ rfl
      have f2 := Holds.free h2 0
      have HN : Hid (RdP (w2.setCell ⟨p, 0, none⟩ (.string ⟨rest.toArray⟩)) p (some rest) ∧ Kept (fun k => k = p) w (w2.setCell ⟨p, 0, none⟩ (.string ⟨rest.toArray⟩))) :=
        Lib.hid ⟨by have := Holds.set h2 0 (.string ⟨rest.toArray⟩); rw [hsome] at this; exact this, Kept.setCell (X := fun k => k = p) (Kept.of_below _ hb2) (p := ⟨p, 0, none⟩) rfl _⟩
      clear hb2 h2 c0
      go_wp2
      go_ret
      exact ⟨rfl, HN.out⟩
  · rw [if_pos (.inl hc)] at hz
    subst hz
    have hcb : ((c : Int) == 0) = false := by rw [beq_eq_false_iff_ne]; omega
    obtain ⟨c, rfl⟩ : ∃ c', c = c' + 1 := ⟨c - 1, by omega⟩
    clear hon hc
    rw [errV_succ] at HR
    go_enter Tryz.func24, Tryz.ntmps24
    go_wp2_with fail
    refine HR.out.mono ?_
    clear HR
    rintro e w2 ⟨rfl, hb2⟩
    have hk2 := Kept.of_below (fun _ => False) hb2
    have HF := Lib.hid (fail14 p o w2 (HH.out.kept hk2 (fun f => f)))
    have HK := Lib.hid hk2
    clear hb2 hk2 c0
    go_wp2_with fail
    refine HF.out.mono ?_
    clear HF
    rintro e w3 ⟨rfl, hr3, hk3⟩
    have HE := Lib.hid (And.intro hr3 ((HK.out.mono (fun _ f => f.elim)).trans hk3 (fun k h => .inl h)))
    clear hr3 hk3 HK
    go_wp2
    go_ret
    exact ⟨rfl, HE.out⟩

set_option maxHeartbeats 2000000 in
theorem txt14 (p : Nat) (o : Option VTxt) (w : World) (hb : (restO o).length ≤ maxLen) (h : RdP w p o) :
    Calls Tryz.prog 55 #[.pointer (some ⟨p, 0, none⟩)] w fun e w' => e = .returned (.string ⟨(txtP o).1.toArray⟩) ∧ RdP w' p (txtP o).2 ∧ Kept (fun k => k = p) w w' := by
  have hR := pReadText (restO o) w hb
  have c0 := Holds.cell h 0 _ rfl
  have HH := Lib.hid h
  have hon : o.isNone = true → (rdTxt (restO o)).2.2 ≠ 0 := by intro h; cases o with | none => simp [restO, rdTxt, rdNum] | some b => cases h
  obtain ⟨z, hz⟩ : ∃ z, z = txtP o := ⟨_, rfl⟩
  unfold txtP at hz
  rw [show txtP o = z from by rw [hz]; rfl]
  obtain ⟨⟨n, rest, c⟩, hr⟩ : ∃ r, r = rdTxt (restO o) := ⟨_, rfl⟩
  rw [← hr] at hR hz hon
  simp only at hR hz hon
  have HR := Lib.hid hR
  clear hR hr hb h
  by_cases hc : c = 0
  · subst hc
    rw [errV_zero] at HR
    rw [if_neg (by simp)] at hz
    subst hz
    have hsome : o.isNone = false := by
      cases ho : o.isNone with
      | false => rfl
      | true => exact absurd rfl (hon ho)
    clear hon
    go_enter Tryz.func55, Tryz.ntmps55
    go_wp2_with fail
    refine HR.out.mono ?_
    clear HR
    rintro e w2 ⟨rfl, hb2⟩
    have h2 := HH.out.kept (Kept.of_below (fun _ => False) hb2) (fun f => f)
    have c2 := Holds.cell h2 0 _ rfl
    have f2 := Holds.free h2 0
    have HN : Hid (RdP (w2.setCell ⟨p, 0, none⟩ (.string ⟨rest.toArray⟩)) p (some rest) ∧ Kept (fun k => k = p) w (w2.setCell ⟨p, 0, none⟩ (.string ⟨rest.toArray⟩))) :=
      Lib.hid ⟨by have := Holds.set h2 0 (.string ⟨rest.toArray⟩); rw [hsome] at this; exact this, Kept.setCell (X := fun k => k = p) (Kept.of_below _ hb2) (p := ⟨p, 0, none⟩) rfl _⟩
    clear hb2 h2 c0
    go_wp2
    go_ret
    exact ⟨rfl, HN.out⟩
  · rw [if_pos hc] at hz
    subst hz
    obtain ⟨c, rfl⟩ : ∃ c', c = c' + 1 := ⟨c - 1, by omega⟩
    clear hon hc
    rw [errV_succ] at HR
    go_enter Tryz.func55, Tryz.ntmps55
    go_wp2_with fail
    refine HR.out.mono ?_
    clear HR
    rintro e w2 ⟨rfl, hb2⟩
    have hk2 := Kept.of_below (fun _ => False) hb2
    have HF := Lib.hid (fail14 p o w2 (HH.out.kept hk2 (fun f => f)))
    have HK := Lib.hid hk2
    clear hb2 hk2 c0
    go_wp2_with fail
    refine HF.out.mono ?_
    clear HF
    rintro e w3 ⟨rfl, hr3, hk3⟩
    have HE := Lib.hid (And.intro hr3 ((HK.out.mono (fun _ f => f.elim)).trans hk3 (fun k h => .inl h)))
    clear hr3 hk3 HK
    go_wp2
    go_ret
    exact ⟨rfl, HE.out⟩

end Go.Proofs.YtjdolimeibpacaaGreat
