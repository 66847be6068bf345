/- Layer 18's landed program: Decode's closure, which reads a number of what is left. -/
import Derived.Test.YtgjblcjoglaldaaPackT
import Derived.Test.YtgjblcjoglaldaaDfP
import Derived.Test.YtgjblcjoglaldaaPb18
import Derived.Test.YtgjblcjoglaldaaDfK
import Derived.Test.YtgjblcjoglaldaaOrd
import Derived.Test.YtgjblcjoglaldaaOrd2
import Derived.ScopeJumps
import Derived.WalkMore
namespace Go.Proofs.Ytgjblcjoglaldaa
open Go.RowKit Go.Proofs Go.Proofs.Pk
set_option maxRecDepth 10000
attribute [local simp] mk_get wrap64_u8 mk_extract ByteArray.mk_append_mk get_1k

/-- The boxes of what is left and of the error: behind an error nothing is said of what is left. -/
def RB (W : World) (gr ge : Nat) : Option DTxt → Prop
  | some b => Holds W gr [.string ⟨b.toArray⟩] 9 ∧ Holds W ge [.nilIface] 31
  | none => ∃ (r : DTxt) (c : Int), Holds W gr [.string ⟨r.toArray⟩] 9 ∧ Holds W ge [.iface 49 (.int .i64 c)] 31
theorem RB.kept {W W' : World} {gr ge : Nat} {o : Option DTxt} {X : Nat → Prop} (h : RB W gr ge o) (hk : Kept X W W') (h1 : ¬X gr) (h2 : ¬X ge) : RB W' gr ge o := by
  cases o with
  | some b => exact ⟨h.1.of_block (hk.block _ h.1.lt h1), h.2.of_block (hk.block _ h.2.lt h2)⟩
  | none => obtain ⟨r, c, a, b⟩ := h; exact ⟨r, c, a.of_block (hk.block _ a.lt h1), b.of_block (hk.block _ b.lt h2)⟩
theorem RB.lt {W : World} {gr ge : Nat} {o : Option DTxt} (h : RB W gr ge o) : gr < W.heap.size ∧ ge < W.heap.size := by
  cases o with
  | some b => exact ⟨h.1.lt, h.2.lt⟩
  | none => obtain ⟨r, c, a, b⟩ := h; exact ⟨a.lt, b.lt⟩

set_option maxHeartbeats 4000000 in
theorem num18 (gr ge : Nat) (o : Option DTxt) (w : World) (hb : lenO o ≤ maxLen) (hne : ¬gr = ge) (h : RB w gr ge o) :
    Calls Try.prog 33 #[.pointer (some ⟨ge, 0, none⟩), .pointer (some ⟨gr, 0, none⟩)] w fun e w' => e = .returned (.int .i64 (nuO o).1) ∧ RB w' gr ge (nuO o).2 ∧ Kept (fun k => k = gr ∨ k = ge) w w' := by
  have hne' : ¬ge = gr := fun e => hne e.symm
  have hk0 : Hid (Kept (fun k => k = gr ∨ k = ge) w w) := Kept.refl _ w
  cases o with
  | none =>
    have H := Lib.hid h
    obtain ⟨r, c, h1, h2⟩ := h
    have c0 := Holds.cell h2 0 _ rfl
    clear h1 h2
    go_enter Try.func33, Try.ntmps33
    go_wp2
    go_ret
    exact ⟨rfl, H.out, hk0.out⟩
  | some b =>
    have hR := pRead b w hb
    have c0 := Holds.cell h.1 0 _ rfl
    have c1 := Holds.cell h.2 0 _ rfl
    have HH := Lib.hid h
    unfold nuO
    simp only
    obtain ⟨⟨n, rest, c⟩, hr⟩ : ∃ r, r = rdNum b := ⟨_, rfl⟩
    rw [← hr] at hR ⊢
    simp only at hR ⊢
    have HR := Lib.hid hR
    clear hR hr hb h
    by_cases hc : c = 0
    · subst hc
      rw [errV_zero] at HR
      rw [if_pos rfl]
      go_enter Try.func33, Try.ntmps33
      go_wp2_with fail
      refine HR.out.mono ?_
      clear HR
      rintro e w2 ⟨rfl, hb2⟩
      have hk2 : Kept (fun _ => False) w w2 := Kept.of_below (fun _ => False) hb2
      have h1 := HH.out.1.of_block (hk2.block _ HH.out.1.lt (fun f => f))
      have h2 := HH.out.2.of_block (hk2.block _ HH.out.2.lt (fun f => f))
      have d0 := Holds.cell h1 0 _ rfl
      have d1 := Holds.cell h2 0 _ rfl
      have f0 := Holds.free h1 0
      have f1 := Holds.free h2 0
      have HN : Hid (RB ((w2.setCell ⟨gr, 0, none⟩ (.string ⟨rest.toArray⟩)).setCell ⟨ge, 0, none⟩ .nilIface) gr ge (some rest) ∧ Kept (fun k => k = gr ∨ k = ge) w ((w2.setCell ⟨gr, 0, none⟩ (.string ⟨rest.toArray⟩)).setCell ⟨ge, 0, none⟩ .nilIface)) :=
        Lib.hid ⟨⟨(h1.set 0 (.string ⟨rest.toArray⟩)).ne hne _ _, (h2.ne hne' _ _).set 0 .nilIface⟩, ((Kept.of_below _ hb2).setCell (p := ⟨gr, 0, none⟩) (.inl rfl) _).setCell (p := ⟨ge, 0, none⟩) (.inr rfl) _⟩
      clear hb2 hk2 h1 h2 c0 c1 HH
      go_wp2
      go_ret
      exact ⟨rfl, HN.out⟩
    · obtain ⟨c, rfl⟩ : ∃ c', c = c' + 1 := ⟨c - 1, by omega⟩
      rw [errV_succ] at HR
      rw [if_neg hc]
      clear hc
      go_enter Try.func33, Try.ntmps33
      go_wp2_with fail
      refine HR.out.mono ?_
      clear HR
      rintro e w2 ⟨rfl, hb2⟩
      have hk2 : Kept (fun _ => False) w w2 := Kept.of_below (fun _ => False) hb2
      have h1 := HH.out.1.of_block (hk2.block _ HH.out.1.lt (fun f => f))
      have h2 := HH.out.2.of_block (hk2.block _ HH.out.2.lt (fun f => f))
      have d0 := Holds.cell h1 0 _ rfl
      have d1 := Holds.cell h2 0 _ rfl
      have f0 := Holds.free h1 0
      have f1 := Holds.free h2 0
      have HN : Hid (RB ((w2.setCell ⟨gr, 0, none⟩ (.string ⟨rest.toArray⟩)).setCell ⟨ge, 0, none⟩ (.iface 49 (.int .i64 ((c : Int) + 1)))) gr ge none ∧ Kept (fun k => k = gr ∨ k = ge) w ((w2.setCell ⟨gr, 0, none⟩ (.string ⟨rest.toArray⟩)).setCell ⟨ge, 0, none⟩ (.iface 49 (.int .i64 ((c : Int) + 1))))) :=
        Lib.hid ⟨⟨rest, _, (h1.set 0 (.string ⟨rest.toArray⟩)).ne hne _ _, (h2.ne hne' _ _).set 0 (.iface 49 (.int .i64 ((c : Int) + 1)))⟩, ((Kept.of_below _ hb2).setCell (p := ⟨gr, 0, none⟩) (.inl rfl) _).setCell (p := ⟨ge, 0, none⟩) (.inr rfl) _⟩
      clear hb2 hk2 h1 h2 c0 c1 HH
      go_wp2
      go_ret
      exact ⟨rfl, HN.out⟩

end Go.Proofs.Ytgjblcjoglaldaa
