/- The law DefineTells (layer 18), walked over the contract of the program's definitions (printed by genta18.py). -/
import Derived.Test.YtgjblcjoglaldaaEx18
import Derived.Test.YtgjblcjoglaldaaRe18
namespace Go.Proofs.Ytgjblcjoglaldaa
open Go.RowKit Go.Proofs Go.Proofs.Pk
set_option maxRecDepth 10000
attribute [local simp] mk_get wrap64_u8 mk_extract ByteArray.mk_append_mk get_1k

set_option maxHeartbeats 8000000 in
theorem tells18 {N : Nat} (K : DfK N) (s : DTxt) (ad : Option Addr) (len cap : Nat) (d : DefV) (w : World) (hs : (s.length : Int) ≤ 140737488351232) (h0 : DefW w ad len cap d) :
    Calls Try.prog 3 #[.string ⟨s.toArray⟩, defC d.1 ad len cap] w fun e w' => e = .returned (.bool true) ∧ Kept (fun _ => False) w w' := by
  have HB := Lib.hid (DBox.new (Kept.refl _ w) h0)
  obtain ⟨nm, hnm⟩ : ∃ nm, Hid (nm = d.1) := ⟨_, rfl⟩
  obtain ⟨b1, hb1⟩ : ∃ b1, b1 = nameD s := ⟨_, rfl⟩
  obtain ⟨b2, hb2⟩ : ∃ b2, b2 = rightD d := ⟨_, rfl⟩
  obtain ⟨b3, hb3⟩ : ∃ b3, b3 = triesD d := ⟨_, rfl⟩
  have C1 := Lib.hid (fun W : World => K.name W s hs)
  have C2 := Lib.hid (fun W : World => rName18 s W hs)
  unfold defC
  rw [← hb1] at C1 C2
  rw [← hnm.out] at HB ⊢
  clear h0 hb1
  go_enter Try.func3, Try.ntmps3
  go_upto_region 1 with fail
  obtain ⟨g, hg⟩ : ∃ g, g = w.heap.size := ⟨_, rfl⟩
  rw [← hg] at HB ⊢
  change Code.wp _ _ _ _ (w.alloc (.cells #[.string ⟨nm.toArray⟩, .slice ad len cap] 24))
  generalize w.alloc (.cells #[.string ⟨nm.toArray⟩, .slice ad len cap] 24) = wa at HB ⊢
  clear hg
  have C3 := Lib.hid (fun (W : World) (h : DBox w W g ad len cap d) => K.right W ad len cap d h.df)
  have C4 := Lib.hid (fun (W : World) (h : DBox w W g ad len cap d) => rRight18 W ad len cap d h.df)
  have C5 := Lib.hid (fun (W : World) (h : DBox w W g ad len cap d) => K.tries W ad len cap d h.df)
  have C6 := Lib.hid (fun (W : World) (h : DBox w W g ad len cap d) => rTries18 W ad len cap d h.df)
  unfold defC at C3 C4 C5 C6
  rw [← hnm.out] at C3 C4 C5 C6
  rw [← hb2] at C3 C4
  rw [← hb3] at C5 C6
  clear hb2 hb3
  have HX := Lib.hid (examples18 K wa)
  go_wp2_with fail
  refine HX.out.mono ?_
  rintro e w1 ⟨rfl, hk⟩
  have HE := Lib.hid (HB.out.quiet (hk.trans ((Kept.refl (fun _ => False) w1).drewN 1) (fun _ f => f.elim)))
  clear hk HX HB
  go_upto_region 2 with fail
  refine wp_region_S (fun W => DBox w W g ad len cap d) 23 (by kernel_rfl) HE.out ?_
  clear HE
  refine wpAnyS_take (i := 0) (v := (.bool true)) (some 7) rfl rfl (by kernel_rfl) (by kernel_rfl) (by kernel_rfl) (by kernel_rfl) (fun _ _ _ h => h) (by kernel_rfl) (fun W hW => by go_simp) ?_
  refine wpAnyS_take (i := 1) (v := (.bool true)) (some 8) rfl rfl (by kernel_rfl) (by kernel_rfl) (by kernel_rfl) (by kernel_rfl) (fun _ _ _ h => h) (by kernel_rfl) (fun W hW => by go_simp) ?_
  refine wpAnyS_take (i := 2) (v := (.string ⟨s.toArray⟩)) (some 9) rfl rfl (by kernel_rfl) (by kernel_rfl) (by kernel_rfl) (by kernel_rfl) (fun _ _ _ h => h) (by kernel_rfl) (fun W hW => by go_simp) ?_
  refine wpAnyS_call (i := 3) (v := (.bool b1)) (f := 9) (args := #[.string ⟨s.toArray⟩]) (some 10) rfl rfl (by kernel_rfl) (by kernel_rfl) (by kernel_rfl) (by kernel_rfl) (fun _ _ _ h => h) (by kernel_rfl) (fun W _ => by kernel_rfl) (fun W hW => (C1.out W).mono fun e W2 h => ⟨h.1, hW.quiet h.2⟩) ?_
  refine wpAnyS_take (i := 4) (v := (.string ⟨s.toArray⟩)) (some 11) rfl rfl (by kernel_rfl) (by kernel_rfl) (by kernel_rfl) (by kernel_rfl) (fun _ _ _ h => h) (by kernel_rfl) (fun W hW => by go_simp) ?_
  refine wpAnyS_call (i := 5) (v := (.bool b1)) (f := 10) (args := #[.string ⟨s.toArray⟩]) (some 12) rfl rfl (by kernel_rfl) (by kernel_rfl) (by kernel_rfl) (by kernel_rfl) (fun _ _ _ h => h) (by kernel_rfl) (fun W _ => by kernel_rfl) (fun W hW => (C2.out W).mono fun e W2 h => ⟨h.1, hW.quiet h.2⟩) ?_
  refine wpAnyS_take (i := 6) (v := (.bool true)) (some 13) rfl rfl (by kernel_rfl) (by kernel_rfl) (by kernel_rfl) (by kernel_rfl) (fun _ _ _ h => h) (by kernel_rfl) (fun W hW => by go_simp) ?_
  refine wpAnyS_take (i := 7) (v := (.bool true)) (some 14) rfl rfl (by kernel_rfl) (by kernel_rfl) (by kernel_rfl) (by kernel_rfl) (fun _ _ _ h => h) (by kernel_rfl) (fun W hW => by go_simp) ?_
  refine wpAnyS_take (i := 8) (v := (.bool true)) (some 15) rfl rfl (by kernel_rfl) (by kernel_rfl) (by kernel_rfl) (by kernel_rfl) (fun _ _ _ h => h) (by kernel_rfl) (fun W hW => by go_simp) ?_
  refine wpAnyS_take (i := 9) (v := (.agg #[.string ⟨nm.toArray⟩, .slice ad len cap])) (some 16) rfl rfl (by kernel_rfl) (by kernel_rfl) (by kernel_rfl) (by kernel_rfl) (fun _ _ _ h => h) (by kernel_rfl) (fun W hW => by obtain ⟨d0, d1⟩ := hW.cells; rw [← hnm.out] at d0; go_simp) ?_
  refine wpAnyS_call (i := 10) (v := (.bool b2)) (f := 11) (args := #[(.agg #[.string ⟨nm.toArray⟩, .slice ad len cap])]) (some 17) rfl rfl (by kernel_rfl) (by kernel_rfl) (by kernel_rfl) (by kernel_rfl) (fun _ _ _ h => h) (by kernel_rfl) (fun W _ => by kernel_rfl) (fun W hW => (C3.out W hW).mono fun e W2 h => ⟨h.1, hW.quiet h.2⟩) ?_
  refine wpAnyS_take (i := 11) (v := (.agg #[.string ⟨nm.toArray⟩, .slice ad len cap])) (some 18) rfl rfl (by kernel_rfl) (by kernel_rfl) (by kernel_rfl) (by kernel_rfl) (fun _ _ _ h => h) (by kernel_rfl) (fun W hW => by obtain ⟨d0, d1⟩ := hW.cells; rw [← hnm.out] at d0; go_simp) ?_
  refine wpAnyS_call (i := 12) (v := (.bool b2)) (f := 12) (args := #[(.agg #[.string ⟨nm.toArray⟩, .slice ad len cap])]) (some 19) rfl rfl (by kernel_rfl) (by kernel_rfl) (by kernel_rfl) (by kernel_rfl) (fun _ _ _ h => h) (by kernel_rfl) (fun W _ => by kernel_rfl) (fun W hW => (C4.out W hW).mono fun e W2 h => ⟨h.1, hW.quiet h.2⟩) ?_
  refine wpAnyS_take (i := 13) (v := (.bool true)) (some 20) rfl rfl (by kernel_rfl) (by kernel_rfl) (by kernel_rfl) (by kernel_rfl) (fun _ _ _ h => h) (by kernel_rfl) (fun W hW => by go_simp) ?_
  refine wpAnyS_take (i := 14) (v := (.bool true)) (some 21) rfl rfl (by kernel_rfl) (by kernel_rfl) (by kernel_rfl) (by kernel_rfl) (fun _ _ _ h => h) (by kernel_rfl) (fun W hW => by go_simp) ?_
  refine wpAnyS_take (i := 15) (v := (.bool true)) (some 22) rfl rfl (by kernel_rfl) (by kernel_rfl) (by kernel_rfl) (by kernel_rfl) (fun _ _ _ h => h) (by kernel_rfl) (fun W hW => by go_simp) ?_
  refine wpAnyS_take (i := 16) (v := (.agg #[.string ⟨nm.toArray⟩, .slice ad len cap])) (some 23) rfl rfl (by kernel_rfl) (by kernel_rfl) (by kernel_rfl) (by kernel_rfl) (fun _ _ _ h => h) (by kernel_rfl) (fun W hW => by obtain ⟨d0, d1⟩ := hW.cells; rw [← hnm.out] at d0; go_simp) ?_
  refine wpAnyS_call (i := 17) (v := (.int .i64 b3)) (f := 13) (args := #[(.agg #[.string ⟨nm.toArray⟩, .slice ad len cap])]) (some 24) rfl rfl (by kernel_rfl) (by kernel_rfl) (by kernel_rfl) (by kernel_rfl) (fun _ _ _ h => h) (by kernel_rfl) (fun W _ => by kernel_rfl) (fun W hW => (C5.out W hW).mono fun e W2 h => ⟨h.1, hW.quiet h.2⟩) ?_
  refine wpAnyS_take (i := 18) (v := (.agg #[.string ⟨nm.toArray⟩, .slice ad len cap])) (some 25) rfl rfl (by kernel_rfl) (by kernel_rfl) (by kernel_rfl) (by kernel_rfl) (fun _ _ _ h => h) (by kernel_rfl) (fun W hW => by obtain ⟨d0, d1⟩ := hW.cells; rw [← hnm.out] at d0; go_simp) ?_
  refine wpAnyS_call (i := 19) (v := (.int .i64 b3)) (f := 14) (args := #[(.agg #[.string ⟨nm.toArray⟩, .slice ad len cap])]) (some 26) rfl rfl (by kernel_rfl) (by kernel_rfl) (by kernel_rfl) (by kernel_rfl) (fun _ _ _ h => h) (by kernel_rfl) (fun W _ => by kernel_rfl) (fun W hW => (C6.out W hW).mono fun e W2 h => ⟨h.1, hW.quiet h.2⟩) ?_
  refine wpAnyS_take (i := 20) (v := (.bool true)) (some 27) rfl rfl (by kernel_rfl) (by kernel_rfl) (by kernel_rfl) (by kernel_rfl) (fun _ _ _ h => h) (by kernel_rfl) (fun W hW => by go_simp) ?_
  refine wpAnyS_take (i := 21) (v := (.bool true)) (some 28) rfl rfl (by kernel_rfl) (by kernel_rfl) (by kernel_rfl) (by kernel_rfl) (fun _ _ _ h => h) (by kernel_rfl) (fun W hW => by go_simp) ?_
  refine wpAnyS_take (i := 22) (v := (.bool true)) (some 4) rfl rfl (by kernel_rfl) (by kernel_rfl) (by kernel_rfl) (by kernel_rfl) (fun _ _ _ h => h) (by kernel_rfl) (fun W hW => by go_simp) ?_
  refine wpAnyS_done (by kernel_rfl) (fun W hW => ?_) _
  have HK := Lib.hid hW.kept
  clear hW
  simp only [put_none, put_lit, List.set_cons_succ, List.set_cons_zero]
  go_wp2
  go_ret
  exact ⟨rfl, HK.out⟩

end Go.Proofs.Ytgjblcjoglaldaa
