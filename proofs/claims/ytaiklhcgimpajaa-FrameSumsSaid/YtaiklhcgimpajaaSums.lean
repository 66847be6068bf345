/- The law FrameSums, walked. -/
import Derived.Test.YtaiklhcgimpajaaEx3
import Derived.Deep.QuietTactic
import Derived.BigQuiet
import Derived.Deep.RegionWith
namespace Go.Proofs.Ytaiklhcgimpajaa
open Go.RowKit Go.Proofs Go.Proofs.Pk
set_option maxRecDepth 10000
attribute [local simp] mk_get wrap64_u8 mk_extract ByteArray.mk_append_mk get_1k

set_option maxHeartbeats 1000000 in
theorem sums_main (a b x : List UInt8) (n : Nat) (f : List UInt8 → Nat) (w : World) (ha : (a.length : Int) ≤ 140737488351232) (_hb : (b.length : Int) ≤ 140737488351232) (hx : (x.length : Int) ≤ 140737488351232)
    (hn : (n : Int) = min (a.length : Int) b.length)
    (hS : ∀ l w, (l.length : Int) ≤ 281474976710656 → Calls Try.prog 12 #[.string ⟨l.toArray⟩] w fun e w' => e = .returned (.int .u32 (f l)) ∧ Below w.heap.size w w')
    (he : ((f (a.take n ++ x) : Int) == f (b.take n ++ x)) = ((f (a.take n) : Int) == f (b.take n))) :
    Calls Try.prog 8 #[.string ⟨a.toArray⟩, .string ⟨b.toArray⟩, .string ⟨x.toArray⟩] w fun e w' => e = .returned (.bool true) ∧ Below w.heap.size w w' := by
  have HS := Lib.hid hS; clear hS
  have HE := Lib.hid he; clear he
  have HN := Lib.hid hn
  have hna : (n : Int) ≤ a.length := by omega
  have hnb : (n : Int) ≤ b.length := by omega
  clear hn
  go_enter Try.func8, Try.ntmps8
  go_wp2_with fail
  refine (examples_any _).mono ?_
  rintro e w1 ⟨rfl, B⟩
  go_wp2_with fail
  rw [← HN.out]
  go_region_with (go_at_call 12; refine (HS.out _ _ (by simp; omega)).mono ?_; rintro e wn ⟨rfl, cn⟩; have B : Below w.heap.size w wn := (by first | exact belowT B cn | exact belowD B cn); clear cn)
  go_wp2
  have hAl : ((a.take n).length : Int) ≤ 140737488351232 := by rw [List.length_take]; omega
  have hBl : ((b.take n).length : Int) ≤ 140737488351232 := by rw [List.length_take]; omega
  obtain ⟨A, hA⟩ : ∃ A, A = a.take n := ⟨_, rfl⟩
  obtain ⟨D, hD⟩ : ∃ D, D = b.take n := ⟨_, rfl⟩
  rw [← hA] at hAl HE
  rw [← hD] at hBl HE
  rw [← hA, ← hD]
  have hA' := hA.symm
  have hD' := hD.symm
  have hs1 : ¬9223372036854775807 < A.length + x.length := by omega
  have hs2 : ¬9223372036854775807 < D.length + x.length := by omega
  clear hA hD HN
  refine wp_region_any (by kernel_rfl) ?_
  change wpAny _ _ _ _ _ _ _ (World.drew _)
  refine wpAny_take (i := 0) (v := ?_) rfl (by kernel_rfl) (by kernel_rfl) (by kernel_rfl) (fun _ _ _ h => h) (Or.inl ⟨by kernel_rfl, ?_⟩) ?_
  rotate_left
  · intro w; go_simp; try with_reducible rfl
  refine wpAny_take (i := 1) (v := ?_) rfl (by kernel_rfl) (by kernel_rfl) (by kernel_rfl) (fun _ _ _ h => h) (Or.inl ⟨by kernel_rfl, ?_⟩) ?_
  rotate_left
  · intro w; go_simp; try with_reducible rfl
  refine wpAny_take (i := 2) (v := ?_) rfl (by kernel_rfl) (by kernel_rfl) (by kernel_rfl) (fun _ _ _ h => h) (Or.inl ⟨by kernel_rfl, ?_⟩) ?_
  rotate_left
  · intro w; go_simp; try with_reducible rfl
  refine wpAny_take (i := 3) (v := ?_) rfl (by kernel_rfl) (by kernel_rfl) (by kernel_rfl) (fun _ _ _ h => h) (Or.inl ⟨by kernel_rfl, ?_⟩) ?_
  rotate_left
  · intro w; go_simp; try with_reducible rfl
  refine wpAny_take (i := 4) (v := ?_) rfl (by kernel_rfl) (by kernel_rfl) (by kernel_rfl) (fun _ _ _ h => h) (Or.inl ⟨by kernel_rfl, ?_⟩) ?_
  rotate_left
  · intro w; go_simp; try with_reducible rfl
  refine wpAny_take (i := 5) (v := ?_) rfl (by kernel_rfl) (by kernel_rfl) (by kernel_rfl) (fun _ _ _ h => h) (Or.inl ⟨by kernel_rfl, ?_⟩) ?_
  rotate_left
  · intro w; go_simp; try with_reducible rfl
  refine wpAny_take (i := 6) (v := ?_) rfl (by kernel_rfl) (by kernel_rfl) (by kernel_rfl) (fun _ _ _ h => h) (Or.inl ⟨by kernel_rfl, ?_⟩) ?_
  rotate_left
  · intro w; go_simp; try with_reducible rfl
  refine wpAny_take (i := 8) (v := ?_) rfl (by kernel_rfl) (by kernel_rfl) (by kernel_rfl) (fun _ _ _ h => h) (Or.inl ⟨by kernel_rfl, ?_⟩) ?_
  rotate_left
  · intro w; go_simp; try with_reducible rfl
  refine wpAny_take (i := 9) (v := ?_) rfl (by kernel_rfl) (by kernel_rfl) (by kernel_rfl) (fun _ _ _ h => h) (Or.inl ⟨by kernel_rfl, ?_⟩) ?_
  rotate_left
  · intro w; go_simp; try with_reducible rfl
  refine wpAny_take (i := 10) (v := ?_) rfl (by kernel_rfl) (by kernel_rfl) (by kernel_rfl) (fun _ _ _ h => h) (Or.inl ⟨by kernel_rfl, ?_⟩) ?_
  rotate_left
  · intro w; go_simp; try with_reducible rfl
  refine wpAny_take (i := 11) (v := ?_) rfl (by kernel_rfl) (by kernel_rfl) (by kernel_rfl) (fun _ _ _ h => h) (Or.inl ⟨by kernel_rfl, ?_⟩) ?_
  rotate_left
  · intro w; go_simp; try with_reducible rfl
  refine wpAny_take (i := 12) (v := ?_) rfl (by kernel_rfl) (by kernel_rfl) (by kernel_rfl) (fun _ _ _ h => h) (Or.inl ⟨by kernel_rfl, ?_⟩) ?_
  rotate_left
  · intro w; go_simp; try with_reducible rfl
  refine wpAny_take (i := 15) (v := ?_) rfl (by kernel_rfl) (by kernel_rfl) (by kernel_rfl) (fun _ _ _ h => h) (Or.inl ⟨by kernel_rfl, ?_⟩) ?_
  rotate_left
  · intro w; go_simp; try with_reducible rfl
  refine wpAny_ready (rs := [7]) (by kernel_rfl) (by simp) ?_
  refine AllReady.cons rfl (fun K hK => ?_) AllReady.nil
  go_simp
  go_wp2_with (go_at_call 12; refine (HS.out _ _ (by simp; omega)).mono ?_; rintro e wn ⟨rfl, cn⟩; have B : Below w.heap.size w wn := (by first | exact belowT B cn | exact belowD B cn); clear cn)
  refine wpAny_ready (rs := [13]) (by kernel_rfl) (by simp) ?_
  refine AllReady.cons rfl (fun K hK => ?_) AllReady.nil
  go_simp
  go_wp2_with (go_at_call 12; refine (HS.out _ _ (by simp; omega)).mono ?_; rintro e wn ⟨rfl, cn⟩; have B : Below w.heap.size w wn := (by first | exact belowT B cn | exact belowD B cn); clear cn)
  refine wpAny_take (i := 14) (v := ?_) rfl (by kernel_rfl) (by kernel_rfl) (by kernel_rfl) (fun _ _ _ h => h) (Or.inl ⟨by kernel_rfl, ?_⟩) ?_
  rotate_left
  · intro w; go_simp; try with_reducible rfl
  refine wpAny_take (i := 16) (v := ?_) rfl (by kernel_rfl) (by kernel_rfl) (by kernel_rfl) (fun _ _ _ h => h) (Or.inl ⟨by kernel_rfl, ?_⟩) ?_
  rotate_left
  · intro w; go_simp; try with_reducible rfl
  refine wpAny_take (i := 17) (v := ?_) rfl (by kernel_rfl) (by kernel_rfl) (by kernel_rfl) (fun _ _ _ h => h) (Or.inl ⟨by kernel_rfl, ?_⟩) ?_
  rotate_left
  · intro w; go_simp; try with_reducible rfl
  refine wpAny_take (i := 18) (v := ?_) rfl (by kernel_rfl) (by kernel_rfl) (by kernel_rfl) (fun _ _ _ h => h) (Or.inl ⟨by kernel_rfl, ?_⟩) ?_
  rotate_left
  · intro w; go_simp; try with_reducible rfl
  refine wpAny_done (by kernel_rfl) ?_ _
  go_wp2
  go_ret
  exact ⟨ret_bool (by rw [HE.out]; simp), B⟩

theorem sums (a b x : List UInt8) (w : World) (ha : (a.length : Int) ≤ 140737488351232) (hb : (b.length : Int) ≤ 140737488351232) (hx : (x.length : Int) ≤ 140737488351232) :
    Calls Try.prog 8 #[.string ⟨a.toArray⟩, .string ⟨b.toArray⟩, .string ⟨x.toArray⟩] w fun e w' => e = .returned (.bool true) ∧ Below w.heap.size w w' := by
  refine sums_main a b x (min a.length b.length) crcSum w ha hb hx (by omega) (fun l w h => fSum l w h) ?_
  rw [int_beq, int_beq, Bool.eq_iff_iff, beq_iff_eq, beq_iff_eq]
  exact crcSum_behind _ _ _

end Go.Proofs.Ytaiklhcgimpajaa
