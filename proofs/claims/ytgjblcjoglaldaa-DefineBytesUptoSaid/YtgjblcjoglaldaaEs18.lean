/- The law's own comparison of definitions, of what is the same (layer 18). -/
import Derived.Test.YtgjblcjoglaldaaDfK
import Derived.BigQuiet
import Derived.Deep.Cut
namespace Go.Proofs.Ytgjblcjoglaldaa
open Go.RowKit Go.Proofs Go.Proofs.Pk
set_option maxRecDepth 10000
attribute [local simp] mk_get wrap64_u8 mk_extract ByteArray.mk_append_mk get_1k

set_option maxHeartbeats 4000000 in
/-- Two definitions that read the same are the same. -/
theorem defsSame (w : World) (ad ae : Option Addr) (len ca le cb : Nat) (d : DefV) (h1 : DefW w ad len ca d) (h2 : DefW w ae le cb d) :
    Calls Try.prog 19 #[defC d.1 ad len ca, defC d.1 ae le cb] w fun r w' => r = .returned (.bool true) ∧ Kept (fun _ => False) w w' := by
  obtain rfl : len = le := h1.1.1.symm.trans h2.1.1
  have hlen := h1.1.1
  have hl : (len : Int) ≤ 140737488351232 := by have := h1.2.1.2.2.1; omega
  have HB := Lib.hid (DBox.new (Kept.refl _ w) h1)
  have hB2 := DBox.new HB.out.kept (h2.kept HB.out.kept)
  have HB2 := Lib.hid (And.intro (HB.out.quiet ((Kept.refl _ _).alloc (.cells #[.string ⟨d.1.toArray⟩, .slice ae len cb] 24))) hB2)
  have e1 : (w.alloc (.cells #[.string ⟨d.1.toArray⟩, .slice ad len ca] 24)).heap.size = w.heap.size + 1 := Array.size_push _
  rw [e1] at HB2
  obtain ⟨nm, hnm⟩ : ∃ nm, Hid (nm = d.1) := ⟨_, rfl⟩
  unfold defC
  rw [← hnm.out] at HB2 ⊢
  clear h1 h2 HB e1 hB2
  go_enter Try.func19, Try.ntmps19
  go_upto_region 1 with fail
  obtain ⟨h, hh⟩ : ∃ h, h = w.heap.size + 1 := ⟨_, rfl⟩
  obtain ⟨g, hg⟩ : ∃ g, g = w.heap.size := ⟨_, rfl⟩
  rw [← hh, ← hg] at HB2
  change Code.wp _ _ _ _ ((w.alloc (.cells #[.string ⟨nm.toArray⟩, .slice ad len ca] 24)).alloc (.cells #[.string ⟨nm.toArray⟩, .slice ae len cb] 24))
  generalize (w.alloc (.cells #[.string ⟨nm.toArray⟩, .slice ad len ca] 24)).alloc (.cells #[.string ⟨nm.toArray⟩, .slice ae len cb] 24) = wa at HB2 ⊢
  rw [← hh, ← hg]
  clear hh hg
  obtain ⟨a0, a1⟩ := HB2.out.1.cells
  obtain ⟨b0, b1⟩ := HB2.out.2.cells
  rw [← hnm.out] at a0 b0
  go_wp2
  clear a0 a1 b0 b1
  go_loopw [5] (fun i wr => ∃ j : Nat, j ≤ len ∧ i = .int .i64 (j : Int) ∧ Hid (DBox w wr g ad len ca d ∧ DBox w wr h ae len cb d)) (fun i _ => len - (intOf i).toNat)
  case atStart => exact ⟨0, Nat.zero_le _, rfl, HB2⟩
  case round =>
    obtain ⟨j, hj, rfl, hK⟩ := hrel
    clear HB2
    obtain ⟨a0, a1⟩ := hK.out.1.cells
    obtain ⟨b0, b1⟩ := hK.out.2.cells
    clear a0 b0
    have j0 : (0 : Int) ≤ (j : Int) := by omega
    have hwj : IntKind.i64.wrap ((j : Int) + 1) = (j : Int) + 1 := IntWalk.i64_in _ (by omega)
    by_cases hlt : j < len
    · have hjT : j < d.2.length := by omega
      obtain ⟨k, ok, rfl, hg, d0, d1, fx⟩ := hK.out.1.df.1.at j hjT
      obtain ⟨k2, ok2, rfl, hg2, e0, e1, fy⟩ := hK.out.2.df.1.at j hjT
      have jN : (j : Int) < (len : Int) := by omega
      clear fx fy
      generalize d.2[j] = x at d0 d1 e0 e1
      clear hjT
      go_wp2
      go_quiet (fail)
      go_wp2
      go_roundw
      case rel => exact ⟨j + 1, hlt, by first | rfl | go_num, hK.out.1.quiet ((Kept.refl _ _).drewN _), hK.out.2.quiet ((Kept.refl _ _).drewN _)⟩
      case measure => simp [intOf]; omega
    · obtain rfl : j = len := by omega
      have jN : ¬(j : Int) < (j : Int) := by omega
      go_wp2
      go_ret
      exact ⟨rfl, hK.out.1.kept⟩

end Go.Proofs.Ytgjblcjoglaldaa
