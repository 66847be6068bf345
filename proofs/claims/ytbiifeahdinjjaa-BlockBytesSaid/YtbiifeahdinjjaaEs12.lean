/- The law's own comparison of two slices of entries that are the same (layer 12). -/
import Derived.Test.YtbiifeahdinjjaaBkK
namespace Go.Proofs.Ytbiifeahdinjjaa
open Go.RowKit Go.Proofs Go.Proofs.Pk
set_option maxRecDepth 10000
attribute [local simp] mk_get wrap64_u8 mk_extract ByteArray.mk_append_mk get_1k

set_option maxHeartbeats 2000000 in
theorem entsSame12 (w : World) (ad ae : Option Addr) (len ca cb : Nat) (T : List MEnt) (h1 : EntsW w ad len T) (h2 : EntsW w ae len T) (hl : T.length ≤ 1000) :
    Calls Try.prog 14 #[.slice ad len ca, .slice ae len cb] w fun r w' => r = .returned (.bool true) ∧ Kept (fun _ => False) w w' := by
  have H := Lib.hid (And.intro h1 h2)
  have hlen := h1.1
  have hl2 : len ≤ 1000 := by omega
  clear h1 h2 hl
  go_enter Try.func14, Try.ntmps14
  go_wp2
  obtain ⟨wq, hwq⟩ : ∃ wq, wq = w := ⟨_, rfl⟩
  have HK : Hid (Kept (fun _ => False) w wq) := by rw [hwq]; exact Kept.refl _ _
  rw [← hwq]
  clear hwq
  go_loopw [5] (fun i wr => ∃ j : Nat, j ≤ len ∧ i = .int .i64 (j : Int) ∧ Hid (Kept (fun _ => False) w wr)) (fun i _ => len - (intOf i).toNat)
  case atStart => exact ⟨0, Nat.zero_le _, rfl, HK⟩
  case round =>
    obtain ⟨j, hj, rfl, hK⟩ := hrel
    clear HK
    have j0 : (0 : Int) ≤ (j : Int) := by omega
    have hwj : IntKind.i64.wrap ((j : Int) + 1) = (j : Int) + 1 := IntWalk.i64_in _ (by omega)
    by_cases hlt : j < len
    · have hjT : j < T.length := by omega
      obtain ⟨g, og, rfl, hg, d0, d1, d2, d3⟩ := (ents_keptK H.out.1 hK.out).atS j hjT
      obtain ⟨g2, og2, rfl, hg2, e0, e1, e2, e3⟩ := (ents_keptK H.out.2 hK.out).atS j hjT
      have jN : (j : Int) < (len : Int) := by omega
      generalize T[j] = x at d0 d1 d2 d3 e0 e1 e2 e3
      clear hjT
      go_wp2
      go_quiet (fail)
      go_wp2
      go_roundw
      case rel => exact ⟨j + 1, hlt, by first | rfl | go_num, hK.out.drewN _⟩
      case measure => simp [intOf]; omega
    · obtain rfl : j = len := by omega
      have jN : ¬(j : Int) < (j : Int) := by omega
      go_wp2
      go_ret
      exact ⟨rfl, hK.out⟩

end Go.Proofs.Ytbiifeahdinjjaa
