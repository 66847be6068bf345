/- Package mem: write, an entry as one text. -/
import Derived.Test.YtlmlldcpllagbaaJn10
import Derived.Test.YtlmlldcpllagbaaOpenE
import Derived.BigQuiet
import Derived.Deep.QuietTactic
namespace Go.Proofs.Ytlmlldcpllagbaa
open Go.RowKit Go.Proofs Go.Proofs.Pk
set_option maxRecDepth 10000
attribute [local simp] mk_get wrap64_u8 mk_extract ByteArray.mk_append_mk get_1k

theorem join_le {k : Txt} (s : Int) (h : k.length ≤ 80) : (joinS k s).length ≤ 168 := by
  unfold joinS
  have := esc_le k
  rw [List.length_append, List.length_cons, bigE_length]; omega

set_option maxHeartbeats 2000000 in
theorem writeP (e : MEnt) (w : World) (h : rightM e = true) :
    Calls Try.prog 27 #[.agg (entC e).toArray] w fun r w' => r = .returned (.string ⟨(writeS e).toArray⟩) ∧ Kept (fun _ => False) w w' := by
  obtain ⟨key, seq, drop, value⟩ := e
  have hr := h
  unfold rightM at hr
  simp only [decide_eq_true_eq] at hr
  have hseq := right_seq h
  simp only at hseq
  have hR := join_le seq (k := key) hr.2.1
  have HJ := Lib.hid (fun W => joinP key seq W hr.2.1 hseq)
  have HW : Hid (writeS (key, seq, drop, value) = joinS key seq ++ tailS (key, seq, drop, value)) := rfl
  obtain ⟨R, hRR⟩ : ∃ R, Hid (R = joinS key seq) := ⟨joinS key seq, rfl⟩
  rw [← hRR.out] at hR HJ HW
  have hv : value.length ≤ 300 := hr.2.2.1
  clear h hr hseq hRR
  have HX := Holds.new w [.string ⟨key.toArray⟩, .int .i64 seq, .bool drop, .string ⟨value.toArray⟩] 34
  have hk0 : Kept (fun _ => False) w (w.alloc (.cells #[.string ⟨key.toArray⟩, .int .i64 seq, .bool drop, .string ⟨value.toArray⟩] 34)) := (Kept.refl _ w).alloc _
  have HC : Hid (∀ W, Kept (fun _ => False) (w.alloc (.cells #[.string ⟨key.toArray⟩, .int .i64 seq, .bool drop, .string ⟨value.toArray⟩] 34)) W → W.cell? ⟨w.heap.size, 2, none⟩ = some (.bool drop) ∧ W.cell? ⟨w.heap.size, 3, none⟩ = some (.string ⟨value.toArray⟩)) := fun W hk => by
    have := HX.of_block (hk.block _ HX.lt (fun f => f))
    exact ⟨this.cell 2 _ rfl, this.cell 3 _ rfl⟩
  have HK0 := Lib.hid hk0
  clear HX hk0
  unfold tailS at HW
  simp only at HW
  show Calls Try.prog 27 #[.agg #[.string ⟨key.toArray⟩, .int .i64 seq, .bool drop, .string ⟨value.toArray⟩]] w _
  cases drop with
  | true =>
    rw [if_pos rfl, List.append_nil] at HW
    rw [HW.out]
    go_enter Try.func27, Try.ntmps27
    go_wp2_with (go_at_call 29; refine (HJ.out _).mono ?_; rintro r w2 ⟨rfl, hk2⟩; obtain ⟨d2, d3⟩ := HC.out w2 hk2; have HK2 := Lib.hid (HK0.out.trans hk2 (fun _ hf => hf.elim)); clear HC HK0 hk2)
    go_ret
    exact ⟨rfl, HK2.out⟩
  | false =>
    rw [if_neg (by simp)] at HW
    rw [HW.out]
    have z1 : ¬9223372036854775807 < R.length + 1 := by omega
    have z2 : ¬9223372036854775807 < R.length + 1 + value.length := by omega
    go_enter Try.func27, Try.ntmps27
    go_wp2_with (go_at_call 29; refine (HJ.out _).mono ?_; rintro r w2 ⟨rfl, hk2⟩; obtain ⟨d2, d3⟩ := HC.out w2 hk2; have HK2 := Lib.hid (HK0.out.trans hk2 (fun _ hf => hf.elim)); clear HC HK0 hk2)
    go_ret
    exact ⟨rfl, HK2.out⟩

end Go.Proofs.Ytlmlldcpllagbaa
