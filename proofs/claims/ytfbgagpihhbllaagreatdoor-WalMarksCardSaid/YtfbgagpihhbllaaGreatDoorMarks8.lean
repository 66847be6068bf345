/- The law WalMarks, walked. -/
import Derived.Test.YtfbgagpihhbllaaGreatDoorRh8
import Derived.Test.YtfbgagpihhbllaaGreatDoorJ36
namespace Go.Proofs.YtfbgagpihhbllaaGreatDoor
open Go.RowKit Go.Proofs Go.Proofs.Pk
set_option maxRecDepth 10000
attribute [local simp] mk_get wrap64_u8 mk_extract ByteArray.mk_append_mk get_1k

theorem assert_nil8 (w : World) : (Instr.typeAssert .nilIface 24 33 true).run Tryz.prog w = .ok (.tuple #[.int .i64 0, .bool false]) w := by kernel_rfl

set_option maxHeartbeats 4000000 in
/-- The law WalMarks. -/
theorem marksK (id index size : Int) (b : List UInt8) (w : World) (hg : ErrTy w) (h0 : -9223372036854775808 ≤ id ∧ id ≤ 9223372036854775807) (h1 : -9223372036854775808 ≤ index ∧ index ≤ 9223372036854775807) (h2 : -9223372036854775808 ≤ size ∧ size ≤ 9223372036854775807) (hb : (b.length : Int) ≤ 140737488351232) :
    Calls Tryz.prog 3 #[.int .i64 id, .int .i64 index, .int .i64 size, .string ⟨b.toArray⟩] w fun e w' => e = .returned (.bool true) ∧ Below w.heap.size w w' := by
  have HE := Lib.hid (examples8 walK w hg)
  have HRd := Lib.hid (fun w0 => markK.read b id index w0 (by omega) h0 h1)
  have HR := Lib.hid (fun w0 => r8ReadMark b id index w0 (by omega))
  have HM : Hid (∃ (s : List UInt8) (v : Value) (ok : Bool), ((ok = true ∧ v = .nilIface) ∨ (ok = false ∧ v = .iface 33 (.int .i64 1))) ∧ (∀ W, Calls Tryz.prog 9 #[.int .i64 id, .int .i64 index, .int .i64 size] W fun e w' => e = .returned (.tuple #[.string ⟨s.toArray⟩, v]) ∧ Kept (fun _ => False) W w') ∧
      (∀ W, Calls Tryz.prog 10 #[.int .i64 id, .int .i64 index, .int .i64 size] W fun e w' => e = .returned (.tuple #[.string ⟨s.toArray⟩, .bool ok]) ∧ Kept (fun _ => False) W w')) := by
    by_cases h : MarkI id index size
    · obtain ⟨i, k, n, rfl, rfl, rfl, hok⟩ := h
      exact ⟨_, _, true, .inl ⟨rfl, rfl⟩, fun W => pMark_ok i k n W hok, fun W => r8Mark_ok i k n W hok⟩
    · exact ⟨[], _, false, .inr ⟨rfl, rfl⟩, fun W => (pMark_bad id index size W h).mono (by rintro e w' ⟨rfl, rfl⟩; exact ⟨rfl, Kept.refl _ _⟩), fun W => (r8Mark_bad id index size W h).mono (by rintro e w' ⟨rfl, rfl⟩; exact ⟨rfl, Kept.refl _ _⟩)⟩
  obtain ⟨s, v, ok, hv, hM, hR8⟩ := HM.out
  have HM1 := Lib.hid hM
  have HM2 := Lib.hid hR8
  have hn8 := assert_nil8
  have he8 := assert_en
  clear hg h0 h1 h2 HM hM hR8
  go_enter Tryz.func3, Tryz.ntmps3
  go_wp2_with fail
  refine HE.out.mono ?_
  clear HE
  rintro e w1 ⟨rfl, hb1⟩
  have HB1 := Lib.hid hb1
  clear hb1
  go_wp2_with fail
  refine (HM1.out w1).mono ?_
  clear HM1
  rintro e w2 ⟨rfl, hk2⟩
  have HK2 := Lib.hid hk2
  clear hk2
  go_wp2_with fail
  refine (HM2.out w2).mono ?_
  clear HM2
  rintro e w3 ⟨rfl, hk3⟩
  have HK3 := Lib.hid (HK2.out.trans hk3 (fun _ hf => hf.elim))
  clear hk3
  go_wp2_with fail
  refine (HRd.out w3).mono ?_
  clear HRd
  rintro e w4 ⟨hk4, hrd⟩
  have HK4 := Lib.hid (HK3.out.trans hk4 (fun _ hf => hf.elim))
  clear hk4
  have HR5 := Lib.hid (HR.out w4)
  clear HR HK2 HK3
  rcases hrd with ⟨n, hn, rfl⟩ | ⟨hn, rfl⟩
  case' inl =>
    have HN := Lib.hid hn
    clear hn
    go_wp2_with fail
    refine HR5.out.mono ?_
    clear HR5
    rintro e w5 ⟨hk5, ⟨n', hn', rfl⟩ | ⟨hn', _⟩⟩
    case inr => rw [HN.out] at hn'; cases hn'
    have hnn : n' = n := by rw [HN.out] at hn'; injection hn' with hn'; exact hn'.symm
    subst hnn
    clear hn' HN
  case' inr =>
    have HN := Lib.hid hn
    clear hn
    go_wp2_with fail
    refine HR5.out.mono ?_
    clear HR5
    rintro e w5 ⟨hk5, ⟨n', hn', _⟩ | ⟨-, z, rfl⟩⟩
    case inl => rw [HN.out] at hn'; cases hn'
    clear HN
  all_goals
    have HK5 := Lib.hid (HK4.out.trans hk5 (fun _ hf => hf.elim))
    have HB5 := Lib.hid (HB1.out.trans (HK5.out.below HB1.out.size (fun _ hf => hf.elim)))
    clear hk5 HK4
    rcases hv with ⟨rfl, rfl⟩ | ⟨rfl, rfl⟩
    all_goals
      go_wp2
      go_ret
      exact ⟨rfl, HB5.out⟩

end Go.Proofs.YtfbgagpihhbllaaGreatDoor
