/- The reference of layer 8: ReadMark. -/
import Derived.Test.YtfbgagpihhbllaaGreatDoorRg8
namespace Go.Proofs.YtfbgagpihhbllaaGreatDoor
open Go.RowKit Go.Proofs Go.Proofs.Pk
set_option maxRecDepth 10000
attribute [local simp] mk_get wrap64_u8 mk_extract ByteArray.mk_append_mk get_1k

set_option maxHeartbeats 1000000 in
theorem r8ReadMark_short (b : List UInt8) (id index : Int) (w : World) (hb : (b.length : Int) ≤ 9223372036854775807) (h : b.length ≠ 64) :
    Calls Tryz.prog 12 #[.string ⟨b.toArray⟩, .int .i64 id, .int .i64 index] w fun e w' => e = .returned (.tuple #[.int .i64 0, .bool false]) ∧ w' = w := by
  have hn : ((b.length : Int) == 64) = false := by simp; omega
  clear h
  go_enter Tryz.func12, Tryz.ntmps12
  go_wp2
  go_ret2
  exact ⟨rfl, rfl⟩

set_option maxHeartbeats 1000000 in
theorem r8ReadMark_64 (b : List UInt8) (id index : Int) (w : World) (h64 : b.length = 64) :
    Calls Tryz.prog 12 #[.string ⟨b.toArray⟩, .int .i64 id, .int .i64 index] w fun e w' => Kept (fun _ => False) w w' ∧
      ((∃ n, rdMarkI b id index = some n ∧ e = .returned (.tuple #[.int .i64 (n : Int), .bool true])) ∨
       (rdMarkI b id index = none ∧ ∃ z, e = .returned (.tuple #[.int .i64 z, .bool false]))) := by
  have hl : (b.length : Int) = 64 := by omega
  have HS : Hid (sizeN b = val (List.take 4 (List.drop 13 b))) := rfl
  have HD : Hid (∀ J, 13 ≤ J → ∀ h : J < b.length, val (List.take (J + 1 - 13) (List.drop 13 b)) = 256 * val (List.take (J - 13) (List.drop 13 b)) + (b[J]).toNat) := fun J hJ h => by
    obtain ⟨k, rfl⟩ : ∃ k, J = 13 + k := ⟨J - 13, by omega⟩
    rw [show 13 + k + 1 - 13 = k + 1 from by omega, show 13 + k - 13 = k from by omega, val_take _ k (by rw [List.length_drop]; omega)]
    rw [List.getElem_drop]
  clear h64
  go_enter Tryz.func12, Tryz.ntmps12
  go_wp2
  go_loop [8, 9] (fun n i => ∃ J : Nat, 13 ≤ J ∧ J ≤ 17 ∧ n = .int .i64 (val (List.take (J - 13) (List.drop 13 b))) ∧ i = .int .i64 (J : Int)) (fun _ i => 17 - (intOf i).toNat)
  case atStart => exact ⟨13, by omega, by omega, rfl, rfl⟩
  case round =>
    obtain ⟨J, hJ0, hJ, rfl, rfl⟩ := hrel
    by_cases hlt : (J : Int) < 17
    · have hv6 := val6 (List.drop 13 b) (J - 13) (by omega)
      have hJb : J < b.length := by omega
      have hJi : (J : Int) < (b.length : Int) := by omega
      have hJ00 : (0 : Int) ≤ (J : Int) := by omega
      have hV := HD.out J hJ0 hJb
      generalize val (List.take (J - 13) (List.drop 13 b)) = v0 at hv6 hV ⊢
      generalize hv1 : val (List.take (J + 1 - 13) (List.drop 13 b)) = v1 at hV
      have HV1 := Lib.hid hv1
      have h255 : (b[J]).toNat < 256 := (b[J]).toNat_lt
      have hw1 : IntKind.i64.wrap (256 * (v0 : Int)) = 256 * (v0 : Int) := IntWalk.i64_in _ (by omega)
      have hw2 : IntKind.i64.wrap (256 * (v0 : Int) + ((b[J]).toNat : Int)) = 256 * (v0 : Int) + ((b[J]).toNat : Int) := IntWalk.i64_in _ (by omega)
      have hwj : IntKind.i64.wrap ((J : Int) + 1) = (J : Int) + 1 := IntWalk.i64_in _ (by omega)
      have HV := Lib.hid hV
      clear hv1 hV hv6
      go_wp2
      go_round
      case rel => exact ⟨J + 1, by omega, by omega, by rw [HV1.out, HV.out]; first | rfl | go_num, by go_num⟩
      case measure => simp [intOf]; omega
    · have hj : J = 17 := by omega
      subst hj
      rw [show (17 : Nat) - 13 = 4 from rfl, ← HS.out]
      have HRS := Lib.hid (fun h e => rdI_some (b := b) (id := id) (index := index) h e)
      have HRN := Lib.hid (fun h => rdI_none (b := b) (id := id) (index := index) h)
      generalize sizeN b = z at HRS HRN HS ⊢
      by_cases hm : MarkI id index (z : Int)
      · have hm' := hm
        obtain ⟨i, x, n, rfl, rfl, hn, hok⟩ := hm'
        obtain rfl : z = n := by omega
        have HM := Lib.hid (r8Mark_ok i x z w hok)
        have HM0 := Lib.hid hm
        clear hm hn hok HD
        go_wp2_with fail
        refine HM.out.mono ?_
        clear HM
        rintro e w2 ⟨rfl, hk2⟩
        have HK2 := Lib.hid hk2
        clear hk2
        by_cases he : b = markN i x z
        · have HX := Lib.hid (HRS.out HM0.out (by simpa using he))
          rw [← he]
          clear he HRS HRN
          go_wp2
          go_ret2
          exact ⟨HK2.out, .inl ⟨z, HX.out, rfl⟩⟩
        · have HX := Lib.hid (HRN.out (fun h => he (by simpa using h.2)))
          clear HRS HRN
          generalize markN i x z = mk at he ⊢
          have hne : (mk == b) = false := by simpa using fun h => he h.symm
          clear he
          go_wp2
          go_ret2
          exact ⟨HK2.out, .inr ⟨HX.out, _, rfl⟩⟩
      · have HM := Lib.hid (r8Mark_bad id index z w hm)
        have HX := Lib.hid (HRN.out (fun h => hm h.1))
        clear hm HRS HRN HD
        go_wp2_with fail
        refine HM.out.mono ?_
        clear HM
        rintro e w2 ⟨rfl, rfl⟩
        go_wp2
        go_ret2
        exact ⟨Kept.refl _ _, .inr ⟨HX.out, _, rfl⟩⟩

theorem r8ReadMark (b : List UInt8) (id index : Int) (w : World) (hb : (b.length : Int) ≤ 9223372036854775807) :
    Calls Tryz.prog 12 #[.string ⟨b.toArray⟩, .int .i64 id, .int .i64 index] w fun e w' => Kept (fun _ => False) w w' ∧
      ((∃ n, rdMarkI b id index = some n ∧ e = .returned (.tuple #[.int .i64 (n : Int), .bool true])) ∨
       (rdMarkI b id index = none ∧ ∃ z, e = .returned (.tuple #[.int .i64 z, .bool false]))) := by
  by_cases h : b.length = 64
  · exact r8ReadMark_64 b id index w h
  · refine (r8ReadMark_short b id index w hb h).mono ?_
    rintro e w' ⟨rfl, rfl⟩
    exact ⟨Kept.refl _ _, .inr ⟨rdI_short h, _, rfl⟩⟩

end Go.Proofs.YtfbgagpihhbllaaGreatDoor
