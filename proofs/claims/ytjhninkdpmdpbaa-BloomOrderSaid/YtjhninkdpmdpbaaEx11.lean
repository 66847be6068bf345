/- The chapter's examples (layer 11) hold of the program's filters. -/
import Derived.Test.YtjhninkdpmdpbaaBlK
import Derived.Test.YtjhninkdpmdpbaaIs11
namespace Go.Proofs.Ytjhninkdpmdpbaa
open Go.RowKit Go.Proofs Go.Proofs.Pk
set_option maxRecDepth 10000
attribute [local simp] mk_get wrap64_u8 mk_extract ByteArray.mk_append_mk get_1k

theorem ex11_make : makeN [] 10 = ([0, 0, 0, 0, 0, 0, 0, 0, 6], 0) := by decide
theorem ex11_hash : hashN [97] = 12638187200555641996 := by
  unfold hashN
  rw [List.foldl_cons, List.foldl_nil]
  unfold hashF
  rw [show (97 : UInt8).toNat = 97 from rfl, show (14695981039346656037 ^^^ 97 : Nat) = 14695981039346656068 from by decide +kernel]
theorem ex11_may : mayN [] [97] = true := by unfold mayN; rw [if_pos (.inl (by simp))]

set_option maxHeartbeats 1000000 in
theorem examples11 (K : BlK) (w : World) : Calls Try.prog 8 #[] w fun e w' => e = .returned (.bool true) ∧ Kept (fun _ => False) w w' := by
  have hM := K.make w none 0 0 [] 10 ⟨rfl, .inl rfl⟩ (fun s hs => by cases hs) (by unfold FitI; omega) (by decide)
  rw [ex11_make] at hM
  have HM : Hid (Calls Try.prog 9 #[.slice none 0 0, .int .i64 10] w fun e w' => e = .returned (.tuple #[.string ⟨#[0, 0, 0, 0, 0, 0, 0, 0, 6]⟩, .nilIface]) ∧ Kept (fun _ => False) w w') := hM
  have HH : Hid (∀ W, Calls Try.prog 12 #[.string ⟨#[97]⟩] W fun e w' => e = .returned (.int .u64 12638187200555641996) ∧ Kept (fun _ => False) W w') := fun W => by
    have := K.hash [97] W (by decide)
    rw [ex11_hash] at this; exact this
  have HY : Hid (∀ W, Calls Try.prog 14 #[.string ⟨#[]⟩, .string ⟨#[97]⟩] W fun e w' => e = .returned (.bool true) ∧ Kept (fun _ => False) W w') := fun W => by
    have := K.may [] [97] W (by decide) (by decide)
    rw [ex11_may] at this; exact this
  clear hM
  go_enter Try.func8, Try.ntmps8
  go_wp2_with fail
  refine HM.out.mono ?_
  clear HM
  rintro e w1 ⟨rfl, hk1⟩
  go_wp2_with fail
  refine (HH.out _).mono ?_
  clear HH
  rintro e w2 ⟨rfl, hk2⟩
  go_wp2_with fail
  refine (HY.out _).mono ?_
  clear HY
  rintro e w3 ⟨rfl, hk3⟩
  have HK := Lib.hid ((hk1.trans hk2 (fun _ f => f.elim)).trans hk3 (fun _ f => f.elim))
  clear hk1 hk2 hk3
  go_wp2
  go_ret
  exact ⟨rfl, HK.out⟩

end Go.Proofs.Ytjhninkdpmdpbaa
