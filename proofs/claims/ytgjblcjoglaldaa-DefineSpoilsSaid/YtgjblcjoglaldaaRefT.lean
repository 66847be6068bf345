/- The reference's ReadText: what it returns. -/
import Derived.Test.YtgjblcjoglaldaaRefX
import Derived.Test.YtgjblcjoglaldaaRead
namespace Go.Proofs.Ytgjblcjoglaldaa
open Go.RowKit Go.Proofs Go.Proofs.Pk
set_option maxRecDepth 10000
attribute [local simp] mk_get wrap64_u8 mk_extract ByteArray.mk_append_mk get_1k

set_option maxHeartbeats 400000 in
theorem rReadText_no (b : List UInt8) (w : World) (hb : b.length ≤ maxLen) (c : Nat) (hc : (rdNum b).2.2 = c + 1) :
    Calls Try.prog 30 #[.string ⟨b.toArray⟩] w (R3 w (.string ⟨#[]⟩) (.string ⟨#[]⟩) (.int .i64 ((c : Int) + 1))) := by
  have hR := rRead b w hb
  rw [hc] at hR
  generalize (rdNum b).1 = n at *
  generalize (rdNum b).2.1 = r at *
  clear hc
  rw [show (((c + 1 : Nat) : Int)) = (c : Int) + 1 from by omega] at hR
  have HR := Lib.hid hR
  clear hR
  have hne : (((c : Int) + 1) != 0) = true := by rw [bne_iff_ne]; omega
  go_enter Try.func30, Try.ntmps30
  go_wp2_with fail
  refine HR.out.mono ?_
  rintro e w1 ⟨rfl, b1⟩
  go_wp2
  go_ret3
  exact R3.mk rfl rfl rfl b1

set_option maxHeartbeats 400000 in
theorem rReadText_long (b : List UInt8) (w : World) (hb : b.length ≤ maxLen) (hc : (rdNum b).2.2 = 0) (h1 : 1048576 < ((rdNum b).1 : Int)) :
    Calls Try.prog 30 #[.string ⟨b.toArray⟩] w (R3 w (.string ⟨#[]⟩) (.string ⟨#[]⟩) (.int .i64 5)) := by
  have hR := rRead b w hb
  rw [hc] at hR
  generalize (rdNum b).1 = n at *
  generalize (rdNum b).2.1 = r at *
  clear hc
  have HR := Lib.hid hR
  clear hR
  go_enter Try.func30, Try.ntmps30
  go_wp2_with fail
  refine HR.out.mono ?_
  rintro e w1 ⟨rfl, b1⟩
  go_wp2
  go_ret3
  exact R3.mk rfl rfl rfl b1

set_option maxHeartbeats 400000 in
theorem rReadText_short (b : List UInt8) (w : World) (hb : b.length ≤ maxLen) (hc : (rdNum b).2.2 = 0) (h1 : ((rdNum b).1 : Int) ≤ 1048576) (h2 : ((rdNum b).2.1.length : Int) < (rdNum b).1) :
    Calls Try.prog 30 #[.string ⟨b.toArray⟩] w (R3 w (.string ⟨#[]⟩) (.string ⟨#[]⟩) (.int .i64 2)) := by
  have hR := rRead b w hb
  rw [hc] at hR
  generalize (rdNum b).1 = n at *
  generalize (rdNum b).2.1 = r at *
  clear hc
  have HR := Lib.hid hR
  clear hR
  go_enter Try.func30, Try.ntmps30
  go_wp2_with fail
  refine HR.out.mono ?_
  rintro e w1 ⟨rfl, b1⟩
  go_wp2
  go_ret3
  exact R3.mk rfl rfl rfl b1

set_option maxHeartbeats 400000 in
theorem rReadText_ok (b : List UInt8) (w : World) (hb : b.length ≤ maxLen) (hc : (rdNum b).2.2 = 0) (h1 : ((rdNum b).1 : Int) ≤ 1048576) (h2 : ((rdNum b).1 : Int) ≤ (rdNum b).2.1.length) :
    Calls Try.prog 30 #[.string ⟨b.toArray⟩] w (R3 w (.string ⟨((rdNum b).2.1.take (rdNum b).1).toArray⟩) (.string ⟨((rdNum b).2.1.drop (rdNum b).1).toArray⟩) (.int .i64 0)) := by
  have hR := rRead b w hb
  rw [hc] at hR
  generalize (rdNum b).1 = n at *
  generalize (rdNum b).2.1 = r at *
  clear hc
  have HR := Lib.hid hR
  clear hR
  go_enter Try.func30, Try.ntmps30
  go_wp2_with fail
  refine HR.out.mono ?_
  rintro e w1 ⟨rfl, b1⟩
  go_wp2
  go_quiet (fail)
  go_wp2
  go_ret3
  exact R3.mk rfl (str_drop0 r n) rfl (belowN b1 _)

/-- The reference reads a text as the chapter says. -/
theorem rReadText (b : List UInt8) (w : World) (hb : b.length ≤ maxLen) :
    Calls Try.prog 30 #[.string ⟨b.toArray⟩] w (R3 w (.string ⟨(rdTxt b).1.toArray⟩) (.string ⟨(rdTxt b).2.1.toArray⟩) (.int .i64 (rdTxt b).2.2)) := by
  unfold rdTxt
  by_cases hc : (rdNum b).2.2 = 0
  · rw [if_neg (by omega)]
    by_cases h1 : MaxT < (rdNum b).1
    · rw [if_pos h1]; exact rReadText_long b w hb hc (by unfold MaxT at h1; omega)
    · rw [if_neg h1]
      by_cases h2 : (rdNum b).2.1.length < (rdNum b).1
      · rw [if_pos h2]; exact rReadText_short b w hb hc (by unfold MaxT at h1; omega) (by omega)
      · rw [if_neg h2]; exact rReadText_ok b w hb hc (by unfold MaxT at h1; omega) (by omega)
  · rw [if_pos hc]
    obtain ⟨c, hc'⟩ : ∃ c, (rdNum b).2.2 = c + 1 := ⟨_, (Nat.succ_pred_eq_of_ne_zero hc).symm⟩
    rw [hc']
    exact rReadText_no b w hb c hc'

end Go.Proofs.Ytgjblcjoglaldaa
