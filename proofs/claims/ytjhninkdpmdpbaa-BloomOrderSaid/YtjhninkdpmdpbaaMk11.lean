/- The laws BloomMakes and BloomAsks, walked over the contract of the program's filters. -/
import Derived.Test.YtjhninkdpmdpbaaEx11
import Derived.Test.YtjhninkdpmdpbaaRBm
import Derived.Test.YtjhninkdpmdpbaaRBk
namespace Go.Proofs.Ytjhninkdpmdpbaa
open Go.RowKit Go.Proofs Go.Proofs.Pk
set_option maxRecDepth 10000
attribute [local simp] mk_get wrap64_u8 mk_extract ByteArray.mk_append_mk get_1k

set_option maxHeartbeats 2000000 in
theorem asks11 (K : BlK) (f k : TxtB) (w : World) (hf : (f.length : Int) ≤ 140737488351232) (hk : (k.length : Int) ≤ 140737488351232) :
    Calls Try.prog 4 #[.string ⟨f.toArray⟩, .string ⟨k.toArray⟩] w fun e w' => e = .returned (.bool true) ∧ Below w.heap.size w w' := by
  have HE := Lib.hid (examples11 K w)
  obtain ⟨b, hb⟩ : ∃ b : Bool, b = mayN f k := ⟨_, rfl⟩
  have h1 := fun W => K.may f k W hf hk
  have h2 := fun W => rMay f k W hf hk
  rw [← hb] at h1 h2
  have H1 := Lib.hid h1
  have H2 := Lib.hid h2
  have e1 : (b == b) = true := beq_self_eq_true b
  clear h1 h2 hf hk hb
  go_enter Try.func4, Try.ntmps4
  go_wp2_with fail
  refine HE.out.mono ?_
  clear HE
  rintro e w1 ⟨rfl, hk1⟩
  go_wp2_with fail
  refine (H1.out _).mono ?_
  clear H1
  rintro e w2 ⟨rfl, hk2⟩
  go_wp2_with fail
  refine (H2.out _).mono ?_
  clear H2
  rintro e w3 ⟨rfl, rfl⟩
  have HK := Lib.hid ((hk1.trans hk2 (fun _ f => f.elim)).below (Nat.le_refl _) (fun _ f => f.elim))
  clear hk1 hk2
  go_wp2
  go_ret
  exact ⟨rfl, HK.out⟩

set_option maxHeartbeats 2000000 in
theorem makes11 (K : BlK) (ad : Option Addr) (len cap : Nat) (ks : List TxtB) (bits : Int) (k : TxtB) (w : World) (h : Strs w ad len ks) (hs : ∀ s ∈ ks, s.length ≤ 140737488351232) (hl : (len : Int) ≤ 140737488351232) (hb : FitI bits) (hk : (k.length : Int) ≤ 140737488351232) :
    Calls Try.prog 3 #[.slice ad len cap, .int .i64 bits, .string ⟨k.toArray⟩] w fun e w' => e = .returned (.bool true) ∧ Below w.heap.size w w' := by
  have HE := Lib.hid (examples11 K w)
  obtain ⟨r, c, hr⟩ : ∃ (r : TxtB) (c : Nat), makeN ks bits = (r, c) := ⟨_, _, rfl⟩
  obtain ⟨hh, hhh⟩ : ∃ hh : Nat, hh = hashN k := ⟨_, rfl⟩
  have h1 := fun (W : World) (hkp : Kept (fun _ => False) w W) => K.make W ad len cap ks bits (strs_keptB h hkp) hs hb hl
  have h2 := fun (W : World) (hkp : Kept (fun _ => False) w W) => rMake ad len cap ks bits W (strs_keptB h hkp) hs hb hl
  have h3 := fun W => K.hash k W hk
  have h4 := fun W => rHash k W hk
  rw [hr] at h1 h2
  rw [← hhh] at h3 h4
  obtain ⟨ev, hev⟩ : ∃ ev, Hid (ev = errV 38 c) := ⟨_, rfl⟩
  simp only [← hev.out] at h1
  have H1 := Lib.hid h1
  have H2 := Lib.hid h2
  have H3 := Lib.hid h3
  have H4 := Lib.hid h4
  have H5 : Hid (∀ W, Calls Try.prog 11 #[ev, .int .i64 (c : Int)] W fun e w' => e = .returned (.bool true) ∧ W = w') := fun W => by
    have := is_any c c W
    rw [beq_self_eq_true] at this
    rw [hev.out]; exact this
  clear h1 h2 h3 h4 hr hhh hs hl hb hk h
  go_enter Try.func3, Try.ntmps3
  go_wp2_with fail
  refine HE.out.mono ?_
  clear HE
  rintro e w1 ⟨rfl, hk1⟩
  go_wp2_with fail
  refine (H1.out _ hk1).mono ?_
  clear H1
  rintro e w2 ⟨rfl, hk2⟩
  have hk12 := hk1.trans hk2 (fun _ f => f.elim)
  go_wp2_with fail
  refine (H2.out _ hk12).mono ?_
  clear H2
  rintro e w3 ⟨rfl, hk3⟩
  go_wp2_with fail
  refine (H5.out _).mono ?_
  clear H5
  rintro e w4 ⟨rfl, rfl⟩
  go_wp2_with fail
  refine (H3.out _).mono ?_
  clear H3
  rintro e w5 ⟨rfl, hk5⟩
  go_wp2_with fail
  refine (H4.out _).mono ?_
  clear H4
  rintro e w6 ⟨rfl, rfl⟩
  have HK := Lib.hid (((hk12.trans hk3 (fun _ f => f.elim)).trans hk5 (fun _ f => f.elim)).below (Nat.le_refl _) (fun _ f => f.elim))
  clear hk1 hk2 hk12 hk3 hk5
  go_wp2
  go_ret
  exact ⟨rfl, HK.out⟩

end Go.Proofs.Ytjhninkdpmdpbaa
