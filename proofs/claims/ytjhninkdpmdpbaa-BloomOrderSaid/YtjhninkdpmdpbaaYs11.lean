/- The law BloomYes, walked over the contract of the program's filters. -/
import Derived.Test.YtjhninkdpmdpbaaEx11
namespace Go.Proofs.Ytjhninkdpmdpbaa
open Go.RowKit Go.Proofs Go.Proofs.Pk
set_option maxRecDepth 10000
attribute [local simp] mk_get wrap64_u8 mk_extract ByteArray.mk_append_mk get_1k

set_option maxHeartbeats 2000000 in
theorem yes11 (K : BlK) (ad : Option Addr) (len cap : Nat) (ks : List TxtB) (bits : Int) (k : TxtB) (w : World) (h : Strs w ad len ks) (hs : ∀ s ∈ ks, s.length ≤ 140737488351232) (hl : (len : Int) ≤ 140737488351232) (hb : FitI bits) (hk : (k.length : Int) ≤ 140737488351232) :
    Calls Try.prog 5 #[.slice ad len cap, .int .i64 bits, .string ⟨k.toArray⟩] w fun e w' => e = .returned (.bool true) ∧ Below w.heap.size w w' := by
  have HE := Lib.hid (examples11 K w)
  have hml := make_len ks bits
  have HYs := Lib.hid (fun (h0 : (makeN ks bits).2 = 0) (key : TxtB) (hm : key ∈ ks) => may_yes h0 hm)
  have HBad := Lib.hid (fun (h0 : (makeN ks bits).2 ≠ 0) => make_bad h0)
  have HLen := Lib.hid (fun (h0 : (makeN ks bits).2 = 0) => show (makeN [] bits).2 = 0 from by
    unfold makeN at h0 ⊢
    by_cases h1 : bits < 1 ∨ 20 < bits
    · rw [if_pos h1] at h0; cases h0
    · rw [if_neg h1, if_neg (by simp)])
  obtain ⟨r, c, hr⟩ : ∃ (r : TxtB) (c : Nat), makeN ks bits = (r, c) := ⟨_, _, rfl⟩
  have h1 := fun (W : World) (hkp : Kept (fun _ => False) w W) => K.make W ad len cap ks bits (strs_keptB h hkp) hs hb hl
  rw [hr] at h1 hml HYs HBad HLen
  simp only at h1 hml HYs HBad HLen
  have H1 := Lib.hid h1
  have HM := Lib.hid (fun (key : TxtB) (W : World) (hkl : (key.length : Int) ≤ 140737488351232) => K.may r key W (by omega) hkl)
  have HST := Lib.hid (And.intro h (And.intro hs (And.intro hb hk)))
  clear h1 hr h hs hb hk hml
  by_cases hc : c = 0
  · subst hc
    simp only [errV, if_pos] at H1
    have h0 := HLen.out rfl
    have hml := make_len [] bits
    have hno := may_none h0 k
    have h2 := fun W => K.make W none 0 0 [] bits ⟨rfl, .inl rfl⟩ (fun s hs => by cases hs) HST.out.2.2.1 (by decide)
    obtain ⟨r0, c0, hr0⟩ : ∃ (r0 : TxtB) (c0 : Nat), makeN [] bits = (r0, c0) := ⟨_, _, rfl⟩
    rw [hr0] at h0 hml hno h2
    simp only at h0 hml hno h2
    subst h0
    simp only [errV, if_pos] at h2
    have H2 := Lib.hid h2
    have h3 := fun W => K.may r0 k W (by omega) HST.out.2.2.2
    rw [hno] at h3
    have H3 := Lib.hid h3
    clear h2 h3 hno hml hr0 HLen HBad
    have HYr := Lib.hid (fun (key : TxtB) (hm : key ∈ ks) => HYs.out rfl key hm)
    have hlI : (len : Int) ≤ 140737488351232 := hl
    clear HYs
    go_enter Try.func5, Try.ntmps5
    go_wp2_with fail
    refine HE.out.mono ?_
    clear HE
    rintro e w1 ⟨rfl, hk1⟩
    go_wp2_with fail
    refine (H1.out _ hk1).mono ?_
    clear H1
    rintro e w2 ⟨rfl, hk2⟩
    have HI : Hid (Kept (fun _ => False) w w2) := hk1.trans hk2 (fun _ f => f.elim)
    clear hk1 hk2
    go_wp2
    rename World => w2
    go_loopw [10] (fun i wr => ∃ j : Nat, j ≤ len ∧ i = .int .i64 (j : Int) ∧ Hid (Kept (fun _ => False) w wr)) (fun i _ => len - (intOf i).toNat)
    case atStart => exact ⟨0, Nat.zero_le _, rfl, HI⟩
    case round =>
      obtain ⟨j, hj, rfl, hI⟩ := hrel
      clear HI
      have j0 : (0 : Int) ≤ (j : Int) := by omega
      have hwj : IntKind.i64.wrap ((j : Int) + 1) = (j : Int) + 1 := IntWalk.i64_in _ (by omega)
      by_cases hlt : j < len
      · have hjk : j < ks.length := by rw [HST.out.1.1]; exact hlt
        obtain ⟨ba, oa, rfl, hba, hca⟩ : ∃ ba oa, ad = some ⟨ba, oa, none⟩ ∧ ba < w.heap.size ∧ w.cell? ⟨ba, oa + j, none⟩ = some (.string ⟨(ks[j]).toArray⟩) := by
          rcases HST.out.1.2 with h0 | ⟨ba, oa, h1, h2, h3⟩
          · rw [h0] at hjk; simp at hjk
          · exact ⟨ba, oa, h1, h2, h3 j hjk⟩
        have hksl := HST.out.2.1 ks[j] (List.getElem_mem hjk)
        have hy := HYr.out ks[j] (List.getElem_mem hjk)
        have hMj := HM.out ks[j] wr (by omega)
        rw [hy] at hMj
        have hc := (hI.out.cell (p := ⟨ba, oa + j, none⟩) hba (fun f => f)).trans hca
        obtain ⟨key, hkey⟩ : ∃ key, key = ks[j] := ⟨_, rfl⟩
        rw [← hkey] at hc hMj
        have HMj := Lib.hid hMj
        have jn : (j : Int) < (len : Int) := by omega
        clear hMj hkey hy hca hba hjk hksl
        go_wp2_with fail
        refine HMj.out.mono ?_
        clear HMj
        rintro e w3 ⟨rfl, hk3⟩
        have HI2 : Hid (Kept (fun _ => False) w w3) := hI.out.trans hk3 (fun _ f => f.elim)
        clear hI hk3 hc
        go_wp2
        refine ⟨⟨j + 1, by omega, by first | rfl | go_num, HI2⟩, ?_⟩
        simp [intOf]
        omega
      · have jn : ¬(j : Int) < (len : Int) := by omega
        go_wp2_with fail
        refine (H2.out _).mono ?_
        clear H2
        rintro e w3 ⟨rfl, hk3⟩
        go_wp2_with fail
        refine (H3.out _).mono ?_
        clear H3
        rintro e w4 ⟨rfl, hk4⟩
        have HK := Lib.hid (((hI.out.trans hk3 (fun _ f => f.elim)).trans hk4 (fun _ f => f.elim)).below (Nat.le_refl _) (fun _ f => f.elim))
        clear hI hk3 hk4
        go_wp2
        go_ret
        exact ⟨rfl, HK.out⟩
  · have hv : errV 38 c = .iface 38 (.int .i64 (c : Int)) := by rw [errV, if_neg hc]
    simp only [hv] at H1
    obtain rfl : r = [] := HBad.out hc
    clear HYs HBad HLen HM hv hc
    go_enter Try.func5, Try.ntmps5
    go_wp2_with fail
    refine HE.out.mono ?_
    clear HE
    rintro e w1 ⟨rfl, hk1⟩
    go_wp2_with fail
    refine (H1.out _ hk1).mono ?_
    clear H1
    rintro e w2 ⟨rfl, hk2⟩
    have HK := Lib.hid ((hk1.trans hk2 (fun _ f => f.elim)).below (Nat.le_refl _) (fun _ f => f.elim))
    clear hk1 hk2
    go_wp2
    go_ret
    exact ⟨rfl, HK.out⟩

end Go.Proofs.Ytjhninkdpmdpbaa
