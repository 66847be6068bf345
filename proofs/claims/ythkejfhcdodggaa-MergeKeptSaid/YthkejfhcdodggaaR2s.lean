/- The reference of layer 12: Sorted. -/
import Derived.Test.YthkejfhcdodggaaJ09
import Derived.Test.YthkejfhcdodggaaJ02
import Derived.Sort.Walk0
import Derived.BigQuiet
import Derived.Laws.ResultCell
namespace Go.Proofs.Ythkejfhcdodggaa
open Go.RowKit Go.Proofs Go.Proofs.Pk
set_option maxRecDepth 10000
attribute [local simp] mk_get wrap64_u8 mk_extract ByteArray.mk_append_mk get_1k

theorem ent_size12 : (Try.prog.info? 34).map (·.size) = some 4 := by kernel_rfl
theorem sort_more {l : List MEnt} {j : Nat} (hj : j < l.length) (h : sortB (l.take j) = true) (hr : rightM l[j] = true) (hb : j = 0 ∨ befM (l[j - 1]'(by omega)) l[j] = true) : sortB (l.take (j + 1)) = true := by
  have e : l.take (j + 1) = l.take j ++ [l[j]] := List.take_succ_eq_append_getElem hj
  rcases hb with rfl | hb
  · rw [e, List.take_zero, List.nil_append, sort_one]; exact hr
  · by_cases h0 : j = 0
    · subst h0; rw [e, List.take_zero, List.nil_append, sort_one]; exact hr
    · have hl : (l.take (j + 1)).length = j + 1 := by rw [List.length_take]; omega
      have h1 : (l.take (j + 1)).take j = l.take j := by rw [List.take_take]; congr 1; omega
      have h2 : (l.take (j + 1)).drop j = [l[j]] := by rw [List.drop_eq_getElem_cons (by omega), List.getElem_take, List.drop_eq_nil_of_le (by omega)]
      rw [sort_join (n := j) (by omega) (by omega) (by rw [h1]; exact h) (by rw [h2, sort_one]; exact hr), List.getElem_take, List.getElem_take]
      exact hb
theorem sort_no_right {l : List MEnt} {j : Nat} (hj : j < l.length) (h : rightM l[j] = false) : sortB l = false := by
  rw [Bool.eq_false_iff]
  intro hs
  rw [sort_mem l none hs _ (List.getElem_mem hj)] at h
  cases h
theorem sort_no_bef {l : List MEnt} {j : Nat} (hj : j < l.length) (h0 : 0 < j) (h : befM (l[j - 1]'(by omega)) l[j] = false) : sortB l = false := by
  rw [Bool.eq_false_iff]
  intro hs
  rw [sort_join h0 hj (sort_take j hs) (sort_drop j hs), h] at hs
  cases hs
theorem ents_at {w : World} {ad : Option Addr} {len : Nat} {l : List MEnt} (h : EntsW w ad len l) {j : Nat} (hj : j < l.length) : ∃ b off, ad = some ⟨b, off, none⟩ ∧ ∀ (i : Nat) (hi : i < l.length) (W : World), Kept (fun _ => False) w W → W.rangeAt b (off + i * 4) (entC l[i]) := by
  rcases h.2 with h0 | ⟨b, off, h1, h2, h3⟩
  · rw [h0] at hj; simp at hj
  · exact ⟨b, off, h1, fun i hi W hk k v hv => (hk.cell (p := ⟨b, off + i * 4 + k, none⟩) h2 (fun f => f)).trans ((h3 i hi).row k v hv)⟩

set_option maxHeartbeats 4000000 in
theorem rSorted (w : World) (ad : Option Addr) (len cap : Nat) (l : List MEnt) (h : EntsW w ad len l) (hlm : (len : Int) ≤ 140737488351232) :
    Calls Try.prog 21 #[.slice ad len cap] w fun e w' => e = .returned (.bool (sortB l)) ∧ Kept (fun _ => False) w w' := by
  have hlen := h.1
  have H := Lib.hid h
  have HI : Hid (sortB (l.take 0) = true ∧ Kept (fun _ => False) w w) := ⟨by simp [sortB, sortF], Kept.refl _ _⟩
  obtain ⟨w0, hw0⟩ : ∃ w0, w0 = w := ⟨_, rfl⟩
  rw [← hw0] at H HI ⊢
  clear h
  go_enter Try.func21, Try.ntmps21
  clear hw0
  go_wp2
  go_loopw [3] (fun i wr => ∃ j : Nat, j ≤ len ∧ i = .int .i64 (j : Int) ∧ Hid (sortB (l.take j) = true ∧ Kept (fun _ => False) w0 wr)) (fun i _ => len - (intOf i).toNat)
  case atStart => exact ⟨0, Nat.zero_le _, rfl, HI⟩
  case round =>
    rename World => w9
    obtain ⟨j, hj, rfl, hI⟩ := hrel
    clear HI
    have j0 : (0 : Int) ≤ (j : Int) := by omega
    by_cases hlt : j < len
    case neg =>
      obtain rfl : j = len := by omega
      have jn : ¬(j : Int) < (j : Int) := by omega
      have HV : Hid (sortB l = true) := by
        have := hI.out.1
        rwa [List.take_of_length_le (by omega)] at this
      have HK : Hid (Kept (fun _ => False) w0 w9) := hI.out.2
      clear hI
      go_wp2
      go_ret
      exact ⟨by rw [HV.out]; rfl, HK.out⟩
    have jn : (j : Int) < (len : Int) := by omega
    have hwj : IntKind.i64.wrap ((j : Int) + 1) = (j : Int) + 1 := IntWalk.i64_in _ (by omega)
    have hjl : j < l.length := by omega
    obtain ⟨b, off, rfl, hat⟩ := ents_at H.out hjl
    obtain ⟨x, hx⟩ : ∃ x, Hid (x = l[j]) := ⟨l[j], rfl⟩
    have HX : Hid (∀ W, Kept (fun _ => False) w0 W → W.rangeAt b (off + j * 4) (entC x)) := fun W hk => by rw [hx.out]; exact hat j hjl W hk
    obtain ⟨r, hr⟩ : ∃ r, Hid (r = rightM x) := ⟨rightM x, rfl⟩
    have HR := Lib.hid (fun W : World => rRight x W)
    rw [← hr.out] at HR
    have rx := HX.out w9 hI.out.2
    have x0 : w9.cell? ⟨b, off + j * 4, none⟩ = some (.string ⟨x.1.toArray⟩) := rx 0 _ rfl
    have x1 : w9.cell? ⟨b, off + j * 4 + 1, none⟩ = some (.int .i64 x.2.1) := rx 1 _ rfl
    have x2 : w9.cell? ⟨b, off + j * 4 + 2, none⟩ = some (.bool x.2.2.1) := rx 2 _ rfl
    have x3 : w9.cell? ⟨b, off + j * 4 + 3, none⟩ = some (.string ⟨x.2.2.2.toArray⟩) := rx 3 _ rfl
    have HAT := Lib.hid hat
    clear hat hlt
    go_wp2_with fail
    refine (HR.out _).mono ?_
    rintro e wx ⟨rfl, hwx⟩
    have HK : Hid (Kept (fun _ => False) w0 wx) := by show Kept _ _ _; rw [hwx]; exact hI.out.2.alloc _
    clear hwx HR rx x0 x1 x2 x3
    go_wp2_with fail
    cases r with
    | false =>
      have HV : Hid (sortB l = false) := sort_no_right hjl (by rw [← hx.out, ← hr.out])
      refine wp_region_until (fun _ => True) 19 (by kernel_rfl) ?_
      refine wpAnyU_take (i := 0) (v := (.bool false)) (some 16) rfl rfl (by kernel_rfl) (by kernel_rfl) (by kernel_rfl) (by kernel_rfl) (fun _ _ _ h => h) trivial (yields_of (by kernel_rfl) (fun w _ => by go_simp)) ?_
      refine wpAnyU_take (i := 1) (v := (.bool true)) (some 17) rfl rfl (by kernel_rfl) (by kernel_rfl) (by kernel_rfl) (by kernel_rfl) (fun _ _ _ h => h) trivial (yields_of (by kernel_rfl) (fun w _ => by go_simp)) ?_
      refine wpAnyU_take (i := 2) (v := (.bool true)) (some 18) rfl rfl (by kernel_rfl) (by kernel_rfl) (by kernel_rfl) (by kernel_rfl) (fun _ _ _ h => h) trivial (yields_of (by kernel_rfl) (fun w _ => by go_simp)) ?_
      refine wpAnyU_take (i := 3) (v := undef) (some 19) rfl rfl (by kernel_rfl) (by kernel_rfl) (by kernel_rfl) (by kernel_rfl) (fun _ _ _ h => h) trivial (unwanted (by kernel_rfl)) ?_
      refine wpAnyU_take (i := 4) (v := undef) (some 20) rfl rfl (by kernel_rfl) (by kernel_rfl) (by kernel_rfl) (by kernel_rfl) (fun _ _ _ h => h) trivial (unwanted (by kernel_rfl)) ?_
      refine wpAnyU_take (i := 5) (v := undef) (some 21) rfl rfl (by kernel_rfl) (by kernel_rfl) (by kernel_rfl) (by kernel_rfl) (fun _ _ _ h => h) trivial (unwanted (by kernel_rfl)) ?_
      refine wpAnyU_take (i := 6) (v := undef) (some 22) rfl rfl (by kernel_rfl) (by kernel_rfl) (by kernel_rfl) (by kernel_rfl) (fun _ _ _ h => h) trivial (unwanted (by kernel_rfl)) ?_
      refine wpAnyU_take (i := 7) (v := undef) (some 23) rfl rfl (by kernel_rfl) (by kernel_rfl) (by kernel_rfl) (by kernel_rfl) (fun _ _ _ h => h) trivial (unwanted (by kernel_rfl)) ?_
      refine wpAnyU_take (i := 8) (v := undef) (some 24) rfl rfl (by kernel_rfl) (by kernel_rfl) (by kernel_rfl) (by kernel_rfl) (fun _ _ _ h => h) trivial (unwanted (by kernel_rfl)) ?_
      refine wpAnyU_take (i := 9) (v := undef) (some 25) rfl rfl (by kernel_rfl) (by kernel_rfl) (by kernel_rfl) (by kernel_rfl) (fun _ _ _ h => h) trivial (unwanted (by kernel_rfl)) ?_
      refine wpAnyU_take (i := 10) (v := undef) (some 26) rfl rfl (by kernel_rfl) (by kernel_rfl) (by kernel_rfl) (by kernel_rfl) (fun _ _ _ h => h) trivial (unwanted (by kernel_rfl)) ?_
      refine wpAnyU_take (i := 11) (v := undef) (some 27) rfl rfl (by kernel_rfl) (by kernel_rfl) (by kernel_rfl) (by kernel_rfl) (fun _ _ _ h => h) trivial (unwanted (by kernel_rfl)) ?_
      refine wpAnyU_take (i := 12) (v := undef) (some 28) rfl rfl (by kernel_rfl) (by kernel_rfl) (by kernel_rfl) (by kernel_rfl) (fun _ _ _ h => h) trivial (unwanted (by kernel_rfl)) ?_
      refine wpAnyU_take (i := 13) (v := undef) (some 29) rfl rfl (by kernel_rfl) (by kernel_rfl) (by kernel_rfl) (by kernel_rfl) (fun _ _ _ h => h) trivial (unwanted (by kernel_rfl)) ?_
      refine wpAnyU_take (i := 14) (v := undef) (some 30) rfl rfl (by kernel_rfl) (by kernel_rfl) (by kernel_rfl) (by kernel_rfl) (fun _ _ _ h => h) trivial (unwanted (by kernel_rfl)) ?_
      refine wpAnyU_take (i := 15) (v := undef) (some 31) rfl rfl (by kernel_rfl) (by kernel_rfl) (by kernel_rfl) (by kernel_rfl) (fun _ _ _ h => h) trivial (unwanted (by kernel_rfl)) ?_
      refine wpAnyU_take (i := 16) (v := undef) (some 32) rfl rfl (by kernel_rfl) (by kernel_rfl) (by kernel_rfl) (by kernel_rfl) (fun _ _ _ h => h) trivial (unwanted (by kernel_rfl)) ?_
      refine wpAnyU_take (i := 17) (v := undef) (some 33) rfl rfl (by kernel_rfl) (by kernel_rfl) (by kernel_rfl) (by kernel_rfl) (fun _ _ _ h => h) trivial (unwanted (by kernel_rfl)) ?_
      refine wpAnyU_take (i := 18) (v := (.bool true)) (some 34) rfl rfl (by kernel_rfl) (by kernel_rfl) (by kernel_rfl) (by kernel_rfl) (fun _ _ _ h => h) trivial (yields_of (by kernel_rfl) (fun w _ => by go_simp)) ?_
      refine wpAnyU_done (by kernel_rfl) ?_ _
      simp only [put_lit, List.set_cons_succ, List.set_cons_zero]
      go_wp2
      go_ret
      exact ⟨by rw [HV.out]; rfl, HK.out.drewN 1⟩
    | true =>
      by_cases hj0 : j = 0
      · subst hj0
        have HN : Hid (sortB (l.take (0 + 1)) = true ∧ Kept (fun _ => False) w0 wx.drew) := ⟨sort_more hjl hI.out.1 (by rw [← hx.out, ← hr.out]) (.inl rfl), HK.out.drewN 1⟩
        refine wp_region_until (fun _ => True) 19 (by kernel_rfl) ?_
        refine wpAnyU_take (i := 0) (v := (.bool true)) (some 16) rfl rfl (by kernel_rfl) (by kernel_rfl) (by kernel_rfl) (by kernel_rfl) (fun _ _ _ h => h) trivial (yields_of (by kernel_rfl) (fun w _ => by go_simp)) ?_
        refine wpAnyU_take (i := 1) (v := (.bool false)) (some 17) rfl rfl (by kernel_rfl) (by kernel_rfl) (by kernel_rfl) (by kernel_rfl) (fun _ _ _ h => h) trivial (yields_of (by kernel_rfl) (fun w _ => by go_simp)) ?_
        refine wpAnyU_take (i := 2) (v := (.bool false)) (some 18) rfl rfl (by kernel_rfl) (by kernel_rfl) (by kernel_rfl) (by kernel_rfl) (fun _ _ _ h => h) trivial (yields_of (by kernel_rfl) (fun w _ => by go_simp)) ?_
        refine wpAnyU_take (i := 3) (v := (.int .i64 (0 : Int))) (some 19) rfl rfl (by kernel_rfl) (by kernel_rfl) (by kernel_rfl) (by kernel_rfl) (fun _ _ _ h => h) trivial (yields_of (by kernel_rfl) (fun w _ => by go_simp)) ?_
        refine wpAnyU_take (i := 4) (v := (.bool false)) (some 20) rfl rfl (by kernel_rfl) (by kernel_rfl) (by kernel_rfl) (by kernel_rfl) (fun _ _ _ h => h) trivial (yields_of (by kernel_rfl) (fun w _ => by go_simp)) ?_
        refine wpAnyU_take (i := 5) (v := (.bool false)) (some 21) rfl rfl (by kernel_rfl) (by kernel_rfl) (by kernel_rfl) (by kernel_rfl) (fun _ _ _ h => h) trivial (yields_of (by kernel_rfl) (fun w _ => by go_simp)) ?_
        refine wpAnyU_take (i := 6) (v := undef) (some 22) rfl rfl (by kernel_rfl) (by kernel_rfl) (by kernel_rfl) (by kernel_rfl) (fun _ _ _ h => h) trivial (unwanted (by kernel_rfl)) ?_
        refine wpAnyU_take (i := 7) (v := undef) (some 23) rfl rfl (by kernel_rfl) (by kernel_rfl) (by kernel_rfl) (by kernel_rfl) (fun _ _ _ h => h) trivial (unwanted (by kernel_rfl)) ?_
        refine wpAnyU_take (i := 8) (v := undef) (some 24) rfl rfl (by kernel_rfl) (by kernel_rfl) (by kernel_rfl) (by kernel_rfl) (fun _ _ _ h => h) trivial (unwanted (by kernel_rfl)) ?_
        refine wpAnyU_take (i := 9) (v := undef) (some 25) rfl rfl (by kernel_rfl) (by kernel_rfl) (by kernel_rfl) (by kernel_rfl) (fun _ _ _ h => h) trivial (unwanted (by kernel_rfl)) ?_
        refine wpAnyU_take (i := 10) (v := undef) (some 26) rfl rfl (by kernel_rfl) (by kernel_rfl) (by kernel_rfl) (by kernel_rfl) (fun _ _ _ h => h) trivial (unwanted (by kernel_rfl)) ?_
        refine wpAnyU_take (i := 11) (v := undef) (some 27) rfl rfl (by kernel_rfl) (by kernel_rfl) (by kernel_rfl) (by kernel_rfl) (fun _ _ _ h => h) trivial (unwanted (by kernel_rfl)) ?_
        refine wpAnyU_take (i := 12) (v := undef) (some 28) rfl rfl (by kernel_rfl) (by kernel_rfl) (by kernel_rfl) (by kernel_rfl) (fun _ _ _ h => h) trivial (unwanted (by kernel_rfl)) ?_
        refine wpAnyU_take (i := 13) (v := undef) (some 29) rfl rfl (by kernel_rfl) (by kernel_rfl) (by kernel_rfl) (by kernel_rfl) (fun _ _ _ h => h) trivial (unwanted (by kernel_rfl)) ?_
        refine wpAnyU_take (i := 14) (v := undef) (some 30) rfl rfl (by kernel_rfl) (by kernel_rfl) (by kernel_rfl) (by kernel_rfl) (fun _ _ _ h => h) trivial (unwanted (by kernel_rfl)) ?_
        refine wpAnyU_take (i := 15) (v := undef) (some 31) rfl rfl (by kernel_rfl) (by kernel_rfl) (by kernel_rfl) (by kernel_rfl) (fun _ _ _ h => h) trivial (unwanted (by kernel_rfl)) ?_
        refine wpAnyU_take (i := 16) (v := undef) (some 32) rfl rfl (by kernel_rfl) (by kernel_rfl) (by kernel_rfl) (by kernel_rfl) (fun _ _ _ h => h) trivial (unwanted (by kernel_rfl)) ?_
        refine wpAnyU_take (i := 17) (v := (.bool false)) (some 33) rfl rfl (by kernel_rfl) (by kernel_rfl) (by kernel_rfl) (by kernel_rfl) (fun _ _ _ h => h) trivial (yields_of (by kernel_rfl) (fun w _ => by go_simp)) ?_
        refine wpAnyU_take (i := 18) (v := (.bool false)) (some 34) rfl rfl (by kernel_rfl) (by kernel_rfl) (by kernel_rfl) (by kernel_rfl) (fun _ _ _ h => h) trivial (yields_of (by kernel_rfl) (fun w _ => by go_simp)) ?_
        refine wpAnyU_done (by kernel_rfl) ?_ _
        simp only [put_lit, List.set_cons_succ, List.set_cons_zero]
        go_wp2
        go_roundw
        case rel => exact ⟨0 + 1, by omega, by first | rfl | go_num, HN⟩
        case measure => simp [intOf]; omega
      · obtain ⟨i, hji⟩ : ∃ i, i = j - 1 := ⟨_, rfl⟩
        have hil : i < l.length := by omega
        have hwi : IntKind.i64.wrap ((j : Int) - 1) = (i : Int) := by rw [IntWalk.i64_in _ (by omega)]; omega
        have i0 : (0 : Int) ≤ (i : Int) := by omega
        have inn : (i : Int) < (len : Int) := by omega
        have jpn : 0 < j := by omega
        have jij : Hid (i = j - 1) := hji
        obtain ⟨p, hp⟩ : ∃ p, Hid (p = l[i]) := ⟨l[i], rfl⟩
        have HRp : Hid (∀ W, Kept (fun _ => False) wx W → W.rangeAt b (off + i * 4) (entC p)) := fun W hk => by rw [hp.out]; exact HAT.out i hil W (HK.out.trans hk (fun _ f => f.elim))
        have HRx : Hid (∀ W, Kept (fun _ => False) wx W → W.rangeAt b (off + j * 4) (entC x)) := fun W hk => HX.out W (HK.out.trans hk (fun _ f => f.elim))
        have HPL : Hid (∀ h : j - 1 < l.length, p = l[j - 1]'h) := fun h => by
          rw [hp.out]
          simp only [hji]
        clear hji
        obtain ⟨bf, hbf⟩ : ∃ bf, Hid (bf = befM p x) := ⟨befM p x, rfl⟩
        have HBe : Hid (befM p x = bf) := hbf.out.symm
        cases bf with
        | true =>
          have hbp := HBe.out
          have HN : Hid (sortB (l.take (j + 1)) = true) := sort_more hjl hI.out.1 (by rw [← hx.out, ← hr.out]) (.inr (by rw [← HPL.out (by omega), ← hx.out]; exact hbp))
          refine wp_region_until (fun w' => w'.rangeAt b (off + i * 4) (entC p) ∧ w'.rangeAt b (off + j * 4) (entC x)) 19 (by kernel_rfl) ?_
          have hS : wx.drew.rangeAt b (off + i * 4) (entC p) ∧ wx.drew.rangeAt b (off + j * 4) (entC x) := ⟨HRp.out wx (Kept.refl _ _), HRx.out wx (Kept.refl _ _)⟩
          refine wpAnyU_take (i := 0) (v := (.bool true)) (some 16) rfl rfl (by kernel_rfl) (by kernel_rfl) (by kernel_rfl) (by kernel_rfl) (fun _ _ _ h => h) hS (yields_of (by kernel_rfl) (fun w _ => by go_simp)) ?_
          refine wpAnyU_take (i := 1) (v := (.bool false)) (some 17) rfl rfl (by kernel_rfl) (by kernel_rfl) (by kernel_rfl) (by kernel_rfl) (fun _ _ _ h => h) hS (yields_of (by kernel_rfl) (fun w _ => by go_simp)) ?_
          refine wpAnyU_take (i := 2) (v := (.bool false)) (some 18) rfl rfl (by kernel_rfl) (by kernel_rfl) (by kernel_rfl) (by kernel_rfl) (fun _ _ _ h => h) hS (yields_of (by kernel_rfl) (fun w _ => by go_simp)) ?_
          refine wpAnyU_take (i := 3) (v := (.int .i64 (j : Int))) (some 19) rfl rfl (by kernel_rfl) (by kernel_rfl) (by kernel_rfl) (by kernel_rfl) (fun _ _ _ h => h) hS (yields_of (by kernel_rfl) (fun w _ => by go_simp)) ?_
          refine wpAnyU_take (i := 4) (v := (.bool true)) (some 20) rfl rfl (by kernel_rfl) (by kernel_rfl) (by kernel_rfl) (by kernel_rfl) (fun _ _ _ h => h) hS (yields_of (by kernel_rfl) (fun w _ => by go_simp)) ?_
          refine wpAnyU_take (i := 5) (v := (.bool true)) (some 21) rfl rfl (by kernel_rfl) (by kernel_rfl) (by kernel_rfl) (by kernel_rfl) (fun _ _ _ h => h) hS (yields_of (by kernel_rfl) (fun w _ => by go_simp)) ?_
          refine wpAnyU_take (i := 6) (v := (.slice (some ⟨b, off, none⟩) len cap)) (some 22) rfl rfl (by kernel_rfl) (by kernel_rfl) (by kernel_rfl) (by kernel_rfl) (fun _ _ _ h => h) hS (yields_of (by kernel_rfl) (fun w _ => by go_simp)) ?_
          refine wpAnyU_take (i := 7) (v := (.int .i64 (j : Int))) (some 23) rfl rfl (by kernel_rfl) (by kernel_rfl) (by kernel_rfl) (by kernel_rfl) (fun _ _ _ h => h) hS (yields_of (by kernel_rfl) (fun w _ => by go_simp)) ?_
          refine wpAnyU_take (i := 8) (v := (.int .i64 (i : Int))) (some 24) rfl rfl (by kernel_rfl) (by kernel_rfl) (by kernel_rfl) (by kernel_rfl) (fun _ _ _ h => h) hS (yields_of (by kernel_rfl) (fun w _ => by go_simp)) ?_
          refine wpAnyU_take (i := 9) (v := (.pointer (some ⟨b, off + i * 4, none⟩))) (some 25) rfl rfl (by kernel_rfl) (by kernel_rfl) (by kernel_rfl) (by kernel_rfl) (fun _ _ _ h => h) hS (yields_of (by kernel_rfl) (fun w _ => by go_simp)) ?_
          refine wpAnyU_take (i := 10) (v := (.agg (entC p).toArray)) (some 26) rfl rfl (by kernel_rfl) (by kernel_rfl) (by kernel_rfl) (by kernel_rfl) (fun _ _ _ h => h) hS (yieldsIf_load_mid (by kernel_rfl) 34 (.tmp 25) rfl b (off + i * 4) (by kernel_rfl) (entC p) _ (fun w hw => hw.1) Try.underlying34 rfl (by rw [ent_size12]; rfl)) ?_
          refine wpAnyU_take (i := 11) (v := (.slice (some ⟨b, off, none⟩) len cap)) (some 27) rfl rfl (by kernel_rfl) (by kernel_rfl) (by kernel_rfl) (by kernel_rfl) (fun _ _ _ h => h) hS (yields_of (by kernel_rfl) (fun w _ => by go_simp)) ?_
          refine wpAnyU_take (i := 12) (v := (.int .i64 (j : Int))) (some 28) rfl rfl (by kernel_rfl) (by kernel_rfl) (by kernel_rfl) (by kernel_rfl) (fun _ _ _ h => h) hS (yields_of (by kernel_rfl) (fun w _ => by go_simp)) ?_
          refine wpAnyU_take (i := 13) (v := (.pointer (some ⟨b, off + j * 4, none⟩))) (some 29) rfl rfl (by kernel_rfl) (by kernel_rfl) (by kernel_rfl) (by kernel_rfl) (fun _ _ _ h => h) hS (yields_of (by kernel_rfl) (fun w _ => by go_simp)) ?_
          refine wpAnyU_take (i := 14) (v := (.agg (entC x).toArray)) (some 30) rfl rfl (by kernel_rfl) (by kernel_rfl) (by kernel_rfl) (by kernel_rfl) (fun _ _ _ h => h) hS (yieldsIf_load_mid (by kernel_rfl) 34 (.tmp 29) rfl b (off + j * 4) (by kernel_rfl) (entC x) _ (fun w hw => hw.2) Try.underlying34 rfl (by rw [ent_size12]; rfl)) ?_
          refine wpAnyU_call (i := 15) (f := 36) (args := #[(.agg (entC p).toArray), (.agg (entC x).toArray)]) (some 31) rfl rfl (by kernel_rfl) (by kernel_rfl) (by kernel_rfl) ?_
          refine (rBefore p x _).mono ?_
          rintro r wv ⟨rfl, hwv⟩
          have hkv : Kept (fun _ => False) wx wv := by rw [hwv]; exact (((Kept.refl _ wx).drewN 1).alloc _).alloc _
          clear hwv
          have hS2 : wv.rangeAt b (off + i * 4) (entC p) ∧ wv.rangeAt b (off + j * 4) (entC x) := ⟨HRp.out wv hkv, HRx.out wv hkv⟩
          rw [hbp]
          refine ⟨_, rfl, fun _ => hS2, ?_⟩
          refine wpAnyU_take (i := 16) (v := (.bool false)) (some 32) rfl rfl (by kernel_rfl) (by kernel_rfl) (by kernel_rfl) (by kernel_rfl) (fun _ _ _ h => h) hS2 (yields_of (by kernel_rfl) (fun w _ => by go_simp)) ?_
          refine wpAnyU_take (i := 17) (v := (.bool false)) (some 33) rfl rfl (by kernel_rfl) (by kernel_rfl) (by kernel_rfl) (by kernel_rfl) (fun _ _ _ h => h) hS2 (yields_of (by kernel_rfl) (fun w _ => by go_simp)) ?_
          refine wpAnyU_take (i := 18) (v := (.bool false)) (some 34) rfl rfl (by kernel_rfl) (by kernel_rfl) (by kernel_rfl) (by kernel_rfl) (fun _ _ _ h => h) hS2 (yields_of (by kernel_rfl) (fun w _ => by go_simp)) ?_
          refine wpAnyU_done (by kernel_rfl) ?_ _
          simp only [put_lit, List.set_cons_succ, List.set_cons_zero]
          go_wp2
          go_roundw
          case rel => exact ⟨j + 1, by omega, by first | rfl | go_num, HN.out, HK.out.trans hkv (fun _ f => f.elim)⟩
          case measure => simp [intOf]; omega
        | false =>
          have hbp := HBe.out
          have HV : Hid (sortB l = false) := sort_no_bef hjl (by omega) (by rw [← HPL.out (by omega), ← hx.out]; exact hbp)
          refine wp_region_until (fun w' => w'.rangeAt b (off + i * 4) (entC p) ∧ w'.rangeAt b (off + j * 4) (entC x)) 19 (by kernel_rfl) ?_
          have hS : wx.drew.rangeAt b (off + i * 4) (entC p) ∧ wx.drew.rangeAt b (off + j * 4) (entC x) := ⟨HRp.out wx (Kept.refl _ _), HRx.out wx (Kept.refl _ _)⟩
          refine wpAnyU_take (i := 0) (v := (.bool true)) (some 16) rfl rfl (by kernel_rfl) (by kernel_rfl) (by kernel_rfl) (by kernel_rfl) (fun _ _ _ h => h) hS (yields_of (by kernel_rfl) (fun w _ => by go_simp)) ?_
          refine wpAnyU_take (i := 1) (v := (.bool false)) (some 17) rfl rfl (by kernel_rfl) (by kernel_rfl) (by kernel_rfl) (by kernel_rfl) (fun _ _ _ h => h) hS (yields_of (by kernel_rfl) (fun w _ => by go_simp)) ?_
          refine wpAnyU_take (i := 2) (v := (.bool false)) (some 18) rfl rfl (by kernel_rfl) (by kernel_rfl) (by kernel_rfl) (by kernel_rfl) (fun _ _ _ h => h) hS (yields_of (by kernel_rfl) (fun w _ => by go_simp)) ?_
          refine wpAnyU_take (i := 3) (v := (.int .i64 (j : Int))) (some 19) rfl rfl (by kernel_rfl) (by kernel_rfl) (by kernel_rfl) (by kernel_rfl) (fun _ _ _ h => h) hS (yields_of (by kernel_rfl) (fun w _ => by go_simp)) ?_
          refine wpAnyU_take (i := 4) (v := (.bool true)) (some 20) rfl rfl (by kernel_rfl) (by kernel_rfl) (by kernel_rfl) (by kernel_rfl) (fun _ _ _ h => h) hS (yields_of (by kernel_rfl) (fun w _ => by go_simp)) ?_
          refine wpAnyU_take (i := 5) (v := (.bool true)) (some 21) rfl rfl (by kernel_rfl) (by kernel_rfl) (by kernel_rfl) (by kernel_rfl) (fun _ _ _ h => h) hS (yields_of (by kernel_rfl) (fun w _ => by go_simp)) ?_
          refine wpAnyU_take (i := 6) (v := (.slice (some ⟨b, off, none⟩) len cap)) (some 22) rfl rfl (by kernel_rfl) (by kernel_rfl) (by kernel_rfl) (by kernel_rfl) (fun _ _ _ h => h) hS (yields_of (by kernel_rfl) (fun w _ => by go_simp)) ?_
          refine wpAnyU_take (i := 7) (v := (.int .i64 (j : Int))) (some 23) rfl rfl (by kernel_rfl) (by kernel_rfl) (by kernel_rfl) (by kernel_rfl) (fun _ _ _ h => h) hS (yields_of (by kernel_rfl) (fun w _ => by go_simp)) ?_
          refine wpAnyU_take (i := 8) (v := (.int .i64 (i : Int))) (some 24) rfl rfl (by kernel_rfl) (by kernel_rfl) (by kernel_rfl) (by kernel_rfl) (fun _ _ _ h => h) hS (yields_of (by kernel_rfl) (fun w _ => by go_simp)) ?_
          refine wpAnyU_take (i := 9) (v := (.pointer (some ⟨b, off + i * 4, none⟩))) (some 25) rfl rfl (by kernel_rfl) (by kernel_rfl) (by kernel_rfl) (by kernel_rfl) (fun _ _ _ h => h) hS (yields_of (by kernel_rfl) (fun w _ => by go_simp)) ?_
          refine wpAnyU_take (i := 10) (v := (.agg (entC p).toArray)) (some 26) rfl rfl (by kernel_rfl) (by kernel_rfl) (by kernel_rfl) (by kernel_rfl) (fun _ _ _ h => h) hS (yieldsIf_load_mid (by kernel_rfl) 34 (.tmp 25) rfl b (off + i * 4) (by kernel_rfl) (entC p) _ (fun w hw => hw.1) Try.underlying34 rfl (by rw [ent_size12]; rfl)) ?_
          refine wpAnyU_take (i := 11) (v := (.slice (some ⟨b, off, none⟩) len cap)) (some 27) rfl rfl (by kernel_rfl) (by kernel_rfl) (by kernel_rfl) (by kernel_rfl) (fun _ _ _ h => h) hS (yields_of (by kernel_rfl) (fun w _ => by go_simp)) ?_
          refine wpAnyU_take (i := 12) (v := (.int .i64 (j : Int))) (some 28) rfl rfl (by kernel_rfl) (by kernel_rfl) (by kernel_rfl) (by kernel_rfl) (fun _ _ _ h => h) hS (yields_of (by kernel_rfl) (fun w _ => by go_simp)) ?_
          refine wpAnyU_take (i := 13) (v := (.pointer (some ⟨b, off + j * 4, none⟩))) (some 29) rfl rfl (by kernel_rfl) (by kernel_rfl) (by kernel_rfl) (by kernel_rfl) (fun _ _ _ h => h) hS (yields_of (by kernel_rfl) (fun w _ => by go_simp)) ?_
          refine wpAnyU_take (i := 14) (v := (.agg (entC x).toArray)) (some 30) rfl rfl (by kernel_rfl) (by kernel_rfl) (by kernel_rfl) (by kernel_rfl) (fun _ _ _ h => h) hS (yieldsIf_load_mid (by kernel_rfl) 34 (.tmp 29) rfl b (off + j * 4) (by kernel_rfl) (entC x) _ (fun w hw => hw.2) Try.underlying34 rfl (by rw [ent_size12]; rfl)) ?_
          refine wpAnyU_call (i := 15) (f := 36) (args := #[(.agg (entC p).toArray), (.agg (entC x).toArray)]) (some 31) rfl rfl (by kernel_rfl) (by kernel_rfl) (by kernel_rfl) ?_
          refine (rBefore p x _).mono ?_
          rintro r wv ⟨rfl, hwv⟩
          have hkv : Kept (fun _ => False) wx wv := by rw [hwv]; exact (((Kept.refl _ wx).drewN 1).alloc _).alloc _
          clear hwv
          have hS2 : wv.rangeAt b (off + i * 4) (entC p) ∧ wv.rangeAt b (off + j * 4) (entC x) := ⟨HRp.out wv hkv, HRx.out wv hkv⟩
          rw [hbp]
          refine ⟨_, rfl, fun _ => hS2, ?_⟩
          refine wpAnyU_take (i := 16) (v := (.bool true)) (some 32) rfl rfl (by kernel_rfl) (by kernel_rfl) (by kernel_rfl) (by kernel_rfl) (fun _ _ _ h => h) hS2 (yields_of (by kernel_rfl) (fun w _ => by go_simp)) ?_
          refine wpAnyU_take (i := 17) (v := (.bool true)) (some 33) rfl rfl (by kernel_rfl) (by kernel_rfl) (by kernel_rfl) (by kernel_rfl) (fun _ _ _ h => h) hS2 (yields_of (by kernel_rfl) (fun w _ => by go_simp)) ?_
          refine wpAnyU_take (i := 18) (v := (.bool true)) (some 34) rfl rfl (by kernel_rfl) (by kernel_rfl) (by kernel_rfl) (by kernel_rfl) (fun _ _ _ h => h) hS2 (yields_of (by kernel_rfl) (fun w _ => by go_simp)) ?_
          refine wpAnyU_done (by kernel_rfl) ?_ _
          simp only [put_lit, List.set_cons_succ, List.set_cons_zero]
          go_wp2
          go_ret
          exact ⟨by rw [HV.out]; rfl, HK.out.trans hkv (fun _ f => f.elim)⟩

end Go.Proofs.Ythkejfhcdodggaa
