/- The reference of layer 15: Fold. -/
import Derived.Test.YthkejfhcdodggaaRn15
import Derived.Test.YthkejfhcdodggaaJ11
import Derived.Deep.CutRange
namespace Go.Proofs.Ythkejfhcdodggaa
open Go.RowKit Go.Proofs Go.Proofs.Pk
set_option maxRecDepth 10000
attribute [local simp] mk_get wrap64_u8 mk_extract ByteArray.mk_append_mk get_1k

def lenV : Value → Nat
  | .slice _ n _ => n
  | _ => 0
theorem OutO.pop {w0 w : World} {ad : Option Addr} {m cap : Nat} {T : List MEnt} (h : OutO w0 w ad (m + 1) cap T) : OutO w0 w ad m cap (T.take m) := by
  obtain ⟨h1, h2, h3, h4⟩ := h
  refine ⟨by rw [List.length_take]; omega, ⟨by rw [cellsM_length, List.length_take]; congr 1; omega, ?_⟩, h3, fun e he => h4 e (List.mem_of_mem_take he)⟩
  rcases h2.2 with ⟨_, h⟩ | ⟨g, cap', cur, hv, hb, hg, hn, hm, hs, ht⟩
  · omega
  · cases hv
    refine .inr ⟨g, cap, cur, rfl, hb, hg, by omega, hm, hs, ?_⟩
    rw [cellsM_take, ← ht, List.take_take]
    congr 1; omega
theorem OutO.top {w0 w : World} {ad : Option Addr} {m cap : Nat} {T : List MEnt} (h : OutO w0 w ad (m + 1) cap T) : ∃ (g : Nat) (x : MEnt), ad = some ⟨g, 0, none⟩ ∧ T = T.take m ++ [x] ∧ m + 1 ≤ cap ∧ w.cell? ⟨g, m * 4, none⟩ = some (.string ⟨x.1.toArray⟩) ∧ w.cell? ⟨g, m * 4 + 2, none⟩ = some (.bool x.2.2.1) := by
  obtain ⟨h1, h2, h3, h4⟩ := h
  have hm : m < T.length := by omega
  rw [← h1] at h2
  obtain ⟨g, c, hv, hg, hB, hr⟩ := rows_range h2 m hm
  have hcap : T.length ≤ cap := by
    rcases h2.2 with ⟨_, h⟩ | ⟨g', cap', cur, hv', _, _, hn, _⟩
    · omega
    · cases hv'; exact hn
  cases hv
  refine ⟨g, T[m], rfl, ?_, by omega, hr 0 _ rfl, hr 2 _ rfl⟩
  rw [← List.take_succ_eq_append_getElem hm, List.take_of_length_le (by omega)]
/-- How far the end is trimmed. -/
theorem trim_done {k : Txt} {O F : List MEnt} (h : trimD k O = trimD k F) (he : O = [] ∨ ∃ P x, O = P ++ [x] ∧ dropK k x = false) : trimD k F = O := by
  rw [← h]
  rcases he with rfl | ⟨P, x, rfl, hx⟩
  · rfl
  · rw [trim_snoc, if_neg (by rw [hx]; simp)]
theorem trim_more {k : Txt} {P F : List MEnt} {x : MEnt} (h : trimD k (P ++ [x]) = trimD k F) (hx : dropK k x = true) : trimD k P = trimD k F := by rw [← h, trim_snoc, if_pos hx]

set_option maxHeartbeats 16000000 in
theorem rFold (w : World) (ad : Option Addr) (len cap : Nat) (l : List MEnt) (kd : Option Addr) (kl kc : Nat) (ks : List Int) (b : Bool) (h : EntsW w ad len l) (hlm : len ≤ 1000) (hi : Ints w kd kl ks) (hkl : (kl : Int) * 8 ≤ 140737488351232) :
    Calls Try.prog 16 #[.slice ad len cap, .slice kd kl kc, .bool b] w (RefE w (if sortB l = true then (foldM l ks b, true) else ([], false))) := by
  have hlen := h.1
  have H := Lib.hid h
  have HI := Lib.hid hi
  have HS := Lib.hid (rSorted w ad len cap l h (by omega))
  obtain ⟨w0, hw0⟩ : ∃ w0, w0 = w := ⟨_, rfl⟩
  rw [← hw0] at H HI HS ⊢
  clear h hi
  by_cases hs : sortB l = true
  case neg =>
    rw [if_neg hs]
    rw [Bool.eq_false_iff.2 hs] at HS
    go_enter Try.func16, Try.ntmps16
    clear hw0
    go_wp2_with fail
    refine HS.out.mono ?_
    clear HS
    rintro e w1 ⟨rfl, hk1⟩
    go_wp2
    go_ret2
    exact RefE.no hk1
  rw [if_pos hs]
  rw [hs] at HS
  go_enter Try.func16, Try.ntmps16
  clear hw0
  go_wp2_with fail
  refine HS.out.mono ?_
  clear HS
  rintro e w1 ⟨rfl, hk1⟩
  have HU := Lib.hid (sort_up hs)
  have HO0 : Hid (OutO w0 w1 none 0 0 (foldAt l ks b 0)) := by show OutO _ _ _ _ _ _; rw [foldAt_zero]; exact OutO.nil hk1
  obtain ⟨i0, hi0, hz0, hz1, hz2⟩ := info_parts ent_info
  have HKL := Lib.hid hkl
  clear hs hk1 hkl
  go_wp2
  go_loopw [9, 10] (fun o i wr => ∃ (j n : Nat) (ao : Option Addr) (co : Nat), (j ≤ len ∧ n ≤ j) ∧ o = .slice ao n co ∧ i = .int .i64 (j : Int) ∧ Hid (OutO w0 wr ao n co (foldAt l ks b j))) (fun _ i _ => len - (intOf i).toNat)
  case atStart => exact ⟨0, 0, none, 0, ⟨Nat.zero_le _, Nat.le_refl _⟩, rfl, rfl, HO0⟩
  case round =>
    rename World => w9
    obtain ⟨j, n, ao, co, ⟨hj, hnj⟩, rfl, rfl, hI⟩ := hrel
    clear HO0
    have j0 : (0 : Int) ≤ (j : Int) := by omega
    by_cases hlt : j < len
    case neg =>
      obtain rfl : j = len := by omega
      have jn : ¬(j : Int) < (j : Int) := by omega
      have HV : Hid (OutO w0 w9 ao n co (foldM l ks b)) := by
        have := hI.out
        rwa [show j = l.length from hlen.symm, foldAt_all] at this
      clear hI
      go_wp2
      go_ret2
      exact HV.out.ref
    have jn : (j : Int) < (len : Int) := by omega
    obtain ⟨k, hk⟩ : ∃ k, Hid (k = j + 1) := ⟨_, rfl⟩
    have hwj : IntKind.i64.wrap ((j : Int) + 1) = (k : Int) := by rw [hk.out, IntWalk.i64_in _ (by omega)]; omega
    have k0 : (0 : Int) ≤ (k : Int) := by omega
    obtain ⟨m, hm⟩ : ∃ m, Hid (m = len - 1) := ⟨_, rfl⟩
    have hwm : IntKind.i64.wrap ((len : Int) - 1) = (m : Int) := by rw [hm.out, IntWalk.i64_in _ (by omega)]; omega
    have hjl : j < l.length := by omega
    obtain ⟨g0, off, rfl, hb, hat⟩ : ∃ g0 off, ad = some ⟨g0, off, none⟩ ∧ g0 < w0.heap.size ∧ ∀ (i : Nat) (hi : i < l.length) (W : World), Kept (fun _ => False) w0 W → W.rangeAt g0 (off + i * 4) (entC l[i]) := by
      rcases H.out.2 with h0 | ⟨b, off, h1, h2, h3⟩
      · rw [h0] at hjl; simp at hjl
      · exact ⟨b, off, h1, h2, fun i hi W hk k v hv => (hk.cell (p := ⟨b, off + i * 4 + k, none⟩) h2 (fun f => f)).trans ((h3 i hi).row k v hv)⟩
    have hfx : FitN (l[j]).2.1 := by
      obtain ⟨_, _, _, _, _, hf, _⟩ := entsW_all H.out j (by omega)
      exact hf
    obtain ⟨lb, hlb⟩ : ∃ lb : Bool, (lb = true ↔ lastB l j hjl) := by
      by_cases h : lastB l j hjl
      · exact ⟨true, fun _ => h, fun _ => rfl⟩
      · exact ⟨false, fun h' => (by cases h'), fun h' => absurd h' h⟩
    have hnx : (m = j ∧ lb = true) ∨ (((j : Int) == (m : Int)) = false ∧ (k : Int) < (len : Int) ∧ ∃ yk : Txt, (∀ W, Kept (fun _ => False) w0 W → W.cell? ⟨g0, off + k * 4, none⟩ = some (.string ⟨yk.toArray⟩)) ∧ ((yk == (l[j]).1) = false ∧ lb = true ∨ yk = (l[j]).1 ∧ lb = false)) := by
      by_cases h1 : j + 1 = l.length
      · exact .inl ⟨by have := hm.out; omega, hlb.2 (.inl h1)⟩
      · have h2 : j + 1 < l.length := by omega
        refine .inr ⟨by rw [beq_eq_false_iff_ne]; have := hm.out; omega, by have := hk.out; omega, (l[j + 1]).1, fun W hW => by rw [hk.out]; exact hat (j + 1) h2 W hW 0 _ rfl, ?_⟩
        by_cases h3 : (l[j + 1]).1 = (l[j]).1
        · refine .inr ⟨h3, ?_⟩
          rw [Bool.eq_false_iff]
          intro h
          rcases hlb.1 h with h | ⟨_, h⟩
          · exact h1 h
          · exact h h3
        · exact .inl ⟨by simpa using h3, hlb.2 (.inr ⟨h2, h3⟩)⟩
    have HMore : Hid (b = false ∨ lb = false → foldAt l ks b k = foldOn l ks b j hjl) := fun h => by
      rw [hk.out]
      exact foldAt_more ks b j hjl (h.imp_right fun h hl => by rw [hlb.2 hl] at h; cases h)
    have HLast : Hid (b = true → lb = true → foldAt l ks b k = trimD (l[j]).1 (foldOn l ks b j hjl)) := fun h1 h2 => by
      subst h1
      rw [hk.out]
      exact foldAt_last HU.out ks j hjl (hlb.1 h2)
    have HND := Lib.hid (rNeeded w9 _ len cap j l kd kl kc ks (ents_keptK H.out hI.out.2.2.1) hlm HU.out hjl (HI.out.kept hI.out.2.2.1 (.inr fun _ _ _ f => f)) HKL.out)
    have hFO : foldOn l ks b j hjl = foldAt l ks b j ++ if needM l ks l[j] = true then [l[j]] else [] := rfl
    have HXc : Hid (∀ W, Kept (fun _ => False) w0 W → W.rangeAt g0 (off + j * 4) (entC l[j])) := fun W hW => hat j hjl W hW
    obtain ⟨F, hF⟩ : ∃ F, F = foldOn l ks b j hjl := ⟨_, rfl⟩
    rw [← hF] at HMore HLast hFO
    obtain ⟨nd, hnd⟩ : ∃ nd, nd = needM l ks l[j] := ⟨_, rfl⟩
    rw [← hnd] at HND hFO
    obtain ⟨x, hx⟩ : ∃ x, x = l[j] := ⟨_, rfl⟩
    rw [← hx] at hfx hnx HLast HXc hFO
    obtain ⟨T, hT⟩ : ∃ T, Hid (T = foldAt l ks b j) := ⟨_, rfl⟩
    have HO := Lib.hid hI.out
    rw [← hT.out] at HO hFO
    have HFO := Lib.hid hFO
    have HX := Lib.hid hfx
    have HNX := Lib.hid hnx
    clear hlb hat hfx hnx hF hnd hx hFO hI hlt
    go_wp2_with fail
    refine HND.out.mono ?_
    clear HND
    rintro e wa ⟨rfl, hka⟩
    have HO1 := Lib.hid (HO.out.kept hka)
    clear hka HO
    go_upto_if 27 with fail
    go_cut [9] from 28 to 34 (fun s9 wx => ∃ (n2 : Nat) (ao2 : Option Addr) (co2 : Nat), n2 ≤ k ∧ s9 = .slice ao2 n2 co2 ∧ Hid (OutO w0 wx ao2 n2 co2 F))
    case first =>
      cases nd with
      | false =>
        have HL : Hid (OutO w0 wa ao n co F) := by
          show OutO _ _ _ _ _ _
          rw [HFO.out, if_neg (by simp), List.append_nil]
          exact HO1.out
        clear HFO HO1 hT HMore HLast HNX
        go_wp2
        go_meet
        case rel => exact ⟨n, ao, co, by have := hk.out; omega, rfl, HL⟩
      | true =>
        have hnb : (n + 1) * 48 ≤ 140737488355328 := by omega
        have rx := HXc.out wa HO1.out.2.2.1
        have x0 : wa.cell? ⟨g0, off + j * 4, none⟩ = some (.string ⟨x.1.toArray⟩) := rx 0 _ rfl
        have x1 : wa.cell? ⟨g0, off + j * 4 + 1, none⟩ = some (.int .i64 x.2.1) := rx 1 _ rfl
        have x2 : wa.cell? ⟨g0, off + j * 4 + 2, none⟩ = some (.bool x.2.2.1) := rx 2 _ rfl
        have x3 : wa.cell? ⟨g0, off + j * 4 + 3, none⟩ = some (.string ⟨x.2.2.2.toArray⟩) := rx 3 _ rfl
        have hHn := Lib.hid (Holds.new wa (entC x) 34)
        have hsz : Hid (w0.heap.size ≤ wa.heap.size) := HO1.out.2.2.1.size
        clear rx
        go_wp2_with (at_builtin; refine wpList_append_own _ rfl (.tmp 28) (.tmp 33) 24 rfl w0.heap.size 34 i0 _ 4 48 Try.underlying24 hi0 hz0 hz1 hz2 rfl (by decide) _ _ _ rfl (HO1.out.2.1.alloc _) ⟨wa.heap.size, 0, none⟩ 1 1 (entC x) rfl rfl ?d1 (entC_one _) ?d3 ?d4 ?d5 ?_)
        case d1 =>
          intro j' u' hj'
          first | exact hj' | (rw [add0]; exact hHn.out.cell j' u' hj')
        case d3 => unfold maxLen; omega
        try (case d4 => exact hnb)
        case d5 => have := hsz.out; simp; omega
        intro v2 wB hown2 hgr2 _
        obtain ⟨ad2, cap2, rfl, hON⟩ := HO1.out.grown HX.out ((Kept.refl _ wa).alloc _) hown2 hgr2
        have HL : Hid (OutO w0 wB ad2 (n + 1) cap2 F) := by
          show OutO _ _ _ _ _ _
          rw [HFO.out, if_pos (by trivial)]
          exact hON
        clear hown2 hgr2 hON HFO HO1 hT HMore HLast HNX hHn x0 x1 x2 x3
        go_wp2
        go_meet
        case rel => exact ⟨n + 1, ad2, cap2, by have := hk.out; omega, rfl, HL⟩
    case rest =>
      obtain ⟨n2, ao2, co2, hn2, rfl, HO2⟩ := hcut
      rename World => wb
      clear HO1 HFO hT
      go_upto_region 11 with fail
      go_cut [12] from 35 to 53 (fun s12 wx => s12 = .bool lb ∧ Hid (OutO w0 wx ao2 n2 co2 F))
      case first =>
        have rx := HXc.out wb HO2.out.2.2.1
        have x0 : wb.cell? ⟨g0, off + j * 4, none⟩ = some (.string ⟨x.1.toArray⟩) := rx 0 _ rfl
        have HO3 : Hid (∀ z, OutO w0 (wb.drewN z) ao2 n2 co2 F) := fun z => HO2.out.drewN z
        clear rx HMore HLast
        rcases HNX.out with ⟨hmj, hlb⟩ | ⟨hjm, hkl, yk, hy, ⟨hyk, hlb⟩ | ⟨hyk, hlb⟩⟩
        · subst hlb
          obtain rfl : m = j := hmj
          clear HNX
          go_wp2
          go_quiet (fail)
          go_wp2
          go_meet
          case rel => exact ⟨rfl, HO3.out _⟩
        · subst hlb
          have y0 := hy wb HO2.out.2.2.1
          clear HNX hy
          go_wp2
          go_quiet (fail)
          go_wp2
          go_meet
          case rel => exact ⟨rfl, HO3.out _⟩
        · subst hlb
          have y0 := hy wb HO2.out.2.2.1
          rw [hyk] at y0
          clear HNX hy hyk
          go_wp2
          go_quiet (fail)
          go_wp2
          go_meet
          case rel => exact ⟨rfl, HO3.out _⟩
      case rest =>
        obtain ⟨rfl, HO3⟩ := hcut
        rename World => wd
        have HT0 : Hid (∃ O, OutO w0 wd ao2 n2 co2 O ∧ trimD x.1 O = trimD x.1 F ∧ (O = F ∨ (b = true ∧ lb = true))) := ⟨F, HO3.out, rfl, .inl rfl⟩
        clear HO2 HO3 HNX
        go_wp2
        go_loopw [9] (fun o wr => ∃ (n3 : Nat) (ao3 : Option Addr) (co3 : Nat), n3 ≤ k ∧ o = .slice ao3 n3 co3 ∧ Hid (∃ O, OutO w0 wr ao3 n3 co3 O ∧ trimD x.1 O = trimD x.1 F ∧ (O = F ∨ (b = true ∧ lb = true)))) (fun o _ => lenV o)
        case atStart => exact ⟨n2, ao2, co2, hn2, rfl, HT0⟩
        case round =>
          obtain ⟨n3, ao3, co3, hn3, rfl, hO⟩ := hrel
          clear HT0
          obtain ⟨O, hO1, hO2, hO3⟩ := hO.out
          cases b with
          | false =>
            have hOF : O = F := hO3.elim id fun h => by cases h.1
            have HL : Hid (∀ z, OutO w0 (wr.drewN z) ao3 n3 co3 (foldAt l ks false k)) := fun z => by
              rw [HMore.out (.inl rfl), ← hOF]
              exact hO1.drewN z
            clear hO1 hO2 hO3 hOF
            clear hO HMore HLast
            go_wp2
            go_quiet (fail)
            go_wp2
            go_roundw
            case rel => exact ⟨k, n3, ao3, co3, ⟨by have := hk.out; omega, hn3⟩, rfl, rfl, HL.out _⟩
            case measure => simp [intOf]; have := hk.out; omega
          | true =>
            cases lb with
            | false =>
              have hOF : O = F := hO3.elim id fun h => by cases h.2
              have HL : Hid (∀ z, OutO w0 (wr.drewN z) ao3 n3 co3 (foldAt l ks true k)) := fun z => by
                rw [HMore.out (.inr rfl), ← hOF]
                exact hO1.drewN z
              clear hO1 hO2 hO3 hOF
              clear hO HMore HLast
              go_wp2
              go_quiet (fail)
              go_wp2
              go_roundw
              case rel => exact ⟨k, n3, ao3, co3, ⟨by have := hk.out; omega, hn3⟩, rfl, rfl, HL.out _⟩
              case measure => simp [intOf]; have := hk.out; omega
            | true =>
              have hLT := HLast.out rfl rfl
              cases n3 with
              | zero =>
                have hnil : O = [] := List.length_eq_zero_iff.1 hO1.1
                have HL : Hid (∀ z, OutO w0 (wr.drewN z) ao3 0 co3 (foldAt l ks true k)) := fun z => by
                  rw [hLT, trim_done hO2 (.inl hnil)]
                  exact hO1.drewN z
                clear hO1 hO2 hO3 hnil hLT
                clear hO HMore HLast
                go_wp2
                go_quiet (fail)
                go_wp2
                go_roundw
                case rel => exact ⟨k, 0, ao3, co3, ⟨by have := hk.out; omega, Nat.zero_le _⟩, rfl, rfl, HL.out _⟩
                case measure => simp [intOf]; have := hk.out; omega
              | succ m3 =>
                obtain ⟨g3, y, rfl, hOy, hmc, y0, y2⟩ := hO1.top
                have hgt : (0 : Int) < ((m3 + 1 : Nat) : Int) := by omega
                have hgN : 0 < m3 + 1 := Nat.succ_pos _
                have hw3 : IntKind.i64.wrap (((m3 + 1 : Nat) : Int) - 1) = (m3 : Int) := by rw [IntWalk.i64_in _ (by have := hk.out; omega)]; omega
                have hm0 : (0 : Int) ≤ (m3 : Int) := by omega
                have hmn : (m3 : Int) < ((m3 + 1 : Nat) : Int) := by omega
                have hmcI : (m3 : Int) ≤ (co3 : Int) := by omega
                have rx := HXc.out wr hO1.2.2.1
                have x0 : wr.cell? ⟨g0, off + j * 4, none⟩ = some (.string ⟨x.1.toArray⟩) := rx 0 _ rfl
                clear rx
                obtain ⟨n4, hn4⟩ : ∃ n4, n4 = m3 + 1 := ⟨_, rfl⟩
                rw [← hn4] at hgt hgN hw3 hmn hn3 hmc hO1 ⊢
                obtain ⟨d, hd⟩ : ∃ d, Hid (d = y.2.2.1) := ⟨_, rfl⟩
                rw [← hd.out] at y2
                by_cases hyk : y.1 = x.1
                case neg =>
                  have hkb : (y.1 == x.1) = false := by simpa using hyk
                  have hdone : trimD x.1 F = O := trim_done hO2 (.inr ⟨_, y, hOy, by unfold dropK; rw [hkb, Bool.false_and]⟩)
                  have HL : Hid (∀ z, OutO w0 (wr.drewN z) _ n4 co3 (foldAt l ks true k)) := fun z => by
                    rw [hLT, hdone]
                    exact hO1.drewN z
                  clear hO1 hO2 hO3 hOy hdone hLT hyk hn4
                  clear hO HMore HLast
                  go_wp2
                  go_quiet (fail)
                  go_wp2
                  go_roundw
                  case rel => exact ⟨k, n4, some ⟨g3, 0, none⟩, co3, ⟨by have := hk.out; omega, hn3⟩, rfl, rfl, HL.out _⟩
                  case measure => simp [intOf]; have := hk.out; omega
                rw [hyk] at y0
                cases d with
                | false =>
                  have hdone : trimD x.1 F = O := trim_done hO2 (.inr ⟨_, y, hOy, by unfold dropK; rw [← hd.out, Bool.and_false]⟩)
                  have HL : Hid (∀ z, OutO w0 (wr.drewN z) _ n4 co3 (foldAt l ks true k)) := fun z => by
                    rw [hLT, hdone]
                    exact hO1.drewN z
                  clear hO1 hO2 hO3 hOy hdone hLT hyk hn4
                  clear hO HMore HLast
                  go_wp2
                  go_quiet (fail)
                  go_wp2
                  go_roundw
                  case rel => exact ⟨k, n4, some ⟨g3, 0, none⟩, co3, ⟨by have := hk.out; omega, hn3⟩, rfl, rfl, HL.out _⟩
                  case measure => simp [intOf]; have := hk.out; omega
                | true =>
                  have HN : Hid (∀ z, ∃ O, OutO w0 (wr.drewN z) (some ⟨g3, 0, none⟩) m3 co3 O ∧ trimD x.1 O = trimD x.1 F ∧ (O = F ∨ (true = true ∧ true = true))) := fun z =>
                    ⟨O.take m3, by rw [hn4] at hO1; exact hO1.pop.drewN z, trim_more (x := y) (by rw [← hOy]; exact hO2) (by unfold dropK; rw [hyk, ← hd.out]; simp), .inr ⟨rfl, rfl⟩⟩
                  have HN4 := Lib.hid hn4
                  clear hn4 hO1 hO2 hO3 hOy hLT hyk hO HMore HLast
                  go_wp2
                  go_quiet (fail)
                  go_wp2
                  go_roundw
                  case rel => exact ⟨m3, _, co3, by have := HN4.out; omega, rfl, HN.out _⟩
                  case measure => simp [lenV]; have := HN4.out; omega

end Go.Proofs.Ythkejfhcdodggaa
