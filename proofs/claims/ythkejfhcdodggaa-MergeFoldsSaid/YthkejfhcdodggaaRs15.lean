/- The reference of layer 15: See. -/
import Derived.Test.YthkejfhcdodggaaR2s
import Derived.Test.YthkejfhcdodggaaJ05
import Derived.Test.YthkejfhcdodggaaJ10
import Derived.Test.YthkejfhcdodggaaJ04
import Derived.BigQuiet
namespace Go.Proofs.Ythkejfhcdodggaa
open Go.RowKit Go.Proofs Go.Proofs.Pk
set_option maxRecDepth 10000
attribute [local simp] mk_get wrap64_u8 mk_extract ByteArray.mk_append_mk get_1k

/-- What the reference answers of a list. -/
def RefE (w : World) (r : List MEnt × Bool) (e : Ending) (w' : World) : Prop :=
  ∃ (ad : Option Addr) (cap : Nat), e = .returned (.tuple #[.slice ad r.1.length cap, .bool r.2]) ∧ EntsW w' ad r.1.length r.1 ∧ Kept (fun _ => False) w w'
theorem RefE.no {w w' : World} (h : Kept (fun _ => False) w w') : RefE w ([], false) (.returned (.tuple #[.slice none 0 0, .bool false])) w' := ⟨none, 0, rfl, EntsW.empty, h⟩
theorem OutO.ref {w0 w : World} {ad : Option Addr} {n cap : Nat} {T : List MEnt} (h : OutO w0 w ad n cap T) : RefE w0 (T, true) (.returned (.tuple #[.slice ad n cap, .bool true])) w := by
  obtain ⟨rfl, h2, h3, h4⟩ := h
  exact ⟨ad, cap, rfl, owns_ents h2 h4, h3⟩

set_option maxHeartbeats 16000000 in
theorem rSee (w : World) (ad : Option Addr) (len cap : Nat) (l : List MEnt) (s : Int) (h : EntsW w ad len l) (hlm : len ≤ 1000) :
    Calls Try.prog 18 #[.slice ad len cap, .int .i64 s] w (RefE w (if sortB l = true then (seeM l s, true) else ([], false))) := by
  have hlen := h.1
  have H := Lib.hid h
  have HS := Lib.hid (rSorted w ad len cap l h (by omega))
  obtain ⟨w0, hw0⟩ : ∃ w0, w0 = w := ⟨_, rfl⟩
  rw [← hw0] at H HS ⊢
  clear h
  by_cases hs : sortB l = true
  case neg =>
    rw [if_neg hs]
    rw [Bool.eq_false_iff.2 hs] at HS
    go_enter Try.func18, Try.ntmps18
    clear hw0
    go_wp2_with fail
    refine HS.out.mono ?_
    clear HS
    rintro e w1 ⟨rfl, hk1⟩
    go_wp2
    go_ret2
    exact RefE.no hk1
  rw [if_pos hs]
  rw [hs] at HS
  go_enter Try.func18, Try.ntmps18
  clear hw0
  go_wp2_with fail
  refine HS.out.mono ?_
  clear HS
  rintro e w1 ⟨rfl, hk1⟩
  have HU := Lib.hid (sort_up hs)
  have HI : Hid (OutO w0 w1 none 0 0 ((l.take 0).filter (seenB l s))) := OutO.nil hk1
  obtain ⟨i0, hi0, hz0, hz1, hz2⟩ := info_parts ent_info
  clear hs hk1
  go_wp2
  go_loopw [7, 8] (fun o i wr => ∃ (j n : Nat) (ao : Option Addr) (co : Nat), (j ≤ len ∧ n ≤ j) ∧ o = .slice ao n co ∧ i = .int .i64 (j : Int) ∧ Hid (OutO w0 wr ao n co ((l.take j).filter (seenB l s)))) (fun _ i _ => len - (intOf i).toNat)
  case atStart => exact ⟨0, 0, none, 0, ⟨Nat.zero_le _, Nat.le_refl _⟩, rfl, rfl, HI⟩
  case round =>
    obtain ⟨j, n, ao, co, ⟨hj, hnj⟩, rfl, rfl, hI⟩ := hrel
    clear HI
    have j0 : (0 : Int) ≤ (j : Int) := by omega
    by_cases hlt : j < len
    case neg =>
      obtain rfl : j = len := by omega
      have jn : ¬(j : Int) < (j : Int) := by omega
      have HV : Hid (OutO w0 wr ao n co (seeM l s)) := by
        have := hI.out
        rwa [show j = l.length from hlen.symm, see_all] at this
      clear hI
      go_wp2
      go_ret2
      exact HV.out.ref
    have jn : (j : Int) < (len : Int) := by omega
    have hwj : IntKind.i64.wrap ((j : Int) + 1) = (j : Int) + 1 := IntWalk.i64_in _ (by omega)
    have hjl : j < l.length := by omega
    obtain ⟨b, off, rfl, hb, x0, x1, x2, x3⟩ := (ents_keptK H.out hI.out.2.2.1).atS j hjl
    have hfx : FitN (l[j]).2.1 := by
      obtain ⟨_, _, _, _, _, hf, _⟩ := entsW_all H.out j (by omega)
      exact hf
    have hseen := seen_at HU.out hjl s
    have htk := see_take (l := l) s hjl
    have hprev : (j : Int) = 0 ∧ j = 0 ∨ ¬(j : Int) = 0 ∧ ∃ p : MEnt, IntKind.i64.wrap ((j : Int) - 1) = ((j - 1 : Nat) : Int) ∧ ((j - 1 : Nat) : Int) < (len : Int) ∧ (0 : Int) ≤ ((j - 1 : Nat) : Int) ∧ wr.cell? ⟨b, off + (j - 1) * 4, none⟩ = some (.string ⟨p.1.toArray⟩) ∧ wr.cell? ⟨b, off + (j - 1) * 4 + 1, none⟩ = some (.int .i64 p.2.1) ∧ (∃ h : j - 1 < l.length, p = l[j - 1]) := by
      by_cases h0 : j = 0
      · exact .inl ⟨by omega, h0⟩
      · obtain ⟨b', off', he, _, p0, p1, _, _⟩ := (ents_keptK H.out hI.out.2.2.1).atS (j - 1) (by omega)
        cases he
        exact .inr ⟨by omega, l[j - 1]'(by omega), by rw [IntWalk.i64_in _ (by omega)]; omega, by omega, by omega, p0, p1, by omega, rfl⟩
    obtain ⟨x, hx⟩ : ∃ x, x = l[j] := ⟨_, rfl⟩
    rw [← hx] at x0 x1 x2 x3 hseen htk hfx
    have HX := Lib.hid hfx
    -- which way the place is looked at
    obtain ⟨f, hf⟩ : ∃ f : Bool, f = decide (j = 0 ∨ (l[j - 1]'(by omega)).1 ≠ x.1 ∨ s < (l[j - 1]'(by omega)).2.1) := ⟨_, rfl⟩
    have hseen2 : seenB l s x = true ↔ x.2.1 ≤ s ∧ f = true ∧ x.2.2.1 = false := by rw [hseen, hf, decide_eq_true_eq]
    have HF : Hid ((f = true ↔ (j = 0 ∨ (l[j - 1]'(by omega)).1 ≠ x.1 ∨ s < (l[j - 1]'(by omega)).2.1))) := by show _ ↔ _; rw [hf, decide_eq_true_eq]
    have HT := Lib.hid htk
    have HN := Lib.hid hseen2
    clear hf hseen hseen2 htk hfx hx
    have hway : j = 0 ∧ f = true ∨ ¬(j : Int) = 0 ∧ ∃ (pk : Txt) (ps : Int), IntKind.i64.wrap ((j : Int) - 1) = ((j - 1 : Nat) : Int) ∧ ((j - 1 : Nat) : Int) < (len : Int) ∧ (0 : Int) ≤ ((j - 1 : Nat) : Int) ∧ wr.cell? ⟨b, off + (j - 1) * 4, none⟩ = some (.string ⟨pk.toArray⟩) ∧ wr.cell? ⟨b, off + (j - 1) * 4 + 1, none⟩ = some (.int .i64 ps) ∧ ((pk == x.1) = false ∧ f = true ∨ pk = x.1 ∧ s < ps ∧ f = true ∨ pk = x.1 ∧ ¬s < ps ∧ f = false) := by
      rcases hprev with ⟨h1, h2⟩ | ⟨h1, p, h2, h3, h4, h5, h6, h7, rfl⟩
      · exact .inl ⟨h2, HF.out.2 (.inl h2)⟩
      · refine .inr ⟨h1, _, _, h2, h3, h4, h5, h6, ?_⟩
        by_cases hk : (l[j - 1]).1 = x.1
        · by_cases hq : s < (l[j - 1]).2.1
          · exact .inr (.inl ⟨hk, hq, HF.out.2 (.inr (.inr hq))⟩)
          · refine .inr (.inr ⟨hk, hq, ?_⟩)
            rw [Bool.eq_false_iff]
            intro hf
            rcases HF.out.1 hf with h | h | h
            · omega
            · exact h hk
            · exact hq h
        · exact .inl ⟨by simpa using hk, HF.out.2 (.inr (.inl hk))⟩
    clear hprev HF
    obtain ⟨L1, hL1⟩ : ∃ L1, Hid (L1 = (l.take j).filter (seenB l s)) := ⟨_, rfl⟩
    have HO := Lib.hid hI.out
    rw [← hL1.out] at HO
    clear hI
    obtain ⟨q, hq⟩ : ∃ q, q = j - 1 := ⟨_, rfl⟩
    rw [← hq] at hway
    clear hq
    rcases hway with ⟨hj0, rfl⟩ | ⟨hj0, pk, ps, q1, q2, q3, p0, p1, ⟨hk, rfl⟩ | ⟨rfl, hk, rfl⟩ | ⟨rfl, hk, rfl⟩⟩
    · subst hj0
      obtain rfl : n = 0 := by omega
      have x0 : wr.cell? ⟨b, off, none⟩ = some (.string ⟨x.1.toArray⟩) := by simpa using x0
      have x1 : wr.cell? ⟨b, off + 1, none⟩ = some (.int .i64 x.2.1) := by simpa using x1
      have x2 : wr.cell? ⟨b, off + 2, none⟩ = some (.bool x.2.2.1) := by simpa using x2
      have x3 : wr.cell? ⟨b, off + 3, none⟩ = some (.string ⟨x.2.2.2.toArray⟩) := by simpa using x3
      go_wp2
      go_quiet (fail)
      obtain ⟨wy, hwy⟩ : ∃ wy, wy = wr.drewN nq := ⟨_, rfl⟩
      rw [← hwy]
      have x0 : wy.cell? ⟨b, off, none⟩ = some (.string ⟨x.1.toArray⟩) := by rw [hwy]; exact x0
      have x1 : wy.cell? ⟨b, off + 1, none⟩ = some (.int .i64 x.2.1) := by rw [hwy]; exact x1
      have x2 : wy.cell? ⟨b, off + 2, none⟩ = some (.bool x.2.2.1) := by rw [hwy]; exact x2
      have x3 : wy.cell? ⟨b, off + 3, none⟩ = some (.string ⟨x.2.2.2.toArray⟩) := by rw [hwy]; exact x3
      have HO2 : Hid (OutO w0 wy ao 0 co L1) := by rw [hwy]; exact HO.out.drewN _
      clear HO hwy
      obtain ⟨d, hd⟩ : ∃ d, Hid (d = x.2.2.1) := ⟨_, rfl⟩
      rw [← hd.out] at x2
      by_cases hs1 : x.2.1 ≤ s
      case neg =>
        have HL : Hid (OutO w0 wy ao 0 co ((l.take (0 + 1)).filter (seenB l s))) := by
          show OutO _ _ _ _ _ _
          rw [HT.out, if_neg (fun h => hs1 (HN.out.1 h).1), List.append_nil, ← hL1.out]
          exact HO2.out
        clear HO2 HT HN hL1
        go_wp2
        go_roundw
        case rel => exact ⟨0 + 1, 0, ao, co, ⟨hlt, by omega⟩, rfl, by first | rfl | go_num, HL⟩
        case measure => simp [intOf]; omega
      cases d with
      | true =>
        have HL : Hid (OutO w0 wy ao 0 co ((l.take (0 + 1)).filter (seenB l s))) := by
          show OutO _ _ _ _ _ _
          rw [HT.out, if_neg (fun h => by have h1 := (HN.out.1 h).2.2; rw [← hd.out] at h1; cases h1), List.append_nil, ← hL1.out]
          exact HO2.out
        clear HO2 HT HN hL1
        go_wp2
        go_roundw
        case rel => exact ⟨0 + 1, 0, ao, co, ⟨hlt, by omega⟩, rfl, by first | rfl | go_num, HL⟩
        case measure => simp [intOf]; omega
      | false =>
        have HY : Hid (seenB l s x = true) := HN.out.2 ⟨hs1, by trivial, hd.out.symm⟩
        have hnb : (0 + 1) * 48 ≤ 140737488355328 := by omega
        have x2' : wy.cell? ⟨b, off + 2, none⟩ = some (.bool x.2.2.1) := by rw [← hd.out]; exact x2
        have hHn := Lib.hid (Holds.new wy (entC x) 34)
        have hsz : Hid (w0.heap.size ≤ wy.heap.size) := HO2.out.2.2.1.size
        have hE : entC x = [.string ⟨x.1.toArray⟩, .int .i64 x.2.1, .bool false, .string ⟨x.2.2.2.toArray⟩] := by unfold entC; rw [← hd.out]
        clear x2'
        rw [hE] at hHn
        go_wp2_with (at_builtin; refine wpList_append_own _ rfl (.tmp 64) (.tmp 69) 24 rfl w0.heap.size 34 i0 _ 4 48 Try.underlying24 hi0 hz0 hz1 hz2 rfl (by decide) _ _ _ rfl (HO2.out.2.1.alloc _) ⟨wy.heap.size, 0, none⟩ 1 1 (entC x) rfl rfl ?d1 (entC_one _) ?d3 ?d4 ?d5 ?_)
        case d1 =>
          intro j' u' hj'
          rw [hE] at hj'
          rw [add0]
          exact hHn.out.cell j' u' hj'
        case d3 => unfold maxLen; omega
        case d4 => exact hnb
        case d5 => have := hsz.out; simp; omega
        intro v2 wB hown2 hgr2 _
        rw [← hE] at hown2
        obtain ⟨ad2, cap2, rfl, hON⟩ := HO2.out.grown HX.out ((Kept.refl _ wy).alloc _) hown2 hgr2
        have HL : Hid (OutO w0 wB ad2 (0 + 1) cap2 ((l.take (0 + 1)).filter (seenB l s))) := by
          show OutO _ _ _ _ _ _
          rw [HT.out, if_pos HY.out, ← hL1.out]
          exact hON
        clear hown2 hgr2 hON HO2 HT HN hL1 hHn hE x0 x1 x2 x3
        go_wp2
        go_roundw
        case rel => exact ⟨0 + 1, 0 + 1, ad2, cap2, ⟨hlt, by omega⟩, rfl, by first | rfl | go_num, HL⟩
        case measure => simp [intOf]; omega
    · have hjb : ((j : Int) == 0) = false := by rw [beq_eq_false_iff_ne]; omega
      go_wp2
      go_quiet (fail)
      obtain ⟨wy, hwy⟩ : ∃ wy, wy = wr.drewN nq := ⟨_, rfl⟩
      rw [← hwy]
      have x0 : wy.cell? ⟨b, off + j * 4, none⟩ = some (.string ⟨x.1.toArray⟩) := by rw [hwy]; exact x0
      have x1 : wy.cell? ⟨b, off + j * 4 + 1, none⟩ = some (.int .i64 x.2.1) := by rw [hwy]; exact x1
      have x2 : wy.cell? ⟨b, off + j * 4 + 2, none⟩ = some (.bool x.2.2.1) := by rw [hwy]; exact x2
      have x3 : wy.cell? ⟨b, off + j * 4 + 3, none⟩ = some (.string ⟨x.2.2.2.toArray⟩) := by rw [hwy]; exact x3
      have HO2 : Hid (OutO w0 wy ao n co L1) := by rw [hwy]; exact HO.out.drewN _
      clear HO hwy
      obtain ⟨d, hd⟩ : ∃ d, Hid (d = x.2.2.1) := ⟨_, rfl⟩
      rw [← hd.out] at x2
      by_cases hs1 : x.2.1 ≤ s
      case neg =>
        have HL : Hid (OutO w0 wy ao n co ((l.take (j + 1)).filter (seenB l s))) := by
          show OutO _ _ _ _ _ _
          rw [HT.out, if_neg (fun h => hs1 (HN.out.1 h).1), List.append_nil, ← hL1.out]
          exact HO2.out
        clear HO2 HT HN hL1
        go_wp2
        go_roundw
        case rel => exact ⟨j + 1, n, ao, co, ⟨hlt, by omega⟩, rfl, by first | rfl | go_num, HL⟩
        case measure => simp [intOf]; omega
      cases d with
      | true =>
        have HL : Hid (OutO w0 wy ao n co ((l.take (j + 1)).filter (seenB l s))) := by
          show OutO _ _ _ _ _ _
          rw [HT.out, if_neg (fun h => by have h1 := (HN.out.1 h).2.2; rw [← hd.out] at h1; cases h1), List.append_nil, ← hL1.out]
          exact HO2.out
        clear HO2 HT HN hL1
        go_wp2
        go_roundw
        case rel => exact ⟨j + 1, n, ao, co, ⟨hlt, by omega⟩, rfl, by first | rfl | go_num, HL⟩
        case measure => simp [intOf]; omega
      | false =>
        have HY : Hid (seenB l s x = true) := HN.out.2 ⟨hs1, by trivial, hd.out.symm⟩
        have hnb : (n + 1) * 48 ≤ 140737488355328 := by omega
        have x2' : wy.cell? ⟨b, off + j * 4 + 2, none⟩ = some (.bool x.2.2.1) := by rw [← hd.out]; exact x2
        have hHn := Lib.hid (Holds.new wy (entC x) 34)
        have hsz : Hid (w0.heap.size ≤ wy.heap.size) := HO2.out.2.2.1.size
        have hE : entC x = [.string ⟨x.1.toArray⟩, .int .i64 x.2.1, .bool false, .string ⟨x.2.2.2.toArray⟩] := by unfold entC; rw [← hd.out]
        clear x2'
        rw [hE] at hHn
        go_wp2_with (at_builtin; refine wpList_append_own _ rfl (.tmp 64) (.tmp 69) 24 rfl w0.heap.size 34 i0 _ 4 48 Try.underlying24 hi0 hz0 hz1 hz2 rfl (by decide) _ _ _ rfl (HO2.out.2.1.alloc _) ⟨wy.heap.size, 0, none⟩ 1 1 (entC x) rfl rfl ?d1 (entC_one _) ?d3 ?d4 ?d5 ?_)
        case d1 =>
          intro j' u' hj'
          rw [hE] at hj'
          rw [add0]
          exact hHn.out.cell j' u' hj'
        case d3 => unfold maxLen; omega
        case d4 => exact hnb
        case d5 => have := hsz.out; simp; omega
        intro v2 wB hown2 hgr2 _
        rw [← hE] at hown2
        obtain ⟨ad2, cap2, rfl, hON⟩ := HO2.out.grown HX.out ((Kept.refl _ wy).alloc _) hown2 hgr2
        have HL : Hid (OutO w0 wB ad2 (n + 1) cap2 ((l.take (j + 1)).filter (seenB l s))) := by
          show OutO _ _ _ _ _ _
          rw [HT.out, if_pos HY.out, ← hL1.out]
          exact hON
        clear hown2 hgr2 hON HO2 HT HN hL1 hHn hE x0 x1 x2 x3
        go_wp2
        go_roundw
        case rel => exact ⟨j + 1, n + 1, ad2, cap2, ⟨hlt, by omega⟩, rfl, by first | rfl | go_num, HL⟩
        case measure => simp [intOf]; omega
    · have hjb : ((j : Int) == 0) = false := by rw [beq_eq_false_iff_ne]; omega
      go_wp2
      go_quiet (fail)
      obtain ⟨wy, hwy⟩ : ∃ wy, wy = wr.drewN nq := ⟨_, rfl⟩
      rw [← hwy]
      have x0 : wy.cell? ⟨b, off + j * 4, none⟩ = some (.string ⟨x.1.toArray⟩) := by rw [hwy]; exact x0
      have x1 : wy.cell? ⟨b, off + j * 4 + 1, none⟩ = some (.int .i64 x.2.1) := by rw [hwy]; exact x1
      have x2 : wy.cell? ⟨b, off + j * 4 + 2, none⟩ = some (.bool x.2.2.1) := by rw [hwy]; exact x2
      have x3 : wy.cell? ⟨b, off + j * 4 + 3, none⟩ = some (.string ⟨x.2.2.2.toArray⟩) := by rw [hwy]; exact x3
      have HO2 : Hid (OutO w0 wy ao n co L1) := by rw [hwy]; exact HO.out.drewN _
      clear HO hwy
      obtain ⟨d, hd⟩ : ∃ d, Hid (d = x.2.2.1) := ⟨_, rfl⟩
      rw [← hd.out] at x2
      by_cases hs1 : x.2.1 ≤ s
      case neg =>
        have HL : Hid (OutO w0 wy ao n co ((l.take (j + 1)).filter (seenB l s))) := by
          show OutO _ _ _ _ _ _
          rw [HT.out, if_neg (fun h => hs1 (HN.out.1 h).1), List.append_nil, ← hL1.out]
          exact HO2.out
        clear HO2 HT HN hL1
        go_wp2
        go_roundw
        case rel => exact ⟨j + 1, n, ao, co, ⟨hlt, by omega⟩, rfl, by first | rfl | go_num, HL⟩
        case measure => simp [intOf]; omega
      cases d with
      | true =>
        have HL : Hid (OutO w0 wy ao n co ((l.take (j + 1)).filter (seenB l s))) := by
          show OutO _ _ _ _ _ _
          rw [HT.out, if_neg (fun h => by have h1 := (HN.out.1 h).2.2; rw [← hd.out] at h1; cases h1), List.append_nil, ← hL1.out]
          exact HO2.out
        clear HO2 HT HN hL1
        go_wp2
        go_roundw
        case rel => exact ⟨j + 1, n, ao, co, ⟨hlt, by omega⟩, rfl, by first | rfl | go_num, HL⟩
        case measure => simp [intOf]; omega
      | false =>
        have HY : Hid (seenB l s x = true) := HN.out.2 ⟨hs1, by trivial, hd.out.symm⟩
        have hnb : (n + 1) * 48 ≤ 140737488355328 := by omega
        have x2' : wy.cell? ⟨b, off + j * 4 + 2, none⟩ = some (.bool x.2.2.1) := by rw [← hd.out]; exact x2
        have hHn := Lib.hid (Holds.new wy (entC x) 34)
        have hsz : Hid (w0.heap.size ≤ wy.heap.size) := HO2.out.2.2.1.size
        have hE : entC x = [.string ⟨x.1.toArray⟩, .int .i64 x.2.1, .bool false, .string ⟨x.2.2.2.toArray⟩] := by unfold entC; rw [← hd.out]
        clear x2'
        rw [hE] at hHn
        go_wp2_with (at_builtin; refine wpList_append_own _ rfl (.tmp 64) (.tmp 69) 24 rfl w0.heap.size 34 i0 _ 4 48 Try.underlying24 hi0 hz0 hz1 hz2 rfl (by decide) _ _ _ rfl (HO2.out.2.1.alloc _) ⟨wy.heap.size, 0, none⟩ 1 1 (entC x) rfl rfl ?d1 (entC_one _) ?d3 ?d4 ?d5 ?_)
        case d1 =>
          intro j' u' hj'
          rw [hE] at hj'
          rw [add0]
          exact hHn.out.cell j' u' hj'
        case d3 => unfold maxLen; omega
        case d4 => exact hnb
        case d5 => have := hsz.out; simp; omega
        intro v2 wB hown2 hgr2 _
        rw [← hE] at hown2
        obtain ⟨ad2, cap2, rfl, hON⟩ := HO2.out.grown HX.out ((Kept.refl _ wy).alloc _) hown2 hgr2
        have HL : Hid (OutO w0 wB ad2 (n + 1) cap2 ((l.take (j + 1)).filter (seenB l s))) := by
          show OutO _ _ _ _ _ _
          rw [HT.out, if_pos HY.out, ← hL1.out]
          exact hON
        clear hown2 hgr2 hON HO2 HT HN hL1 hHn hE x0 x1 x2 x3
        go_wp2
        go_roundw
        case rel => exact ⟨j + 1, n + 1, ad2, cap2, ⟨hlt, by omega⟩, rfl, by first | rfl | go_num, HL⟩
        case measure => simp [intOf]; omega
    · have hjb : ((j : Int) == 0) = false := by rw [beq_eq_false_iff_ne]; omega
      go_wp2
      go_quiet (fail)
      obtain ⟨wy, hwy⟩ : ∃ wy, wy = wr.drewN nq := ⟨_, rfl⟩
      rw [← hwy]
      have x0 : wy.cell? ⟨b, off + j * 4, none⟩ = some (.string ⟨x.1.toArray⟩) := by rw [hwy]; exact x0
      have x1 : wy.cell? ⟨b, off + j * 4 + 1, none⟩ = some (.int .i64 x.2.1) := by rw [hwy]; exact x1
      have x2 : wy.cell? ⟨b, off + j * 4 + 2, none⟩ = some (.bool x.2.2.1) := by rw [hwy]; exact x2
      have x3 : wy.cell? ⟨b, off + j * 4 + 3, none⟩ = some (.string ⟨x.2.2.2.toArray⟩) := by rw [hwy]; exact x3
      have HO2 : Hid (OutO w0 wy ao n co L1) := by rw [hwy]; exact HO.out.drewN _
      clear HO hwy
      obtain ⟨d, hd⟩ : ∃ d, Hid (d = x.2.2.1) := ⟨_, rfl⟩
      rw [← hd.out] at x2
      by_cases hs1 : x.2.1 ≤ s
      case neg =>
        have HL : Hid (OutO w0 wy ao n co ((l.take (j + 1)).filter (seenB l s))) := by
          show OutO _ _ _ _ _ _
          rw [HT.out, if_neg (fun h => hs1 (HN.out.1 h).1), List.append_nil, ← hL1.out]
          exact HO2.out
        clear HO2 HT HN hL1
        go_wp2
        go_roundw
        case rel => exact ⟨j + 1, n, ao, co, ⟨hlt, by omega⟩, rfl, by first | rfl | go_num, HL⟩
        case measure => simp [intOf]; omega
      cases d with
      | true =>
        have HL : Hid (OutO w0 wy ao n co ((l.take (j + 1)).filter (seenB l s))) := by
          show OutO _ _ _ _ _ _
          rw [HT.out, if_neg (fun h => by have h1 := (HN.out.1 h).2.2; rw [← hd.out] at h1; cases h1), List.append_nil, ← hL1.out]
          exact HO2.out
        clear HO2 HT HN hL1
        go_wp2
        go_roundw
        case rel => exact ⟨j + 1, n, ao, co, ⟨hlt, by omega⟩, rfl, by first | rfl | go_num, HL⟩
        case measure => simp [intOf]; omega
      | false =>
        have HL : Hid (OutO w0 wy ao n co ((l.take (j + 1)).filter (seenB l s))) := by
          show OutO _ _ _ _ _ _
          rw [HT.out, if_neg (fun h => by cases (HN.out.1 h).2.1), List.append_nil, ← hL1.out]
          exact HO2.out
        clear HO2 HT HN hL1
        go_wp2
        go_roundw
        case rel => exact ⟨j + 1, n, ao, co, ⟨hlt, by omega⟩, rfl, by first | rfl | go_num, HL⟩
        case measure => simp [intOf]; omega

end Go.Proofs.Ythkejfhcdodggaa
