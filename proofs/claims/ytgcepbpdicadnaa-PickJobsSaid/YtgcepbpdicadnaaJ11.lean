/- Pi16, Pz16, Ord. -/
import Derived.Test.YtgcepbpdicadnaaEx16
import Derived.Test.YtgcepbpdicadnaaJ10
import Derived.Deep.CutRange
import Derived.Test.YtgcepbpdicadnaaJ08
import Derived.Deep.RegionHeld
import Derived.RowKit
import Derived.OrdersHeld
import Derived.StillTail
import Derived.KernelRfl
import Derived.Tactics

/- The law PickPieces (layer 16), walked over the contract of the program's choice. -/
namespace Go.Proofs.Ytgcepbpdicadnaa
open Go.RowKit Go.Proofs Go.Proofs.Pk
set_option maxRecDepth 10000
attribute [local simp] mk_get wrap64_u8 mk_extract ByteArray.mk_append_mk get_1k

abbrev ExH16 (w : World) : Prop := Hid (Calls Try.prog 8 #[] w fun e w' => e = .returned (.bool true) ∧ Kept (fun _ => False) w w')
/-- A list among the arguments, cut. -/
def CutS (ad : Option Addr) (len cap n cap2 : Nat) (m : Int) : Prop := (∃ b off, ad = some ⟨b, off, none⟩ ∧ min (len : Int) m = (n : Int) ∧ (n : Int) ≤ (cap : Int) ∧ (len : Int) ≤ (cap : Int) ∧ cap2 = cap) ∨ (ad = Option.none ∧ len = 0 ∧ cap = 0 ∧ n = 0 ∧ cap2 = 0)
theorem cut_in {w : World} {ad : Option Addr} {len cap : Nat} {l : List MEnt} (h : EntsW w ad len l) (hb : FlatE ad ∧ len ≤ cap ∧ (len : Int) * 48 ≤ 140737488351232 ∧ (ad = none → len = 0 ∧ cap = 0)) (m : Nat) : ∃ (n cap2 : Nat), CutS ad len cap n cap2 (m : Int) ∧ n ≤ m ∧ n ≤ len ∧ EntsW w ad n (l.take n) := by
  obtain ⟨hfl, hlc, _, hno⟩ := hb
  rcases hfl with rfl | ⟨b, off, rfl⟩
  · obtain ⟨rfl, rfl⟩ := hno rfl
    refine ⟨0, 0, .inr ⟨rfl, rfl, rfl, rfl, rfl⟩, by omega, by omega, ⟨by simp, .inl (by simp)⟩⟩
  · exact ⟨min len m, cap, .inl ⟨b, off, rfl, by omega, by omega, by omega, rfl⟩, by omega, by omega, h.head _ (by omega)⟩
theorem is_any16 (c k : Nat) (W : World) : Calls Try.prog 16 #[errV 62 c, .int .i64 k] W fun e w' => e = .returned (.bool (c == k)) ∧ W = w' := is_any c k W
theorem last_at {p : List MEnt} {a : MEnt} (h : p.getLast? = some a) : ∃ h2 : p.length - 1 < p.length, p[p.length - 1] = a := by
  have hne : p ≠ [] := by rintro rfl; cases h
  have hl : 0 < p.length := List.length_pos_iff.2 hne
  refine ⟨by omega, ?_⟩
  rw [List.getLast?_eq_getElem?, List.getElem?_eq_getElem (by omega)] at h
  exact Option.some.inj h
theorem head_at16 {p : List MEnt} {b : MEnt} (h : p.head? = some b) : ∃ h2 : 0 < p.length, p[0] = b := by
  cases p with
  | nil => cases h
  | cons x r => exact ⟨by simp, by simpa using h⟩

/-- Each piece but the last is as long as was asked for, and the next one's key is another. -/
def TwoP (k : Nat) (Ls : List (List MEnt)) : Prop := ∀ (i : Nat) (h : i + 1 < Ls.length), k ≤ (Ls[i]'(by omega)).length ∧ ∃ a b, (Ls[i]'(by omega)).getLast? = some a ∧ (Ls[i + 1]).head? = some b ∧ ¬a.1 = b.1

set_option maxHeartbeats 16000000 in
theorem pieces_go (K : PkK) (ad : Option Addr) (len cap n cap2 : Nat) (k : Int) (T : List MEnt) (w : World) (HE : ExH16 w) (hsl : CutS ad len cap n cap2 200) (hfs : FitN k) (HI : Hid (EntsW w ad n T ∧ n ≤ 200)) :
    Calls Try.prog 7 #[.slice ad len cap, .int .i64 k] w fun e w' => e = .returned (.bool true) ∧ Kept (fun _ => False) w w' := by
  obtain ⟨i0, hi0, hz0, hz1, hz2⟩ := info_parts ent_info
  have kn : (0 : Int) ≤ (n : Int) := Int.natCast_nonneg n
  have HQ := Lib.hid hfs
  clear hfs
  go_enter Try.func7, Try.ntmps7
  go_wp2_with fail
  refine HE.out.mono ?_
  clear HE
  rintro e w1 ⟨rfl, hk1⟩
  go_upto_region 2 with fail
  go_cut [0] from 12 (fun s0 wx => s0 = .slice ad n cap2 ∧ wx = w1)
  case first =>
    clear HI HQ
    rcases hsl with ⟨b0, off, rfl, k1, k2, k3, rfl⟩ | ⟨rfl, rfl, rfl, rfl, rfl⟩
    all_goals
      go_wp2
      go_meet
      case rel => exact ⟨rfl, rfl⟩
  case rest =>
  obtain ⟨rfl, hwc⟩ := hcut
  rw [hwc]
  have hnc : n ≤ cap2 := by rcases hsl with ⟨_, _, _, _, k2, _, rfl⟩ | ⟨_, _, _, rfl, rfl⟩ <;> omega
  clear hwc hsl
  have HK1 := Lib.hid hk1
  have C1 := K.cut w1 ad n cap2 T k (ents_keptK HI.out.1 hk1) (by have := HI.out.2; omega) hnc HQ.out
  clear hnc
  clear hk1
  unfold cutR at C1
  by_cases hk : 1 ≤ k
  case neg =>
    rw [if_neg hk] at C1
    have C1 := Lib.hid C1
    have hk' : k < 1 := by omega
    have HIs := Lib.hid (fun W : World => is_any16 1 1 W)
    clear HI hk
    go_wp2_with fail
    refine C1.out.mono ?_
    clear C1
    intro e w2 h
    obtain ⟨ad2, c2, rfl, hk2⟩ := h.bad
    have HK2 := Lib.hid (HK1.out.trans hk2 (fun _ h => h.elim))
    clear h hk2 HK1
    go_wp2_with (go_at_call 16; refine (HIs.out _).mono ?_; rintro e wz ⟨rfl, rfl⟩)
    go_ret
    exact ⟨rfl, HK2.out⟩
  rw [if_pos hk] at C1
  have C1 := Lib.hid C1
  have hk' : ¬k < 1 := by omega
  obtain ⟨K1, hK1⟩ : ∃ K1 : Nat, Hid (k = (K1 : Int) ∧ k.toNat = K1) := ⟨k.toNat, by omega, rfl⟩
  rw [hK1.out.2] at C1
  go_wp2_with fail
  refine C1.out.mono ?_
  clear C1
  intro e w2 h
  obtain ⟨ad2, c2, rfl, hP, hk2⟩ := h.ok
  have HK2 := Lib.hid (HK1.out.trans hk2 (fun _ h => h.elim))
  have HLs := Lib.hid hP.ls
  have HT2 := Lib.hid (ents_keptK HI.out.1 HK2.out)
  have HFl : Hid ((cutP K1 T).flatten = T) := cut_flat K1 T
  have HNe : Hid (∀ p ∈ cutP K1 T, p ≠ []) := fun p hp => cut_ne hp
  have HTw : Hid (TwoP K1 (cutP K1 T)) := fun i h => cut_two i h
  obtain ⟨Ls, hLs⟩ : ∃ Ls, Ls = cutP K1 T := ⟨_, rfl⟩
  rw [← hLs] at HLs HFl HNe HTw ⊢
  obtain ⟨m, hm⟩ : ∃ m, Hid (m = Ls.length) := ⟨_, rfl⟩
  rw [← hm.out] at HLs ⊢
  have hT200 : T.length ≤ 200 := by have := HI.out.1.1; have := HI.out.2; omega
  have hm200 : m ≤ 200 := by
    rw [hm.out, hLs]
    have := cutS_many K1 T []
    unfold cutP; omega
  have HI0 : Hid (OutO w2 w2 none 0 0 (Ls.take 0).flatten) := OutO.nil (Kept.refl _ _)
  clear h hP hk2 HK1 hLs hk HI
  go_wp2
  go_loopw [8, 9] (fun o i wr => ∃ (j c : Nat) (ao : Option Addr) (co : Nat), (j ≤ m ∧ c ≤ 200) ∧ o = .slice ao c co ∧ i = .int .i64 (j : Int) ∧ Hid (OutO w2 wr ao c co (Ls.take j).flatten)) (fun _ i _ => m - (intOf i).toNat)
  case atStart => exact ⟨0, 0, none, 0, ⟨Nat.zero_le _, Nat.zero_le _⟩, rfl, rfl, HI0⟩
  case round =>
    obtain ⟨j, c, ao, co, ⟨hj, hc⟩, rfl, rfl, hO⟩ := hrel
    clear HI0
    have j0 : (0 : Int) ≤ (j : Int) := by omega
    by_cases hlt : j < m
    case neg =>
      obtain rfl : j = m := by omega
      have jn : ¬(j : Int) < (j : Int) := by omega
      have hO1 := hO.out
      rw [List.take_of_length_le (by rw [hm.out]; omega), HFl.out] at hO1
      have hcT := hO1.1
      have hE := owns_ents (T := T) (cap := co) (by rw [hcT]; exact hO1.2.1) hO1.2.2.2
      rw [hcT] at hE
      have C2 := Lib.hid (ents16 wr ao ad c co n cap2 T T hE (ents_keptK HT2.out hO1.2.2.1) (by omega) (by omega))
      have HKr := Lib.hid (HK2.out.trans hO1.2.2.1 (fun _ h => h.elim))
      clear hO hO1 hE
      go_wp2_with fail
      refine C2.out.mono ?_
      clear C2
      rintro e w3 ⟨y, rfl, hy, hk3⟩
      obtain rfl : y = true := hy.2 rfl
      have HK3 := Lib.hid (HKr.out.trans hk3 (fun _ h => h.elim))
      clear hy hk3 HKr
      go_wp2
      go_ret
      exact ⟨rfl, HK3.out⟩
    have jn : (j : Int) < (m : Int) := by omega
    have hwj : IntKind.i64.wrap ((j : Int) + 1) = (j : Int) + 1 := IntWalk.i64_in _ (by omega)
    have hjL : j < Ls.length := by have := hm.out; omega
    obtain ⟨g, og, ai, ci, rfl, hat⟩ := HLs.out.at hjL
    obtain ⟨c0, he0⟩ := hat wr hO.out.2.2.1
    have hne := HNe.out _ (List.getElem_mem hjL)
    have hpos : 0 < (Ls[j]).length := List.length_pos_iff.2 hne
    have hft : (Ls.take (j + 1)).flatten = (Ls.take j).flatten ++ Ls[j] := by rw [List.take_succ_eq_append_getElem hjL, List.flatten_append]; simp
    have hle : (Ls.take j).flatten.length + (Ls[j]).length ≤ 200 := by
      have h1 := flat_one hjL
      rw [HFl.out] at h1
      omega
    -- all that the round reads of the pieces before and behind
    have hcond : decide ((j : Int) < (m : Int) - 1) = false ∨ decide ((j : Int) < (m : Int) - 1) = true ∧ decide (((Ls[j]).length : Int) < k) = false := by
      by_cases h : (j : Int) < (m : Int) - 1
      · have h1 := (HTw.out j (by have := hm.out; omega)).1
        have h2 := hK1.out.1
        have h3 : ¬((Ls[j]).length : Int) < k := by rw [h2]; omega
        exact .inr ⟨decide_eq_true h, decide_eq_false h3⟩
      · exact .inl (decide_eq_false h)
    have hprev : j = 0 ∨ (¬j = 0 ∧ ∃ (q lq rq cq : Nat) (gb gq : Nat) (og2 oq : Nat) (a b : MEnt), q = j - 1 ∧ ai = some ⟨gb, og2, none⟩ ∧ wr.cell? ⟨g, og + q, none⟩ = some (.slice (some ⟨gq, oq, none⟩) lq cq) ∧ 0 < lq ∧ lq ≤ 200 ∧ rq = lq - 1 ∧ wr.cell? ⟨gq, oq + rq * 4, none⟩ = some (.string ⟨a.1.toArray⟩) ∧ wr.cell? ⟨gb, og2, none⟩ = some (.string ⟨b.1.toArray⟩) ∧ ¬a.1 = b.1) := by
      by_cases h0 : j = 0
      · exact .inl h0
      · refine .inr ⟨h0, ?_⟩
        have hq1 : j - 1 + 1 < Ls.length := by omega
        obtain ⟨_, a, b, h1, h2, h3⟩ := HTw.out (j - 1) hq1
        obtain ⟨g', og', aq, cq, hgg, hat2⟩ := HLs.out.at (i := j - 1) (by omega)
        cases hgg
        obtain ⟨d0, dE⟩ := hat2 wr hO.out.2.2.1
        obtain ⟨l1, l2⟩ := last_at h1
        obtain ⟨e1, e2⟩ := head_at16 h2
        obtain ⟨gq, oq, rfl, _, p0, _⟩ := dE.atS _ l1
        rw [l2] at p0
        have hjj : j - 1 + 1 = j := by omega
        have he0' := he0
        simp only [hjj] at e1 e2
        obtain ⟨gb, ob, rfl, _, r0, _⟩ := he0'.atS 0 e1
        rw [e2] at r0
        refine ⟨j - 1, _, _, cq, gb, gq, ob, oq, a, b, rfl, rfl, d0, by omega, ?_, rfl, p0, by simpa using r0, h3⟩
        have h5 := hq1
        have h6 := flat_one (ls := Ls) (i := j - 1) (by omega)
        rw [HFl.out] at h6
        omega
    obtain ⟨lj, hlj⟩ : ∃ lj, Hid (lj = (Ls[j]).length) := ⟨(Ls[j]).length, rfl⟩
    rw [← hlj.out] at c0 he0 hpos hle hcond hat
    obtain ⟨P, hP⟩ : ∃ P, P = Ls[j] := ⟨_, rfl⟩
    rw [← hP] at he0 hft hlj hat
    have HAT := Lib.hid hat
    have hlt0 : ((lj : Int) == 0) = false := by rw [beq_eq_false_iff_ne]; omega
    have hljI : (0 : Int) < (lj : Int) := by omega
    have HFt := Lib.hid hft
    have HE0 := Lib.hid he0
    have HPv := Lib.hid hprev
    have hcO : c + lj ≤ 200 := by have := hO.out.1; omega
    obtain ⟨mm, hmm⟩ : ∃ mm : Int, mm = (m : Int) - 1 := ⟨_, rfl⟩
    rw [← hmm] at hcond
    have hwm : IntKind.i64.wrap ((m : Int) - 1) = mm := by rw [hmm]; exact IntWalk.i64_in _ (by omega)
    clear hft he0 hprev hne hP hjL hat hmm
    go_upto_region 10 with fail
    go_cut [62] from 35 to 104 (fun s62 wx => s62 = .bool false ∧ wx = wr)
    case first =>
      clear HPv HE0 hO
      rcases hcond with hcd | ⟨hcd, hck⟩
      · have hcn : ¬(j : Int) < mm := of_decide_eq_false hcd
        go_wp2
        go_meet
        case rel => exact ⟨by first | rfl | rw [hcd], rfl⟩
      · have hcn : (j : Int) < mm := of_decide_eq_true hcd
        have hkn : ¬(lj : Int) < k := of_decide_eq_false hck
        go_wp2
        go_meet
        case rel => exact ⟨by first | rfl | rw [decide_eq_false hkn] | rw [hck], rfl⟩
    case rest =>
    obtain ⟨rfl, hwc⟩ := hcut
    rw [hwc]
    clear hwc hcond
    go_upto_region 12 with fail
    go_cut [98] from 35 to 104 (fun s98 wx => s98 = .bool false ∧ Hid (OutO w2 wx ao c co (Ls.take j).flatten))
    case first =>
      have HOq : Hid (∀ z, OutO w2 (wr.drewN z) ao c co (Ls.take j).flatten) := fun z => hO.out.drewN z
      clear hO HE0 HFt
      rcases HPv.out with h0 | ⟨h0, q, lq, rq, cq, gb, gq, og2, oq, a, b, hq, rfl, d0, hlq, hlq2, hrq, p0, r0, hab⟩
      · subst h0
        have c0 : wr.cell? ⟨g, og, none⟩ = some (.slice ai lj ci) := by simpa using c0
        clear HPv hj j0
        go_wp2
        go_quiet (fail)
        go_wp2
        go_meet
        case rel => exact ⟨rfl, HOq.out _⟩
      · have hjp : 0 < j := by omega
        have hjpI : (0 : Int) < (j : Int) := by omega
        have q1 : IntKind.i64.wrap ((j : Int) - 1) = (q : Int) := by rw [IntWalk.i64_in _ (by omega)]; omega
        have q2 : (q : Int) < (m : Int) := by omega
        have q3 : (0 : Int) ≤ (q : Int) := by omega
        have r1 : IntKind.i64.wrap ((lq : Int) - 1) = (rq : Int) := by rw [IntWalk.i64_in _ (by omega)]; omega
        have r2 : (rq : Int) < (lq : Int) := by omega
        have r3 : (0 : Int) ≤ (rq : Int) := by omega
        have r4 : (0 : Int) < (lq : Int) := by omega
        have hkb : (a.1 == b.1) = false := by simpa using hab
        clear HPv hq hrq hab h0
        go_wp2
        go_quiet (fail)
        go_wp2
        go_meet
        case rel => exact ⟨rfl, HOq.out _⟩
    case rest =>
      obtain ⟨rfl, HO2⟩ := hcut
      rename World => wx
      obtain ⟨c1, hE⟩ := HAT.out wx HO2.out.2.2.1
      have hPl := hE.1
      have hfit : Hid (∀ e ∈ P, FitN e.2.1) := fun e he => by
        obtain ⟨i, hi, rfl⟩ := List.getElem_of_mem he
        obtain ⟨_, _, _, _, _, hf, _⟩ := entsW_all hE i (by omega)
        exact hf
      obtain ⟨gb, og2, rfl⟩ : ∃ gb og2, ai = some ⟨gb, og2, none⟩ := by
        obtain ⟨b, o, h, _⟩ := hE.atS 0 (by omega)
        exact ⟨b, o, h⟩
      have HE1 := Lib.hid hE
      have hsz : Hid (w2.heap.size ≤ wx.heap.size) := HO2.out.2.2.1.size
      clear hE HAT HE0 hO c0 HPv
      go_wp2_with (at_builtin; refine wpList_append_own _ rfl (.tmp 99) (.tmp 103) 34 rfl w2.heap.size 45 i0 _ 4 48 Try.underlying34 hi0 hz0 hz1 hz2 rfl (by decide) _ _ _ rfl HO2.out.2.1 ⟨gb, og2, none⟩ lj ci (cellsM P) rfl ?e1 ?e2 (cellsM_one _) ?e3 ?e4 ?e5 ?_)
      case e1 => rw [cellsM_length]; omega
      case e2 =>
        intro m' u hu
        rw [show ((⟨gb, og2, none⟩ : Addr).add m') = ⟨gb, og2 + m', none⟩ from by unfold Addr.add; split <;> simp_all]
        exact ents_cells HE1.out m' u hu
      case e3 => unfold maxLen; omega
      case e4 => omega
      case e5 => exact hsz.out
      intro v2 wB hown2 hgr2 _
      obtain ⟨ad3, cap3, rfl, hON⟩ := HO2.out.join (m := lj) hPl hfit.out hpos (Kept.refl _ wx) hown2 hgr2
      have HN : Hid (OutO w2 wB ad3 (c + lj) cap3 (Ls.take (j + 1)).flatten) := by show OutO _ _ _ _ _ _; rw [HFt.out]; exact hON
      clear hown2 hgr2 hON HO2 HE1 HFt c1
      go_wp2
      go_roundw
      case rel => exact ⟨j + 1, c + lj, ad3, cap3, ⟨hlt, hcO⟩, rfl, by first | rfl | go_num, HN⟩
      case measure => simp [intOf]; omega

theorem pieces16 (K : PkK) (ad : Option Addr) (len cap : Nat) (l : List MEnt) (k : Int) (w : World) (h0 : EntsW w ad len l) (hb : FlatE ad ∧ len ≤ cap ∧ (len : Int) * 48 ≤ 140737488351232 ∧ (ad = none → len = 0 ∧ cap = 0)) (hk : FitN k) :
    Calls Try.prog 7 #[.slice ad len cap, .int .i64 k] w fun e w' => e = .returned (.bool true) ∧ Kept (fun _ => False) w w' := by
  obtain ⟨n, cap2, hc, h1, _, h2⟩ := cut_in h0 hb 200
  exact pieces_go K ad len cap n cap2 k (l.take n) w (Lib.hid (examples16 K w)) hc hk (Lib.hid ⟨h2, by omega⟩)

end Go.Proofs.Ytgcepbpdicadnaa

/- Pieces that a law of layer 16 writes over, one by one. -/
namespace Go.Proofs.Ytgcepbpdicadnaa
open Go.RowKit Go.Proofs Go.Proofs.Pk
set_option maxRecDepth 10000

/-- Since a world nothing older was changed; each piece has its cells, and those from a number on are as they were. -/
structure ZS (wR w : World) (g og : Nat) (pl : Nat → Nat × Nat) (Ls : List (List MEnt)) (i : Nat) : Prop where
  kept : Kept (fun _ => False) wR w
  spine : ∀ j (h : j < Ls.length), ∃ cj, w.cell? ⟨g, og + j, none⟩ = some (.slice (some ⟨(pl j).1, (pl j).2, none⟩) Ls[j].length cj)
  there : ∀ j (h : j < Ls.length) o, o < Ls[j].length * 4 → ∃ v, w.cell? ⟨(pl j).1, (pl j).2 + o, none⟩ = some v
  free : ∀ j (_ : j < Ls.length) o, w.frozen? ⟨(pl j).1, o, none⟩ = false
  base : ∀ j (_ : j < Ls.length), wR.heap.size ≤ (pl j).1 ∧ (pl j).1 ≠ g
  apart : ∀ i k (h : i < Ls.length) (hk : k < Ls.length), i ≠ k → (pl i).1 ≠ (pl k).1 ∨ (pl i).2 + Ls[i].length * 4 ≤ (pl k).2 ∨ (pl k).2 + Ls[k].length * 4 ≤ (pl i).2
  intact : ∀ j (h : j < Ls.length), i ≤ j → EntsW w (some ⟨(pl j).1, (pl j).2, none⟩) Ls[j].length Ls[j]
theorem ZS.of {wR w0 w : World} {g og : Nat} {pl : Nat → Nat × Nat} {Ls : List (List MEnt)} (hk : Kept (fun _ => False) wR w) (hb : wR.heap.size ≤ w0.heap.size)
    (h4 : ∀ i (h : i < Ls.length), (∃ ci, w.cell? ⟨g, og + i, none⟩ = some (.slice (some ⟨(pl i).1, (pl i).2, none⟩) Ls[i].length ci)) ∧ PcAt w0 w g (pl i) Ls[i])
    (h5 : ∀ i k (h : i < Ls.length) (hk : k < Ls.length), i ≠ k → (pl i).1 ≠ (pl k).1 ∨ (pl i).2 + Ls[i].length * 4 ≤ (pl k).2 ∨ (pl k).2 + Ls[k].length * 4 ≤ (pl i).2) : ZS wR w g og pl Ls 0 where
  kept := hk
  spine j h := (h4 j h).1
  there j h o ho := by
    have h1 := (h4 j h).2.row
    obtain ⟨v, hv⟩ : ∃ v, (cellsM Ls[j])[o]? = some v := ⟨_, List.getElem?_eq_getElem (by rw [cellsM_length]; exact ho)⟩
    exact ⟨v, h1 o v hv⟩
  free j h o := (h4 j h).2.free o
  base j h := ⟨Nat.le_trans hb (h4 j h).2.base, (h4 j h).2.ne⟩
  apart := h5
  intact j h _ := (h4 j h).2.ents
theorem ZS.quiet {wR w w' : World} {g og : Nat} {pl : Nat → Nat × Nat} {Ls : List (List MEnt)} {i : Nat} (h : ZS wR w g og pl Ls i) (hne : ∀ p ∈ Ls, p ≠ []) (hk : Kept (fun _ => False) w w') : ZS wR w' g og pl Ls i where
  kept := h.kept.trans hk (fun _ f => f.elim)
  spine j hj := by
    obtain ⟨cj, hc⟩ := h.spine j hj
    exact ⟨cj, (hk.cell (p := ⟨g, og + j, none⟩) (World.block_lt_of_cell? w _ hc) (fun f => f)).trans hc⟩
  there j hj o ho := by
    obtain ⟨v, hv⟩ := h.there j hj o ho
    exact ⟨v, (hk.cell (p := ⟨(pl j).1, (pl j).2 + o, none⟩) (World.block_lt_of_cell? w _ hv) (fun f => f)).trans hv⟩
  free j hj o := by
    obtain ⟨v, hv⟩ := h.there j hj 0 (by have := List.length_pos_iff.2 (hne _ (List.getElem_mem hj)); omega)
    have hb := hk.block (pl j).1 (World.block_lt_of_cell? w _ hv) (fun f => f)
    have := h.free j hj o
    unfold World.frozen? at this ⊢
    simp only [hb]
    exact this
  base := h.base
  apart := h.apart
  intact j hj hij := ents_keptK (h.intact j hj hij) hk
theorem ZS.set {wR w : World} {g og : Nat} {pl : Nat → Nat × Nat} {Ls : List (List MEnt)} {i : Nat} (h : ZS wR w g og pl Ls (i + 1)) (hi : i < Ls.length) (o : Nat) (ho : o < Ls[i].length * 4) (u : Value) : ZS wR (w.setCell ⟨(pl i).1, (pl i).2 + o, none⟩ u) g og pl Ls (i + 1) where
  kept := h.kept.setNew (p := ⟨(pl i).1, (pl i).2 + o, none⟩) (h.base i hi).1 u
  spine j hj := by
    obtain ⟨cj, hc⟩ := h.spine j hj
    exact ⟨cj, (World.cell?_setCell_far w ⟨(pl i).1, (pl i).2 + o, none⟩ ⟨g, og + j, none⟩ u (h.base i hi).2).trans hc⟩
  there j hj p hp := by
    obtain ⟨v, hv⟩ := h.there j hj p hp
    exact cell?_setCell_some hv
  free j hj p := by rw [World.frozen?_setCell]; exact h.free j hj p
  base := h.base
  apart := h.apart
  intact j hj hij := by
    have hE := h.intact j hj hij
    refine ⟨hE.1, hE.2.imp_right ?_⟩
    rintro ⟨b, off, h1, h2, h3⟩
    cases h1
    refine ⟨_, _, rfl, by simpa using h2, fun k hk => ⟨fun t v hv => ?_, (h3 k hk).fit⟩⟩
    have ht : t < 4 := by have := (List.getElem?_eq_some_iff.1 hv).1; simpa [entC] using this
    rw [World.cell?_setCell_other]
    · exact (h3 k hk).row t v hv
    · intro e
      have e1 := congrArg Addr.block e
      have e2 := congrArg Addr.off e
      simp only at e1 e2
      rcases h.apart i j hi hj (by omega) with h6 | h6 | h6
      · exact h6 e1
      · omega
      · omega
theorem ZS.weaken {wR w : World} {g og : Nat} {pl : Nat → Nat × Nat} {Ls : List (List MEnt)} {i : Nat} (h : ZS wR w g og pl Ls i) : ZS wR w g og pl Ls (i + 1) :=
  ⟨h.kept, h.spine, h.there, h.free, h.base, h.apart, fun j hj hij => h.intact j hj (by omega)⟩

end Go.Proofs.Ytgcepbpdicadnaa

/- A region that draws its order, in which a fact on the memory holds until its last operations come up (a store to a cell that the region has loaded). No program. -/
namespace Go.Proofs.Pk
section
variable {P : Program} {ops : Array Oper} {Q : Exit → Act → World → Prop} {md : Region.Mode} {S : World → Prop} {z : Nat}

/-- Whatever order is picked, and S holds behind each operation ahead of number z. -/
def wpAnyU (P : Program) (md : Region.Mode) (ops : Array Oper) (Q : Exit → Act → World → Prop) (S : World → Prop) (z : Nat) : Nat → Array Bool → Act → World → Prop
  | 0, listed, a, w => Region.ready md ops listed = [] ∧ Q .normal a w
  | fuel + 1, listed, a, w =>
    (Region.ready md ops listed = [] → Q .normal a w) ∧
    ∀ i ∈ Region.ready md ops listed, wpOp P ops Q i (fun a' w' => (i < z → S w') ∧ wpAnyU P md ops Q S z fuel (listed.setIfInBounds i true) a' w') a w

theorem wpAny_of_until : ∀ (fuel : Nat) (listed : Array Bool) (a : Act) (w : World), wpAnyU P md ops Q S z fuel listed a w → wpAny P md ops Q fuel listed a w
  | 0, _, _, _, h => h
  | fuel + 1, _, _, _, h => ⟨h.1, fun i hi => wpOp_mono (fun a' w' h' => wpAny_of_until fuel _ a' w' h'.2) (h.2 i hi)⟩

/-- All operations from z on wait for number i. -/
def lateB (md : Region.Mode) (ops : Array Oper) (z i : Nat) : Bool := (List.range ops.size).all fun j => decide (j < z) || Region.waitsFor md ops j i

theorem late_ready {i j : Nat} {listed : Array Bool} (hl : lateB md ops z i = true) (hi : i ∈ Region.ready md ops listed) (hj : j ∈ Region.ready md ops listed) : j < z := by
  obtain ⟨hjun, oj, hoj, hall⟩ := mem_ready.1 hj
  have hlt : j < ops.size := (Array.getElem?_eq_some_iff.1 hoj).1
  have := List.all_eq_true.1 hl j (List.mem_range.2 hlt)
  rcases Bool.or_eq_true _ _ ▸ this with h | h
  · exact of_decide_eq_true h
  · obtain ⟨oj', hoj', e, he, hb, heq⟩ := Region.waitsFor_spec h
    rw [hoj] at hoj'
    obtain rfl := Option.some.inj hoj'
    have h1 := hall e he hb
    rw [heq] at h1
    have h0 := getD_both (mem_ready.1 hi).1
    rw [h0] at h1; cases h1

/-- An operation that reads may be taken first. -/
theorem wpAnyU_first {i : Nat} {oi : Oper} {v : Value} (hi : ops[i]? = some oi) (hsel : ∀ (j : Nat) (o : Oper) cs b, ops[j]? = some o → o.op ≠ .select cs b)
    (hQ : ∀ c a w, Q (.panic c) (a.put oi.dst v) w → Q (.panic c) a w) (hl : lateB md ops z i = true) :
    ∀ (fuel : Nat) (listed : Array Bool) (a : Act) (w : World),
      (∀ j oj, ops[j]? = some oj → j ≠ i → listed.getD j true = false → (∀ e ∈ oj.after, Region.binds md e = true → e.on ≠ i) → oi.apart ops oj = true) →
      i ∈ Region.ready md ops listed → YieldsIf P ops S oi v a → S w →
      wpAnyU P md ops Q S z fuel (listed.setIfInBounds i true) (a.put oi.dst v) w → wpAnyU P md ops Q S z (fuel + 1) listed a w := by
  intro fuel
  induction fuel with
  | zero =>
    intro listed a w _ hr hy hS H
    refine ⟨fun h => absurd (h ▸ hr) (by simp), fun j hj => ?_⟩
    by_cases hji : j = i
    · subst hji; exact hy.wpOp hi hS ⟨fun _ => hS, H⟩
    · exact absurd (H.1 ▸ ready_mono hj hji) (by simp)
  | succ fuel ih =>
    intro listed a w hfree hr hy hS H
    refine ⟨fun h => absurd (h ▸ hr) (by simp), fun j hj => ?_⟩
    by_cases hji : j = i
    · subst hji; exact hy.wpOp hi hS ⟨fun _ => hS, H⟩
    · have hjz := late_ready hl hr hj
      obtain ⟨hjun, oj, hoj, hall⟩ := mem_ready.1 hj
      have hnot : ∀ e ∈ oj.after, Region.binds md e = true → e.on ≠ i := fun e he hb heq => by
        have h1 := hall e he hb
        rw [heq, getD_both (mem_ready.1 hr).1] at h1; cases h1
      have h2 := wpOp_putIf hoj (hfree j oj hoj hji hjun hnot) (fun cs b => hsel i oi cs b hi) (fun cs b => hsel j oj cs b hoj) hQ hy (H.2 j (ready_mono hj hji))
      refine wpOp_mono (fun a' w' h3 => ⟨h3.2.1, ih (listed.setIfInBounds j true) a' w' ?_ (ready_mono hr (Ne.symm hji)) h3.1 (h3.2.1 hjz) ?_⟩) h2
      · intro k ok hk hki hun hno
        refine hfree k ok hk hki ?_ hno
        by_cases hjk : j = k
        · subst hjk; exact hjun
        · rwa [getD_set_ne true hjk] at hun
      · rw [Array.setIfInBounds_comm _ _ hji]; exact h3.2.2

theorem wpAnyU_take {i : Nat} {oi : Oper} {v : Value} {fuel : Nat} {listed : Array Bool} {a : Act} {w : World} (d : Option Tmp) (hi : ops[i]? = some oi) (hd : oi.dst = d)
    (hs : Region.noSelect ops = true) (hf : Region.free md ops listed i = true) (hr : (Region.ready md ops listed).contains i = true) (hl : lateB md ops z i = true)
    (hQ : ∀ c a w, Q (.panic c) (a.put oi.dst v) w → Q (.panic c) a w) (hS : S w) (hy : YieldsIf P ops S oi v a)
    (h : wpAnyU P md ops Q S z fuel (listed.setIfInBounds i true) (a.put d v) w) : wpAnyU P md ops Q S z (fuel + 1) listed a w := by
  subst hd
  exact wpAnyU_first hi (Region.noSelect_spec hs) hQ hl fuel listed a w (Region.free_spec hi hf) (by simpa using hr) hy hS h

/-- One alone may come up: what it does is known. -/
theorem wpAnyU_run {i : Nat} {oi : Oper} {v : Value} {w' : World} {fuel : Nat} {listed : Array Bool} {a : Act} {w : World} (d : Option Tmp) (hi : ops[i]? = some oi) (hd : oi.dst = d)
    (hr : Region.ready md ops listed = [i]) (hg : Region.wanted oi (yielded ops a.tmps) = true) (hrun : (execOp a.eval oi).run P w = .ok (.value v) w') (hS : i < z → S w')
    (h : wpAnyU P md ops Q S z fuel (listed.setIfInBounds i true) (a.put d v) w') : wpAnyU P md ops Q S z (fuel + 1) listed a w := by
  subst hd
  refine ⟨fun h0 => absurd (hr ▸ h0) (by simp), ?_⟩
  rw [hr]
  intro j hj
  obtain rfl : j = i := by simpa using hj
  unfold wpOp
  simp only [hi, hg, if_true, Oper.wp, hrun, Oper.upon]
  exact .inl ⟨hS, h⟩
theorem wpAnyU_skip {i : Nat} {oi : Oper} {w' : World} {fuel : Nat} {listed : Array Bool} {a : Act} {w : World} (d : Option Tmp) (hi : ops[i]? = some oi) (hd : oi.dst = d)
    (hr : Region.ready md ops listed = [i]) (hg : Region.wanted oi (yielded ops a.tmps) = true) (hrun : (execOp a.eval oi).run P w = .ok .skip w') (hS : i < z → S w')
    (h : wpAnyU P md ops Q S z fuel (listed.setIfInBounds i true) (a.put d undef) w') : wpAnyU P md ops Q S z (fuel + 1) listed a w := by
  subst hd
  refine ⟨fun h0 => absurd (hr ▸ h0) (by simp), ?_⟩
  rw [hr]
  intro j hj
  obtain rfl : j = i := by simpa using hj
  unfold wpOp
  simp only [hi, hg, if_true, Oper.wp, hrun, Oper.upon]
  exact .inl ⟨hS, h⟩

/-- One alone may come up, and it is a call. -/
theorem wpAnyU_call {i : Nat} {oi : Oper} {f : Nat} {args : Array Value} {fuel : Nat} {listed : Array Bool} {a : Act} {w : World} (d : Option Tmp) (hi : ops[i]? = some oi) (hd : oi.dst = d)
    (hr : Region.ready md ops listed = [i]) (hg : Region.wanted oi (yielded ops a.tmps) = true) (hrun : (execOp a.eval oi).run P w = .ok (.enter f args) w)
    (h : Calls P f args w fun e w' => ∃ v, e = .returned v ∧ (i < z → S w') ∧ wpAnyU P md ops Q S z fuel (listed.setIfInBounds i true) (a.put d v) w') : wpAnyU P md ops Q S z (fuel + 1) listed a w := by
  subst hd
  refine ⟨fun h0 => absurd (hr ▸ h0) (by simp), ?_⟩
  rw [hr]
  intro j hj
  obtain rfl : j = i := by simpa using hj
  unfold wpOp
  simp only [hi, hg, if_true, Oper.wp, hrun, Oper.upon]
  refine .inl (h.mono ?_)
  rintro e w' ⟨v, rfl, h1, h2⟩
  exact ⟨h1, h2⟩
/-- What is not wanted. -/
theorem unwanted {o : Oper} {a : Act} (hw : Region.wanted o (yielded ops a.tmps) = false) : YieldsIf P ops S o undef a := .inr ⟨hw, rfl⟩

theorem wpAnyU_done {listed : Array Bool} {a : Act} {w : World} (hr : Region.ready md ops listed = []) (h : Q .normal a w) :
    ∀ fuel, wpAnyU P md ops Q S z fuel listed a w
  | 0 => ⟨hr, h⟩
  | _ + 1 => ⟨fun _ => h, by rw [hr]; simp⟩

/-- The beginning. -/
theorem wp_region_until {id : Nat} {a : Act} {w : World} (S : World → Prop) (z : Nat) (hm : P.follows .mixedOrders = true)
    (h : wpAnyU P .any ops Q S z ops.size (Array.replicate ops.size false) a w.drew) : (Code.region id ops true).wp P Q a w :=
  wp_region_any hm (wpAny_of_until _ _ _ _ h)

/-- What an operation that reads yields, whatever the world. -/
theorem yields_mv {o : Oper} {a : Act} {x : Operand} {v : Value} (hw : Region.wanted o (yielded ops a.tmps) = true) (ho : o.op = .move x) (hx : a.eval x = v) : YieldsIf P ops S o v a :=
  .inl ⟨hw, fun w _ => by subst hx; unfold execOp; simp only [ho, Sem.run_pure]⟩
theorem yields_of {o : Oper} {a : Act} {v : Value} (hw : Region.wanted o (yielded ops a.tmps) = true) (h : ∀ w, S w → (execOp a.eval o).run P w = .ok (.value v) w) : YieldsIf P ops S o v a := .inl ⟨hw, h⟩
end

/-- A frame that is written out, with one slot put. -/
theorem put_lit (l : List Value) (ds : List Deferred) (d : Nat) (v : Value) : Act.put ⟨l.toArray, ds⟩ (some d) v = ⟨(l.set d v).toArray, ds⟩ := by simp [Act.put]

end Go.Proofs.Pk
