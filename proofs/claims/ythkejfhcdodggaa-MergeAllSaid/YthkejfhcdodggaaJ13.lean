/- Rm15, OwnL, OwL15. -/
import Derived.Test.YthkejfhcdodggaaRp15
import Derived.Test.YthkejfhcdodggaaJ05
import Derived.Test.YthkejfhcdodggaaJ10
import Derived.Test.YthkejfhcdodggaaJ06
import Derived.Test.YthkejfhcdodggaaJ09
import Derived.Laws.AppendOwnNone
import Derived.Great.BuildSlice
import Derived.Test.YthkejfhcdodggaaJ12
import Derived.Test.YthkejfhcdodggaaKp15
import Derived.StillTailTactics
import Derived.Deep.CutRange
import Derived.BigQuiet

/- The reference of layer 15: Merge. -/
namespace Go.Proofs.Ythkejfhcdodggaa
open Go.RowKit Go.Proofs Go.Proofs.Pk
set_option maxRecDepth 10000
attribute [local simp] mk_get wrap64_u8 mk_extract ByteArray.mk_append_mk get_1k

theorem flat_take {ls : List (List MEnt)} {i : Nat} (h : i < ls.length) : (ls.take i).flatten.length + ls[i].length ≤ ls.flatten.length := by
  have e : ls = ls.take i ++ (ls[i] :: ls.drop (i + 1)) := by rw [← List.drop_eq_getElem_cons h, List.take_append_drop]
  have h2 : ls.flatten.length = ((ls.take i) ++ (ls[i] :: ls.drop (i + 1))).flatten.length := by rw [← e]
  rw [h2, List.flatten_append, List.length_append, List.flatten_cons, List.length_append]
  omega
set_option maxHeartbeats 16000000 in
theorem rMerge (w : World) (ad : Option Addr) (len cap : Nat) (ls : List (List MEnt)) (h : LsE w ad len ls) (hlm : len ≤ 16) (hs : ls.flatten.length ≤ 1000) :
    Calls Try.prog 11 #[.slice ad len cap] w (RefE w (mergeM ls)) := by
  have hlen := h.1
  have H := Lib.hid h
  have HS := Lib.hid hs
  obtain ⟨R, hR⟩ : ∃ R, Hid (R = mergeM ls) := ⟨_, rfl⟩
  rw [← hR.out]
  clear h hs
  have HI : Hid (OutO w w none 0 0 (mergeG (ls.take 0)) ∧ (ls.take 0).all sortB = true) := ⟨by simpa [mergeG] using OutO.nil (Kept.refl _ w), by simp⟩
  obtain ⟨w0, hw0⟩ : ∃ w0, w0 = w := ⟨_, rfl⟩
  rw [← hw0] at H HI ⊢
  clear hw0
  go_enter Try.func11, Try.ntmps11
  go_wp2
  go_loopw [4, 5] (fun o i wr => ∃ (j n : Nat) (ao : Option Addr) (co : Nat), j ≤ len ∧ o = .slice ao n co ∧ i = .int .i64 (j : Int) ∧ Hid (OutO w0 wr ao n co (mergeG (ls.take j)) ∧ (ls.take j).all sortB = true)) (fun _ i _ => len - (intOf i).toNat)
  case atStart => exact ⟨0, 0, none, 0, Nat.zero_le _, rfl, rfl, HI⟩
  case round =>
    rename World => w9
    obtain ⟨j, n, ao, co, hj, rfl, rfl, hI⟩ := hrel
    clear HI
    have j0 : (0 : Int) ≤ (j : Int) := by omega
    by_cases hlt : j < len
    case neg =>
      obtain rfl : j = len := by omega
      have jn : ¬(j : Int) < (j : Int) := by omega
      have HV : Hid (RefE w0 R (.returned (.tuple #[.slice ao n co, .bool true])) w9) := by
        have h1 := hI.out
        rw [List.take_of_length_le (by omega)] at h1
        show RefE _ _ _ _
        rw [hR.out]
        unfold mergeM
        rw [if_pos h1.2]
        exact h1.1.ref
      clear hI
      go_wp2
      go_ret2
      exact HV.out
    have jn : (j : Int) < (len : Int) := by omega
    have hwj : IntKind.i64.wrap ((j : Int) + 1) = (j : Int) + 1 := IntWalk.i64_in _ (by omega)
    have hjl : j < ls.length := by omega
    obtain ⟨b, off, ai, ci, rfl, hat⟩ := H.out.at hjl
    have hft := flat_take hjl
    have hmt := merge_take ls j hjl
    have hall : (ls.take (j + 1)).all sortB = ((ls.take j).all sortB && sortB ls[j]) := by rw [List.take_succ_eq_append_getElem hjl, List.all_append]; simp
    have hno : sortB ls[j] = false → mergeM ls = ([], false) := fun h => by
      unfold mergeM
      rw [if_neg]
      intro ha
      rw [List.all_eq_true.1 ha _ (List.getElem_mem hjl)] at h
      cases h
    have hgl : (mergeG (ls.take j)).length ≤ (ls.take j).flatten.length := merge_len _
    obtain ⟨L, hL⟩ : ∃ L, L = ls[j] := ⟨_, rfl⟩
    rw [← hL] at hat hft hmt hall hno
    have hL1 : L.length ≤ 1000 := by have := HS.out; omega
    obtain ⟨G, hG⟩ : ∃ G, G = mergeG (ls.take j) := ⟨_, rfl⟩
    have hI1 := hI.out
    rw [← hG] at hgl hmt hI1
    rw [hI1.2, Bool.true_and] at hall
    have HGL : Hid (G.length + L.length ≤ 1000) := by show _ ≤ _; have := HS.out; omega
    obtain ⟨m, hm⟩ : ∃ m, Hid (m = L.length) := ⟨_, rfl⟩
    rw [← hm.out] at hat
    have HAT := Lib.hid hat
    have HMT := Lib.hid hmt
    have HALL := Lib.hid hall
    have HNO := Lib.hid hno
    have HO := Lib.hid hI1.1
    have c0 := (hat w9 hI1.1.2.2.1).1
    have HSo := Lib.hid (rSorted w9 ai m ci L (hat w9 hI1.1.2.2.1).2 (by rw [hm.out]; omega))
    clear hat hft hmt hall hno hgl hL hG hI1 hI hL1
    go_wp2_with fail
    refine HSo.out.mono ?_
    clear HSo
    rintro e wa ⟨rfl, hka⟩
    have HOa := Lib.hid (HO.out.kept hka)
    clear hka HO c0
    by_cases hs : sortB L = true
    case neg =>
      rw [Bool.eq_false_iff.2 hs]
      have HV : Hid (R = ([], false)) := by show _ = _; rw [hR.out]; exact HNO.out (Bool.eq_false_iff.2 hs)
      have HKa : Hid (Kept (fun _ => False) w0 wa) := HOa.out.2.2.1
      clear HNO HMT HALL HOa hs
      go_wp2
      go_ret2
      rw [HV.out]
      exact RefE.no HKa.out
    rw [hs]
    have HALL2 : Hid ((ls.take (j + 1)).all sortB = true) := HALL.out.trans hs
    have HK0 : Hid (OutO w0 wa ao n co ((L.take 0).foldl putG G)) := by simpa [Hid] using HOa.out
    clear HNO HALL hs HOa
    go_wp2
    go_loopw [4, 7] (fun o i wr => ∃ (k n : Nat) (ao : Option Addr) (co : Nat), k ≤ m ∧ o = .slice ao n co ∧ i = .int .i64 (k : Int) ∧ Hid (OutO w0 wr ao n co ((L.take k).foldl putG G))) (fun _ i _ => m - (intOf i).toNat)
    case atStart => exact ⟨0, n, ao, co, Nat.zero_le _, rfl, rfl, HK0⟩
    case round =>
      clear HK0
      obtain ⟨k, n, ao, co, hk, rfl, rfl, hO⟩ := hrel
      have k0 : (0 : Int) ≤ (k : Int) := by omega
      have c0 := (HAT.out wr hO.out.2.2.1).1
      by_cases hlt2 : k < m
      case neg =>
        obtain rfl : k = m := by omega
        have kn : ¬(k : Int) < (k : Int) := by omega
        have HN : Hid (OutO w0 wr ao n co (mergeG (ls.take (j + 1))) ∧ (ls.take (j + 1)).all sortB = true) := by
          refine ⟨?_, HALL2.out⟩
          have h1 := hO.out
          rw [List.take_of_length_le (by have := hm.out; omega), ← HMT.out] at h1
          exact h1
        clear hO
        go_wp2
        go_roundw
        case rel => exact ⟨j + 1, n, ao, co, hlt, rfl, by first | rfl | go_num, HN⟩
        case measure => simp [intOf]; omega
      have kn : (k : Int) < (m : Int) := by omega
      have hkL : k < L.length := by have := hm.out; omega
      have hwk : IntKind.i64.wrap ((k : Int) + 1) = (k : Int) + 1 := IntWalk.i64_in _ (by have := HGL.out; omega)
      have hE := (HAT.out wr hO.out.2.2.1).2
      obtain ⟨b2, off2, rfl, _, x0, x1, x2, x3⟩ := hE.atS k hkL
      have hfx : FitN (L[k]).2.1 := by
        obtain ⟨_, _, _, _, _, hf, _⟩ := entsW_all hE k (by omega)
        exact hf
      have hfl : (L.take (k + 1)).foldl putG G = putG ((L.take k).foldl putG G) L[k] := by rw [List.take_succ_eq_append_getElem hkL, List.foldl_append]; rfl
      obtain ⟨x, hx⟩ : ∃ x, x = L[k] := ⟨_, rfl⟩
      rw [← hx] at x0 x1 x2 x3 hfx hfl
      have hn : n ≤ 1000 := by
        have h1 := merge_le (L.take k) G
        have h2 := hO.out.1
        have h3 := HGL.out
        rw [List.length_take] at h1
        omega
      have hP := rPut w0 wr ao n co _ x hO.out hfx hn
      rw [← hfl] at hP
      have hC : entC x = [.string ⟨x.1.toArray⟩, .int .i64 x.2.1, .bool x.2.2.1, .string ⟨x.2.2.2.toArray⟩] := rfl
      rw [hC] at hP
      have HP := Lib.hid hP
      clear hE hfx hfl hx hn hP hC hO hkL
      go_wp2_with fail
      refine HP.out.mono ?_
      clear HP
      rintro e wb ⟨ao2, n2, co2, rfl, hO2⟩
      have HO2 := Lib.hid hO2
      clear hO2 x0 x1 x2 x3 c0
      go_wp2
      go_roundw
      case rel => exact ⟨k + 1, n2, ao2, co2, hlt2, rfl, by first | rfl | go_num, HO2⟩
      case measure => simp [intOf]; omega

end Go.Proofs.Ythkejfhcdodggaa

/- A list of lists of entries that grows in a row of its own; copies. -/
namespace Go.Proofs.Ythkejfhcdodggaa
open Go.RowKit Go.Proofs Go.Proofs.Pk
set_option maxRecDepth 10000
attribute [local simp] mk_get wrap64_u8 mk_extract ByteArray.mk_append_mk get_1k

theorem lst_info : (Try.prog.info? 24).map (fun i => (i.zero, i.size, i.bytes)) = some (some (.slice none 0 0), 1, 24) := by kernel_rfl
theorem add_zero (a : Addr) : a.add 0 = a := by
  unfold Addr.add
  obtain ⟨b, o, s⟩ := a
  cases s <;> simp
theorem slice_cut (ai : Option Addr) (m ci n : Nat) (h : n ≤ ci) (w : World) : (Instr.slice 24 (.slice ai m ci) none (some (.int .i64 (n : Int))) none).run Try.prog w = .ok (.slice ai n ci) w := by
  have hu : Try.prog.underlying 24 = some (.slice 34) := by kernel_rfl
  have hn : (0 : Int) ≤ (n : Int) ∧ (n : Int) ≤ (ci : Int) := by omega
  have ha : (if ci = 0 then ai else ai.map (fun a => a.add 0)) = ai := by
    split
    · rfl
    · cases ai <;> simp [add_zero]
  have hs : (Go.sizeOf 34).run Try.prog w = .ok 4 w := by kernel_rfl
  simp only [Instr.slice, Instr.sliceBounds, Instr.sliceBound, asIntOf, run_underlying hu, go_sem]
  simp [h, hn, hs, ha, Result.andThen]

theorem ents_keptX {X : Nat → Prop} {w w' : World} {ad : Option Addr} {len : Nat} {l : List MEnt} (h : EntsW w ad len l) (hk : Kept X w w') (hx : l ≠ [] → ∀ a, ad = some a → ¬X a.block) : EntsW w' ad len l := by
  by_cases h0 : l = []
  · subst h0; exact ⟨h.1, .inl rfl⟩
  · refine ⟨h.1, h.2.imp_right ?_⟩
    rintro ⟨b, off, h1, h2, h3⟩
    have hb := hx h0 _ h1
    exact ⟨b, off, h1, Nat.lt_of_lt_of_le h2 hk.size, fun i hi => ⟨fun k v hv => (hk.cell (p := ⟨b, off + i * 4 + k, none⟩) h2 hb).trans ((h3 i hi).row k v hv), (h3 i hi).fit⟩⟩
theorem ents_lt {w : World} {ad : Option Addr} {len : Nat} {l : List MEnt} (h : EntsW w ad len l) (h0 : l ≠ []) (a : Addr) (ha : ad = some a) : a.block < w.heap.size := by
  rcases h.2 with h1 | ⟨b, off, h1, h2, _⟩
  · exact absurd h1 h0
  · rw [h1] at ha; cases ha; exact h2
/-- A list of lists in a row of its own: the lists lie elsewhere. -/
structure OwnL (w0 w : World) (ao : Option Addr) (n co : Nat) (Ls : List (List MEnt)) : Prop where
  len : Ls.length = n
  row : ∃ C : List Value, w.ownsRow w0.heap.size 24 1 (.slice ao n co) n C ∧ ∀ i (h : i < Ls.length), ∃ ai ci, C[i]? = some (.slice ai Ls[i].length ci) ∧ EntsW w ai Ls[i].length Ls[i] ∧ (Ls[i] ≠ [] → ∀ a, ai = some a → (Value.slice ao n co).ownBlock ≠ some a.block) ∧ Ls[i].length ≤ ci
  kept : Kept (fun _ => False) w0 w
theorem OwnL.nil {w0 w : World} (h : Kept (fun _ => False) w0 w) : OwnL w0 w none 0 0 [] := ⟨rfl, ⟨[], World.ownsRow_nil _ _ _ _, fun i h => (by simp at h)⟩, h⟩
theorem OwnL.keptK {w0 w w' : World} {ao : Option Addr} {n co : Nat} {Ls : List (List MEnt)} (h : OwnL w0 w ao n co Ls) (hk : Kept (fun _ => False) w w') : OwnL w0 w' ao n co Ls := by
  obtain ⟨h1, ⟨C, hr, hc⟩, h3⟩ := h
  refine ⟨h1, ⟨C, owns_of_block hr fun g hg => hk.block g (hr.lt g hg).2 (fun f => f), fun i hi => ?_⟩, h3.trans hk (fun _ f => f.elim)⟩
  obtain ⟨ai, ci, e1, e2, e3⟩ := hc i hi
  exact ⟨ai, ci, e1, ents_keptK e2 hk, e3⟩
theorem OwnL.lsE {w0 w : World} {ao : Option Addr} {n co : Nat} {Ls : List (List MEnt)} (h : OwnL w0 w ao n co Ls) : LsE w ao n Ls := by
  obtain ⟨h1, ⟨C, hr, hc⟩, h3⟩ := h
  refine ⟨h1, ?_⟩
  rcases hr.2 with ⟨_, hn⟩ | ⟨g, cap, cur, hv, _, hg, _⟩
  · exact .inl (List.length_eq_zero_iff.1 (by omega))
  · cases hv
    refine .inr ⟨g, 0, rfl, (Array.getElem?_eq_some_iff.1 hg).1, fun i hi => ?_⟩
    obtain ⟨ai, ci, e1, e2, _, e4⟩ := hc i hi
    refine ⟨ai, ci, ?_, e2, e4⟩
    rw [Nat.zero_add, hr.cellAt i (by omega)]
    exact e1
theorem OwnL.grown {w0 wx wy wB : World} {ao : Option Addr} {n co : Nat} {Ls : List (List MEnt)} {C : List Value} {v : Value} {ai : Option Addr} {m ci : Nat} {L : List MEnt} (h : OwnL w0 wx ao n co Ls)
    (hr : wx.ownsRow w0.heap.size 24 1 (.slice ao n co) n C) (hc : ∀ i (h : i < Ls.length), ∃ ai ci, C[i]? = some (.slice ai Ls[i].length ci) ∧ EntsW wx ai Ls[i].length Ls[i] ∧ (Ls[i] ≠ [] → ∀ a, ai = some a → (Value.slice ao n co).ownBlock ≠ some a.block) ∧ Ls[i].length ≤ ci)
    (hy : Kept (fun _ => False) wx wy) (hL : EntsW wx ai m L) (hLc : m ≤ ci) (hLb : L ≠ [] → ∀ a, ai = some a → (Value.slice ao n co).ownBlock ≠ some a.block)
    (h2 : wB.ownsRow w0.heap.size 24 1 v (n + 1) (C ++ [.slice ai m ci])) (hg : wy.grownBy wB (Value.slice ao n co).ownBlock) (hp : v.ownBlock = (Value.slice ao n co).ownBlock ∨ v.ownBlock = some wy.heap.size) :
    ∃ ad2 cap2, v = .slice ad2 (n + 1) cap2 ∧ OwnL w0 wB ad2 (n + 1) cap2 (Ls ++ [L]) := by
  obtain ⟨ad2, cap2, rfl⟩ : ∃ ad2 cap2, v = .slice ad2 (n + 1) cap2 := by
    rcases h2.2 with ⟨_, h⟩ | ⟨g, cap, cur, h, _⟩
    · omega
    · exact ⟨_, _, h⟩
  have hk : Kept (fun k => (Value.slice ao n co).ownBlock = some k) wy wB := kept_grown (Kept.refl _ _) hg (fun b hb => .inl hb)
  have hone : ∀ (aj : Option Addr) (l : List MEnt), EntsW wx aj l.length l → (l ≠ [] → ∀ a, aj = some a → (Value.slice ao n co).ownBlock ≠ some a.block) → EntsW wB aj l.length l ∧ (l ≠ [] → ∀ a, aj = some a → (Value.slice ad2 (n + 1) cap2).ownBlock ≠ some a.block) := fun aj l he hb => by
    refine ⟨ents_keptX (ents_keptK he hy) hk hb, fun h0 a ha => ?_⟩
    rcases hp with hp | hp
    · rw [hp]; exact hb h0 a ha
    · rw [hp]
      intro e
      have h1 := ents_lt he h0 a ha
      have h2 := hy.size
      have h3 := Option.some.inj e
      omega
  have hlen := h.len
  have hLl := hL.1
  have hCl : C.length = n := by have := hr.1; omega
  refine ⟨ad2, cap2, rfl, ⟨by rw [List.length_append, hlen]; rfl, ⟨_, h2, fun i hi => ?_⟩, kept_grown (h.kept.trans hy (fun _ f => f.elim)) hg (fun b hb => .inr (hr.lt b hb).1)⟩⟩
  by_cases hin : i < Ls.length
  · obtain ⟨aj, cj, e1, e2, e3, e5⟩ := hc i hin
    have e4 := hone aj Ls[i] e2 e3
    refine ⟨aj, cj, ?_, ?_⟩
    · rw [List.getElem_append_left hin, List.getElem?_append_left (by omega)]; exact e1
    · rw [List.getElem_append_left hin]; exact ⟨e4.1, e4.2, e5⟩
  · have hin2 : i = Ls.length := by rw [List.length_append] at hi; simp at hi; omega
    subst hin2
    have e0 : (Ls ++ [L])[Ls.length]'hi = L := by simp
    have e4 := hone ai L (by rw [hLl]; exact hL) hLb
    refine ⟨ai, ci, ?_, ?_⟩
    · rw [e0, List.getElem?_append_right (by omega), hLl, show Ls.length - C.length = 0 from by omega]; rfl
    · rw [e0]; exact ⟨e4.1, e4.2, by omega⟩

theorem run_bsL (w : World) (a : Option Addr) (n c : Nat) : (Instr.buildSlice 22 1 #[(0, .slice a n c)]).run Try.prog w = .ok (.slice (some ⟨w.heap.size, 0, none⟩) 1 1) (w.alloc (.cells #[.slice a n c] 24)) := by
  obtain ⟨iL, hiL, hlz, hl1, hl2⟩ := info_parts lst_info
  exact run_buildSlice w 22 24 1 _ #[.slice a n c] iL (.slice none 0 0) Try.underlying22 hiL hlz (by rw [hl1]; decide) (by rw [hl1]; decide) (by rw [hl1]; simp only [Value.cells]; kernel_rfl)
theorem run_bsL2 (w : World) (a : Option Addr) (n c : Nat) (a2 : Option Addr) (n2 c2 : Nat) : (Instr.buildSlice 22 2 #[(0, .slice a n c), (1, .slice a2 n2 c2)]).run Try.prog w = .ok (.slice (some ⟨w.heap.size, 0, none⟩) 2 2) (w.alloc (.cells #[.slice a n c, .slice a2 n2 c2] 24)) := by
  obtain ⟨iL, hiL, hlz, hl1, hl2⟩ := info_parts lst_info
  exact run_buildSlice w 22 24 2 _ #[.slice a n c, .slice a2 n2 c2] iL (.slice none 0 0) Try.underlying22 hiL hlz (by rw [hl1]; decide) (by rw [hl1]; decide) (by rw [hl1]; simp only [Value.cells]; kernel_rfl)

/-- A copy: append to nothing. -/
theorem copy_run (W : World) {ai : Option Addr} {n ci : Nat} {l : List MEnt} (h : EntsW W ai n l) (hn : n ≤ 1000) (hb : ai = none → ci = 0) :
    ∃ a2 c2 w2, (Builtin.append_ #[24, 24] 24 #[.slice none 0 0, .slice ai n ci]).run Try.prog W = .ok (.slice a2 n c2) w2 ∧ EntsW w2 a2 n l ∧ Kept (fun _ => False) W w2 ∧ (∀ a, a2 = some a → W.heap.size ≤ a.block) ∧ n ≤ c2 := by
  obtain ⟨i0, hi0, hz0, hz1, hz2⟩ := info_parts ent_info
  have hlen := h.1
  have hfit : ∀ e ∈ l, FitN e.2.1 := by
    intro e he
    obtain ⟨i, hi, rfl⟩ := List.getElem_of_mem he
    obtain ⟨_, _, _, _, _, hf, _⟩ := entsW_all h i (by omega)
    exact hf
  cases ai with
  | none =>
    have hl0 : l = [] := by
      rcases h.2 with h0 | ⟨b, off, h1, _⟩
      · exact h0
      · cases h1
    subst hl0
    obtain rfl : n = 0 := by simpa using hlen.symm
    obtain rfl : ci = 0 := hb rfl
    have hr := run_append_owned_none (P := Try.prog) (w := W) W.heap.size 24 24 34 i0 4 Try.underlying24 hi0 (.slice none 0 0) 0 [] (World.ownsRow_nil _ _ _ _)
    exact ⟨none, 0, W, hr, EntsW.empty, Kept.refl _ _, fun a ha => (by cases ha), Nat.le_refl _⟩
  | some a =>
    have hc : ∀ (m : Nat) (u : Value), (cellsM l)[m]? = some u → W.cell? (a.add m) = some u := fun m u hu => by
      rcases h.2 with h0 | ⟨b, off, h1, h2, h3⟩
      · rw [h0] at hu; simp [cellsM] at hu
      · cases h1
        have hm : m < l.length * 4 := by have := (List.getElem?_eq_some_iff.1 hu).1; rwa [cellsM_length] at this
        have hi : m / 4 < l.length := by omega
        have hr := (h3 (m / 4) hi).row (m % 4)
        have hx : ∃ v, (entC l[m / 4])[m % 4]? = some v := by
          have : m % 4 < (entC l[m / 4]).length := by simp [entC]; omega
          exact ⟨_, List.getElem?_eq_getElem this⟩
        obtain ⟨v, hv⟩ := hx
        have e1 := cellsM_get l (m / 4) hi (m % 4) v hv
        rw [show m / 4 * 4 + m % 4 = m from by omega, hu] at e1
        cases e1
        have := hr _ hv
        rw [show off + m / 4 * 4 + m % 4 = off + m from by omega] at this
        rw [show ((⟨b, off, none⟩ : Addr).add m) = ⟨b, off + m, none⟩ from by unfold Addr.add; split <;> simp_all]
        exact this
    obtain ⟨v', w', hr, h2, h3, _⟩ := run_append_own (P := Try.prog) W W.heap.size 24 24 34 i0 _ 4 48 Try.underlying24 hi0 hz0 hz1 hz2 rfl (by decide) (.slice none 0 0) 0 [] (World.ownsRow_nil _ _ _ _) a n ci (cellsM l) (by rw [cellsM_length, hlen]) hc (cellsM_one _) (by unfold maxLen; omega) (by omega) (Nat.le_refl _)
    rw [Nat.zero_add, List.nil_append] at h2
    obtain ⟨a2, c2, rfl⟩ : ∃ a2 c2, v' = .slice a2 n c2 := by
      rcases h2.2 with ⟨hv, h0⟩ | ⟨g, cap, cur, hv, _⟩
      · subst h0; exact ⟨_, _, hv⟩
      · exact ⟨_, _, hv⟩
    rw [← hlen] at h2 hr ⊢
    refine ⟨a2, c2, w', hr, owns_ents h2 hfit, kept_grown (Kept.refl _ _) h3 (fun b hb => by cases hb), fun a' ha => ?_, ?_⟩
    · subst ha
      exact (h2.lt _ rfl).1
    · rcases h2.2 with ⟨hv, h0⟩ | ⟨g, cap, cur, hv, _, _, hc2, _⟩
      · omega
      · cases hv; exact hc2


end Go.Proofs.Ythkejfhcdodggaa

/- Lists of lists that a law of layer 15 makes of its own. -/
namespace Go.Proofs.Ythkejfhcdodggaa
open Go.RowKit Go.Proofs Go.Proofs.Pk
set_option maxRecDepth 10000
attribute [local simp] mk_get wrap64_u8 mk_extract ByteArray.mk_append_mk get_1k

/-- What a law's own lists are made of. -/
def CutsL (L : List RowE) (k m : Nat) : List (List MEnt) := (L.take k).map fun r => r.l.take m
theorem cuts_snoc {L : List RowE} {j m : Nat} (h : j < L.length) : CutsL L (j + 1) m = CutsL L j m ++ [(L[j]).l.take m] := by
  unfold CutsL; rw [List.take_succ_eq_append_getElem h, List.map_append]; rfl
theorem RowsE.get {w : World} {ad : Option Addr} {len : Nat} {L : List RowE} (h : RowsE w ad len L) {j : Nat} (hj : j < L.length) (m : Nat) : ∃ b off ai mi ci n, ad = some ⟨b, off, none⟩ ∧ n ≤ m ∧ n ≤ ci ∧ mi ≤ ci ∧ min (mi : Int) (m : Int) = (n : Int) ∧ EntsW w ai n ((L[j]).l.take m) ∧ (∀ W, Kept (fun _ => False) w W → W.cell? ⟨b, off + j, none⟩ = some (.slice ai mi ci)) ∧ (ai = none → ci = 0) := by
  rcases h.2 with h0 | ⟨b, off, h1, h2, h3⟩
  · rw [h0] at hj; simp at hj
  · obtain ⟨e1, e2, e3, e4⟩ := h3 j hj
    have hl := e2.1
    refine ⟨b, off, (L[j]).ad, (L[j]).len, (L[j]).cap, min (L[j]).len m, h1, by omega, by omega, e3, by omega, ?_, fun W hk => (hk.cell (p := ⟨b, off + j, none⟩) h2 (fun f => f)).trans e1, e4⟩
    refine ⟨by rw [List.length_take]; omega, ?_⟩
    rcases e2.2 with h0 | ⟨b', off', g1, g2, g3⟩
    · exact .inl (by rw [h0, List.take_nil])
    · refine .inr ⟨b', off', g1, g2, fun i hi => ?_⟩
      have hi2 : i < (L[j]).l.length := by rw [List.length_take] at hi; omega
      rw [List.getElem_take]
      exact g3 i hi2

theorem two_lsG (w : World) {a1 a2 : Option Addr} {n1 n2 : Nat} {l1 l2 : List MEnt} (c1 c2 : Nat) (h1 : EntsW w a1 n1 l1) (hc1 : n1 ≤ c1) (h2 : EntsW w a2 n2 l2) (hc2 : n2 ≤ c2) : LsE (w.alloc (.cells #[.slice a1 n1 c1, .slice a2 n2 c2] 24)) (some ⟨w.heap.size, 0, none⟩) 2 [l1, l2] := by
  have hH : Holds (w.alloc (.cells #[.slice a1 n1 c1, .slice a2 n2 c2] 24)) w.heap.size [.slice a1 n1 c1, .slice a2 n2 c2] 24 := Holds.new w _ _
  have hk : Kept (fun _ => False) w (w.alloc (.cells #[.slice a1 n1 c1, .slice a2 n2 c2] 24)) := (Kept.refl _ w).alloc _
  have e1 := h1.1
  have e2 := h2.1
  subst e1 e2
  refine ⟨rfl, .inr ⟨w.heap.size, 0, rfl, by rw [size_al]; omega, fun i hi => ?_⟩⟩
  rcases i with _ | _ | i
  · exact ⟨a1, c1, hH.cell 0 _ rfl, ents_keptK h1 hk, hc1⟩
  · exact ⟨a2, c2, hH.cell 1 _ rfl, ents_keptK h2 hk, hc2⟩
  · exact absurd (show i + 1 + 1 < 2 from hi) (by omega)

theorem RefE.get {w w' : World} {l : List MEnt} {o : Bool} {e : Ending} (h : RefE w (l, o) e w') : ∃ (ad : Option Addr) (cap : Nat), e = .returned (.tuple #[.slice ad l.length cap, .bool o]) ∧ EntsW w' ad l.length l ∧ Kept (fun _ => False) w w' := h
theorem NewE.get {w w' : World} {l : List MEnt} {o : Bool} {e : Ending} (h : NewE w (l, o) e w') : ∃ (ad : Option Addr) (cap : Nat), e = .returned (.tuple #[.slice ad l.length cap, if o = true then .nilIface else .iface 50 (.int .i64 1)]) ∧ w'.ownsRow w.heap.size 34 4 (.slice ad l.length cap) l.length (cellsM l) ∧ EntsW w' ad l.length l ∧ Kept (fun _ => False) w w' := by
  obtain ⟨ad, cap, h1, h2, h3, h4⟩ := h
  refine ⟨ad, cap, ?_, h2, owns_ents h2 h3, h4⟩
  cases o <;> exact h1

end Go.Proofs.Ythkejfhcdodggaa
