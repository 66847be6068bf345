/- Rid16, Rt16. -/
import Derived.Test.YtgcepbpdicadnaaJ08
import Derived.Test.YtgcepbpdicadnaaJ15
import Derived.Test.YtgcepbpdicadnaaJ07
import Derived.Test.YtgcepbpdicadnaaJ03
import Derived.Laws.AppendOwnNone
import Derived.BigQuiet
import Derived.Deep.CutRange

/- The reference of layer 14, as layer 16 asks it: the numbers of tables and logs. -/
namespace Go.Proofs.Ytgcepbpdicadnaa
open Go.RowKit Go.Proofs Go.Proofs.Pk
set_option maxRecDepth 10000
attribute [local simp] mk_get wrap64_u8 mk_extract ByteArray.mk_append_mk get_1k

/-- A slice of numbers joined to one that the call has built. -/
theorem app_intsB {w0 W : World} {B : Nat} (hB : w0.heap.size ≤ B) (hBW : B ≤ W.heap.size) {v : Value} {n : Nat} {L : List Int} (hk : Kept (fun _ => False) w0 W) (hown : W.ownsRow B 3 1 v n (L.map intC)) {ua : Option Addr} {ul uc : Nat} {U : List Int} (hu : Ints W ua ul U) (hn : ua = none → ul = 0 ∧ uc = 0) (hb : n + ul ≤ 1000) :
    ∃ v' W', (Builtin.append_ #[23, 23] 23 #[v, .slice ua ul uc]).run Try.prog W = .ok v' W' ∧ W'.ownsRow B 3 1 v' (n + ul) ((L ++ U).map intC) ∧ Kept (fun _ => False) w0 W' := by
  obtain ⟨iT, hiT, hzT, hsT, hbT⟩ := parts_of int_info
  cases ua with
  | none =>
    obtain ⟨rfl, rfl⟩ := hn rfl
    have hU : U = [] := List.length_eq_zero_iff.1 hu.1
    subst hU
    exact ⟨v, W, run_append_owned_none W B 23 23 3 iT 1 Try.underlying23 hiT v n (L.map intC) hown, by rw [List.append_nil]; exact hown, hk⟩
  | some a =>
    have hc : ∀ j u, (U.map intC)[j]? = some u → W.cell? (a.add j) = some u := fun j u hj => by
      obtain ⟨h1, h2⟩ := List.getElem?_eq_some_iff.1 hj
      rw [List.length_map] at h1
      rcases hu.2 with h0 | ⟨b, off, h3, _, h4⟩
      · rw [h0] at h1; simp at h1
      · cases h3
        rw [Addr.add_mid, h4 j h1, ← h2, List.getElem_map]; rfl
    obtain ⟨v', W', hr, h2, h3, _⟩ := run_append_own (P := Try.prog) W B 23 23 3 iT (.int .i64 0) 1 8 Try.underlying23 hiT hzT hsT hbT rfl (by decide) v n (L.map intC) hown a ul uc (U.map intC) (by rw [List.length_map, hu.1, Nat.mul_one]) hc (fun u hm => by obtain ⟨k, _, rfl⟩ := List.mem_map.1 hm; rfl) (by unfold maxLen; omega) (by omega) hBW
    exact ⟨v', W', hr, by rw [List.map_append]; exact h2, kept_grown hk h3 (fun b hb => .inr (Nat.le_trans hB (hown.lt b hb).1))⟩

/-- A list of numbers that grows in a row of its own, the version in its box beside it. -/
structure IOut (w wx : World) (g : Nat) (ad : Option Addr) (len cap : Nat) (ad2 : Option Addr) (len2 cap2 : Nat) (v : VerV) (a : Option Addr) (k c : Nat) (L : List Int) : Prop where
  vb : VBox w wx g ad len cap ad2 len2 cap2 v
  far : w.heap.size ≤ g
  own : wx.ownsRow (g + 1) 3 1 (.slice a k c) k (L.map intC)
  len : L.length = k

set_option maxHeartbeats 4000000 in
theorem rIds16 (w : World) (ad : Option Addr) (len cap : Nat) (ad2 : Option Addr) (len2 cap2 : Nat) (v : VerV) (h0 : VerW w ad len cap ad2 len2 cap2 v) (hlm : len ≤ 400) (hlm2 : len2 ≤ 400) :
    Calls Try.prog 46 #[verC ad len cap ad2 len2 cap2 v.2.2] w fun r w' => ∃ a m c, r = .returned (.slice a m c) ∧ Ints w' a m (idsV v) ∧ m ≤ 800 ∧ Kept (fun _ => False) w w' := by
  obtain ⟨iT, hiT, hzT, hsT, hbT⟩ := parts_of int_info
  have hlen := h0.1.1
  have hlen2 := h0.2.2.1.1
  have HB : Hid (IOut w (w.alloc (.cells #[.slice ad len cap, .slice ad2 len2 cap2, .int .i64 v.2.2] 25)) w.heap.size ad len cap ad2 len2 cap2 v none 0 0 ((v.1.take 0).map (·.1))) :=
    ⟨VBox.new (Kept.refl _ w) h0, Nat.le_refl _, World.ownsRow_nil _ _ _ _, by simp⟩
  have H0 := Lib.hid h0
  obtain ⟨s, hs⟩ : ∃ s, s = v.2.2 := ⟨_, rfl⟩
  have HS := Lib.hid hs
  clear h0
  unfold verC
  rw [← hs] at HB ⊢
  clear hs
  go_enter Try.func46, Try.ntmps46
  go_upto_region 1 with fail
  obtain ⟨g, hg⟩ : ∃ g, g = w.heap.size := ⟨_, rfl⟩
  rw [← hg] at HB ⊢
  generalize w.alloc (.cells #[.slice ad len cap, .slice ad2 len2 cap2, .int .i64 s] 25) = wa at HB ⊢
  clear hg
  go_wp2
  go_loopw [3, 4] (fun o i wr => ∃ (y : Nat) (a : Option Addr) (c : Nat), y ≤ len ∧ o = .slice a y c ∧ i = .int .i64 (y : Int) ∧ Hid (IOut w wr g ad len cap ad2 len2 cap2 v a y c ((v.1.take y).map (·.1)))) (fun _ i _ => len - (intOf i).toNat)
  case atStart => exact ⟨0, none, 0, Nat.zero_le _, rfl, rfl, HB⟩
  case round =>
    obtain ⟨y, a, c, hy, rfl, rfl, hC⟩ := hrel
    clear HB
    have y0 : (0 : Int) ≤ (y : Int) := by omega
    have hwy : IntKind.i64.wrap ((y : Int) + 1) = (y : Int) + 1 := IntWalk.i64_in _ (by omega)
    obtain ⟨d0, d1, d2⟩ := hC.out.vb.cells
    rw [← HS.out] at d2
    by_cases hly : y < len
    case neg =>
      obtain rfl : y = len := by omega
      have yN : ¬(y : Int) < (y : Int) := by omega
      have hv := hC.out.vb.ver
      obtain ⟨v2, wB, e2, o2, k2⟩ := app_intsB (w0 := w) (B := g + 1) (by have := hC.out.far; omega) hC.out.vb.box.lt hC.out.vb.kept hC.out.own hv.2.2.1 hv.2.2.2.1.2.2.2 (by omega)
      rw [List.take_of_length_le (by omega)] at o2
      obtain ⟨la, lc, rfl, hla, -⟩ := owns_ints o2 (by rw [List.length_append, List.length_map, hlen, hlen2])
      have HEnd : Hid (Ints wB la (y + len2) (idsV v) ∧ Kept (fun _ => False) w wB) := ⟨hla, k2⟩
      have HE2 := Lib.hid e2
      clear hla o2 k2 hC hv e2
      go_wp2_with (at_builtin; refine wpList_of_run rfl (some 24) rfl (exec_append (s := .tmp 21) (x := .tmp 23) HE2.out (by rfl) (by rfl) (by rfl) (by rfl)) ?_)
      go_wp2
      go_ret
      exact ⟨la, y + len2, ⟨lc, rfl⟩, HEnd.out.1, by omega, HEnd.out.2⟩
    have yN : (y : Int) < (len : Int) := by omega
    have hyT : y < v.1.length := by omega
    obtain ⟨b, off, rfl, hbl, e0, -, -, -, -, -⟩ := hC.out.vb.ver.1.at y hyT
    obtain ⟨m, hm⟩ : ∃ m, Hid (m = v.1[y].1) := ⟨v.1[y].1, rfl⟩
    have hT : (v.1.take (y + 1)).map (·.1) = (v.1.take y).map (·.1) ++ [m] := by rw [hm.out, List.take_succ_eq_append_getElem hyT, List.map_append]; rfl
    rw [← hm.out] at e0
    have HT := Lib.hid hT
    clear hT hm hyT
    have hsz : g + 1 ≤ wr.heap.size := by have := hC.out.vb.box.lt; omega
    have HNb := Lib.hid (Holds.new wr [.int .i64 m] 3)
    have hone : ∀ u ∈ [Value.int .i64 m], u.oneCell' = true := fun u hu => by rw [List.mem_singleton.1 hu]; rfl
    have HOne := Lib.hid hone
    clear hone
    go_wp2_with (at_builtin; refine wpList_append_own _ rfl (.tmp 12) (.tmp 19) 23 rfl (g + 1) 3 iT _ 1 8 Try.underlying23 hiT hzT hsT hbT rfl (by decide) _ y _ rfl (hC.out.own.alloc _) ⟨wr.heap.size, 0, none⟩ 1 1 [.int .i64 m] rfl rfl ?d1 HOne.out ?d3 ?d4 ?d5 ?_)
    case d3 => unfold maxLen; omega
    case d4 => omega
    case d5 => have := hsz; first | (simp; done) | (simp; omega)
    intro v2 wB hown hgr _
    obtain ⟨a2, c2, rfl⟩ : ∃ a2 c2, v2 = .slice a2 (y + 1) c2 := by
      rcases hown.2 with ⟨_, h⟩ | ⟨g, cap, cur, h, _⟩
      · omega
      · exact ⟨_, _, h⟩
    have hkB : Kept (fun z => (Value.slice a y c).ownBlock = some z) wr wB := kept_grown ((Kept.refl _ wr).alloc _) hgr (fun b hb => .inl hb)
    have hk0 : Kept (fun _ => False) w wB := kept_grown (hC.out.vb.kept.alloc _) hgr (fun b hb => .inr (by have := (hC.out.own.lt b hb).1; have := hC.out.far; omega))
    have HN : Hid (IOut w wB g (some ⟨b, off, none⟩) len cap ad2 len2 cap2 v a2 (y + 1) c2 ((v.1.take (y + 1)).map (·.1))) := by
      refine ⟨⟨hk0, hC.out.vb.box.of_block (hkB.block g hC.out.vb.box.lt (fun e => by have := (hC.out.own.lt g e).1; omega)), H0.out.kept hk0⟩, hC.out.far, ?_, ?_⟩
      · rw [HT.out, List.map_append, List.map_map, List.map_take]; exact hown
      · rw [HT.out, List.length_append, hC.out.len]; rfl
    clear hown hgr hkB hk0 hC HNb hsz e0 d0 d1 d2 HT
    go_wp2
    go_roundw
    case rel => exact ⟨y + 1, a2, c2, hly, by first | rfl | go_num, by first | rfl | go_num, HN⟩
    case measure => simp [intOf]; omega

end Go.Proofs.Ytgcepbpdicadnaa

/- The reference of layer 14, as layer 16 asks it: does a number stand twice in a list? which tables are of a level? -/
namespace Go.Proofs.Ytgcepbpdicadnaa
open Go.RowKit Go.Proofs Go.Proofs.Pk
set_option maxRecDepth 10000
attribute [local simp] mk_get wrap64_u8 mk_extract ByteArray.mk_append_mk get_1k

set_option maxHeartbeats 4000000 in
theorem rTwice16 (w : World) (ad : Option Addr) (len cap : Nat) (l : List Int) (h : Ints w ad len l) (hl : (len : Int) * 8 ≤ 140737488351232) :
    Calls Try.prog 45 #[.slice ad len cap] w fun e w' => e = .returned (.bool (decide ¬l.Nodup)) ∧ Kept (fun _ => False) w w' := by
  have H := Lib.hid h
  have hlen := h.1
  clear h
  have HK0 : Hid (Kept (fun _ => False) w w ∧ (l.take 0).Nodup) := ⟨Kept.refl _ _, by simp⟩
  obtain ⟨r, hr⟩ : ∃ r, Hid (r = decide ¬l.Nodup) := ⟨_, rfl⟩
  rw [← hr.out]
  go_enter Try.func45, Try.ntmps45
  go_wp2
  go_loopw [3] (fun i wr => ∃ x : Nat, x ≤ len ∧ i = .int .i64 (x : Int) ∧ Hid (Kept (fun _ => False) w wr ∧ (l.take x).Nodup)) (fun i _ => len - (intOf i).toNat)
  case atStart => exact ⟨0, Nat.zero_le _, rfl, HK0⟩
  case round =>
    obtain ⟨x, hx, rfl, hC⟩ := hrel
    clear HK0
    have x0 : (0 : Int) ≤ (x : Int) := by omega
    have hwx : IntKind.i64.wrap ((x : Int) + 1) = (x : Int) + 1 := IntWalk.i64_in _ (by omega)
    by_cases hlt : x < len
    case neg =>
      obtain rfl : x = len := by omega
      have xN : ¬(x : Int) < (x : Int) := by omega
      have hrf : r = false := by
        rw [hr.out]
        have h1 := hC.out.2
        rw [List.take_of_length_le (by omega)] at h1
        exact decide_eq_false (fun k => k h1)
      subst hrf
      go_wp2
      go_ret
      exact ⟨rfl, hC.out.1⟩
    have xN : (x : Int) < (len : Int) := by omega
    have HC2 : Hid ((Kept (fun _ => False) w wr ∧ (l.take x).Nodup) ∧ ∀ z ∈ l.take 0, z ≠ l[x]'(by omega)) := ⟨hC.out, fun z hz => by simp at hz⟩
    clear hC
    go_wp2
    go_loopw [4] (fun k wr => ∃ y : Nat, y ≤ x ∧ k = .int .i64 (y : Int) ∧ Hid ((Kept (fun _ => False) w wr ∧ (l.take x).Nodup) ∧ ∀ z ∈ l.take y, z ≠ l[x]'(by omega))) (fun k _ => x - (intOf k).toNat)
    case atStart => exact ⟨0, Nat.zero_le _, rfl, HC2⟩
    case round =>
      obtain ⟨y, hy, rfl, hC⟩ := hrel
      clear HC2
      have y0 : (0 : Int) ≤ (y : Int) := by omega
      have hwy : IntKind.i64.wrap ((y : Int) + 1) = (y : Int) + 1 := IntWalk.i64_in _ (by omega)
      by_cases hly : y < x
      case neg =>
        obtain rfl : y = x := by omega
        have yN : ¬(y : Int) < (y : Int) := by omega
        have HC3 : Hid (Kept (fun _ => False) w wr ∧ (l.take (y + 1)).Nodup) := by
          refine ⟨hC.out.1.1, ?_⟩
          rw [List.take_succ_eq_append_getElem (by omega)]
          refine List.nodup_append.2 ⟨hC.out.1.2, by simp, fun a ha b hb => ?_⟩
          obtain rfl := List.mem_singleton.1 hb
          exact hC.out.2 a ha
        clear hC
        go_wp2
        go_roundw
        case rel => exact ⟨y + 1, hlt, by first | rfl | go_num, HC3⟩
        case measure => simp [intOf]; omega
      have yN : (y : Int) < (x : Int) := by omega
      have hyN : (y : Int) < (len : Int) := by omega
      have hIw : Ints wr ad len l := H.out.kept hC.out.1.1 (.inr fun _ _ _ f => f)
      obtain ⟨bl, ol, rfl, _, d0⟩ := ints_at hIw x (by omega)
      obtain ⟨bm, om, hbm, _, d1⟩ := ints_at hIw y (by omega)
      obtain ⟨rfl, rfl⟩ : bm = bl ∧ om = ol := by simp at hbm; exact ⟨hbm.1.symm, hbm.2.symm⟩
      clear hbm hIw
      by_cases he : l[x]'(by omega) = l[y]'(by omega)
      · have hrt : r = true := by
          rw [hr.out]
          refine decide_eq_true fun k => ?_
          exact List.pairwise_iff_getElem.1 k y x (by omega) (by omega) hly he.symm
        subst hrt
        have HK := Lib.hid hC.out.1.1
        rw [← he] at d1
        generalize l[x]'(by omega) = t1 at d0 d1
        clear hC he
        go_wp2
        go_quiet (fail)
        go_wp2
        go_ret
        exact ⟨rfl, HK.out.drewN _⟩
      · have HC3 : Hid ((Kept (fun _ => False) w wr ∧ (l.take x).Nodup) ∧ ∀ z ∈ l.take (y + 1), z ≠ l[x]'(by omega)) := by
          refine ⟨hC.out.1, fun z hz => ?_⟩
          rw [List.take_succ_eq_append_getElem (by omega)] at hz
          rcases List.mem_append.1 hz with hz | hz
          · exact hC.out.2 z hz
          · rw [List.mem_singleton.1 hz]; exact fun e => he e.symm
        have HE : Hid (¬l[x]'(by omega) = l[y]'(by omega)) := he
        obtain ⟨t1, ht1⟩ : ∃ t1, Hid (t1 = l[x]'(by omega)) := ⟨l[x]'(by omega), rfl⟩
        obtain ⟨t2, ht2⟩ : ∃ t2, Hid (t2 = l[y]'(by omega)) := ⟨l[y]'(by omega), rfl⟩
        rw [← ht1.out] at d0
        rw [← ht2.out] at d1
        have hne2 : (t1 == t2) = false := by rw [ht1.out, ht2.out]; simpa using he
        clear hC he
        go_wp2
        go_quiet (fail)
        go_wp2
        go_roundw
        case rel => exact ⟨y + 1, hly, by first | rfl | go_num, ⟨HC3.out.1.1.drewN _, HC3.out.1.2⟩, HC3.out.2⟩
        case measure => simp [intOf]; omega

end Go.Proofs.Ytgcepbpdicadnaa
