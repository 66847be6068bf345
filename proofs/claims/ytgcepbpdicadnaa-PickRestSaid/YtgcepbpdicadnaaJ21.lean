/- Rlv16. -/
import Derived.Test.YtgcepbpdicadnaaJ08
import Derived.Test.YtgcepbpdicadnaaJ15
import Derived.Test.YtgcepbpdicadnaaJ07
import Derived.BigQuiet
import Derived.Deep.CutRange

/- The reference of layer 14, as layer 16 asks it: the tables of a level. -/
namespace Go.Proofs.Ytgcepbpdicadnaa
open Go.RowKit Go.Proofs Go.Proofs.Pk
set_option maxRecDepth 10000
attribute [local simp] mk_get wrap64_u8 mk_extract ByteArray.mk_append_mk get_1k

/-- A list of tables that grows in a row of its own, the version in its box beside it. -/
structure MOut (w wx : World) (g : Nat) (ad : Option Addr) (len cap : Nat) (ad2 : Option Addr) (len2 cap2 : Nat) (v : VerV) (a : Option Addr) (k c : Nat) (T : List MetaV) : Prop where
  vb : VBox w wx g ad len cap ad2 len2 cap2 v
  far : w.heap.size ≤ g
  own : wx.ownsRow (g + 1) 49 5 (.slice a k c) k (T.flatMap metaC)
  len : T.length = k
  fit : ∀ m ∈ T, FitMV m

set_option maxHeartbeats 4000000 in
theorem rLevel16N (w : World) (ad : Option Addr) (len cap : Nat) (ad2 : Option Addr) (len2 cap2 : Nat) (v : VerV) (n : Int) (h0 : VerW w ad len cap ad2 len2 cap2 v) (hlm : len ≤ 1000) :
    Calls Try.prog 29 #[verC ad len cap ad2 len2 cap2 v.2.2, .int .i64 n] w fun r w' => ∃ a m c, r = .returned (.slice a m c) ∧ MetasW w' a m (levelV v n) ∧ m ≤ c ∧ FlatV a ∧ (a = none → m = 0 ∧ c = 0) ∧ (∀ b off sp, a = some ⟨b, off, sp⟩ → w.heap.size ≤ b) ∧ Kept (fun _ => False) w w' := by
  obtain ⟨iT, hiT, hzT, hsT, hbT⟩ := parts_of meta_info
  have hlen := h0.1.1
  have HB : Hid (MOut w (w.alloc (.cells #[.slice ad len cap, .slice ad2 len2 cap2, .int .i64 v.2.2] 25)) w.heap.size ad len cap ad2 len2 cap2 v none 0 0 ((v.1.take 0).filter fun m => decide (m.2.1 = n))) :=
    ⟨VBox.new (Kept.refl _ w) h0, Nat.le_refl _, World.ownsRow_nil _ _ _ _, by simp, by simp⟩
  have HF : Hid (∀ m ∈ v.1, FitMV m) := fun m hm => by
    obtain ⟨i, hi, rfl⟩ := List.getElem_of_mem hm
    obtain ⟨_, _, _, _, _, _, _, _, _, h⟩ := h0.1.at i hi
    exact h
  have H0 := Lib.hid h0
  obtain ⟨s, hs⟩ : ∃ s, s = v.2.2 := ⟨_, rfl⟩
  have HS := Lib.hid hs
  clear h0
  unfold verC
  rw [← hs] at HB ⊢
  clear hs
  go_enter Try.func29, Try.ntmps29
  go_upto_region 1 with fail
  obtain ⟨g, hg⟩ : ∃ g, g = w.heap.size := ⟨_, rfl⟩
  rw [← hg] at HB ⊢
  generalize w.alloc (.cells #[.slice ad len cap, .slice ad2 len2 cap2, .int .i64 s] 25) = wa at HB ⊢
  clear hg
  go_wp2
  go_loopw [5, 6] (fun o i wr => ∃ (y k : Nat) (a : Option Addr) (c : Nat), y ≤ len ∧ k ≤ y ∧ o = .slice a k c ∧ i = .int .i64 (y : Int) ∧ Hid (MOut w wr g ad len cap ad2 len2 cap2 v a k c ((v.1.take y).filter fun m => decide (m.2.1 = n)))) (fun _ i _ => len - (intOf i).toNat)
  case atStart => exact ⟨0, 0, none, 0, Nat.zero_le _, Nat.le_refl _, rfl, rfl, HB⟩
  case round =>
    obtain ⟨y, k, a, c, hy, hky, rfl, rfl, hC⟩ := hrel
    clear HB
    have y0 : (0 : Int) ≤ (y : Int) := by omega
    have hwy : IntKind.i64.wrap ((y : Int) + 1) = (y : Int) + 1 := IntWalk.i64_in _ (by omega)
    obtain ⟨d0, d1, d2⟩ := hC.out.vb.cells
    rw [← HS.out] at d2
    by_cases hly : y < len
    case neg =>
      obtain rfl : y = len := by omega
      have yN : ¬(y : Int) < (y : Int) := by omega
      go_wp2
      go_ret
      obtain ⟨a', c', he, h1, h2, h3, h4⟩ := owns_metas hC.out.own hC.out.len hC.out.fit
      cases he
      rw [List.take_of_length_le (by omega)] at h1
      exact ⟨a, k, c, rfl, h1, h2, h3, h4, fun b off sp hb => by subst hb; have := (hC.out.own.lt b rfl).1; have := hC.out.far; omega, hC.out.vb.kept⟩
    have yN : (y : Int) < (len : Int) := by omega
    have hyT : y < v.1.length := by omega
    obtain ⟨b, off, rfl, hbl, e0, e1, e2, e3, e4, h5⟩ := hC.out.vb.ver.1.at y hyT
    obtain ⟨m, hm⟩ : ∃ m, Hid (m = v.1[y]) := ⟨v.1[y], rfl⟩
    have hst : v.1.take (y + 1) = v.1.take y ++ [m] := by rw [hm.out]; exact List.take_succ_eq_append_getElem hyT
    have HMF : Hid (FitMV m) := by rw [hm.out]; exact h5
    rw [← hm.out] at e0 e1 e2 e3 e4
    have HST := Lib.hid hst
    clear hst h5 hm hyT
    by_cases hl : m.2.1 = n
    case neg =>
      have HN : Hid (MOut w wr g (some ⟨b, off, none⟩) len cap ad2 len2 cap2 v a k c ((v.1.take (y + 1)).filter fun m => decide (m.2.1 = n))) := by
        have e : (v.1.take (y + 1)).filter (fun m => decide (m.2.1 = n)) = (v.1.take y).filter fun m => decide (m.2.1 = n) := by
          rw [HST.out, List.filter_append]; simp [hl]
        show MOut _ _ _ _ _ _ _ _ _ _ _ _ _ _
        rw [e]; exact hC.out
      obtain ⟨lv, hlv⟩ : ∃ lv, lv = m.2.1 := ⟨_, rfl⟩
      have hne : (lv == n) = false := by rw [hlv]; simpa using hl
      rw [← hlv] at e1
      clear hlv hl hC
      go_wp2
      go_roundw
      case rel => exact ⟨y + 1, k, a, c, hly, by omega, rfl, by first | rfl | go_num, HN⟩
      case measure => simp [intOf]; omega
    case pos =>
      have hsz : g + 1 ≤ wr.heap.size := by have := hC.out.vb.box.lt; omega
      have hmc : metaC m = [.int .i64 m.1, .int .i64 n, .string ⟨m.2.2.1.toArray⟩, .string ⟨m.2.2.2.1.toArray⟩, .int .i64 m.2.2.2.2] := by unfold metaC; rw [hl]
      have hone : ∀ u ∈ [Value.int .i64 m.1, .int .i64 n, .string ⟨m.2.2.1.toArray⟩, .string ⟨m.2.2.2.1.toArray⟩, .int .i64 m.2.2.2.2], u.oneCell' = true := by rw [← hmc]; exact meta_one m
      have HNb := Lib.hid (Holds.new wr [.int .i64 m.1, .int .i64 n, .string ⟨m.2.2.1.toArray⟩, .string ⟨m.2.2.2.1.toArray⟩, .int .i64 m.2.2.2.2] 49)
      have hT : (v.1.take (y + 1)).filter (fun m => decide (m.2.1 = n)) = ((v.1.take y).filter fun m => decide (m.2.1 = n)) ++ [m] := by
        rw [HST.out, List.filter_append]; simp [hl]
      rw [hl] at e1
      have HL := Lib.hid (And.intro hmc hT)
      have HOne := Lib.hid hone
      clear hl hmc hT hone
      go_wp2_with (at_builtin; refine wpList_append_own _ rfl (.tmp 22) (.tmp 28) 22 rfl (g + 1) 49 iT _ 5 56 Try.underlying22 hiT hzT hsT hbT rfl (by decide) _ k _ rfl (hC.out.own.alloc _) ⟨wr.heap.size, 0, none⟩ 1 1 [.int .i64 m.1, .int .i64 n, .string ⟨m.2.2.1.toArray⟩, .string ⟨m.2.2.2.1.toArray⟩, .int .i64 m.2.2.2.2] rfl rfl ?d1 HOne.out ?d3 ?d4 ?d5 ?_)
      case d1 =>
        intro j u hj
        have := HNb.out.cell j u hj
        rw [Addr.add_mid, Nat.zero_add]
        exact this
      case d3 => unfold maxLen; omega
      case d4 => omega
      case d5 => have := hsz; first | (simp; done) | (simp; omega)
      intro v2 wB hown hgr _
      obtain ⟨a2, c2, rfl⟩ : ∃ a2 c2, v2 = .slice a2 (k + 1) c2 := by
        rcases hown.2 with ⟨_, h⟩ | ⟨g, cap, cur, h, _⟩
        · omega
        · exact ⟨_, _, h⟩
      have hkB : Kept (fun z => (Value.slice a k c).ownBlock = some z) wr wB := kept_grown ((Kept.refl _ wr).alloc _) hgr (fun b hb => .inl hb)
      have hk0 : Kept (fun _ => False) w wB := kept_grown (hC.out.vb.kept.alloc _) hgr (fun b hb => .inr (by have := (hC.out.own.lt b hb).1; have := hC.out.far; omega))
      have HN : Hid (MOut w wB g (some ⟨b, off, none⟩) len cap ad2 len2 cap2 v a2 (k + 1) c2 ((v.1.take (y + 1)).filter fun m => decide (m.2.1 = n))) := by
        refine ⟨⟨hk0, hC.out.vb.box.of_block (hkB.block g hC.out.vb.box.lt (fun e => by have := (hC.out.own.lt g e).1; omega)), H0.out.kept hk0⟩, hC.out.far, ?_, ?_, ?_⟩
        · rw [HL.out.2, List.flatMap_append]
          simp only [List.flatMap_cons, List.flatMap_nil, List.append_nil, HL.out.1]
          exact hown
        · rw [HL.out.2, List.length_append, hC.out.len]; rfl
        · intro z hz
          rw [HL.out.2] at hz
          rcases List.mem_append.1 hz with hz | hz
          · exact hC.out.fit z hz
          · rw [List.mem_singleton.1 hz]; exact HMF.out
      clear hown hgr hkB hk0 hC HNb HOne HL hsz e0 e1 e2 e3 e4 d0 d1 d2
      go_wp2
      go_roundw
      case rel => exact ⟨y + 1, k + 1, a2, c2, hly, by omega, by first | rfl | go_num, by first | rfl | go_num, HN⟩
      case measure => simp [intOf]; omega
theorem rLevel16 (w : World) (ad : Option Addr) (len cap : Nat) (ad2 : Option Addr) (len2 cap2 : Nat) (v : VerV) (n : Int) (h0 : VerW w ad len cap ad2 len2 cap2 v) (hlm : len ≤ 1000) :
    Calls Try.prog 29 #[verC ad len cap ad2 len2 cap2 v.2.2, .int .i64 n] w fun r w' => ∃ a m c, r = .returned (.slice a m c) ∧ MetasW w' a m (levelV v n) ∧ m ≤ c ∧ FlatV a ∧ (a = none → m = 0 ∧ c = 0) ∧ Kept (fun _ => False) w w' :=
  (rLevel16N w ad len cap ad2 len2 cap2 v n h0 hlm).mono fun _ _ ⟨a, m, c, h1, h2, h3, h4, h5, _, h6⟩ => ⟨a, m, c, h1, h2, h3, h4, h5, h6⟩

end Go.Proofs.Ytgcepbpdicadnaa
