/- Layer 14's landed program: Live. -/
import Derived.Test.YtjdolimeibpacaaGreatVc14
import Derived.Deep.DeepAppendWide
namespace Go.Proofs.YtjdolimeibpacaaGreat
open Go.RowKit Go.Proofs Go.Proofs.Pk
set_option maxRecDepth 10000

/-- A version in memory, of whatever length an append may give. -/
structure VerX (w : World) (ad : Option Addr) (len cap : Nat) (ad2 : Option Addr) (len2 cap2 : Nat) (T : List MetaV) (l : List Int) : Prop where
  tabs : MetasW w ad len T
  logs : Ints w ad2 len2 l
  fitT : ∀ m ∈ T, FitMV m
  fitL : ∀ x ∈ l, FitV x
  bigT : (len : Int) * 56 ≤ 140737488375328
  bigL : (len2 : Int) * 8 ≤ 140737488355328
  none2 : ad2 = none → len2 = 0 ∧ cap2 = 0
theorem VerX.kept {w w' : World} {ad : Option Addr} {len cap : Nat} {ad2 : Option Addr} {len2 cap2 : Nat} {T : List MetaV} {l : List Int} (h : VerX w ad len cap ad2 len2 cap2 T l) (hk : Kept (fun _ => False) w w') : VerX w' ad len cap ad2 len2 cap2 T l :=
  ⟨metas_kept h.tabs hk, ints_keptV h.logs hk, h.fitT, h.fitL, h.bigT, h.bigL, h.none2⟩
theorem fits_of {w : World} {ad : Option Addr} {len : Nat} {T : List MetaV} (h : MetasW w ad len T) : ∀ m ∈ T, FitMV m := fun m hm => by
  obtain ⟨i, hi, rfl⟩ := List.mem_iff_getElem.1 hm
  obtain ⟨_, _, _, _, _, _, _, _, _, hf⟩ := MetasW.at h i hi
  exact hf
theorem VerW.x {w : World} {ad : Option Addr} {len cap : Nat} {ad2 : Option Addr} {len2 cap2 : Nat} {v : VerV} (h : VerW w ad len cap ad2 len2 cap2 v) : VerX w ad len cap ad2 len2 cap2 v.1 v.2.1 :=
  ⟨h.1, h.2.2.1, fits_of h.1, fun x hx => h.2.2.2.1.1 x hx, by have := h.2.1.2.2.1; omega, by have := h.2.2.2.1.2.2.1; omega, h.2.2.2.1.2.2.2⟩

/-- The numbers of the logs, and of the first k tables, as cells. -/
def uptoC (T : List MetaV) (l : List Int) (k : Nat) : List Value := (l ++ (T.take k).map (·.1)).map intC
theorem uptoC_zero (T : List MetaV) (l : List Int) : uptoC T l 0 = l.map intC := by simp [uptoC]
theorem uptoC_succ (T : List MetaV) (l : List Int) (k : Nat) (h : k < T.length) : uptoC T l (k + 1) = uptoC T l k ++ [intC T[k].1] := by
  unfold uptoC
  rw [List.take_succ_eq_append_getElem h]
  simp only [List.map_append, List.append_assoc, List.map_cons, List.map_nil]
theorem uptoC_all (T : List MetaV) (l : List Int) (k : Nat) (h : T.length ≤ k) : uptoC T l k = (l ++ T.map (·.1)).map intC := by unfold uptoC; rw [List.take_of_length_le h]
theorem sortIntsN (B : Nat) (v : Value) (l : List Int) (n : Nat) (hn : l.length = n) (w : World) (h : w.ownsRow B 3 1 v n (l.map intC)) (hlen : n < 4611686018427387904) :
    Calls Tryz.prog 42 #[v] w fun e w' => e = .returned (.tuple #[]) ∧ ∃ ad cap L, v = .slice ad n cap ∧ Ints w' ad n L ∧ L.Perm l ∧ L.Pairwise (· ≤ ·) ∧ Below B w w' := by
  subst hn
  exact sortInts B v l w h hlen

set_option maxHeartbeats 4000000 in
theorem liveP14 (ad : Option Addr) (len cap : Nat) (ad2 : Option Addr) (len2 cap2 : Nat) (T : List MetaV) (l : List Int) (s : Int) (w : World) (h : VerX w ad len cap ad2 len2 cap2 T l) :
    Calls Tryz.prog 12 #[verC ad len cap ad2 len2 cap2 s] w fun e w' => ∃ ad cap L, e = .returned (.slice ad (len2 + len) cap) ∧ Ints w' ad (len2 + len) L ∧ L.Perm (l ++ T.map (·.1)) ∧ L.Pairwise (· ≤ ·) ∧ Kept (fun _ => False) w w' := by
  show Calls Tryz.prog 12 #[.agg #[.slice ad len cap, .slice ad2 len2 cap2, .int .i64 s]] w _
  obtain ⟨i0, hi, hz0, hz1, hz2⟩ := parts_of int_info
  have HW := Lib.hid h
  have HT : Hid (T.length = len) := Lib.hid h.tabs.1
  have HL : Hid (l.length = len2) := Lib.hid h.logs.1
  have hbT := h.bigT
  have hbL := h.bigL
  have hk0 := (Kept.refl (fun _ => False) w).alloc (.cells #[.slice ad len cap, .slice ad2 len2 cap2, .int .i64 s] 41)
  have HC := Lib.hid (cloneInts ad2 len2 cap2 l (w.alloc (.cells #[.slice ad len cap, .slice ad2 len2 cap2, .int .i64 s] 41)) (h.kept hk0).logs h.none2 h.bigL)
  have HN := Holds.new w [.slice ad len cap, .slice ad2 len2 cap2, .int .i64 s] 41
  clear h
  obtain ⟨M, hM⟩ : ∃ M, Hid (M = l ++ T.map (·.1)) := ⟨_, Lib.hid rfl⟩
  rw [← hM.out]
  go_enter Tryz.func12, Tryz.ntmps12
  go_wp2_with fail
  refine HC.out.mono ?_
  clear HC
  rintro e w1 ⟨v, rfl, hown, hb⟩
  have hk1 := hk0.trans (Kept.of_below (fun _ => False) hb) (fun _ f => f.elim)
  have HB : Holds w1 w.heap.size [.slice ad len cap, .slice ad2 len2 cap2, .int .i64 s] 41 := Holds.of_block HN (hb.block _ (by simp))
  have c0 := Holds.cell HB 0 _ rfl
  have HI : Hid (w1.ownsRow w.heap.size 3 1 v (len2 + 0) (uptoC T l 0) ∧ Kept (fun _ => False) w w1) := Lib.hid ⟨by rw [uptoC_zero]; exact owns_base hown (by simp), hk1⟩
  clear hown hb hk1 hk0 HN HB
  go_wp2
  obtain ⟨wq, hwq⟩ : ∃ wq, wq = w1 := ⟨_, rfl⟩
  rw [← hwq] at HI ⊢
  clear hwq c0
  go_loopw [3, 12] (fun v i wr => ∃ k : Nat, i = .int .i64 (k : Int) ∧ k ≤ len ∧ Hid (wr.ownsRow w.heap.size 3 1 v (len2 + k) (uptoC T l k) ∧ Kept (fun _ => False) w wr)) (fun _ i _ => len - (intOf i).toNat)
  case atStart => exact ⟨0, rfl, Nat.zero_le _, HI⟩
  case round =>
    obtain ⟨k, rfl, hk, hI⟩ := hrel
    clear HI
    have k0 : (0 : Int) ≤ (k : Int) := by omega
    have hwk : IntKind.i64.wrap ((k : Int) + 1) = (k : Int) + 1 := IntWalk.i64_in _ (by omega)
    by_cases hlt : k < len
    · have kN : (k : Int) < (len : Int) := by omega
      have hkl : k < T.length := by rw [HT.out]; exact hlt
      obtain ⟨b, off, rfl, hbl, c0, c1, c2, c3, c4, _⟩ := MetasW.at (metas_kept HW.out.tabs hI.out.2) k hkl
      have hst : Hid (uptoC T l (k + 1) = uptoC T l k ++ [intC T[k].1]) := Lib.hid (uptoC_succ T l k hkl)
      generalize T[k] = m at c0 c1 c2 c3 c4 hst
      obtain ⟨x, lv, y, z, c⟩ := m
      simp only at c0 c1 c2 c3 c4 hst
      have hNb := Lib.hid (Holds.new (wr.alloc (.cells #[.int .i64 x, .int .i64 lv, .string ⟨y.toArray⟩, .string ⟨z.toArray⟩, .int .i64 c] 45)) [.int .i64 x] 3)
      go_wp2_with (at_builtin; refine wpList_append_own_wide _ rfl (.tmp 16) (.tmp 19) 23 rfl w.heap.size 3 i0 (.int .i64 0) 1 8 Tryz.underlying23 hi hz0 hz1 hz2 rfl (by decide) _ (len2 + k) _ rfl ((hI.out.1.alloc _).alloc _) ⟨wr.heap.size + 1, 0, none⟩ 1 1 [intC x] rfl rfl ?d1 ?d2 ?d3 ?d4 ?d5 ?_)
      case d1 =>
        intro q u hq
        rw [add0]
        have := hNb.out.cell q u hq
        rwa [show (wr.alloc (.cells #[.int .i64 x, .int .i64 lv, .string ⟨y.toArray⟩, .string ⟨z.toArray⟩, .int .i64 c] 45)).heap.size = wr.heap.size + 1 from Array.size_push _] at this
      case d2 => intro u hu; rw [List.mem_singleton] at hu; subst hu; rfl
      case d3 => unfold maxLen; omega
      case d4 => omega
      case d5 => have := hI.out.2.size; simp; omega
      intro v2 wB hown hgr _
      have hkB : Kept (fun k => u3.ownBlock = some k) wr wB := kept_grown (((Kept.refl _ wr).alloc _).alloc _) hgr (fun b hb => .inl hb)
      have HN : Hid (wB.ownsRow w.heap.size 3 1 v2 (len2 + (k + 1)) (uptoC T l (k + 1)) ∧ Kept (fun _ => False) w wB) :=
        Lib.hid ⟨by rw [hst.out]; exact hown, hI.out.2.trans hkB (fun q hq => .inr (hI.out.1.lt q hq).1)⟩
      clear hown hgr hkB hI hst hNb
      go_wp2
      go_roundw
      case rel => exact ⟨k + 1, by first | rfl | go_num, by omega, HN⟩
      case measure => simp [intOf]; omega
    · have kN : ¬(k : Int) < (len : Int) := by omega
      have hke : k = len := by omega
      subst hke
      have hsz := hI.out.2.size
      have HS : Hid (∀ M : List Int, M = l ++ T.map (·.1) → M.length = len2 + k ∧ Calls Tryz.prog 42 #[u3] wr fun e w' => e = .returned (.tuple #[]) ∧ ∃ ad cap L, u3 = .slice ad (len2 + k) cap ∧ Ints w' ad (len2 + k) L ∧ L.Perm M ∧ L.Pairwise (· ≤ ·) ∧ Below w.heap.size wr w') := Lib.hid (fun M hM => by
        have hl : M.length = len2 + k := by rw [hM, List.length_append, List.length_map, HL.out, HT.out]
        refine ⟨hl, sortIntsN w.heap.size u3 M (len2 + k) hl wr ?_ (by omega)⟩
        rw [hM, ← uptoC_all T l k (by rw [HT.out]; exact Nat.le_refl _)]
        exact hI.out.1)
      have HS2 := Lib.hid (HS.out M hM.out).2
      clear HS
      go_wp2_with fail
      refine HS2.out.mono ?_
      clear HS2
      rintro e w2 ⟨rfl, ad', cap', L, rfl, hL, hp, hs, hb⟩
      have HE := Lib.hid (And.intro hL (And.intro hp (And.intro hs (hI.out.2.trans (⟨hb.os, hb.tape, hb.output, hb.size, fun q _ hx => hb.block q (by omega)⟩ : Kept (fun n => w.heap.size ≤ n) wr w2) (fun n hn => .inr hn)))))
      clear hL hp hs hb hI
      go_wp2
      go_ret
      exact ⟨ad', cap', L, rfl, HE.out⟩

theorem metas_keptX {w w' : World} {ad : Option Addr} {len : Nat} {T : List MetaV} {X : Nat → Prop} (h : MetasW w ad len T) (hk : Kept X w w') (hx : ∀ b off sp, ad = some ⟨b, off, sp⟩ → ¬X b) : MetasW w' ad len T := by
  refine ⟨h.1, h.2.imp_right ?_⟩
  rintro ⟨b, off, h1, h2, h3⟩
  exact ⟨b, off, h1, Nat.lt_of_lt_of_le h2 hk.size, fun i hi => ⟨fun j v hv => (hk.cell (p := ⟨b, off + i * 5 + j, none⟩) h2 (hx b off none h1)).trans ((h3 i hi).row j v hv), (h3 i hi).fit⟩⟩
theorem own_off {w : World} {B sz n : Nat} {e : TypeId} {ad : Option Addr} {len cap : Nat} {X : List Value} (h : w.ownsRow B e sz (.slice ad len cap) n X) : ∀ b off sp, ad = some ⟨b, off, sp⟩ → B ≤ b := fun b off sp hb => by
  subst hb
  exact (h.lt b rfl).1

end Go.Proofs.YtjdolimeibpacaaGreat
