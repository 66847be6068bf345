/- Vs14, Vd14, Yh16. -/
import Derived.Test.YtgcepbpdicadnaaJ08
import Derived.Test.YtgcepbpdicadnaaJ18
import Derived.Test.YtgcepbpdicadnaaShelfV
import Derived.Deep.DeepAppendWide

/- Layer 14's landed program: slices.Clone and slices.Sort of numbers; rightNumbers. -/
namespace Go.Proofs.Ytgcepbpdicadnaa
open Go.RowKit Go.Proofs Go.Proofs.Pk
set_option maxRecDepth 10000

theorem cloneInts (ad : Option Addr) (len cap : Nat) (l : List Int) (w : World) (h : Ints w ad len l) (hn : ad = none → len = 0 ∧ cap = 0) (hb : (len : Int) * 8 ≤ 140737488355328) :
    Calls Try.prog 49 #[.slice ad len cap] w fun e w' => ∃ v, e = .returned v ∧ w'.ownsRow w.heap.size 3 1 v len (l.map intC) ∧ Below w.heap.size w w' := by
  have hl := h.1
  cases ad with
  | none =>
    obtain ⟨rfl, rfl⟩ := hn rfl
    have : l = [] := List.length_eq_zero_iff.1 hl
    subst this
    refine Calls.mono (AnyG.slices_Clone_int_nil Try.cloneInt 0 0 w) ?_
    rintro e w' ⟨rfl, rfl⟩
    exact ⟨_, rfl, World.ownsRow_nil _ _ _ _, Below.refl _ _⟩
  | some a =>
    rcases h.2 with h0 | ⟨b, off, h1, h2, h3⟩
    · subst h0
      obtain rfl : len = 0 := by simpa using hl.symm
      refine Calls.mono (AnyG.slices_Clone_int_zero Try.cloneInt a cap w) ?_
      rintro e w' ⟨v, rfl, ho, _, hb⟩
      exact ⟨v, rfl, ho, hb⟩
    · injection h1 with h1
      subst h1
      refine Calls.mono (AnyG.slices_Clone_int Try.cloneInt b off len cap l w (by omega) (by omega) (fun j hj => ?_)) ?_
      · rw [h3 j hj, List.getD_eq_getElem?_getD, List.getElem?_eq_getElem hj]; rfl
      · rintro e w' ⟨v, rfl, ho, _, hb⟩
        rw [List.take_of_length_le (by omega)] at ho
        exact ⟨v, rfl, ho, hb⟩

theorem sortInts (B : Nat) (v : Value) (l : List Int) (w : World) (h : w.ownsRow B 3 1 v l.length (l.map intC)) (hlen : l.length < 4611686018427387904) :
    Calls Try.prog 50 #[v] w fun e w' => e = .returned (.tuple #[]) ∧ ∃ ad cap L, v = .slice ad l.length cap ∧ Ints w' ad l.length L ∧ L.Perm l ∧ L.Pairwise (· ≤ ·) ∧ Below B w w' := by
  rcases h.2 with ⟨h1, h2⟩ | ⟨g, cap, cur, h1, h2, h3, h4, h5, h6, h7⟩
  · have : l = [] := List.length_eq_zero_iff.1 h2
    subst this
    subst h1
    refine Calls.mono (AnyG.slices_Sort_int_none Try.sortInt none 0 w) ?_
    rintro e w' ⟨rfl, rfl⟩
    exact ⟨rfl, none, 0, [], rfl, ⟨rfl, .inl rfl⟩, List.Perm.refl _, List.Pairwise.nil, Below.refl _ _⟩
  · subst h1
    have hgl : g < w.heap.size := (Array.getElem?_eq_some_iff.1 h3).1
    have hH : Go.Sort.Holds (Value.int .i64) w g 0 l.toArray := by
      intro j hj
      have hj' : j < l.length := by simpa using hj
      have h9 := World.ownsRow.cells h (g := g) rfl j (intC l[j]) (by rw [List.getElem?_map, List.getElem?_eq_getElem hj']; rfl)
      rw [Addr.add_mid] at h9
      refine ⟨?_, by have := h.frozenAt (0 + j); simpa using this⟩
      rw [h9, getElem!_pos l.toArray j hj]; simp [intC]
    have hle : ∀ a b : Int, decide (a ≤ b) = true ∨ decide (b ≤ a) = true := fun a b => by simp only [decide_eq_true_eq]; omega
    have htr : ∀ a b c : Int, decide (a ≤ b) = true → decide (b ≤ c) = true → decide (a ≤ c) = true := fun a b c h k => by simp only [decide_eq_true_eq] at *; omega
    have hperm : (l.mergeSort fun x y => decide (x ≤ y)).Perm l := List.mergeSort_perm _ _
    have hsort : (l.mergeSort fun x y => decide (x ≤ y)).Pairwise (· ≤ ·) := (List.pairwise_mergeSort (le := fun x y : Int => decide (x ≤ y)) (fun a b c h k => htr a b c h k) (fun a b => by have := hle a b; simpa using this) l).imp (fun h => of_decide_eq_true h)
    have hlen2 : (l.mergeSort fun x y => decide (x ≤ y)).length = l.length := (List.mergeSort_perm _ _).length_eq
    refine Calls.mono (AnyG.slices_Sort_int Try.sortInt g 0 cap l w hH hgl hlen) ?_
    rintro e w' ⟨rfl, n, os, rfl⟩
    generalize (l.mergeSort fun x y => decide (x ≤ y)) = L at *
    have hHL : Go.Sort.Holds (Value.int .i64) (Go.Sort.putRow (Value.int .i64) (Go.Sort.ahead w n) g 0 L.toArray) g 0 L.toArray := Go.Sort.holds_putRow _ _ _ _ _ _ (Go.Sort.holds_ahead _ _ n _ _ _ hH) (by simp [hlen2])
    have hgp : g < (Go.Sort.putRow (Value.int .i64) (Go.Sort.ahead w n) g 0 L.toArray).heap.size := by simpa using hgl
    refine ⟨rfl, some ⟨g, 0, none⟩, cap, L, rfl, ⟨hlen2, .inr ⟨g, 0, rfl, ?_, fun i hi => ?_⟩⟩, hperm, hsort, ?_⟩
    · simp [Go.Sort.grow]; omega
    · rw [Go.Sort.cell?_grow _ _ _ hgp, (hHL i (by simpa using hi)).1, getElem!_pos L.toArray i (by simpa using hi)]; simp
    · refine ⟨rfl, rfl, rfl, by simp [Go.Sort.grow], fun k hk => ?_⟩
      show ((w.heap.modify g _) ++ os)[k]? = _
      rw [Array.getElem?_append_left (by simp; omega), Array.getElem?_modify, if_neg (by omega)]

theorem pred_num (least : Int) (B : Nat) (w : World) (hB : B < w.heap.size) (hcell : w.cell? ⟨B, 0, none⟩ = some (.int .i64 least)) :
    PredAt Try.prog 48 #[.pointer (some ⟨B, 0, none⟩)] (Value.int .i64) (fun x => !decide (least ≤ x ∧ x ≤ 9007199254740991)) w := fun W x hb => by
  have hc : W.cell? ⟨B, 0, none⟩ = some (.int .i64 least) := (hb.cell (p := ⟨B, 0, none⟩) hB).trans hcell
  have H : ∀ w, _ := fun w => within14 x least 9007199254740991 w
  show Calls Try.prog 48 #[.int .i64 x, .pointer (some ⟨B, 0, none⟩)] W fun e w' => e = .returned (.bool (!decide (least ≤ x ∧ x ≤ 9007199254740991))) ∧ ∃ q, w' = W.drewN q
  generalize decide (least ≤ x ∧ x ≤ 9007199254740991) = b at H ⊢
  go_enter Try.func48, Try.ntmps48
  go_wp2_with (go_at_call 32; refine (H _).mono ?_; rintro e w' ⟨rfl, rfl⟩)
  go_ret
  exact ⟨rfl, 0, rfl⟩

set_option maxHeartbeats 1000000 in
theorem numbers14 (ad : Option Addr) (len cap : Nat) (l : List Int) (least : Int) (w : World) (h : Ints w ad len l) (hlen : len ≤ 9223372036854775807) :
    Calls Try.prog 35 #[.slice ad len cap, .int .i64 least] w fun e w' => e = .returned (.bool (l.all fun x => decide (least ≤ x ∧ x ≤ 9007199254740991))) ∧ Kept (fun _ => False) w w' := by
  have hl := h.1
  have hcon : Calls Try.prog 47 #[.slice ad len cap, .func (.func 48) #[] #[.pointer (some ⟨w.heap.size, 0, none⟩)]] (w.alloc (.cells #[.int .i64 least] 3)) fun e w' =>
      e = .returned (.bool (!(l.all fun x => decide (least ≤ x ∧ x ≤ 9007199254740991)))) ∧ ∃ q, w' = (w.alloc (.cells #[.int .i64 least] 3)).drewN q := by
    rw [List.not_all_eq_any_not]
    rcases h.2 with h0 | ⟨b, off, h1, h2, h3⟩
    · subst h0
      obtain rfl : len = 0 := by simpa using hl.symm
      refine Calls.mono (AnyE.slices_ContainsFunc_empty Try.hasInt ad cap _ _) ?_
      rintro e w' ⟨rfl, rfl⟩
      exact ⟨rfl, 0, rfl⟩
    · subst h1
      have eg : ∀ args w, (callFunc 48 args).run Try.prog w = .ok (.enter 48 args) w := enters_of Try.func48 (by kernel_rfl) rfl
      have := AnyE.slices_ContainsFunc Try.hasInt (Value.int .i64) (fun x => !decide (least ≤ x ∧ x ≤ 9007199254740991)) 48 #[.pointer (some ⟨w.heap.size, 0, none⟩)] eg b off len cap l (w.alloc (.cells #[.int .i64 least] 3))
        (pred_num least w.heap.size _ (by simp) (by simp)) (by omega) hlen (fun j hj => by
          refine Lib.cell?_alloc_some _ ?_
          rw [h3 j hj, getElem!_pos l j hj])
      rw [List.take_of_length_le (by omega)] at this
      exact this
  generalize (l.all fun x => decide (least ≤ x ∧ x ≤ 9007199254740991)) = r at hcon ⊢
  go_enter Try.func35, Try.ntmps35
  go_wp2_with (go_at_call 47; refine hcon.mono ?_; rintro e w' ⟨rfl, q, rfl⟩)
  go_ret
  exact ⟨ret_bool (by simp), ((Kept.refl _ _).alloc _).drewN q⟩

end Go.Proofs.Ytgcepbpdicadnaa

/- Layer 14's landed program: Live. -/
namespace Go.Proofs.Ytgcepbpdicadnaa
open Go.RowKit Go.Proofs Go.Proofs.Pk
set_option maxRecDepth 10000

/-- A version in memory, of whatever length an append may give. -/
structure VerX (w : World) (ad : Option Addr) (len cap : Nat) (ad2 : Option Addr) (len2 cap2 : Nat) (T : List MetaV) (l : List Int) : Prop where
  tabs : MetasW w ad len T
  logs : Ints w ad2 len2 l
  fitT : ∀ m ∈ T, FitMV m
  fitL : ∀ x ∈ l, FitV x
  bigT : (len : Int) * 56 ≤ 140737488375328
  bigL : (len2 : Int) * 8 ≤ 140737488355328
  none2 : ad2 = none → len2 = 0 ∧ cap2 = 0
theorem VerX.kept {w w' : World} {ad : Option Addr} {len cap : Nat} {ad2 : Option Addr} {len2 cap2 : Nat} {T : List MetaV} {l : List Int} (h : VerX w ad len cap ad2 len2 cap2 T l) (hk : Kept (fun _ => False) w w') : VerX w' ad len cap ad2 len2 cap2 T l :=
  ⟨metas_kept h.tabs hk, ints_keptV h.logs hk, h.fitT, h.fitL, h.bigT, h.bigL, h.none2⟩
theorem fits_of {w : World} {ad : Option Addr} {len : Nat} {T : List MetaV} (h : MetasW w ad len T) : ∀ m ∈ T, FitMV m := fun m hm => by
  obtain ⟨i, hi, rfl⟩ := List.mem_iff_getElem.1 hm
  obtain ⟨_, _, _, _, _, _, _, _, _, hf⟩ := MetasW.at h i hi
  exact hf
theorem VerW.x {w : World} {ad : Option Addr} {len cap : Nat} {ad2 : Option Addr} {len2 cap2 : Nat} {v : VerV} (h : VerW w ad len cap ad2 len2 cap2 v) : VerX w ad len cap ad2 len2 cap2 v.1 v.2.1 :=
  ⟨h.1, h.2.2.1, fits_of h.1, fun x hx => h.2.2.2.1.1 x hx, by have := h.2.1.2.2.1; omega, by have := h.2.2.2.1.2.2.1; omega, h.2.2.2.1.2.2.2⟩

/-- The numbers of the logs, and of the first k tables, as cells. -/
def uptoC (T : List MetaV) (l : List Int) (k : Nat) : List Value := (l ++ (T.take k).map (·.1)).map intC
theorem uptoC_zero (T : List MetaV) (l : List Int) : uptoC T l 0 = l.map intC := by simp [uptoC]
theorem uptoC_succ (T : List MetaV) (l : List Int) (k : Nat) (h : k < T.length) : uptoC T l (k + 1) = uptoC T l k ++ [intC T[k].1] := by
  unfold uptoC
  rw [List.take_succ_eq_append_getElem h]
  simp only [List.map_append, List.append_assoc, List.map_cons, List.map_nil]
theorem uptoC_all (T : List MetaV) (l : List Int) (k : Nat) (h : T.length ≤ k) : uptoC T l k = (l ++ T.map (·.1)).map intC := by unfold uptoC; rw [List.take_of_length_le h]
theorem sortIntsN (B : Nat) (v : Value) (l : List Int) (n : Nat) (hn : l.length = n) (w : World) (h : w.ownsRow B 3 1 v n (l.map intC)) (hlen : n < 4611686018427387904) :
    Calls Try.prog 50 #[v] w fun e w' => e = .returned (.tuple #[]) ∧ ∃ ad cap L, v = .slice ad n cap ∧ Ints w' ad n L ∧ L.Perm l ∧ L.Pairwise (· ≤ ·) ∧ Below B w w' := by
  subst hn
  exact sortInts B v l w h hlen

set_option maxHeartbeats 4000000 in
theorem liveP14 (ad : Option Addr) (len cap : Nat) (ad2 : Option Addr) (len2 cap2 : Nat) (T : List MetaV) (l : List Int) (s : Int) (w : World) (h : VerX w ad len cap ad2 len2 cap2 T l) :
    Calls Try.prog 37 #[verC ad len cap ad2 len2 cap2 s] w fun e w' => ∃ ad cap L, e = .returned (.slice ad (len2 + len) cap) ∧ Ints w' ad (len2 + len) L ∧ L.Perm (l ++ T.map (·.1)) ∧ L.Pairwise (· ≤ ·) ∧ Kept (fun _ => False) w w' := by
  show Calls Try.prog 37 #[.agg #[.slice ad len cap, .slice ad2 len2 cap2, .int .i64 s]] w _
  obtain ⟨i0, hi, hz0, hz1, hz2⟩ := parts_of int_info
  have HW := Lib.hid h
  have HT : Hid (T.length = len) := Lib.hid h.tabs.1
  have HL : Hid (l.length = len2) := Lib.hid h.logs.1
  have hbT := h.bigT
  have hbL := h.bigL
  have hk0 := (Kept.refl (fun _ => False) w).alloc (.cells #[.slice ad len cap, .slice ad2 len2 cap2, .int .i64 s] 25)
  have HC := Lib.hid (cloneInts ad2 len2 cap2 l (w.alloc (.cells #[.slice ad len cap, .slice ad2 len2 cap2, .int .i64 s] 25)) (h.kept hk0).logs h.none2 h.bigL)
  have HN := Holds.new w [.slice ad len cap, .slice ad2 len2 cap2, .int .i64 s] 25
  clear h
  obtain ⟨M, hM⟩ : ∃ M, Hid (M = l ++ T.map (·.1)) := ⟨_, Lib.hid rfl⟩
  rw [← hM.out]
  go_enter Try.func37, Try.ntmps37
  go_wp2_with fail
  refine HC.out.mono ?_
  clear HC
  rintro e w1 ⟨v, rfl, hown, hb⟩
  have hk1 := hk0.trans (Kept.of_below (fun _ => False) hb) (fun _ f => f.elim)
  have HB : Holds w1 w.heap.size [.slice ad len cap, .slice ad2 len2 cap2, .int .i64 s] 25 := Holds.of_block HN (hb.block _ (by simp))
  have c0 := Holds.cell HB 0 _ rfl
  have HI : Hid (w1.ownsRow w.heap.size 3 1 v (len2 + 0) (uptoC T l 0) ∧ Kept (fun _ => False) w w1) := Lib.hid ⟨by rw [uptoC_zero]; exact owns_base hown (by simp), hk1⟩
  clear hown hb hk1 hk0 HN HB
  go_wp2
  obtain ⟨wq, hwq⟩ : ∃ wq, wq = w1 := ⟨_, rfl⟩
  rw [← hwq] at HI ⊢
  clear hwq c0
  go_loopw [3, 12] (fun v i wr => ∃ k : Nat, i = .int .i64 (k : Int) ∧ k ≤ len ∧ Hid (wr.ownsRow w.heap.size 3 1 v (len2 + k) (uptoC T l k) ∧ Kept (fun _ => False) w wr)) (fun _ i _ => len - (intOf i).toNat)
  case atStart => exact ⟨0, rfl, Nat.zero_le _, HI⟩
  case round =>
    obtain ⟨k, rfl, hk, hI⟩ := hrel
    clear HI
    have k0 : (0 : Int) ≤ (k : Int) := by omega
    have hwk : IntKind.i64.wrap ((k : Int) + 1) = (k : Int) + 1 := IntWalk.i64_in _ (by omega)
    by_cases hlt : k < len
    · have kN : (k : Int) < (len : Int) := by omega
      have hkl : k < T.length := by rw [HT.out]; exact hlt
      obtain ⟨b, off, rfl, hbl, c0, c1, c2, c3, c4, _⟩ := MetasW.at (metas_kept HW.out.tabs hI.out.2) k hkl
      have hst : Hid (uptoC T l (k + 1) = uptoC T l k ++ [intC T[k].1]) := Lib.hid (uptoC_succ T l k hkl)
      generalize T[k] = m at c0 c1 c2 c3 c4 hst
      obtain ⟨x, lv, y, z, c⟩ := m
      simp only at c0 c1 c2 c3 c4 hst
      have hNb := Lib.hid (Holds.new (wr.alloc (.cells #[.int .i64 x, .int .i64 lv, .string ⟨y.toArray⟩, .string ⟨z.toArray⟩, .int .i64 c] 49)) [.int .i64 x] 3)
      go_wp2_with (at_builtin; refine wpList_append_own_wide _ rfl (.tmp 16) (.tmp 19) 23 rfl w.heap.size 3 i0 (.int .i64 0) 1 8 Try.underlying23 hi hz0 hz1 hz2 rfl (by decide) _ (len2 + k) _ rfl ((hI.out.1.alloc _).alloc _) ⟨wr.heap.size + 1, 0, none⟩ 1 1 [intC x] rfl rfl ?d1 ?d2 ?d3 ?d4 ?d5 ?_)
      case d1 =>
        intro q u hq
        rw [add0]
        have := hNb.out.cell q u hq
        rwa [show (wr.alloc (.cells #[.int .i64 x, .int .i64 lv, .string ⟨y.toArray⟩, .string ⟨z.toArray⟩, .int .i64 c] 49)).heap.size = wr.heap.size + 1 from Array.size_push _] at this
      case d2 => intro u hu; rw [List.mem_singleton] at hu; subst hu; rfl
      case d3 => unfold maxLen; omega
      case d4 => omega
      case d5 => have := hI.out.2.size; simp; omega
      intro v2 wB hown hgr _
      have hkB : Kept (fun k => u3.ownBlock = some k) wr wB := kept_grown (((Kept.refl _ wr).alloc _).alloc _) hgr (fun b hb => .inl hb)
      have HN : Hid (wB.ownsRow w.heap.size 3 1 v2 (len2 + (k + 1)) (uptoC T l (k + 1)) ∧ Kept (fun _ => False) w wB) :=
        Lib.hid ⟨by rw [hst.out]; exact hown, hI.out.2.trans hkB (fun q hq => .inr (hI.out.1.lt q hq).1)⟩
      clear hown hgr hkB hI hst hNb
      go_wp2
      go_roundw
      case rel => exact ⟨k + 1, by first | rfl | go_num, by omega, HN⟩
      case measure => simp [intOf]; omega
    · have kN : ¬(k : Int) < (len : Int) := by omega
      have hke : k = len := by omega
      subst hke
      have hsz := hI.out.2.size
      have HS : Hid (∀ M : List Int, M = l ++ T.map (·.1) → M.length = len2 + k ∧ Calls Try.prog 50 #[u3] wr fun e w' => e = .returned (.tuple #[]) ∧ ∃ ad cap L, u3 = .slice ad (len2 + k) cap ∧ Ints w' ad (len2 + k) L ∧ L.Perm M ∧ L.Pairwise (· ≤ ·) ∧ Below w.heap.size wr w') := Lib.hid (fun M hM => by
        have hl : M.length = len2 + k := by rw [hM, List.length_append, List.length_map, HL.out, HT.out]
        refine ⟨hl, sortIntsN w.heap.size u3 M (len2 + k) hl wr ?_ (by omega)⟩
        rw [hM, ← uptoC_all T l k (by rw [HT.out]; exact Nat.le_refl _)]
        exact hI.out.1)
      have HS2 := Lib.hid (HS.out M hM.out).2
      clear HS
      go_wp2_with fail
      refine HS2.out.mono ?_
      clear HS2
      rintro e w2 ⟨rfl, ad', cap', L, rfl, hL, hp, hs, hb⟩
      have HE := Lib.hid (And.intro hL (And.intro hp (And.intro hs (hI.out.2.trans (⟨hb.os, hb.tape, hb.output, hb.size, fun q _ hx => hb.block q (by omega)⟩ : Kept (fun n => w.heap.size ≤ n) wr w2) (fun n hn => .inr hn)))))
      clear hL hp hs hb hI
      go_wp2
      go_ret
      exact ⟨ad', cap', L, rfl, HE.out⟩

theorem metas_keptX {w w' : World} {ad : Option Addr} {len : Nat} {T : List MetaV} {X : Nat → Prop} (h : MetasW w ad len T) (hk : Kept X w w') (hx : ∀ b off sp, ad = some ⟨b, off, sp⟩ → ¬X b) : MetasW w' ad len T := by
  refine ⟨h.1, h.2.imp_right ?_⟩
  rintro ⟨b, off, h1, h2, h3⟩
  exact ⟨b, off, h1, Nat.lt_of_lt_of_le h2 hk.size, fun i hi => ⟨fun j v hv => (hk.cell (p := ⟨b, off + i * 5 + j, none⟩) h2 (hx b off none h1)).trans ((h3 i hi).row j v hv), (h3 i hi).fit⟩⟩
theorem own_off {w : World} {B sz n : Nat} {e : TypeId} {ad : Option Addr} {len cap : Nat} {X : List Value} (h : w.ownsRow B e sz (.slice ad len cap) n X) : ∀ b off sp, ad = some ⟨b, off, sp⟩ → B ≤ b := fun b off sp hb => by
  subst hb
  exact (h.lt b rfl).1

end Go.Proofs.Ytgcepbpdicadnaa

/- The program of layer 14, as layer 16 asks it: Level; the list lies in a row of its own. -/
namespace Go.Proofs.Ytgcepbpdicadnaa
open Go.RowKit Go.Proofs Go.Proofs.Pk
set_option maxRecDepth 10000

set_option maxHeartbeats 4000000 in
theorem level16o (ad : Option Addr) (len cap : Nat) (ad2 : Option Addr) (len2 cap2 : Nat) (v : VerV) (q : Int) (w : World) (h : VerW w ad len cap ad2 len2 cap2 v) :
    Calls Try.prog 21 #[verC ad len cap ad2 len2 cap2 v.2.2, .int .i64 q] w fun r w' => ∃ ad m cap, r = .returned (.slice ad m cap) ∧ m = (levelV v q).length ∧ m ≤ len ∧ w'.ownsRow w.heap.size 49 5 (.slice ad m cap) m ((levelV v q).flatMap metaC) ∧ Kept (fun _ => False) w w' := by
  show Calls Try.prog 21 #[.agg #[.slice ad len cap, .slice ad2 len2 cap2, .int .i64 v.2.2], .int .i64 q] w _
  obtain ⟨i0, hi, hz0, hz1, hz2⟩ := parts_of meta_info
  have hX := h.x
  obtain ⟨T, l, s⟩ := v
  simp only at hX ⊢
  have HW := Lib.hid hX.tabs
  have HF := Lib.hid hX.fitT
  have HT : Hid (T.length = len) := Lib.hid hX.tabs.1
  have hbT := h.2.1.2.2.1
  obtain ⟨R, hR⟩ : ∃ R, Hid (R = levelV (T, l, s) q) := ⟨_, Lib.hid rfl⟩
  rw [← hR.out]
  clear h hX
  go_enter Try.func21, Try.ntmps21
  go_wp2
  go_loopw [5, 11] (fun v i wr => ∃ (k : Nat) (L : List MetaV) (m : Nat), i = .int .i64 (k : Int) ∧ k ≤ len ∧ Hid (L = (T.take k).filter (fun x => decide (x.2.1 = q)) ∧ m = L.length ∧ wr.ownsRow w.heap.size 49 5 v m (L.flatMap metaC) ∧ Kept (fun _ => False) w wr)) (fun _ i _ => len - (intOf i).toNat)
  case atStart => exact ⟨0, [], 0, rfl, Nat.zero_le _, Lib.hid ⟨by simp, rfl, World.ownsRow_nil _ _ _ _, (Kept.refl _ _).alloc _⟩⟩
  case round =>
    obtain ⟨n, L, m, rfl, hn, hI⟩ := hrel
    have n0 : (0 : Int) ≤ (n : Int) := by omega
    have hwn : IntKind.i64.wrap ((n : Int) + 1) = (n : Int) + 1 := IntWalk.i64_in _ (by omega)
    by_cases hlt3 : n < len
    · have nN : (n : Int) < (len : Int) := by omega
      have hnl : n < T.length := by rw [HT.out]; exact hlt3
      obtain ⟨b, off, rfl, hbl, c0, c1, c2, c3, c4, _⟩ := MetasW.at (metas_kept HW.out hI.out.2.2.2) n hnl
      have HQ : Hid ((T.take (n + 1)).filter (fun x => decide (x.2.1 = q)) = L ++ if T[n].2.1 = q then [T[n]] else []) := Lib.hid (by
        rw [List.take_succ_eq_append_getElem hnl, List.filter_append, ← hI.out.1]
        congr 1
        by_cases hc : T[n].2.1 = q <;> simp [hc])
      have hml : Hid (m ≤ n) := Lib.hid (by
        rw [hI.out.2.1, hI.out.1]
        exact Nat.le_trans (List.length_filter_le _ _) (by rw [List.length_take]; omega))
      generalize T[n] = mm at c0 c1 c2 c3 c4 HQ
      obtain ⟨x, lv, y, z, c⟩ := mm
      simp only at c0 c1 c2 c3 c4 HQ
      by_cases hm : lv = q
      · have hmd : (lv == q) = true := by simpa using hm
        have HT2 : Hid ((T.take (n + 1)).filter (fun x => decide (x.2.1 = q)) = L ++ [(x, lv, y, z, c)]) := Lib.hid (by rw [HQ.out, if_pos hm])
        clear HQ hm
        have hNb := Lib.hid (Holds.new (wr.alloc (.cells (metaC (x, lv, y, z, c)).toArray 49)) (metaC (x, lv, y, z, c)) 49)
        go_wp2_with (at_builtin; refine wpList_append_own _ rfl (.tmp 19) (.tmp 21) 22 rfl w.heap.size 49 i0 _ 5 56 Try.underlying22 hi hz0 hz1 hz2 rfl (by decide) _ m _ rfl ((hI.out.2.2.1.alloc _).alloc _) ⟨wr.heap.size + 1, 0, none⟩ 1 1 (metaC (x, lv, y, z, c)) rfl rfl ?d1 ?d2 ?d3 ?d4 ?d5 ?_)
        case d1 =>
          intro q u hq
          rw [add0]
          have := hNb.out.cell q u hq
          rwa [show (wr.alloc (.cells (metaC (x, lv, y, z, c)).toArray 49)).heap.size = wr.heap.size + 1 from Array.size_push _] at this
        case d2 => exact meta_one _
        case d3 => have := hml.out; unfold maxLen; omega
        case d4 => have := hml.out; omega
        case d5 => have := hI.out.2.2.2.size; simp; omega
        intro v2 wB hown hgr _
        have hkB : Kept (fun k => u5.ownBlock = some k) wr wB := kept_grown (((Kept.refl _ wr).alloc _).alloc _) hgr (fun b hb => .inl hb)
        have HN : Hid (L ++ [(x, lv, y, z, c)] = (T.take (n + 1)).filter (fun x => decide (x.2.1 = q)) ∧ m + 1 = (L ++ [(x, lv, y, z, c)]).length ∧ wB.ownsRow w.heap.size 49 5 v2 (m + 1) ((L ++ [(x, lv, y, z, c)]).flatMap metaC) ∧ Kept (fun _ => False) w wB) :=
          Lib.hid ⟨HT2.out.symm, by rw [List.length_append, ← hI.out.2.1]; rfl, by rw [List.flatMap_append]; simpa using hown, hI.out.2.2.2.trans hkB (fun q hq => .inr (hI.out.2.2.1.lt q hq).1)⟩
        clear hown hgr hkB hI HT2 hNb hml
        go_wp2
        go_roundw
        case rel => exact ⟨n + 1, L ++ [(x, lv, y, z, c)], m + 1, by first | rfl | go_num, by omega, HN⟩
        case measure => simp [intOf]; omega
      · have hmd : (lv == q) = false := by simpa using hm
        have HN : ∀ o, Hid (L = (T.take (n + 1)).filter (fun x => decide (x.2.1 = q)) ∧ m = L.length ∧ (wr.alloc o).ownsRow w.heap.size 49 5 u5 m (L.flatMap metaC) ∧ Kept (fun _ => False) w (wr.alloc o)) := fun o =>
          Lib.hid ⟨by rw [HQ.out, if_neg hm, List.append_nil], hI.out.2.1, hI.out.2.2.1.alloc _, hI.out.2.2.2.alloc _⟩
        go_wp2
        go_roundw
        case rel => exact ⟨n + 1, L, m, by first | rfl | go_num, by omega, HN _⟩
        case measure => simp [intOf]; omega
    · have nN : ¬(n : Int) < (len : Int) := by omega
      have HE : Hid (∃ ad m cap, u5 = .slice ad m cap ∧ m = R.length ∧ m ≤ len ∧ wr.ownsRow w.heap.size 49 5 (.slice ad m cap) m (R.flatMap metaC) ∧ Kept (fun _ => False) w wr) := Lib.hid (by
        have hL : L = R := by rw [hR.out, hI.out.1, List.take_of_length_le (by rw [HT.out]; omega)]; rfl
        obtain ⟨ad, cap, h1, h2, _⟩ := owns_metas hI.out.2.2.1 hI.out.2.1.symm (fun x hx => by
          rw [hI.out.1] at hx
          exact HF.out x (List.mem_of_mem_take (List.mem_filter.1 hx).1))
        refine ⟨ad, m, cap, h1, hL ▸ hI.out.2.1, ?_, ?_, hI.out.2.2.2⟩
        · rw [hI.out.2.1, hI.out.1]
          exact Nat.le_trans (List.length_filter_le _ _) (by rw [List.length_take]; omega)
        · have := hI.out.2.2.1
          rw [h1, hL] at this
          exact this)
      clear hI
      go_wp2
      go_ret
      obtain ⟨ad, m, cap, h1, h2⟩ := HE.out
      exact ⟨ad, m, cap, by show Ending.returned u5 = _; rw [h1], h2⟩

end Go.Proofs.Ytgcepbpdicadnaa
