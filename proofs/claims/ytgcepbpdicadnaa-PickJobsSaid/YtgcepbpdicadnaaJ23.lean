/- Nq16, PqM, Rpa16. -/
import Derived.Test.YtgcepbpdicadnaaJ08
import Derived.BigQuiet
import Derived.Deep.Cut
import Derived.Test.YtgcepbpdicadnaaJ15
import Derived.Test.YtgcepbpdicadnaaJ21
import Derived.Test.YtgcepbpdicadnaaRri16
import Derived.Test.YtgcepbpdicadnaaJ16
import Derived.Test.YtgcepbpdicadnaaJ11
import Derived.Test.YtgcepbpdicadnaaJ12

/- Layer 16: the law's own comparison of numbers; the reference's limit. -/
namespace Go.Proofs.Ytgcepbpdicadnaa
open Go.RowKit Go.Proofs Go.Proofs.Pk
set_option maxRecDepth 10000
attribute [local simp] mk_get wrap64_u8 mk_extract ByteArray.mk_append_mk get_1k

set_option maxHeartbeats 2000000 in
theorem numbers16 (w : World) (ad ae : Option Addr) (len ca cb : Nat) (T : List Int) (h1 : Ints w ad len T) (h2 : Ints w ae len T) (hl : (len : Int) ≤ 140737488351232) :
    Calls Try.prog 11 #[.slice ad len ca, .slice ae len cb] w fun r w' => r = .returned (.bool true) ∧ Kept (fun _ => False) w w' := by
  have H := Lib.hid (And.intro h1 h2)
  have hlen := h1.1
  clear h1 h2
  go_enter Try.func11, Try.ntmps11
  go_wp2
  obtain ⟨wq, hwq⟩ : ∃ wq, wq = w := ⟨_, rfl⟩
  have HK : Hid (Kept (fun _ => False) w wq) := by rw [hwq]; exact Kept.refl _ _
  rw [← hwq]
  clear hwq
  go_loopw [5] (fun i wr => ∃ j : Nat, j ≤ len ∧ i = .int .i64 (j : Int) ∧ Hid (Kept (fun _ => False) w wr)) (fun i _ => len - (intOf i).toNat)
  case atStart => exact ⟨0, Nat.zero_le _, rfl, HK⟩
  case round =>
    obtain ⟨j, hj, rfl, hK⟩ := hrel
    clear HK
    have j0 : (0 : Int) ≤ (j : Int) := by omega
    have hwj : IntKind.i64.wrap ((j : Int) + 1) = (j : Int) + 1 := IntWalk.i64_in _ (by omega)
    by_cases hlt : j < len
    · have hjT : j < T.length := by omega
      obtain ⟨g, og, rfl, hg, d0⟩ := ints_at (ints_keptV H.out.1 hK.out) j hjT
      obtain ⟨g2, og2, rfl, hg2, e0⟩ := ints_at (ints_keptV H.out.2 hK.out) j hjT
      have jN : (j : Int) < (len : Int) := by omega
      generalize T[j] = x at d0 e0
      clear hjT
      go_wp2
      go_quiet (fail)
      go_wp2
      go_roundw
      case rel => exact ⟨j + 1, hlt, by first | rfl | go_num, hK.out.drewN _⟩
      case measure => simp [intOf]; omega
    · obtain rfl : j = len := by omega
      have jN : ¬(j : Int) < (j : Int) := by omega
      go_wp2
      go_ret
      exact ⟨rfl, hK.out⟩

theorem rLim16 (n : Int) (w : World) : Calls Try.prog 13 #[.int .i64 n] w fun e w' => e = .returned (.int .i64 (limM n)) ∧ Kept (fun _ => False) w w' := by
  obtain ⟨r, hr⟩ : ∃ r, Hid (r = limM n) := ⟨_, rfl⟩
  rw [← hr.out]
  go_enter Try.func13, Try.ntmps13
  by_cases h1 : n = 1
  · subst h1
    obtain rfl : r = 4000 := hr.out
    go_wp2
    go_ret
    exact ⟨rfl, Kept.refl _ _⟩
  have f1 : (n == 1) = false := by simpa using h1
  by_cases h2 : n = 2
  · subst h2
    obtain rfl : r = 16000 := hr.out
    go_wp2
    go_ret
    exact ⟨rfl, Kept.refl _ _⟩
  have f2 : (n == 2) = false := by simpa using h2
  obtain rfl : r = 0 := by rw [hr.out]; unfold limM; rw [if_neg h1, if_neg h2]
  clear h1 h2
  go_wp2
  go_ret
  exact ⟨rfl, Kept.refl _ _⟩

end Go.Proofs.Ytgcepbpdicadnaa

/- Mathematics of layer 16: what is picked, level by level. No program. -/
namespace Go.Proofs.Pk
set_option maxRecDepth 10000

/-- What was chosen once the levels below k have been looked at. -/
def ChoseP (v : VerV) (k : Nat) (lv : Int) (I : List MetaV) : Prop :=
  lv = -1 ∧ (levelV v 0).length < 3 ∧ (1 < k → sizeT (levelV v 1) ≤ 4000) ∧ (2 < k → sizeT (levelV v 2) ≤ 16000) ∨ chooseM v = some (lv, I) ∧ (lv = 0 ∨ lv = 1 ∨ lv = 2)
theorem chose_start (v : VerV) : ChoseP v 1 (if 3 ≤ (levelV v 0).length then 0 else -1) (levelV v 0) := by
  by_cases h : 3 ≤ (levelV v 0).length
  · rw [if_pos h]; exact .inr ⟨by unfold chooseM; rw [if_pos h], .inl rfl⟩
  · rw [if_neg h]; exact .inl ⟨rfl, by omega, fun h => by omega, fun h => by omega⟩
theorem chose_no {v : VerV} {k : Nat} {I J : List MetaV} (h : ChoseP v k (-1) I) (hk : k = 1 ∨ k = 2) (hs : ¬limM (k : Int) < sizeT (levelV v (k : Int))) : ChoseP v (k + 1) (-1) J := by
  rcases h with ⟨_, h1, h2, h3⟩ | ⟨_, h⟩
  · rcases hk with rfl | rfl
    · refine .inl ⟨rfl, h1, fun _ => ?_, fun h => by omega⟩
      have : ¬(4000 : Int) < sizeT (levelV v 1) := hs
      omega
    · refine .inl ⟨rfl, h1, fun _ => h2 (by omega), fun _ => ?_⟩
      have : ¬(16000 : Int) < sizeT (levelV v 2) := hs
      omega
  · omega
theorem chose_yes {v : VerV} {k : Nat} {I : List MetaV} (h : ChoseP v k (-1) I) (hk : k = 1 ∨ k = 2) (hs : limM (k : Int) < sizeT (levelV v (k : Int))) : ChoseP v (k + 1) (k : Int) ((levelV v (k : Int)).take 1) := by
  rcases h with ⟨_, h1, h2, h3⟩ | ⟨_, h⟩
  · rcases hk with rfl | rfl
    · have hs : (4000 : Int) < sizeT (levelV v 1) := hs
      exact .inr ⟨by unfold chooseM; rw [if_neg (by omega), if_pos hs]; rfl, .inr (.inl rfl)⟩
    · have hs : (16000 : Int) < sizeT (levelV v 2) := hs
      have := h2 (by omega)
      exact .inr ⟨by unfold chooseM; rw [if_neg (by omega), if_neg (by omega), if_pos hs]; rfl, .inr (.inr rfl)⟩
  · omega
theorem chose_none {v : VerV} {I : List MetaV} (h : ChoseP v 3 (-1) I) : chooseM v = none := by
  rcases h with ⟨_, h1, h2, h3⟩ | ⟨_, h⟩
  · have := h2 (by omega)
    have := h3 (by omega)
    unfold chooseM
    rw [if_neg (by omega), if_neg (by omega), if_neg (by omega)]
  · omega
theorem chose_some {v : VerV} {k : Nat} {lv : Int} {I : List MetaV} (h : ChoseP v k lv I) (hl : 0 ≤ lv) : chooseM v = some (lv, I) ∧ (lv = 0 ∨ lv = 1 ∨ lv = 2) := by
  rcases h with ⟨h, _⟩ | h
  · omega
  · exact h
/-- One that was chosen stays. -/
theorem chose_stays {v : VerV} {k k' : Nat} {lv : Int} {I : List MetaV} (h : ChoseP v k lv I) (hl : 0 ≤ lv) : ChoseP v k' lv I := .inr (chose_some h hl)
theorem size_ne {l : List MetaV} {x : Int} (hx : 0 ≤ x) (h : x < sizeT l) : 0 < l.length := by
  cases l with
  | nil => simp [sizeT] at h; omega
  | cons a r => simp

/-- Does a table of the levels from n + 2 up to, not with, k meet some? -/
def overB (v : VerV) (n : Int) (A : List MetaV) (k : Int) : Bool := v.1.any fun m => (decide (n + 2 ≤ m.2.1) && decide (m.2.1 < k)) && meetsM m A
theorem over_first (v : VerV) (n : Int) (A : List MetaV) : overB v n A (n + 2) = false := by
  unfold overB
  rw [List.any_eq_false]
  intro m _
  simp only [Bool.and_eq_true, decide_eq_true_eq, not_and]
  intro h; omega
theorem over_next (v : VerV) (n : Int) (A : List MetaV) (k : Int) (hk : n + 2 ≤ k) : overB v n A (k + 1) = (overB v n A k || (levelV v k).any fun m => meetsM m A) := by
  unfold overB levelV
  rw [Bool.eq_iff_iff]
  simp only [Bool.or_eq_true, List.any_eq_true, Bool.and_eq_true, decide_eq_true_eq, List.mem_filter]
  constructor
  · rintro ⟨m, hm, ⟨h1, h2⟩, h3⟩
    by_cases h : m.2.1 = k
    · exact .inr ⟨m, ⟨hm, h⟩, h3⟩
    · exact .inl ⟨m, hm, ⟨h1, by omega⟩, h3⟩
  · rintro (⟨m, hm, ⟨h1, h2⟩, h3⟩ | ⟨m, ⟨hm, h⟩, h3⟩)
    · exact ⟨m, hm, ⟨h1, by omega⟩, h3⟩
    · exact ⟨m, hm, ⟨by omega, by omega⟩, h3⟩
theorem over_all {v : VerV} (h : rightV v = true) (n : Int) (A : List MetaV) : overB v n A 4 = v.1.any fun m => decide (n + 2 ≤ m.2.1) && meetsM m A := by
  unfold overB
  rw [Bool.eq_iff_iff]
  simp only [List.any_eq_true, Bool.and_eq_true, decide_eq_true_eq]
  constructor
  · rintro ⟨m, hm, ⟨h1, h2⟩, h3⟩; exact ⟨m, hm, h1, h3⟩
  · rintro ⟨m, hm, h1, h3⟩
    have := meta_of ((right_ofV h).2.2.1 m hm)
    exact ⟨m, hm, ⟨h1, by omega⟩, h3⟩
theorem any_take {α : Type} (p : α → Bool) {l : List α} {i : Nat} (hi : i < l.length) : (l.take (i + 1)).any p = ((l.take i).any p || p l[i]) := by
  rw [List.take_succ_eq_append_getElem hi, List.any_append]; simp
theorem filter_take {α : Type} (p : α → Bool) {l : List α} {i : Nat} (hi : i < l.length) : (l.take (i + 1)).filter p = if p l[i] = true then (l.take i).filter p ++ [l[i]] else (l.take i).filter p := by
  rw [List.take_succ_eq_append_getElem hi, List.filter_append]
  by_cases h : p l[i] = true
  · rw [if_pos h]; simp [h]
  · rw [if_neg h]; simp [h]
theorem pick_some {v : VerV} {n : Int} {I : List MetaV} (h : rightV v = true) (hc : chooseM v = some (n, I)) : pickM v = some (jobM v n I) := by
  unfold pickM; rw [if_pos h, hc]
theorem pick_no {v : VerV} (hc : chooseM v = none) : pickM v = none := by
  unfold pickM; rw [hc]; split <;> rfl
theorem pick_wrong {v : VerV} (h : rightV v = false) : pickM v = none := by
  unfold pickM; rw [h]; rfl
end Go.Proofs.Pk

/- The reference of layer 16: what Pick holds in memory on its way. -/
namespace Go.Proofs.Ytgcepbpdicadnaa
open Go.RowKit Go.Proofs Go.Proofs.Pk
set_option maxRecDepth 10000

theorem metas_keptR {w w' : World} {ad : Option Addr} {len : Nat} {T : List MetaV} {X : Nat → Prop} (h : MetasW w ad len T) (hk : Kept X w w') (hx : ∀ b off sp, ad = some ⟨b, off, sp⟩ → ¬X b) : MetasW w' ad len T := by
  refine ⟨h.1, h.2.imp_right ?_⟩
  rintro ⟨b, off, h1, h2, h3⟩
  exact ⟨b, off, h1, Nat.lt_of_lt_of_le h2 hk.size, fun i hi => ⟨fun j v hv => (hk.cell (p := ⟨b, off + i * 5 + j, none⟩) h2 (hx b off none h1)).trans ((h3 i hi).row j v hv), (h3 i hi).fit⟩⟩
theorem metas_blk {w w' : World} {b off n : Nat} {T : List MetaV} (h : MetasW w (some ⟨b, off, none⟩) n T) (hb : b < w.heap.size) (hs : w.heap.size ≤ w'.heap.size) (hh : w'.heap[b]? = w.heap[b]?) : MetasW w' (some ⟨b, off, none⟩) n T := by
  refine ⟨h.1, h.2.imp_right ?_⟩
  rintro ⟨b', off', h1, h2, h3⟩
  cases h1
  refine ⟨b, off, rfl, Nat.lt_of_lt_of_le hb hs, fun i hi => ⟨fun j v hv => ?_, (h3 i hi).fit⟩⟩
  have h4 := (h3 i hi).row j v hv
  unfold World.cell? at h4 ⊢
  simp only [hh]
  exact h4
theorem holds_ne {w : World} {g k : Nat} {C D : List Value} {e e' : TypeId} (h : Holds w g C e) (h' : Holds w k D e') (hne : e ≠ e') : g ≠ k := by
  intro e1
  subst e1
  have h2 : w.heap[g]? = some (.cells C.toArray e) := h
  have h3 : w.heap[g]? = some (.cells D.toArray e') := h'
  rw [h2] at h3
  injection h3 with h3
  injection h3 with _ h4
  exact hne h4
/-- The version's box and the result's. -/
structure PB (w W : World) (g r : Nat) (ad : Option Addr) (len cap : Nat) (ad2 : Option Addr) (len2 cap2 : Nat) (v : VerV) : Prop where
  vb : VBox w W g ad len cap ad2 len2 cap2 v
  res : Holds W r [.int .i64 0, .slice none 0 0, .slice none 0 0, .bool false] 28
  far : w.heap.size ≤ r
theorem PB.keptX {w W W' : World} {g r : Nat} {ad : Option Addr} {len cap : Nat} {ad2 : Option Addr} {len2 cap2 : Nat} {v : VerV} {X : Nat → Prop} (h0 : VerW w ad len cap ad2 len2 cap2 v) (h : PB w W g r ad len cap ad2 len2 cap2 v) (hk : Kept X W W') (hg : ¬X g) (hr : ¬X r) (hx : ∀ z, X z → w.heap.size ≤ z) : PB w W' g r ad len cap ad2 len2 cap2 v := by
  have k := h.vb.kept.trans hk (fun z f => .inr (hx z f))
  exact ⟨⟨k, h.vb.box.of_block (hk.block g h.vb.box.lt hg), h0.kept k⟩, h.res.of_block (hk.block r h.res.lt hr), h.far⟩
theorem PB.quiet {w W W' : World} {g r : Nat} {ad : Option Addr} {len cap : Nat} {ad2 : Option Addr} {len2 cap2 : Nat} {v : VerV} (h : PB w W g r ad len cap ad2 len2 cap2 v) (k : Kept (fun _ => False) W W') : PB w W' g r ad len cap ad2 len2 cap2 v :=
  ⟨h.vb.quiet k, h.res.of_block (k.block r h.res.lt (fun f => f)), h.far⟩
theorem PB.new {w : World} {ad : Option Addr} {len cap : Nat} {ad2 : Option Addr} {len2 cap2 : Nat} {v : VerV} (h : VerW w ad len cap ad2 len2 cap2 v) :
    PB w ((w.alloc (.cells #[.slice ad len cap, .slice ad2 len2 cap2, .int .i64 v.2.2] 25)).alloc (.cells #[.int .i64 0, .slice none 0 0, .slice none 0 0, .bool false] 28)) w.heap.size (w.heap.size + 1) ad len cap ad2 len2 cap2 v := by
  have h1 := VBox.new (Kept.refl _ w) h
  have e1 : (w.alloc (.cells #[.slice ad len cap, .slice ad2 len2 cap2, .int .i64 v.2.2] 25)).heap.size = w.heap.size + 1 := Array.size_push _
  generalize w.alloc (.cells #[.slice ad len cap, .slice ad2 len2 cap2, .int .i64 v.2.2] 25) = w1 at h1 e1 ⊢
  have h2 := Holds.new w1 [.int .i64 0, .slice none 0 0, .slice none 0 0, .bool false] 28
  rw [e1] at h2
  exact ⟨h1.quiet ((Kept.refl _ w1).alloc _), h2, Nat.le_succ _⟩

set_option maxHeartbeats 2000000 in
/-- Pick returns what its result's box holds, and slot 3. -/
theorem pk_door {R : Ending → World → Prop} {W : World} {r : Nat} {n : Int} {ia : Option Addr} {il ic : Nat} {ua : Option Addr} {ul uc : Nat} {b : Bool} {bv : Value} (l : List Value) (hP : Holds W r [.int .i64 n, .slice ia il ic, .slice ua ul uc, .bool b] 28)
    (h2 : l[2]? = some (.pointer (some ⟨r, 0, none⟩))) (h3 : l[3]? = some bv) (hR : R (.returned (.tuple #[jobC n ia il ic ua ul uc b, bv])) W) : bodyPost Try.prog Try.f10 R Exit.ret { tmps := l.toArray, defers := [] } W := by
  have d0 := Holds.cell hP 0 _ rfl
  have d1 := Holds.cell hP 1 _ rfl
  have d2 := Holds.cell hP 2 _ rfl
  have d3 := Holds.cell hP 3 _ rfl
  refine bodyPost_ret (v := .tuple #[jobC n ia il ic ua ul uc b, bv]) ?_ rfl hR
  rw [results_cell_tmp rfl]
  have e2 : l.toArray.getD 2 undef = .pointer (some ⟨r, 0, none⟩) := by simp [Array.getD_eq_getD_getElem?, h2]
  have e3 : l.toArray.getD 3 undef = bv := by simp [Array.getD_eq_getD_getElem?, h3]
  show ((asAddr (l.toArray.getD 2 undef)).run _ _).andThen _ = _
  rw [e2, e3]
  go_simp
  rfl
/-- What the reference's Pick answers. -/
def RjE (w : World) (o : Option JobV) (e : Ending) (w' : World) : Prop :=
  ∃ ia il ic ua ul uc, e = .returned (.tuple #[jobC (o.getD zeroJ).1 ia il ic ua ul uc (o.getD zeroJ).2.2.2, .bool o.isSome]) ∧ Ints w' ia il (o.getD zeroJ).2.1 ∧ Ints w' ua ul (o.getD zeroJ).2.2.1 ∧ Kept (fun _ => False) w w'
theorem rj_none {w W : World} {l : List Value} {g r : Nat} {ad : Option Addr} {len cap : Nat} {ad2 : Option Addr} {len2 cap2 : Nat} {v : VerV} {o : Option JobV} (ho : o = none) (h : PB w W g r ad len cap ad2 len2 cap2 v)
    (h2 : l[2]? = some (.pointer (some ⟨r, 0, none⟩))) (h3 : l[3]? = some (.bool false)) :
    bodyPost Try.prog Try.f10 (RjE w o) Exit.ret { tmps := l.toArray, defers := [] } ((((W.setCell ⟨r, 0, none⟩ (.int .i64 0)).setCell ⟨r, 1, none⟩ (.slice none 0 0)).setCell ⟨r, 2, none⟩ (.slice none 0 0)).setCell ⟨r, 3, none⟩ (.bool false)) := by
  subst ho
  have hk : Kept (fun _ => False) w ((((W.setCell ⟨r, 0, none⟩ (.int .i64 0)).setCell ⟨r, 1, none⟩ (.slice none 0 0)).setCell ⟨r, 2, none⟩ (.slice none 0 0)).setCell ⟨r, 3, none⟩ (.bool false)) :=
    (((h.vb.kept.setNew (p := ⟨r, 0, none⟩) h.far _).setNew (p := ⟨r, 1, none⟩) h.far _).setNew (p := ⟨r, 2, none⟩) h.far _).setNew (p := ⟨r, 3, none⟩) h.far _
  exact pk_door l ((((Holds.set h.res 0 (.int .i64 0)).set 1 (.slice none 0 0)).set 2 (.slice none 0 0)).set 3 (.bool false)) h2 h3 ⟨none, 0, 0, none, 0, 0, rfl, (ints_none _).1, (ints_none _).1, hk⟩
/-- What stands when Pick returns a job. -/
structure RjR (w W : World) (r q : Nat) (l : Int) (ia : Option Addr) (il ic : Nat) (ua : Option Addr) (ul uc : Nat) (b : Bool) (I U : List Int) : Prop where
  kept : Kept (fun _ => False) w W
  res : Holds W r [.int .i64 0, .slice none 0 0, .slice none 0 0, .bool false] 28
  far : w.heap.size ≤ r
  i : Ints W ia il I
  u : Ints W ua ul U
  io : ∀ b off, ia = some ⟨b, off, none⟩ → q + 1 ≤ b
  uo : ∀ b off, ua = some ⟨b, off, none⟩ → q + 1 ≤ b
  rq : r < q
theorem RjR.done {w W : World} {t : List Value} {r q : Nat} {l : Int} {ia : Option Addr} {il ic : Nat} {ua : Option Addr} {ul uc : Nat} {b : Bool} {I U : List Int} {o : Option JobV} (h : RjR w W r q l ia il ic ua ul uc b I U) (ho : o = some (l, I, U, b))
    (h2 : t[2]? = some (.pointer (some ⟨r, 0, none⟩))) (h3 : t[3]? = some (.bool true)) :
    bodyPost Try.prog Try.f10 (RjE w o) Exit.ret { tmps := t.toArray, defers := [] } ((((W.setCell ⟨r, 0, none⟩ (.int .i64 l)).setCell ⟨r, 1, none⟩ (.slice ia il ic)).setCell ⟨r, 2, none⟩ (.slice ua ul uc)).setCell ⟨r, 3, none⟩ (.bool b)) := by
  subst ho
  have hk : Kept (fun z => z = r) W ((((W.setCell ⟨r, 0, none⟩ (.int .i64 l)).setCell ⟨r, 1, none⟩ (.slice ia il ic)).setCell ⟨r, 2, none⟩ (.slice ua ul uc)).setCell ⟨r, 3, none⟩ (.bool b)) :=
    ((((Kept.refl (fun z => z = r) W).setCell (p := ⟨r, 0, none⟩) rfl _).setCell (p := ⟨r, 1, none⟩) rfl _).setCell (p := ⟨r, 2, none⟩) rfl _).setCell (p := ⟨r, 3, none⟩) rfl _
  have hf := h.far
  have hr := h.rq
  exact pk_door t ((((Holds.set h.res 0 (.int .i64 l)).set 1 (.slice ia il ic)).set 2 (.slice ua ul uc)).set 3 (.bool b)) h2 h3
    ⟨ia, il, ic, ua, ul, uc, rfl, h.i.kept hk (.inr fun b off hb => by have := h.io b off hb; omega), h.u.kept hk (.inr fun b off hb => by have := h.uo b off hb; omega), h.kept.trans hk (fun z hz => .inr (by omega))⟩

end Go.Proofs.Ytgcepbpdicadnaa
