/- The reference of layer 9: Put. -/
import Derived.Test.YtiglkadejbjdcaaRSk
import Derived.Laws.AppendOwnNone
import Derived.Test.YtiglkadejbjdcaaMid
namespace Go.Proofs.Ytiglkadejbjdcaa
open Go.RowKit Go.Proofs Go.Proofs.Pk
set_option maxRecDepth 10000
attribute [local simp] mk_get wrap64_u8 mk_extract ByteArray.mk_append_mk get_1k

theorem info9O : (Try.prog.info? 56).map (fun i => (i.zero, i.size, i.bytes)) = some (some (.agg #[.string ⟨#[]⟩, .string ⟨#[]⟩, .int .i64 0]), 3, 40) := by kernel_rfl
theorem cellsE_set (E : List Ent) (i : Nat) (hi : i < E.length) (v : Txt) : (cellsE E).set (i * 3 + 1) (.string ⟨v.toArray⟩) = cellsE (setV E i v) := by
  have h1 : setV E i v = E.set i ((E[i]).1, v, (E[i]).2.2) := by unfold setV; rw [List.getElem?_eq_getElem hi]
  rw [h1]
  clear h1
  induction E generalizing i with
  | nil => simp at hi
  | cons e E ih =>
    show (entV e ++ cellsE E).set _ _ = _
    cases i with
    | zero => rfl
    | succ i =>
      have hi' : i < E.length := by simpa using hi
      rw [List.set_append_right _ _ (by show 3 ≤ _; omega)]
      show entV e ++ (cellsE E).set ((i + 1) * 3 + 1 - 3) _ = _
      rw [show (i + 1) * 3 + 1 - 3 = i * 3 + 1 from by omega, ih i hi']
      rfl
theorem cellsE_append (E F : List Ent) : cellsE (E ++ F) = cellsE E ++ cellsE F := by unfold cellsE; rw [List.flatMap_append]
theorem cellsE_take : ∀ (E : List Ent) (i : Nat), cellsE (E.take i) = (cellsE E).take (i * 3)
  | [], i => by simp [cellsE]
  | e :: E, 0 => by simp [cellsE]
  | e :: E, i + 1 => by
    rw [List.take_succ_cons]
    show entV e ++ cellsE (E.take i) = (entV e ++ cellsE E).take _
    rw [cellsE_take E i, show (i + 1) * 3 = 3 + i * 3 from by omega, show 3 + i * 3 = (entV e).length + i * 3 from rfl, List.take_append, List.take_of_length_le (Nat.le_add_right _ _), Nat.add_sub_cancel_left]
theorem cellsE_drop : ∀ (E : List Ent) (i : Nat), cellsE (E.drop i) = (cellsE E).drop (i * 3)
  | [], i => by simp [cellsE]
  | e :: E, 0 => by simp
  | e :: E, i + 1 => by
    rw [List.drop_succ_cons]
    show _ = (entV e ++ cellsE E).drop _
    rw [cellsE_drop E i, show (i + 1) * 3 = 3 + i * 3 from by omega, show 3 + i * 3 = (entV e).length + i * 3 from rfl, List.drop_append, List.drop_eq_nil_of_le (Nat.le_add_right _ _), List.nil_append, Nat.add_sub_cancel_left]
theorem entV_one (e : Ent) : ∀ u ∈ entV e, u.oneCell' = true := by
  intro u hu
  simp only [entV, List.mem_cons, List.not_mem_nil, or_false] at hu
  rcases hu with rfl | rfl | rfl <;> rfl
theorem cellsE_one (E : List Ent) : ∀ u ∈ cellsE E, u.oneCell' = true := by
  intro u hu
  obtain ⟨e, _, he⟩ := List.mem_flatMap.1 hu
  exact entV_one e u he

/-- What Put leaves. -/
def RfPut (w : World) (B q : Nat) (vL : Value) (E' : List Ent) (w' : World) : Prop :=
  ∃ vL', RfAt w' B q vL' E' ∧ (∀ b, vL'.ownBlock = some b → vL.ownBlock = some b ∨ w.heap.size ≤ b) ∧ Kept (fun k => k = q ∨ vL.ownBlock = some k) w w'

set_option maxHeartbeats 2000000 in
theorem rPut_has (w : World) (B q : Nat) (vL : Value) (E : List Ent) (k v : Txt) (ht : Int) (h : RfAt w B q vL E) (hl : E.length ≤ 1000) (hh : hasE E k = true) :
    Calls Try.prog 10 #[.pointer (some ⟨q, 0, none⟩), .string ⟨k.toArray⟩, .string ⟨v.toArray⟩, .int .i64 ht] w fun e w' => e = .returned (.bool false) ∧ RfPut w B q vL (setV E (atE E k) v) w' := by
  have hAt := rAt w B q vL E k h hl
  obtain ⟨hi, hik⟩ := has_lt hh
  rw [hh] at hAt
  obtain ⟨A, hA⟩ : ∃ A, A = atE E k := ⟨_, rfl⟩
  rw [← hA] at hAt hi ⊢
  have HAt := Lib.hid hAt
  have H := Lib.hid (And.intro h hi)
  clear h hAt hik hh hA hi hl
  go_enter Try.func10, Try.ntmps10
  go_wp2_with fail
  refine HAt.out.mono ?_
  clear HAt
  rintro e w1 ⟨rfl, hk1⟩
  have h1 := H.out.1.kept hk1 (fun _ _ hf => hf)
  have hAi := H.out.2
  obtain ⟨g, cap, rfl, d0, d1, d2⟩ := h1.cells A hAi
  have c0 := h1.obj.cell 0 _ rfl
  have f1 := h1.row.frozenAt (A * 3 + 1)
  obtain ⟨hs1, hs2⟩ := h1.row.stored (A * 3 + 1) (.string ⟨v.toArray⟩)
  rw [cellsE_set E A hAi v] at hs1
  have hgq : g ≠ q := fun e => h1.ne (by rw [e]; rfl)
  have HP : Hid (RfPut w B q (.slice (some ⟨g, 0, none⟩) E.length cap) (setV E A v) (w1.setCell ⟨g, A * 3 + 1, none⟩ (.string ⟨v.toArray⟩))) := by
    refine ⟨.slice (some ⟨g, 0, none⟩) E.length cap, ⟨h1.obj.ne (fun e => hgq e.symm) _ _, by rw [setV_length]; exact hs1, h1.base, h1.ne⟩, fun b hb => .inl hb, ?_⟩
    exact Kept.setCell (X := fun k => k = q ∨ (Value.slice (some ⟨g, 0, none⟩) E.length cap).ownBlock = some k) (p := ⟨g, A * 3 + 1, none⟩) (hk1.mono (fun _ hf => hf.elim)) (.inr rfl) _
  obtain ⟨N, hN⟩ : ∃ N, N = E.length := ⟨_, rfl⟩
  rw [← hN] at c0 hAi
  have j1 : (A : Int) < (N : Int) := by omega
  have j0 : (0 : Int) ≤ (A : Int) := by omega
  generalize (E[A]).2.1 = x at d1
  clear hk1 h1 hs1 hs2 hAi d0 d2 H hN
  go_wp2
  go_ret
  exact ⟨rfl, HP.out⟩

theorem owns_len9 {w : World} {B : Nat} {e : TypeId} {size n m : Nat} {v : Value} {xs ys : List Value} (h : w.ownsRow B e size v n xs) (hn : n = m) (hx : xs = ys) : w.ownsRow B e size v m ys := by subst hn hx; exact h
theorem own_any9 {w : World} {B n size : Nat} {e : TypeId} {v : Value} {xs : List Value} (h : w.ownsRow B e size v n xs) : ∃ ad m cap, v = .slice ad m cap := by
  rcases h.2 with ⟨rfl, rfl⟩ | ⟨g, cap, cur, rfl, _⟩
  · exact ⟨none, 0, 0, rfl⟩
  · exact ⟨_, n, cap, rfl⟩
theorem clamp_eq (h : Int) : min (max h 1) 12 = (clampH h : Int) := by unfold clampH; omega

set_option maxHeartbeats 4000000 in
theorem rPut_new (w : World) (B q : Nat) (vL : Value) (E : List Ent) (k v : Txt) (ht : Int) (h : RfAt w B q vL E) (hBw : B ≤ w.heap.size) (hl : E.length ≤ 1000) (hh : hasE E k = false) :
    Calls Try.prog 10 #[.pointer (some ⟨q, 0, none⟩), .string ⟨k.toArray⟩, .string ⟨v.toArray⟩, .int .i64 ht] w fun e w' => e = .returned (.bool true) ∧ RfPut w B q vL (E.take (atE E k) ++ (k, v, clampH ht) :: E.drop (atE E k)) w' := by
  obtain ⟨i0, hi0, hz0, hz1, hz2⟩ := info_parts info9O
  have hAt := rAt w B q vL E k h hl
  have hle := atE_le k E
  rw [hh] at hAt
  obtain ⟨A, hA⟩ : ∃ A, A = atE E k := ⟨_, rfl⟩
  rw [← hA] at hAt hle ⊢
  have HAt := Lib.hid hAt
  have H := Lib.hid (And.intro h (And.intro hle (And.intro hl hBw)))
  have hcl := clamp_eq ht
  have HC := clampH_in ht
  obtain ⟨z, hz⟩ : ∃ z, Hid (z = clampH ht) := ⟨_, rfl⟩
  rw [← hz.out] at hcl
  clear h hAt hh hA hle hl hBw HC
  go_enter Try.func10, Try.ntmps10
  go_wp2_with fail
  refine HAt.out.mono ?_
  clear HAt
  rintro e w1 ⟨rfl, hk1⟩
  have h1 := H.out.1.kept hk1 (fun _ _ hf => hf)
  have HK1 := Lib.hid hk1
  have H1 := Lib.hid h1
  obtain ⟨ad, cap, rfl, _⟩ := h1.form
  have c0 := h1.obj.cell 0 _ rfl
  have hcase : (ad = none ∧ cap = 0 ∧ E = []) ∨ ∃ g, ad = some ⟨g, 0, none⟩ ∧ g ≠ q ∧ g < w1.heap.size := by
    rcases h1.row.2 with ⟨h2, h3⟩ | ⟨g, cap', cur, h2, _, h3, _⟩
    · injection h2 with h4 h5 h6
      exact .inl ⟨h4, h6, List.length_eq_zero_iff.1 h3⟩
    · injection h2 with h4 h5 h6
      exact .inr ⟨g, h4, fun e => h1.ne (by rw [h4, e]; rfl), (Array.getElem?_eq_some_iff.1 h3).1⟩
  obtain ⟨N, hN⟩ : ∃ N, Hid (N = E.length) := ⟨_, rfl⟩
  rw [← hN.out] at c0
  have hAN : (A : Int) ≤ (N : Int) := by have := H.out.2.1; have := hN.out; omega
  have hN1 : (N : Int) ≤ 1000 := by have := H.out.2.2.1; have := hN.out; omega
  have hA0 : (0 : Int) ≤ (A : Int) := by omega
  clear hk1 h1
  rcases hcase with ⟨rfl, rfl, rfl⟩ | ⟨g, rfl, hgq, hgl⟩
  · have hN0 : N = 0 := by rw [hN.out]; rfl
    have hA00 : A = 0 := by omega
    subst hN0 hA00
    have hd : ([] : List Ent).drop 0 = [] := rfl
    have HV1 : Hid (w1.ownsRow w1.heap.size 56 3 (.slice none 0 0) 0 (cellsE (([] : List Ent).take 0)) ∧ Kept (fun _ => False) w1 w1) := ⟨World.ownsRow_nil _ _ _ _, Kept.refl _ _⟩
    go_wp2_with (at_builtin; first | (refine wpList_append_own_none rfl (.tmp 27) (.tmp 33) 27 rfl w1.heap.size 56 i0 3 Try.underlying27 hi0 (.slice none 0 0) 0 [] rfl (World.ownsRow_nil _ _ _ _) rfl ?_) | (refine wpList_append_own _ rfl (.tmp 35) (.tmp 42) 27 rfl w1.heap.size 56 i0 _ 3 40 Try.underlying27 hi0 hz0 hz1 hz2 rfl (by decide) _ _ _ rfl (HV1.out.1.alloc _) ⟨w1.heap.size, 0, none⟩ 1 1 (entV (k, v, z)) rfl rfl ?d1 (entV_one _) ?d3 ?d4 ?d5 ?_))
    case d1 => intro j u hj; rw [add0]; exact (Holds.new w1 (entV (k, v, z)) _).cell j u hj
    case d3 => unfold maxLen; omega
    case d4 => omega
    case d5 => simp
    intro v2 wB hown2 hgr2 _
    have HV2 : Hid (wB.ownsRow w1.heap.size 56 3 v2 1 (entV (k, v, z)) ∧ Kept (fun _ => False) w1 wB) := ⟨hown2, kept_grown (HV1.out.2.alloc _) hgr2 (fun b hb => by cases hb)⟩
    clear hown2 hgr2 HV1
    have c0' := c0
    have c0B : wB.cell? ⟨q, 0, none⟩ = some (.slice none 0 0) := by rw [HV2.out.2.cell (p := ⟨q, 0, none⟩) H1.out.obj.lt (fun hf => hf)]; exact c0
    clear c0
    obtain ⟨ad2, n2, cap2, rfl⟩ := own_any9 HV2.out.1
    have hob := (H1.out.obj.of_block (HV2.out.2.block q H1.out.obj.lt (fun hf => hf)))
    have fq := hob.free 0
    have HP : Hid (RfPut w B q (.slice none 0 0) (([] : List Ent).take 0 ++ (k, v, z) :: ([] : List Ent).drop 0) (wB.setCell ⟨q, 0, none⟩ (.slice ad2 n2 cap2))) := by
      have hvq : (Value.slice ad2 n2 cap2).ownBlock ≠ some q := fun hv => by have h1 := (HV2.out.1.lt q hv).1; have h2 := H1.out.obj.lt; omega
      have hs1 := HK1.out.size
      refine ⟨.slice ad2 n2 cap2, ⟨hob.set 0 _, ?_, H1.out.base, hvq⟩, fun b hb => .inr (by have h1 := (HV2.out.1.lt b hb).1; omega), ?_⟩
      · exact owns_setCell (owns_base (owns_len9 HV2.out.1 rfl rfl) (by have := H.out.2.2.2; omega)) hvq
      · exact Kept.setCell (X := fun k => k = q ∨ (Value.slice none 0 0).ownBlock = some k) (p := ⟨q, 0, none⟩) ((HK1.out.trans HV2.out.2 (fun _ hf => hf.elim)).mono (fun _ hf => hf.elim)) (.inl rfl) _
    clear hob c0'
    go_wp2_with (at_builtin; refine wpList_append_own_none rfl (.tmp 45) (.tmp 51) 27 rfl w1.heap.size 56 i0 3 Try.underlying27 hi0 _ _ _ rfl HV2.out.1 rfl ?_)
    go_ret
    rw [← hz.out]
    exact ⟨rfl, HP.out⟩
  · have hcapN : N ≤ cap := by
      rcases H1.out.row.2 with ⟨h2, _⟩ | ⟨g', cap', cur, h2, _, _, h3, _⟩
      · cases h2
      · injection h2 with _ _ h4; subst h4; have := hN.out; omega
    have hAc : A ≤ cap := by omega
    have hAcI : (A : Int) ≤ (cap : Int) := by omega
    go_wp2_with (at_builtin; refine wpList_append_own _ rfl (.tmp 27) (.tmp 33) 27 rfl w1.heap.size 56 i0 _ 3 40 Try.underlying27 hi0 hz0 hz1 hz2 rfl (by decide) (.slice none 0 0) 0 [] rfl (World.ownsRow_nil _ _ _ _) ⟨g, 0, none⟩ A cap (cellsE (E.take A)) rfl ?e1 ?e2 (cellsE_one _) ?e3 ?e4 (Nat.le_refl _) ?_)
    case e1 => rw [cellsE_length, List.length_take]; have := hN.out; omega
    case e2 =>
      intro j u hj
      rw [cellsE_take, List.getElem?_take] at hj
      split at hj
      · rename_i hlt
        rw [show ((⟨g, 0, none⟩ : Addr).add j) = ⟨g, 0 + j, none⟩ from by unfold Addr.add; split <;> simp_all, Nat.zero_add, H1.out.row.cellAt j (by have := hN.out; omega)]
        exact hj
      · cases hj
    case e3 => unfold maxLen; omega
    case e4 => omega
    intro v1 wA hown1 hgr1 _
    have HV1 : Hid (wA.ownsRow w1.heap.size 56 3 v1 A (cellsE (E.take A)) ∧ Kept (fun _ => False) w1 wA) := ⟨by first | exact hown1 | (rw [Nat.zero_add] at hown1; exact hown1), kept_grown (Kept.refl _ _) hgr1 (fun b hb => by cases hb)⟩
    clear hown1 hgr1
    go_wp2_with (at_builtin; refine wpList_append_own _ rfl (.tmp 35) (.tmp 42) 27 rfl w1.heap.size 56 i0 _ 3 40 Try.underlying27 hi0 hz0 hz1 hz2 rfl (by decide) _ _ _ rfl (HV1.out.1.alloc _) ⟨wA.heap.size, 0, none⟩ 1 1 (entV (k, v, z)) rfl rfl ?d1 (entV_one _) ?d3 ?d4 ?d5 ?_)
    case d1 => intro j u hj; rw [add0]; exact (Holds.new wA (entV (k, v, z)) _).cell j u hj
    case d3 => unfold maxLen; omega
    case d4 => omega
    case d5 => have := HV1.out.2.size; simp; omega
    intro v2 wB hown2 hgr2 _
    have HV2 : Hid (wB.ownsRow w1.heap.size 56 3 v2 (A + 1) (cellsE (E.take A) ++ entV (k, v, z)) ∧ Kept (fun _ => False) w1 wB) := ⟨hown2, kept_grown (HV1.out.2.alloc _) hgr2 (fun b hb => .inr (HV1.out.1.lt b hb).1)⟩
    clear hown2 hgr2 HV1
    have c0' := c0
    have c0B : wB.cell? ⟨q, 0, none⟩ = some (.slice (some ⟨g, 0, none⟩) N cap) := by rw [HV2.out.2.cell (p := ⟨q, 0, none⟩) H1.out.obj.lt (fun hf => hf)]; exact c0
    have HSrc : Hid (∀ (j : Nat) (u : Value), (cellsE (E.drop A))[j]? = some u → wB.cell? ⟨g, A * 3 + j, none⟩ = some u) := fun j u hj => by
      rw [cellsE_drop, List.getElem?_drop] at hj
      have hlt : A * 3 + j < E.length * 3 := by have := (List.getElem?_eq_some_iff.1 hj).1; rwa [cellsE_length] at this
      rw [HV2.out.2.cell (p := ⟨g, A * 3 + j, none⟩) hgl (fun hf => hf), H1.out.row.cellAt _ hlt]
      exact hj
    clear c0
    by_cases hcA : cap = A
    · have hAN' : N = A := by omega
      have hd : E.drop A = [] := List.drop_eq_nil_of_le (by have := hN.out; omega)
      go_wp2_with (at_builtin; refine wpList_append_own _ rfl (.tmp 45) (.tmp 51) 27 rfl w1.heap.size 56 i0 _ 3 40 Try.underlying27 hi0 hz0 hz1 hz2 rfl (by decide) _ _ _ rfl HV2.out.1 ⟨g, 0, none⟩ 0 0 [] (by first | rfl | (show Value.slice _ _ _ = _; simp [hcA, hAN'])) rfl (fun j u hj => by simp at hj) (fun u hu => by simp at hu) ?d3 ?d4 ?d5 ?_)
      case d3 => unfold maxLen; omega
      case d4 => omega
      case d5 => exact HV2.out.2.size
      intro v3 wC hown3 hgr3 _
      obtain ⟨ad3, n3, cap3, rfl⟩ := own_any9 hown3
      have hkC : Kept (fun _ => False) w1 wC := kept_grown HV2.out.2 hgr3 (fun b hb => .inr (HV2.out.1.lt b hb).1)
      have hqC : wC.cell? ⟨q, 0, none⟩ = some (.slice (some ⟨g, 0, none⟩) N cap) := by rw [hkC.cell (p := ⟨q, 0, none⟩) H1.out.obj.lt (fun hf => hf)]; exact c0'
      have hob := (H1.out.obj.of_block (hkC.block q H1.out.obj.lt (fun hf => hf)))
      have fq := hob.free 0
      have HP : Hid (RfPut w B q (.slice (some ⟨g, 0, none⟩) E.length cap) (E.take A ++ (k, v, z) :: E.drop A) (wC.setCell ⟨q, 0, none⟩ (.slice ad3 n3 cap3))) := by
        have hvq : (Value.slice ad3 n3 cap3).ownBlock ≠ some q := fun hv => by have h1 := (hown3.lt q hv).1; have h2 := H1.out.obj.lt; omega
        have hs1 := HK1.out.size
        refine ⟨.slice ad3 n3 cap3, ⟨hob.set 0 _, ?_, H1.out.base, hvq⟩, fun b hb => .inr (by have h1 := (hown3.lt b hb).1; omega), ?_⟩
        · refine owns_setCell (owns_base (owns_len9 hown3 ?_ ?_) (by have := H.out.2.2.2; omega)) hvq
          · rw [List.length_append, List.length_take, List.length_cons, hd, List.length_nil]; have := hN.out; omega
          · rw [cellsE_append, hd]; first | rfl | (rw [List.append_assoc]; rfl)
        · exact Kept.setCell (X := fun k => k = q ∨ (Value.slice (some ⟨g, 0, none⟩) E.length cap).ownBlock = some k) (p := ⟨q, 0, none⟩) ((HK1.out.trans hkC (fun _ hf => hf.elim)).mono (fun _ hf => hf.elim)) (.inl rfl) _
      clear hown3 hgr3 hkC hob c0'
      go_wp2
      go_ret
      rw [← hz.out]
      exact ⟨rfl, HP.out⟩
    · have hcA' : ¬cap - A = 0 := by omega
      go_wp2_with (at_builtin; refine wpList_append_own _ rfl (.tmp 45) (.tmp 51) 27 rfl w1.heap.size 56 i0 _ 3 40 Try.underlying27 hi0 hz0 hz1 hz2 rfl (by decide) _ _ _ rfl HV2.out.1 ⟨g, A * 3, none⟩ (N - A) (cap - A) (cellsE (E.drop A)) rfl ?d0 ?d1 (cellsE_one _) ?d3 ?d4 ?d5 ?_)
      case d0 => rw [cellsE_length, List.length_drop]; have := hN.out; omega
      case d1 =>
        intro j u hj
        rw [show ((⟨g, A * 3, none⟩ : Addr).add j) = ⟨g, A * 3 + j, none⟩ from by unfold Addr.add; split <;> simp_all]
        exact HSrc.out j u hj
      case d3 => unfold maxLen; omega
      case d4 => omega
      case d5 => exact HV2.out.2.size
      intro v3 wC hown3 hgr3 _
      obtain ⟨ad3, n3, cap3, rfl⟩ := own_any9 hown3
      have hkC : Kept (fun _ => False) w1 wC := kept_grown HV2.out.2 hgr3 (fun b hb => .inr (HV2.out.1.lt b hb).1)
      have hqC : wC.cell? ⟨q, 0, none⟩ = some (.slice (some ⟨g, 0, none⟩) N cap) := by rw [hkC.cell (p := ⟨q, 0, none⟩) H1.out.obj.lt (fun hf => hf)]; exact c0'
      have hob := (H1.out.obj.of_block (hkC.block q H1.out.obj.lt (fun hf => hf)))
      have fq := hob.free 0
      have HP : Hid (RfPut w B q (.slice (some ⟨g, 0, none⟩) E.length cap) (E.take A ++ (k, v, z) :: E.drop A) (wC.setCell ⟨q, 0, none⟩ (.slice ad3 n3 cap3))) := by
        have hvq : (Value.slice ad3 n3 cap3).ownBlock ≠ some q := fun hv => by have h1 := (hown3.lt q hv).1; have h2 := H1.out.obj.lt; omega
        have hs1 := HK1.out.size
        refine ⟨.slice ad3 n3 cap3, ⟨hob.set 0 _, ?_, H1.out.base, hvq⟩, fun b hb => .inr (by have h1 := (hown3.lt b hb).1; omega), ?_⟩
        · refine owns_setCell (owns_base (owns_len9 hown3 ?_ ?_) (by have := H.out.2.2.2; omega)) hvq
          · rw [List.length_append, List.length_take, List.length_cons, List.length_drop]; have := hN.out; omega
          · rw [cellsE_append]; first | rfl | (rw [List.append_assoc]; rfl)
        · exact Kept.setCell (X := fun k => k = q ∨ (Value.slice (some ⟨g, 0, none⟩) E.length cap).ownBlock = some k) (p := ⟨q, 0, none⟩) ((HK1.out.trans hkC (fun _ hf => hf.elim)).mono (fun _ hf => hf.elim)) (.inl rfl) _
      clear hown3 hgr3 hkC hob c0'
      go_wp2
      go_ret
      rw [← hz.out]
      exact ⟨rfl, HP.out⟩

/-- The reference's Put. -/
theorem rPut (w : World) (B q : Nat) (vL : Value) (E : List Ent) (k v : Txt) (ht : Int) (h : RfAt w B q vL E) (hBw : B ≤ w.heap.size) (hl : E.length ≤ 1000) :
    Calls Try.prog 10 #[.pointer (some ⟨q, 0, none⟩), .string ⟨k.toArray⟩, .string ⟨v.toArray⟩, .int .i64 ht] w fun e w' => e = .returned (.bool (!hasE E k)) ∧ RfPut w B q vL (putE E k v ht) w' := by
  cases hh : hasE E k with
  | true =>
    have := rPut_has w B q vL E k v ht h hl hh
    unfold putE
    rw [if_pos hh]
    exact this
  | false =>
    have := rPut_new w B q vL E k v ht h hBw hl hh
    unfold putE
    rw [if_neg (by simp [hh])]
    exact this

end Go.Proofs.Ytiglkadejbjdcaa
