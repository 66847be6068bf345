/- The reference of layer 9: a sorted list. -/
import Derived.Test.YtiglkadejbjdcaaProg
import Derived.Test.YtiglkadejbjdcaaSkM
import Derived.Test.YtiglkadejbjdcaaAppend
import Derived.Sort.Walk0
import Derived.BigQuiet
import Derived.Deep.Cut
namespace Go.Proofs.Ytiglkadejbjdcaa
open Go.RowKit Go.Proofs Go.Proofs.Pk
set_option maxRecDepth 10000
attribute [local simp] mk_get wrap64_u8 mk_extract ByteArray.mk_append_mk get_1k

def entV (e : Ent) : List Value := [.string ⟨e.1.toArray⟩, .string ⟨e.2.1.toArray⟩, .int .i64 (e.2.2 : Int)]
def cellsE (E : List Ent) : List Value := E.flatMap entV
theorem cellsE_length : ∀ E : List Ent, (cellsE E).length = E.length * 3
  | [] => rfl
  | e :: E => by
    show (entV e ++ cellsE E).length = _
    rw [List.length_append, cellsE_length E, List.length_cons]
    simp only [entV, List.length_cons, List.length_nil]; omega
theorem cellsE_get : ∀ (E : List Ent) (i : Nat) (h : i < E.length) (t : Nat) (u : Value), (entV E[i])[t]? = some u → (cellsE E)[i * 3 + t]? = some u
  | e :: E, 0, _, t, u, hu => by
    show (entV e ++ cellsE E)[0 * 3 + t]? = _
    have ht := (List.getElem?_eq_some_iff.1 hu).1
    rw [Nat.zero_mul, Nat.zero_add, List.getElem?_append_left (by simpa using ht)]
    simpa using hu
  | e :: E, i + 1, h, t, u, hu => by
    have := cellsE_get E i (by simpa using h) t u (by simpa using hu)
    show (entV e ++ cellsE E)[(i + 1) * 3 + t]? = _
    have hl : (entV e).length = 3 := rfl
    rw [List.getElem?_append_right (by rw [hl]; omega), hl, show (i + 1) * 3 + t - 3 = i * 3 + t from by omega]
    exact this
/-- The reference's list at the block q. -/
structure RfAt (w : World) (B q : Nat) (vL : Value) (E : List Ent) : Prop where
  obj : Holds w q [vL] 29
  row : w.ownsRow B 56 3 vL E.length (cellsE E)
  base : B ≤ q
  ne : vL.ownBlock ≠ some q
theorem RfAt.kept {w w' : World} {B q : Nat} {vL : Value} {E : List Ent} {Y : Nat → Prop} (h : RfAt w B q vL E) (hk : Kept Y w w') (hY : ∀ k, k = q ∨ vL.ownBlock = some k → ¬Y k) : RfAt w' B q vL E :=
  ⟨h.obj.of_block (hk.block q h.obj.lt (hY q (.inl rfl))), owns_of_block h.row fun g hg => hk.block g (h.row.lt g hg).2 (hY g (.inr hg)), h.base, h.ne⟩
theorem RfAt.form {w : World} {B q : Nat} {vL : Value} {E : List Ent} (h : RfAt w B q vL E) : ∃ ad cap, vL = .slice ad E.length cap ∧ (E = [] ∨ ∃ g, ad = some ⟨g, 0, none⟩ ∧ g ≠ q ∧ g < w.heap.size ∧ ∀ i (hi : i < E.length) t u, (entV E[i])[t]? = some u → w.cell? ⟨g, i * 3 + t, none⟩ = some u) := by
  rcases h.row.2 with ⟨hv, hn⟩ | ⟨g, cap, cur, hv, _, h2, _⟩
  · refine ⟨none, 0, by rw [hv, hn], .inl (List.length_eq_zero_iff.1 hn)⟩
  · refine ⟨_, cap, hv, .inr ⟨g, rfl, fun e => h.ne (by rw [hv, e]; rfl), (Array.getElem?_eq_some_iff.1 h2).1, fun i hi t u hu => ?_⟩⟩
    have := h.row.cells (by rw [hv]; rfl) (i * 3 + t) u (cellsE_get E i hi t u hu)
    rw [show ((⟨g, 0, none⟩ : Addr).add (i * 3 + t)) = ⟨g, 0 + (i * 3 + t), none⟩ from by unfold Addr.add; split <;> simp_all] at this
    rwa [Nat.zero_add] at this
theorem less_is (x y : Txt) : Op.bytesLess x y = decide (x < y) := bytesLess_eq x y

set_option maxHeartbeats 1000000 in
theorem rAt (w : World) (B q : Nat) (vL : Value) (E : List Ent) (k : Txt) (h : RfAt w B q vL E) (hl : E.length ≤ 1000) :
    Calls Try.prog 22 #[.pointer (some ⟨q, 0, none⟩), .string ⟨k.toArray⟩] w fun e w' => e = .returned (.tuple #[.int .i64 (atE E k : Int), .bool (hasE E k)]) ∧ Kept (fun _ => False) w w' := by
  obtain ⟨ad, cap, rfl, hrow⟩ := h.form
  have c0 := h.obj.cell 0 _ rfl
  have HRow := Lib.hid hrow
  have hle := atE_le k E
  have HB := Lib.hid (atE_before k E)
  have HA := Lib.hid (atE_at k E)
  obtain ⟨N, hN⟩ : ∃ N, Hid (N = E.length) := ⟨_, rfl⟩
  obtain ⟨A, hA⟩ : ∃ A, Hid (A = atE E k) := ⟨_, rfl⟩
  have hAN : A ≤ N := by rw [hA.out, hN.out]; exact hle
  have hN1 : N ≤ 1000 := by rw [hN.out]; exact hl
  rw [← hN.out] at c0
  rw [← hA.out]
  clear h hrow hle hl
  go_enter Try.func22, Try.ntmps22
  go_wp2
  go_loop [6] (fun i => ∃ j : Nat, j ≤ A ∧ i = .int .i64 (j : Int)) (fun i => A - (intOf i).toNat)
  case atStart => exact ⟨0, Nat.zero_le _, rfl⟩
  case round =>
    obtain ⟨j, hj, rfl⟩ := hrel
    by_cases hlt : j < A
    · have hjE : j < E.length := by have := hN.out; omega
      have hless := HB.out j (by have := hA.out; omega) hjE
      rcases HRow.out with h0 | ⟨g, rfl, hgq, hgl, hcells⟩
      · rw [h0] at hjE; simp at hjE
      have d0 : w.cell? ⟨g, j * 3, none⟩ = some (.string ⟨(E[j]).1.toArray⟩) := hcells j hjE 0 _ rfl
      generalize (E[j]).1 = x at d0 hless
      have hlb : Op.bytesLess x k = true := by rw [less_is]; simpa using hless
      have j1 : (j : Int) < (N : Int) := by omega
      have j0 : (0 : Int) ≤ (j : Int) := by omega
      have hwj : IntKind.i64.wrap ((j : Int) + 1) = (j : Int) + 1 := IntWalk.i64_in _ (by omega)
      clear hcells hless
      go_wp2
      go_round
      case rel => exact ⟨j + 1, by omega, by go_num⟩
      case measure => simp [intOf]; omega
    · obtain rfl : j = A := by omega
      have j0 : (0 : Int) ≤ (j : Int) := by omega
      by_cases hlN : j < N
      · have hjE : j < E.length := by have := hN.out; omega
        have hAE : atE E k < E.length := by have := hA.out; omega
        have hless := HA.out hAE
        rcases HRow.out with h0 | ⟨g, rfl, hgq, hgl, hcells⟩
        · rw [h0] at hjE; simp at hjE
        have d0 : w.cell? ⟨g, j * 3, none⟩ = some (.string ⟨(E[j]).1.toArray⟩) := hcells j hjE 0 _ rfl
        have HH : Hid (hasE E k = ((E[j]).1 == k)) := by
          show _ = _
          unfold hasE
          rw [← hA.out, List.getElem?_eq_getElem hjE]
        have hless' : ¬(E[j]).1 < k := by have e := hA.out; subst e; exact hless
        generalize (E[j]).1 = x at d0 hless' HH
        have hlb : Op.bytesLess x k = false := by rw [less_is]; simpa using hless'
        have j1 : (j : Int) < (N : Int) := by omega
        clear hcells hless hless' hAE
        go_wp2
        go_quiet (fail)
        go_wp2
        go_ret2
        exact ⟨by rw [HH.out]; rfl, (Kept.refl _ _).drewN _⟩
      · have j1 : ¬(j : Int) < (N : Int) := by omega
        have HH : Hid (hasE E k = false) := by
          show _ = _
          unfold hasE
          rw [← hA.out, List.getElem?_eq_none (by have := hN.out; omega)]
        go_wp2
        go_quiet (fail)
        go_wp2
        go_ret2
        exact ⟨by rw [HH.out]; rfl, (Kept.refl _ _).drewN _⟩

/-- What stands where a key is sought. -/
theorem RfAt.cells {w : World} {B q : Nat} {vL : Value} {E : List Ent} (h : RfAt w B q vL E) (i : Nat) (hi : i < E.length) : ∃ g cap, vL = .slice (some ⟨g, 0, none⟩) E.length cap ∧ w.cell? ⟨g, i * 3, none⟩ = some (.string ⟨(E[i]).1.toArray⟩) ∧ w.cell? ⟨g, i * 3 + 1, none⟩ = some (.string ⟨(E[i]).2.1.toArray⟩) ∧ w.cell? ⟨g, i * 3 + 2, none⟩ = some (.int .i64 ((E[i]).2.2 : Int)) := by
  obtain ⟨ad, cap, rfl, h0 | ⟨g, rfl, _, _, hc⟩⟩ := h.form
  · rw [h0] at hi; simp at hi
  · exact ⟨g, cap, rfl, hc i hi 0 _ rfl, hc i hi 1 _ rfl, hc i hi 2 _ rfl⟩
theorem has_lt {E : List Ent} {k : Txt} (h : hasE E k = true) : ∃ hi : atE E k < E.length, (E[atE E k]).1 = k := by
  obtain ⟨e, he, h1⟩ := hasE_iff.1 h
  obtain ⟨hi, h2⟩ := List.getElem?_eq_some_iff.1 he
  exact ⟨hi, by rw [h2]; exact h1⟩

set_option maxHeartbeats 1000000 in
theorem rGet (w : World) (B q : Nat) (vL : Value) (E : List Ent) (k : Txt) (h : RfAt w B q vL E) (hl : E.length ≤ 1000) :
    Calls Try.prog 12 #[.pointer (some ⟨q, 0, none⟩), .string ⟨k.toArray⟩] w fun e w' => e = .returned (.tuple #[.string ⟨(getE E k).1.toArray⟩, .bool (getE E k).2]) ∧ Kept (fun _ => False) w w' := by
  have HAt := Lib.hid (rAt w B q vL E k h hl)
  have H := Lib.hid h
  clear h
  cases hh : hasE E k with
  | false =>
    have hG : Hid (getE E k = ([], false)) := by
      show _ = _
      unfold getE
      cases he : E[atE E k]? with
      | none => rfl
      | some e =>
        simp only
        rw [if_neg (fun h1 => by have := hasE_iff.2 ⟨e, he, h1⟩; rw [hh] at this; cases this)]
    rw [hh] at HAt
    rw [hG.out]
    clear hh
    go_enter Try.func12, Try.ntmps12
    go_wp2_with fail
    refine HAt.out.mono ?_
    clear HAt
    rintro e w1 ⟨rfl, hk1⟩
    have HK := Lib.hid hk1
    clear hk1
    go_wp2
    go_ret2
    exact ⟨rfl, HK.out⟩
  | true =>
    obtain ⟨hi, hik⟩ := has_lt hh
    have hG : Hid (getE E k = ((E[atE E k]).2.1, true)) := by
      show _ = _
      unfold getE
      rw [List.getElem?_eq_getElem hi]
      simp only
      rw [if_pos hik]
    rw [hh] at HAt
    rw [hG.out]
    obtain ⟨A, hA⟩ : ∃ A, Hid (A = atE E k) := ⟨_, rfl⟩
    have hAi : A < E.length := by rw [hA.out]; exact hi
    have hgx : Hid ((E[atE E k]).2.1 = (E[A]).2.1) := by show _ = _; have e := hA.out; subst e; rfl
    rw [hgx.out]
    rw [← hA.out] at HAt
    clear hh hi hik hG hgx
    go_enter Try.func12, Try.ntmps12
    go_wp2_with fail
    refine HAt.out.mono ?_
    clear HAt
    rintro e w1 ⟨rfl, hk1⟩
    have h1 := H.out.kept hk1 (fun _ _ hf => hf)
    obtain ⟨g, cap, rfl, d0, d1, d2⟩ := h1.cells A hAi
    have c0 := h1.obj.cell 0 _ rfl
    obtain ⟨N, hN⟩ : ∃ N, N = E.length := ⟨_, rfl⟩
    rw [← hN] at c0 hAi
    have j1 : (A : Int) < (N : Int) := by omega
    have j0 : (0 : Int) ≤ (A : Int) := by omega
    obtain ⟨x, hx0⟩ : ∃ x, x = (E[A]).2.1 := ⟨_, rfl⟩
    have hx := Lib.hid hx0
    clear hx0
    rw [← hx.out] at d1
    have HK := Lib.hid hk1
    clear hk1 h1 hAi d0 d2
    go_wp2
    go_ret2
    exact ⟨by rw [← hx.out]; rfl, HK.out⟩

set_option maxHeartbeats 1000000 in
theorem rHeight (w : World) (B q : Nat) (vL : Value) (E : List Ent) (k : Txt) (h : RfAt w B q vL E) (hl : E.length ≤ 1000) :
    Calls Try.prog 16 #[.pointer (some ⟨q, 0, none⟩), .string ⟨k.toArray⟩] w fun e w' => e = .returned (.int .i64 (heightE E k : Int)) ∧ Kept (fun _ => False) w w' := by
  have HAt := Lib.hid (rAt w B q vL E k h hl)
  have H := Lib.hid h
  clear h
  cases hh : hasE E k with
  | false =>
    have hG : Hid (heightE E k = 0) := by
      show _ = _
      unfold heightE
      cases he : E[atE E k]? with
      | none => rfl
      | some e =>
        simp only
        rw [if_neg (fun h1 => by have := hasE_iff.2 ⟨e, he, h1⟩; rw [hh] at this; cases this)]
    rw [hh] at HAt
    rw [hG.out]
    clear hh
    go_enter Try.func16, Try.ntmps16
    go_wp2_with fail
    refine HAt.out.mono ?_
    clear HAt
    rintro e w1 ⟨rfl, hk1⟩
    have HK := Lib.hid hk1
    clear hk1
    go_wp2
    go_ret
    exact ⟨rfl, HK.out⟩
  | true =>
    obtain ⟨hi, hik⟩ := has_lt hh
    have hG : Hid (heightE E k = (E[atE E k]).2.2) := by
      show _ = _
      unfold heightE
      rw [List.getElem?_eq_getElem hi]
      simp only
      rw [if_pos hik]
    rw [hh] at HAt
    rw [hG.out]
    obtain ⟨A, hA⟩ : ∃ A, Hid (A = atE E k) := ⟨_, rfl⟩
    have hAi : A < E.length := by rw [hA.out]; exact hi
    have hgx : Hid ((E[atE E k]).2.2 = (E[A]).2.2) := by show _ = _; have e := hA.out; subst e; rfl
    rw [hgx.out]
    rw [← hA.out] at HAt
    clear hh hi hik hG hgx
    go_enter Try.func16, Try.ntmps16
    go_wp2_with fail
    refine HAt.out.mono ?_
    clear HAt
    rintro e w1 ⟨rfl, hk1⟩
    have h1 := H.out.kept hk1 (fun _ _ hf => hf)
    obtain ⟨g, cap, rfl, d0, d1, d2⟩ := h1.cells A hAi
    have c0 := h1.obj.cell 0 _ rfl
    obtain ⟨N, hN⟩ : ∃ N, N = E.length := ⟨_, rfl⟩
    rw [← hN] at c0 hAi
    have j1 : (A : Int) < (N : Int) := by omega
    have j0 : (0 : Int) ≤ (A : Int) := by omega
    obtain ⟨x, hx0⟩ : ∃ x, x = (E[A]).2.2 := ⟨_, rfl⟩
    have hx := Lib.hid hx0
    clear hx0
    rw [← hx.out] at d2
    have HK := Lib.hid hk1
    clear hk1 h1 hAi d0 d1
    go_wp2
    go_ret
    exact ⟨by rw [← hx.out]; rfl, HK.out⟩

set_option maxHeartbeats 1000000 in
theorem rSeek (w : World) (B q : Nat) (vL : Value) (E : List Ent) (k : Txt) (h : RfAt w B q vL E) (hl : E.length ≤ 1000) :
    Calls Try.prog 14 #[.pointer (some ⟨q, 0, none⟩), .string ⟨k.toArray⟩] w fun e w' => e = .returned (.tuple #[.string ⟨(seekE E k).1.toArray⟩, .string ⟨(seekE E k).2.1.toArray⟩, .bool (seekE E k).2.2]) ∧ Kept (fun _ => False) w w' := by
  have HAt := Lib.hid (rAt w B q vL E k h hl)
  have H := Lib.hid h
  have hle := atE_le k E
  obtain ⟨b, hb⟩ : ∃ b, b = hasE E k := ⟨_, rfl⟩
  rw [← hb] at HAt
  obtain ⟨A, hA⟩ : ∃ A, Hid (A = atE E k) := ⟨_, rfl⟩
  have HLe : Hid (A ≤ E.length) := by show _ ≤ _; rw [hA.out]; exact hle
  rw [← hA.out] at HAt
  clear h hle hb
  by_cases hAi : A < E.length
  · have hG : Hid (seekE E k = ((E[A]).1, (E[A]).2.1, true)) := by
      show _ = _
      unfold seekE
      rw [← hA.out, List.getElem?_eq_getElem hAi]
    rw [hG.out]
    go_enter Try.func14, Try.ntmps14
    go_wp2_with fail
    refine HAt.out.mono ?_
    clear HAt
    rintro e w1 ⟨rfl, hk1⟩
    have h1 := H.out.kept hk1 (fun _ _ hf => hf)
    obtain ⟨g, cap, rfl, d0, d1, d2⟩ := h1.cells A hAi
    have c0 := h1.obj.cell 0 _ rfl
    obtain ⟨x, hx0⟩ : ∃ x, x = (E[A]).1 := ⟨_, rfl⟩
    have hx := Lib.hid hx0
    clear hx0
    obtain ⟨y, hy0⟩ : ∃ y, y = (E[A]).2.1 := ⟨_, rfl⟩
    have hy := Lib.hid hy0
    clear hy0
    rw [← hx.out] at d0
    rw [← hy.out] at d1
    obtain ⟨N, hN⟩ : ∃ N, N = E.length := ⟨_, rfl⟩
    rw [← hN] at c0 hAi
    have j1 : (A : Int) < (N : Int) := by omega
    have j0 : (0 : Int) ≤ (A : Int) := by omega
    have jne : ((A : Int) == (N : Int)) = false := by simp; omega
    have HK := Lib.hid hk1
    clear hk1 h1 hAi d2
    go_wp2
    go_quiet (fail)
    go_wp2
    go_ret3
    exact ⟨by rw [← hx.out, ← hy.out]; rfl, HK.out.drewN _⟩
  · have hG : Hid (seekE E k = ([], [], false)) := by
      show _ = _
      unfold seekE
      rw [← hA.out, List.getElem?_eq_none (by omega)]
    rw [hG.out]
    have hAN : A = E.length := by have := HLe.out; omega
    go_enter Try.func14, Try.ntmps14
    go_wp2_with fail
    refine HAt.out.mono ?_
    clear HAt
    rintro e w1 ⟨rfl, hk1⟩
    have h1 := H.out.kept hk1 (fun _ _ hf => hf)
    obtain ⟨ad, cap, rfl, _⟩ := h1.form
    have c0 := h1.obj.cell 0 _ rfl
    rw [← hAN] at c0
    have HK := Lib.hid hk1
    clear hk1 h1 hAi hAN hA HLe
    go_wp2
    go_ret3
    exact ⟨rfl, HK.out⟩

theorem info9S : (Try.prog.info? 9).map (fun i => (i.zero, i.size, i.bytes)) = some (some (.string ⟨#[]⟩), 1, 16) := by kernel_rfl
set_option maxHeartbeats 2000000 in
theorem rLane (w : World) (B q : Nat) (vL : Value) (E : List Ent) (hh : Int) (h : RfAt w B q vL E) (hl : E.length ≤ 1000) :
    Calls Try.prog 19 #[.pointer (some ⟨q, 0, none⟩), .int .i64 hh] w fun e w' => ∃ v, e = .returned v ∧ w'.ownsRow w.heap.size 9 1 v (laneE E hh).length ((laneE E hh).map strV) ∧ Kept (fun _ => False) w w' := by
  obtain ⟨i0, hi, hz0, hz1, hz2⟩ := info_parts info9S
  have H := Lib.hid h
  have hN1 := hl
  have HST : Hid (∀ j (hj : j < E.length), laneE (E.take (j + 1)) hh = if hh < ((E[j]).2.2 : Int) then laneE (E.take j) hh ++ [(E[j]).1] else laneE (E.take j) hh) := fun j hj => by
    rw [List.take_succ_eq_append_getElem hj]
    unfold laneE
    rw [List.filter_append, List.map_append]
    by_cases hc : hh < ((E[j]).2.2 : Int)
    · rw [if_pos hc]; simp [hc]
    · rw [if_neg hc]; simp [hc]
  have HLn : Hid (∀ j, (laneE (E.take j) hh).length ≤ j) := fun j => by
    unfold laneE
    rw [List.length_map]
    exact Nat.le_trans (List.length_filter_le _ _) (by rw [List.length_take]; omega)
  clear h hl
  go_enter Try.func19, Try.ntmps19
  go_wp2
  obtain ⟨wq, hwq⟩ : ∃ wq, wq = w := ⟨_, rfl⟩
  have HI : Hid (wq.ownsRow w.heap.size 9 1 (.slice none 0 0) (laneE (E.take 0) hh).length ((laneE (E.take 0) hh).map strV) ∧ Kept (fun _ => False) w wq) := by
    rw [hwq]
    exact ⟨World.ownsRow_nil _ _ _ _, Kept.refl _ _⟩
  rw [← hwq]
  clear hwq
  go_loopw [5, 6] (fun v i wr => ∃ j : Nat, j ≤ E.length ∧ i = .int .i64 (j : Int) ∧ Hid (wr.ownsRow w.heap.size 9 1 v (laneE (E.take j) hh).length ((laneE (E.take j) hh).map strV) ∧ Kept (fun _ => False) w wr)) (fun _ i _ => E.length - (intOf i).toNat)
  case atStart => exact ⟨0, Nat.zero_le _, rfl, HI⟩
  case round =>
    obtain ⟨j, hj, rfl, hI⟩ := hrel
    clear HI
    have h1 := H.out.kept hI.out.2 (fun _ _ hf => hf)
    have j0 : (0 : Int) ≤ (j : Int) := by omega
    have hwj : IntKind.i64.wrap ((j : Int) + 1) = (j : Int) + 1 := IntWalk.i64_in _ (by omega)
    by_cases hjE : j < E.length
    · obtain ⟨g, cap, rfl, d0, d1, d2⟩ := h1.cells j hjE
      have c0 := h1.obj.cell 0 _ rfl
      have hst := HST.out j hjE
      have hln := HLn.out j
      obtain ⟨T, hT⟩ : ∃ T, T = laneE (E.take j) hh := ⟨_, rfl⟩
      have hI1 := hI.out
      rw [← hT] at hst hln hI1
      obtain ⟨x, hx⟩ : ∃ x, x = (E[j]).1 := ⟨_, rfl⟩
      obtain ⟨z, hz⟩ : ∃ z, z = (E[j]).2.2 := ⟨_, rfl⟩
      rw [← hx] at d0 hst
      rw [← hz] at d2 hst
      obtain ⟨N, hN⟩ : ∃ N, Hid (N = E.length) := ⟨_, rfl⟩
      rw [← hN.out] at c0
      have j1 : (j : Int) < (N : Int) := by have := hN.out; omega
      have HST2 := Lib.hid hst
      have HI2 := Lib.hid hI1
      have hjs : Hid (j + 1 ≤ E.length) := hjE
      clear hst hT hx hz hI hI1 h1 d1
      by_cases hc : hh < (z : Int)
      · have hst2 := Lib.hid (HST2.out.trans (if_pos hc))
        have e0 : (wr.alloc (.cells #[.string ⟨x.toArray⟩] 9)).heap.size = wr.heap.size + 1 := by simp
        have hsz := HI2.out.2.size
        clear HST2
        go_wp2_with (at_builtin; refine wpList_append_own _ rfl (.tmp 26) (.tmp 35) 38 rfl w.heap.size 9 i0 (.string ⟨#[]⟩) 1 16 Try.underlying38 hi hz0 hz1 hz2 rfl (by decide) _ _ _ rfl (HI2.out.1.alloc _) ⟨wr.heap.size, 0, none⟩ 1 1 [.string ⟨x.toArray⟩] rfl rfl ?d1 ?d2 ?d3 ?d4 ?d5 ?_)
        case d1 =>
          intro j u hj
          match j, hj with
          | 0, hj => simp at hj; subst hj; simp [Addr.add]
        case d2 => intro u hu; simp at hu; subst hu; rfl
        case d3 => unfold maxLen; omega
        case d4 => omega
        case d5 => simp; omega
        · intro v' w4 hown' hgrow _
          have HI3 : Hid (w4.ownsRow w.heap.size 9 1 v' (laneE (E.take (j + 1)) hh).length ((laneE (E.take (j + 1)) hh).map strV) ∧ Kept (fun _ => False) w w4) := by
            refine ⟨?_, kept_grown (HI2.out.2.alloc _) hgrow (fun b hb => .inr (HI2.out.1.lt b hb).1)⟩
            rw [hst2.out, List.map_append, List.length_append]
            exact hown'
          clear hown' hgrow HI2
          go_wp2
          go_roundw
          case rel => exact ⟨j + 1, hjs.out, by first | rfl | go_num, HI3⟩
          case measure => have := hjs.out; simp [intOf]; omega
      · have hst2 := Lib.hid (HST2.out.trans (if_neg hc))
        have HI3 : Hid (wr.ownsRow w.heap.size 9 1 u5 (laneE (E.take (j + 1)) hh).length ((laneE (E.take (j + 1)) hh).map strV) ∧ Kept (fun _ => False) w wr) := by
          rw [hst2.out]; exact HI2.out
        clear HI2 HST2
        go_wp2
        go_roundw
        case rel => exact ⟨j + 1, hjs.out, by first | rfl | go_num, HI3⟩
        case measure => have := hjs.out; simp [intOf]; omega
    · obtain ⟨ad, cap, rfl, _⟩ := h1.form
      have c0 := h1.obj.cell 0 _ rfl
      have hall : E.take j = E := List.take_of_length_le (by omega)
      have hI1 := hI.out
      rw [hall] at hI1
      have HI2 := Lib.hid hI1
      obtain ⟨N, hN⟩ : ∃ N, Hid (N = E.length) := ⟨_, rfl⟩
      rw [← hN.out] at c0
      have j1 : ¬(j : Int) < (N : Int) := by have := hN.out; omega
      clear hI hI1 hall h1
      go_wp2
      go_ret
      exact ⟨_, rfl, HI2.out.1, HI2.out.2⟩

end Go.Proofs.Ytiglkadejbjdcaa
