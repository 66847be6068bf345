/- The landed list in memory: its head, its nodes, its lanes; New, and what is read of it (Seek, Len). -/
import Derived.Test.YtlmlldcpllagbaaSx9
namespace Go.Proofs.Ytlmlldcpllagbaa
open Go.RowKit Go.Proofs Go.Proofs.Pk
set_option maxRecDepth 10000
attribute [local simp] mk_get wrap64_u8 mk_extract ByteArray.mk_append_mk get_1k

/-- A node: key, value, height, and 12 links. -/
def NodeS (w : World) (b : Nat) (e : Ent) : Prop :=
  ∃ C, Holds w b C 70 ∧ C.length = 15 ∧ C[0]? = some (.string ⟨e.1.toArray⟩) ∧ C[1]? = some (.string ⟨e.2.1.toArray⟩) ∧ C[2]? = some (.int .i64 (e.2.2 : Int))
/-- The head, and behind it how many there are. -/
def HeadS (w : World) (l n : Nat) : Prop := ∃ C, Holds w l C 72 ∧ C.length = 16 ∧ C[15]? = some (.int .i64 (n : Int))
structure SkRaw (w : World) (B l : Nat) (E : List Ent) (P : List Nat) : Prop where
  ok : SkOk E
  len : P.length = E.length
  head : HeadS w l E.length
  node : ∀ i (hi : i < E.length), NodeS w (blkP l P (i + 1)) E[i]
  lanes : ∀ h, h < 12 → LaneF (fun b => w.cell? ⟨b, 3 + h, none⟩) l E P h
  low : ∀ p, p ≤ E.length → B ≤ blkP l P p
  inj : ∀ p q, p ≤ E.length → q ≤ E.length → blkP l P p = blkP l P q → p = q
def blocksS (l : Nat) (E : List Ent) (P : List Nat) (b : Nat) : Prop := ∃ p, p ≤ E.length ∧ blkP l P p = b
def SkAt : SkOf := fun w B l E X => ∃ P, SkRaw w B l E P ∧ X = blocksS l E P
theorem SkRaw.lt {w : World} {B l : Nat} {E : List Ent} {P : List Nat} (h : SkRaw w B l E P) (p : Nat) (hp : p ≤ E.length) : blkP l P p < w.heap.size := by
  cases p with
  | zero => obtain ⟨C, h1, _⟩ := h.head; exact h1.lt
  | succ i => obtain ⟨C, h1, _⟩ := h.node i (by omega); exact h1.lt
theorem SkRaw.block {w w' : World} {B l : Nat} {E : List Ent} {P : List Nat} (h : SkRaw w B l E P) (hb : ∀ p, p ≤ E.length → w'.heap[blkP l P p]? = w.heap[blkP l P p]?) : SkRaw w' B l E P :=
  ⟨h.ok, h.len, by obtain ⟨C, h1, h2⟩ := h.head; exact ⟨C, h1.of_block (hb 0 (Nat.zero_le _)), h2⟩,
   fun i hi => by obtain ⟨C, h1, h2⟩ := h.node i hi; exact ⟨C, h1.of_block (hb (i + 1) (by omega)), h2⟩,
   fun n hn p hp ht => by
     show w'.cell? _ = _
     rw [World.cell?_of_block (w := w) (hb p hp)]; exact h.lanes n hn p hp ht, h.low, h.inj⟩
theorem SkRaw.kept {w w' : World} {B l : Nat} {E : List Ent} {P : List Nat} {Y : Nat → Prop} (h : SkRaw w B l E P) (hk : Kept Y w w') (hY : ∀ p, p ≤ E.length → ¬Y (blkP l P p)) : SkRaw w' B l E P :=
  h.block fun p hp => hk.block _ (h.lt p hp) (hY p hp)
theorem SkRaw.read {w : World} {B l : Nat} {E : List Ent} {P : List Nat} (h : SkRaw w B l E P) : RdS w l E P :=
  ⟨h.len, fun p n h1 h2 h3 => h.lanes n h2 p h1 h3, fun i hi => by obtain ⟨C, h1, _, h3, _⟩ := h.node i hi; exact h1.cell 0 _ h3, fun p hp => h.lt p hp⟩
theorem SkRaw.still {w w' : World} {B l : Nat} {E : List Ent} {P : List Nat} (h : SkRaw w B l E P) (hk : Kept (fun _ => False) w w') : SkRaw w' B l E P := h.kept hk fun _ _ f => f
/-- The next node behind a key's place, in the lowest lane. -/
def atO (l : Nat) (E : List Ent) (P : List Nat) (k : Txt) : Option Nat := if atE E k < E.length then some (blkP l P (atE E k + 1)) else none
theorem link0 {w : World} {B l : Nat} {E : List Ent} {P : List Nat} (h : SkRaw w B l E P) (k : Txt) : linkE E P (atE E k) 0 = atO l E P k := by
  unfold linkE atO
  rw [nxt0 h.ok]
  split
  · rename_i hl
    show P[atE E k]? = _
    simp [blkP, List.getD, List.getElem?_eq_getElem (show atE E k < P.length by rw [h.len]; exact hl)]
  · rfl
theorem list12 {C : List Value} (h : C.length = 12) : ∃ a0 a1 a2 a3 a4 a5 a6 a7 a8 a9 a10 a11, C = [a0, a1, a2, a3, a4, a5, a6, a7, a8, a9, a10, a11] := by
  rcases C with _ | ⟨a0, _ | ⟨a1, _ | ⟨a2, _ | ⟨a3, _ | ⟨a4, _ | ⟨a5, _ | ⟨a6, _ | ⟨a7, _ | ⟨a8, _ | ⟨a9, _ | ⟨a10, _ | ⟨a11, _ | ⟨a12, C⟩⟩⟩⟩⟩⟩⟩⟩⟩⟩⟩⟩⟩ <;> simp at h
  exact ⟨a0, a1, a2, a3, a4, a5, a6, a7, a8, a9, a10, a11, rfl⟩

theorem run_index12 (w : World) (a0 a1 a2 a3 a4 a5 a6 a7 a8 a9 a10 a11 : Value) : (Instr.index 68 (.agg #[a0, a1, a2, a3, a4, a5, a6, a7, a8, a9, a10, a11]) (.int .i64 0)).run Try.prog w = .ok a0 w := by kernel_rfl

set_option maxHeartbeats 1000000 in
theorem fromP {w : World} {B l : Nat} {E : List Ent} {P : List Nat} (h : SkRaw w B l E P) (k : Txt) :
    Calls Try.prog 35 #[.pointer (some ⟨l, 0, none⟩), .string ⟨k.toArray⟩] w fun e w' => e = .returned (ptrO (atO l E P k)) ∧ Kept (fun _ => False) w w' := by
  have HB := Lib.hid (beforeP w l E P k h.ok h.read)
  have H := Lib.hid h
  clear h
  go_enter Try.func35, Try.ntmps35
  go_wp2_with (go_at_call 34; refine HB.out.mono ?_; rintro e wn ⟨C, rfl, hCl, hCP, hK⟩)
  obtain ⟨p', h1, h2, h3⟩ := hCP 0 (Nat.le_refl _) (by omega)
  have e0 := h1.found H.out.ok h2
  subst e0
  have hR := (H.out.read.kept hK).link (atE E k) 0 (atE_le k E) (by omega) (fun q1 q2 => h1.tall q1 q2)
  rw [link0 H.out] at hR
  obtain ⟨a0, a1, a2, a3, a4, a5, a6, a7, a8, a9, a10, a11, rfl⟩ := list12 hCl
  obtain rfl : a0 = .pointer (some ⟨blkP l P (atE E k), 0, none⟩) := by simpa using h3
  clear h1 h2 h3 hCP hCl
  obtain ⟨v, hv⟩ : ∃ v, Hid (v = ptrO (atO l E P k)) := ⟨_, rfl⟩
  rw [← hv.out] at hR
  have hR3 : wn.cell? ⟨blkP l P (atE E k), 3, none⟩ = some v := hR
  have hix := run_index12 wn (.pointer (some ⟨blkP l P (atE E k), 0, none⟩)) a1 a2 a3 a4 a5 a6 a7 a8 a9 a10 a11
  go_simp
  go_wp2
  go_ret
  exact ⟨by rw [← hv.out]; rfl, hK⟩

theorem newP (w : World) (B : Nat) (hB : B ≤ w.heap.size) : Calls Try.prog 24 #[] w fun e w' => ∃ l X, e = .returned (.pointer (some ⟨l, 0, none⟩)) ∧ SkAt w' B l [] X ∧ (∀ k, X k → w.heap.size ≤ k) ∧ Kept (fun _ => False) w w' := by
  go_enter Try.func24, Try.ntmps24
  go_wp2
  go_ret
  have HN := Holds.new w [.string ⟨#[]⟩, .string ⟨#[]⟩, .int .i64 0, .pointer none, .pointer none, .pointer none, .pointer none, .pointer none, .pointer none, .pointer none, .pointer none, .pointer none, .pointer none, .pointer none, .pointer none, .int .i64 0] 72
  refine ⟨w.heap.size, blocksS w.heap.size [] [], rfl, ⟨[], ⟨SkOk.nil, rfl, ⟨_, HN, rfl, rfl⟩, fun i hi => by simp at hi, fun h hh => LaneF.nil ?_, fun p hp => ?_, fun p q hp hq _ => ?_⟩, rfl⟩, ?_, (Kept.refl _ w).alloc _⟩
  · refine HN.cell (3 + h) _ ?_
    obtain rfl | rfl | rfl | rfl | rfl | rfl | rfl | rfl | rfl | rfl | rfl | rfl : h = 0 ∨ h = 1 ∨ h = 2 ∨ h = 3 ∨ h = 4 ∨ h = 5 ∨ h = 6 ∨ h = 7 ∨ h = 8 ∨ h = 9 ∨ h = 10 ∨ h = 11 := by omega
    all_goals rfl
  · obtain rfl : p = 0 := by simpa using hp
    exact hB
  · simp only [List.length_nil] at hp hq; omega
  · rintro k ⟨p, hp, rfl⟩
    obtain rfl : p = 0 := by simpa using hp
    exact Nat.le_refl _

theorem seekP {w : World} {B l : Nat} {E : List Ent} {P : List Nat} (h : SkRaw w B l E P) (k : Txt) :
    Calls Try.prog 28 #[.pointer (some ⟨l, 0, none⟩), .string ⟨k.toArray⟩] w fun e w' => e = .returned (.tuple #[.string ⟨(seekE E k).1.toArray⟩, .string ⟨(seekE E k).2.1.toArray⟩, .bool (seekE E k).2.2]) ∧ Kept (fun _ => False) w w' := by
  have HF := Lib.hid (fromP h k)
  have H := Lib.hid h
  clear h
  unfold atO at HF
  by_cases hl : atE E k < E.length
  · rw [if_pos hl] at HF
    simp only [ptrO] at HF
    have e2 : seekE E k = ((E[atE E k]).1, (E[atE E k]).2.1, true) := by unfold seekE; rw [List.getElem?_eq_getElem hl]
    have hck : ∀ wn, Kept (fun _ => False) w wn → wn.cell? ⟨blkP l P (atE E k + 1), 0, none⟩ = some (.string ⟨(E[atE E k]).1.toArray⟩) ∧ wn.cell? ⟨blkP l P (atE E k + 1), 1, none⟩ = some (.string ⟨(E[atE E k]).2.1.toArray⟩) := fun wn hK => by
      obtain ⟨C, c1, _, c3, c4, _⟩ := (H.out.still hK).node _ hl
      exact ⟨c1.cell 0 _ c3, c1.cell 1 _ c4⟩
    rw [e2]
    simp only
    generalize (E[atE E k]).1 = x at hck ⊢
    generalize (E[atE E k]).2.1 = y at hck ⊢
    clear e2
    go_enter Try.func28, Try.ntmps28
    go_wp2_with (go_at_call 35; refine HF.out.mono ?_; rintro e wn ⟨rfl, hK⟩; obtain ⟨ck, cv⟩ := hck wn hK; clear hck)
    go_quiet (fail)
    go_wp2
    go_ret3
    exact ⟨rfl, hK.drewN _⟩
  · rw [if_neg hl] at HF
    simp only [ptrO] at HF
    have e2 : seekE E k = ([], [], false) := by unfold seekE; rw [List.getElem?_eq_none (by omega)]
    rw [e2]
    go_enter Try.func28, Try.ntmps28
    go_wp2_with (go_at_call 35; refine HF.out.mono ?_; rintro e wn ⟨rfl, hK⟩)
    go_ret3
    exact ⟨rfl, hK⟩

theorem lenP {w : World} {B l : Nat} {E : List Ent} {P : List Nat} (h : SkRaw w B l E P) :
    Calls Try.prog 32 #[.pointer (some ⟨l, 0, none⟩)] w fun e w' => e = .returned (.int .i64 (E.length : Int)) ∧ Kept (fun _ => False) w w' := by
  obtain ⟨C, h1, _, h3⟩ := h.head
  have c0 := h1.cell 15 _ h3
  clear h1 h3
  go_enter Try.func32, Try.ntmps32
  go_wp2
  go_ret
  exact ⟨rfl, Kept.refl _ _⟩

end Go.Proofs.Ytlmlldcpllagbaa
