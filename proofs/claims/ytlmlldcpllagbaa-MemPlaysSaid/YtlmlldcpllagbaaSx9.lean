/- The search of the landed list, which descends with a goto: printed by gensx9.py. -/
import Derived.Test.YtlmlldcpllagbaaSkJ
import Derived.Test.YtlmlldcpllagbaaSkB
import Derived.Sort.Walk0
import Derived.ScopeJumps
import Derived.WalkMore
import Derived.Deep.LoopGhost
import Derived.BigQuiet
import Derived.Deep.Cut
import Derived.Laws.Rows
namespace Go.Proofs.Ytlmlldcpllagbaa
open Go.RowKit Go.Proofs Go.Proofs.Pk
set_option maxRecDepth 10000
attribute [local simp] mk_get wrap64_u8 mk_extract ByteArray.mk_append_mk get_1k

/-- What the search reads: the nodes' links and keys. -/
structure RdS (w : World) (l : Nat) (E : List Ent) (P : List Nat) : Prop where
  len : P.length = E.length
  link : ∀ p h, p ≤ E.length → h < 12 → (0 < p → ∀ hp : p - 1 < E.length, h < (E[p - 1]).2.2) → w.cell? ⟨blkP l P p, 3 + h, none⟩ = some (ptrO (linkE E P p h))
  key : ∀ i (hi : i < E.length), w.cell? ⟨blkP l P (i + 1), 0, none⟩ = some (.string ⟨(E[i]).1.toArray⟩)
  off : ∀ p, p ≤ E.length → blkP l P p < w.heap.size
theorem RdS.kept {w w' : World} {l : Nat} {E : List Ent} {P : List Nat} (h : RdS w l E P) (hk : Kept (fun _ => False) w w') : RdS w' l E P :=
  ⟨h.len, fun p n h1 h2 h3 => by rw [hk.cell (p := ⟨blkP l P p, 3 + n, none⟩) (h.off p h1) (fun f => f)]; exact h.link p n h1 h2 h3,
   fun i hi => by rw [hk.cell (p := ⟨blkP l P (i + 1), 0, none⟩) (h.off (i + 1) hi) (fun f => f)]; exact h.key i hi,
   fun p h1 => Nat.lt_of_lt_of_le (h.off p h1) hk.size⟩
theorem link_cases (E : List Ent) (P : List Nat) (l : Nat) (p h : Nat) (hl : P.length = E.length) : (linkE E P p h = none ∧ nxtE E p h = none) ∨ ∃ j, nxtE E p h = some j ∧ j < E.length ∧ linkE E P p h = some (blkP l P (j + 1)) := by
  unfold linkE
  cases e : nxtE E p h with
  | none => exact .inl ⟨rfl, rfl⟩
  | some j =>
    have hj := (nxt_some e).2.1
    refine .inr ⟨j, rfl, hj, ?_⟩
    show P[j]? = _
    simp [blkP, List.getD, List.getElem?_eq_getElem (show j < P.length by omega)]
/-- A scope whose run jumps back to one label, the way to the label and the passes each walked once. -/
theorem wp_scope_label {P : Program} {a : Act} {w : World} {Q : Exit → Act → World → Prop} {c next : Code} (l : Nat) (J : Act → World → Prop) (μ : Act → World → Nat) (hf : findLabel c l = some (Code.skip.seq next))
    (start : ∀ Q' : Exit → Act → World → Prop, (∀ a w, J a w → next.wp P Q' a w) → c.wp P Q' a w)
    (pass : ∀ a w, J a w → next.wp P (Exit.jump l (fun a' w' => J a' w' ∧ μ a' w' < μ a w) Q) a w) : (Code.scope c).wp P Q a w :=
  wp_scope_jumps l J μ hf (start _ fun a w h => Code.wp_mono (fun e a w hq => by cases e <;> first | exact hq | exact ⟨hq.1, hq.2.1⟩) (pass a w h)) fun a w h => wp_seq (wp_skip (pass a w h))

/-- The array of 12 links. -/
def nilC : List Value := List.replicate 12 (.pointer none)
theorem links_size : (Try.prog.info? 68).map (·.size) = some 12 := by kernel_rfl
theorem links_zero : (Try.prog.info? 68).map (fun i => i.zero) = some (some (.agg nilC.toArray)) := by kernel_rfl
theorem links_info : ∃ i, Try.prog.info? 68 = some i ∧ i.zero = some (.agg nilC.toArray) := by
  have h := links_zero
  cases hq : Try.prog.info? 68 with
  | none => rw [hq] at h; cases h
  | some i => rw [hq] at h; exact ⟨i, rfl, Option.some.inj h⟩
/-- What the search answers: in each lane the last place ahead of the key. -/
def PathC (C : List Value) (l : Nat) (P : List Nat) (E : List Ent) (k : Txt) (h : Nat) : Prop :=
  ∀ h', h ≤ h' → h' < 12 → ∃ p', AtP E k p' h' ∧ Bare E p' (atE E k) h' ∧ C[h']? = some (.pointer (some ⟨blkP l P p', 0, none⟩))
/-- What the search has laid from a lane on. -/
def OutS (w' : World) (o : Nat) (l : Nat) (P : List Nat) (E : List Ent) (k : Txt) (h : Nat) : Prop :=
  ∃ C, Holds w' o C 68 ∧ C.length = 12 ∧ PathC C l P E k h
def PathS (w' : World) (o : Nat) (l : Nat) (P : List Nat) (E : List Ent) (k : Txt) : Prop := OutS w' o l P E k 0
/-- What stays: all that was there ahead of the search, and the row for its answer. -/
structure KeptS (w w' : World) (r : Nat) : Prop where
  kept : Kept (fun _ => False) w w'
  row : ∃ Z, Holds w' r Z 68 ∧ Z.length = 12
theorem KeptS.set {w w' : World} {r o : Nat} (h : KeptS w w' r) (ho : w.heap.size ≤ o) (hr : w.heap.size ≤ r ∧ r ≠ o) (n : Nat) (v : Value) : KeptS w (w'.setCell ⟨o, n, none⟩ v) r :=
  ⟨h.kept.setNew (p := ⟨o, n, none⟩) ho v, by obtain ⟨Z, h1, h2⟩ := h.row; exact ⟨Z, h1.ne hr.2 n v, h2⟩⟩
/-- The answer of the search. -/
def BefS (w : World) (l : Nat) (P : List Nat) (E : List Ent) (k : Txt) (e : Ending) (w' : World) : Prop :=
  ∃ C, e = .returned (.agg C.toArray) ∧ C.length = 12 ∧ PathC C l P E k 0 ∧ Kept (fun _ => False) w w'
theorem path_one {C : List Value} {l : Nat} {P : List Nat} {E : List Ent} {k : Txt} (hC : PathC C l P E k 0) (hl : C.length = 12) : ∀ v ∈ C, v.oneCell' = true := by
  intro v hv
  obtain ⟨i, hi, rfl⟩ := List.getElem_of_mem hv
  obtain ⟨p', _, _, h3⟩ := hC i (Nat.zero_le _) (by omega)
  rw [List.getElem?_eq_getElem hi] at h3
  rw [Option.some.inj h3]; rfl
def JS (w : World) (l r o : Nat) (E : List Ent) (P : List Nat) (k : Txt) (a' : Act) (w' : World) : Prop :=
  ∃ (p h : Nat) (u2 u3 u8 u9 u10 u11 u12 u13 u14 u15 u16 u17 u18 u19 u20 u21 u22 u23 u24 u25 u26 u27 u28 u29 u30 u31 u32 u33 u34 u35 u36 u37 u38 u39 u40 u41 u42 u43 u44 : Value), a' = { tmps := #[.pointer (some ⟨l, 0, none⟩), .string ⟨k.toArray⟩, u2, u3, .pointer (some ⟨r, 0, none⟩), .pointer (some ⟨o, 0, none⟩), .pointer (some ⟨blkP l P p, 0, none⟩), .int .i64 (h : Int), u8, u9, u10, u11, u12, u13, u14, u15, u16, u17, u18, u19, u20, u21, u22, u23, u24, u25, u26, u27, u28, u29, u30, u31, u32, u33, u34, u35, u36, u37, u38, u39, u40, u41, u42, u43, u44], defers := [] } ∧ h < 12 ∧ KeptS w w' r ∧ AtP E k p h ∧ OutS w' o l P E k (h + 1)

set_option maxHeartbeats 4000000 in
theorem beforeP (w : World) (l : Nat) (E : List Ent) (P : List Nat) (k : Txt) (hE : SkOk E) (hr : RdS w l E P) :
    Calls Try.prog 34 #[.pointer (some ⟨l, 0, none⟩), .string ⟨k.toArray⟩] w (BefS w l P E k) := by
  have HR := Lib.hid hr
  clear hr
  obtain ⟨iL, hiL, hzL⟩ := links_info
  obtain ⟨r, hrr⟩ : ∃ r, r = w.heap.size := ⟨_, rfl⟩
  obtain ⟨o, hoo⟩ : ∃ o, o = w.heap.size + 1 := ⟨_, rfl⟩
  have hO : Hid (w.heap.size ≤ o ∧ w.heap.size ≤ r ∧ r ≠ o) := by refine ⟨?_, ?_, ?_⟩ <;> omega
  have HS : Hid (KeptS w ((w.alloc (.cells nilC.toArray 68)).alloc (.cells nilC.toArray 68)) r ∧ OutS ((w.alloc (.cells nilC.toArray 68)).alloc (.cells nilC.toArray 68)) o l P E k 12) := by
    have h1 := Holds.new w nilC 68
    have h2 := Holds.new (w.alloc (.cells nilC.toArray 68)) nilC 68
    refine ⟨⟨((Kept.refl _ w).alloc _).alloc _, nilC, by rw [hrr]; exact h1.alloc _, rfl⟩, nilC, ?_, rfl, fun h' h1 h2 => by omega⟩
    have e : (w.alloc (.cells nilC.toArray 68)).heap.size = o := by rw [hoo]; exact Array.size_push ..
    rw [e] at h2; exact h2
  go_enter Try.func34, Try.ntmps34
  go_wp2
  refine wp_scope_label 0 (JS w l r o E P k) (fun a' _ => (intOf (a'.tmps.getD 7 undef)).toNat) rfl ?_ ?_
  · intro Q' hrest
    subst hrr hoo
    go_wp2
    go_step3
    rename_i KK hKK
    refine hKK _ _ (hrest _ _ ⟨0, 11, _, _, _, _, _, _, _, _, _, _, _, _, _, _, _, _, _, _, _, _, _, _, _, _, _, _, _, _, _, _, _, _, _, _, _, _, _, _, _, rfl, by omega, HS.out.1, AtP.start E k 11, HS.out.2⟩)
  · rintro a' w' ⟨p, h, u2, u3, u8, u9, u10, u11, u12, u13, u14, u15, u16, u17, u18, u19, u20, u21, u22, u23, u24, u25, u26, u27, u28, u29, u30, u31, u32, u33, u34, u35, u36, u37, u38, u39, u40, u41, u42, u43, u44, rfl, hh, hk, hp, ho⟩
    have h0 : (0 : Int) ≤ (h : Int) := by omega
    have h12 : (h : Int) < 12 := by omega
    have hple := hp.le
    have HP := Lib.hid hp
    have HI0 : Hid (KeptS w w' r ∧ OutS w' o l P E k (h + 1)) := ⟨hk, ho⟩
    clear hp hk ho HS hrr hoo hiL hzL
    go_wp2
    go_loopg [6] (atE E k - p) (fun g s6 wx => ∃ p2, p2 + g = atE E k ∧ s6 = .pointer (some ⟨blkP l P p2, 0, none⟩) ∧ Hid (AtP E k p2 h) ∧ Hid (KeptS w wx r ∧ OutS wx o l P E k (h + 1)))
    case atStart => exact ⟨p, by omega, rfl, HP, HI0⟩
    case round =>
      obtain ⟨p2, hpg, rfl, hA, hI⟩ := hrel
      clear HP HI0
      have hle := atE_le k E
      have hR := HR.out.kept hI.out.1.kept
      have c0 := hR.link p2 h (by omega) hh (fun h1 h2 => hA.out.tall h1 h2)
      rcases link_cases E P l p2 h hR.len with ⟨e1, e2⟩ | ⟨j, e2, hj, e1⟩
      · rw [e1] at c0
        simp only [ptrO] at c0
        clear hR hle e1
        have hbare : Bare E p2 (atE E k) h := bare_stop (fun j he => by rw [e2] at he; cases he)
        obtain ⟨C, hC, hCl, hCo⟩ := hI.out.2
        obtain ⟨v, hv⟩ : ∃ v, C[h]? = some v := ⟨C[h]'(by omega), List.getElem?_eq_getElem (by omega)⟩
        have co := hC.cell h v hv
        have cf := hC.free h
        have HOut : Hid (OutS (wr.setCell ⟨o, h, none⟩ (.pointer (some ⟨blkP l P p2, 0, none⟩))) o l P E k h) := by
          refine ⟨_, hC.set h _, by rw [List.length_set]; exact hCl, fun h' h1 h2 => ?_⟩
          by_cases he : h' = h
          · subst he
            exact ⟨p2, hA.out, hbare, by simp [hCl, h2]⟩
          · obtain ⟨p', q1, q2, q3⟩ := hCo h' (by omega) h2
            exact ⟨p', q1, q2, by rw [List.getElem?_set_ne (fun e => he e.symm)]; exact q3⟩
        have HK2 : Hid (KeptS w (wr.setCell ⟨o, h, none⟩ (.pointer (some ⟨blkP l P p2, 0, none⟩))) r) := hI.out.1.set hO.out.1 hO.out.2 _ _
        have HAt := Lib.hid (And.intro hA.out hbare)
        clear hbare hC hCl hCo hv hA hI
        by_cases hpos : 0 < h
        · have hp1 : (0 : Int) < (h : Int) := by omega
          have hpd : decide ((0 : Int) < (h : Int)) = true := by simpa using hpos
          have hwh : IntKind.i64.wrap ((h : Int) - 1) = ((h - 1 : Nat) : Int) := by rw [IntWalk.i64_in _ (by omega)]; omega
          have HD : Hid (AtP E k p2 (h - 1)) := AtP.down (by rw [show h - 1 + 1 = h from by omega]; exact HAt.out.1)
          have HO2 : Hid (OutS (wr.setCell ⟨o, h, none⟩ (.pointer (some ⟨blkP l P p2, 0, none⟩))) o l P E k (h - 1 + 1)) := by rw [show h - 1 + 1 = h from by omega]; exact HOut.out
          go_wp2
          try go_step3
          refine ⟨rfl, ⟨p2, h - 1, _, _, _, _, _, _, _, _, _, _, _, _, _, _, _, _, _, _, _, _, _, _, _, _, _, _, _, _, _, _, _, _, _, _, _, _, _, _, _, rfl, by omega, HK2.out, HD.out, HO2.out⟩, ?_⟩
          simp [intOf]
          omega
        · have hp1 : ¬(0 : Int) < (h : Int) := by omega
          have hpd : decide ((0 : Int) < (h : Int)) = false := by simpa using hpos
          have hz : Hid (h = 0) := by show _ = _; omega
          have HF : Hid (PathS (wr.setCell ⟨o, h, none⟩ (.pointer (some ⟨blkP l P p2, 0, none⟩))) o l P E k) := by
            have e := hz.out
            have := HOut.out
            rw [e] at this ⊢
            exact this
          clear hz HOut HAt
          go_upto_region 8 with (fail)
          obtain ⟨wy, hwy⟩ : ∃ wy, wy = wr.setCell ⟨o, h, none⟩ (.pointer (some ⟨blkP l P p2, 0, none⟩)) := ⟨_, rfl⟩
          rw [← hwy] at HF HK2 ⊢
          clear hwy co cf
          obtain ⟨C, hC, hCl, hCP⟩ := HF.out
          obtain ⟨Z, hZ, hZl⟩ := HK2.out.row
          have hone := all_oneCell_toArray (path_one hCP hCl)
          have hrng := hC.range 0 C (fun j v hv => by rw [Nat.zero_add]; exact hv)
          have HZ2 := hZ.setCells C 0 wy Z (by omega)
          rw [lay_all _ _ (by omega)] at HZ2
          have HC := Lib.hid (And.intro hCl hCP)
          have HKZ : Hid (Kept (fun _ => False) w (wy.setCells r 0 C)) := Kept.setCellsN hO.out.2.1 C 0 wy HK2.out.kept
          refine wp_region_lit ?_
          refine wpList_load_mid rfl 68 (.tmp 5) rfl o 0 rfl C _ hrng Try.underlying68 rfl (by rw [links_size, HC.out.1]) ?_
          refine wpList_store_mid rfl 68 (.tmp 4) (.tmp 44) rfl r 0 C.toArray rfl rfl (hZ.there 0 _ (by simp; omega)) (by rw [links_size]; simp [hCl]) hone ?_
          refine wpList_nil ?_
          change Exit.then _ _ _ _ (wy.setCells r 0 C)
          generalize wy.setCells r 0 C = wz at HZ2 HKZ ⊢
          clear hC hCl hCP hone hrng hZ hZl HF HK2
          go_wp2
          try simp only [Exit.jump]
          exact bodyPost_ret (results_cell_row rfl _ _ r 68 C.toArray _ _ rfl HZ2 Try.underlying68 rfl (by rw [links_size]; simp [HC.out.1])) rfl ⟨C, rfl, HC.out.1, HC.out.2, HKZ.out⟩
      · rw [e1] at c0
        simp only [ptrO] at c0
        have ck := hR.key j hj
        have hAr := fun hlt => hA.out.right hE e2 hj hlt
        have hpj := (nxt_some e2).1
        by_cases hlt : (E[j]).1 < k
        · have hA2 := hAr hlt
          have hjle := hA2.le
          have HA2 := Lib.hid hA2
          have hlb : Op.bytesLess (E[j]).1 k = true := by rw [bytesLess_eq]; simpa using hlt
          generalize (E[j]).1 = x at ck hlb
          clear hR hle e1 e2 hAr hlt hA2 hA
          go_wp2
          go_roundg (atE E k - (j + 1))
          case measure => omega
          case rel => exact ⟨j + 1, by omega, rfl, HA2, hI⟩
        · have hlb : Op.bytesLess (E[j]).1 k = false := by rw [bytesLess_eq]; simpa using hlt
          have HStop : Hid (∀ j', nxtE E p2 h = some j' → ∀ hj' : j' < E.length, ¬(E[j']).1 < k) := fun j' he hj' => by
            rw [e2] at he
            injection he with he
            subst he
            exact hlt
          generalize (E[j]).1 = x at ck hlb
          clear hR hle e1 e2 hAr hlt
          have hbare : Bare E p2 (atE E k) h := bare_stop HStop.out
          obtain ⟨C, hC, hCl, hCo⟩ := hI.out.2
          obtain ⟨v, hv⟩ : ∃ v, C[h]? = some v := ⟨C[h]'(by omega), List.getElem?_eq_getElem (by omega)⟩
          have co := hC.cell h v hv
          have cf := hC.free h
          have HOut : Hid (OutS (wr.setCell ⟨o, h, none⟩ (.pointer (some ⟨blkP l P p2, 0, none⟩))) o l P E k h) := by
            refine ⟨_, hC.set h _, by rw [List.length_set]; exact hCl, fun h' h1 h2 => ?_⟩
            by_cases he : h' = h
            · subst he
              exact ⟨p2, hA.out, hbare, by simp [hCl, h2]⟩
            · obtain ⟨p', q1, q2, q3⟩ := hCo h' (by omega) h2
              exact ⟨p', q1, q2, by rw [List.getElem?_set_ne (fun e => he e.symm)]; exact q3⟩
          have HK2 : Hid (KeptS w (wr.setCell ⟨o, h, none⟩ (.pointer (some ⟨blkP l P p2, 0, none⟩))) r) := hI.out.1.set hO.out.1 hO.out.2 _ _
          have HAt := Lib.hid (And.intro hA.out hbare)
          clear hbare hC hCl hCo hv hA hI
          by_cases hpos : 0 < h
          · have hp1 : (0 : Int) < (h : Int) := by omega
            have hpd : decide ((0 : Int) < (h : Int)) = true := by simpa using hpos
            have hwh : IntKind.i64.wrap ((h : Int) - 1) = ((h - 1 : Nat) : Int) := by rw [IntWalk.i64_in _ (by omega)]; omega
            have HD : Hid (AtP E k p2 (h - 1)) := AtP.down (by rw [show h - 1 + 1 = h from by omega]; exact HAt.out.1)
            have HO2 : Hid (OutS (wr.setCell ⟨o, h, none⟩ (.pointer (some ⟨blkP l P p2, 0, none⟩))) o l P E k (h - 1 + 1)) := by rw [show h - 1 + 1 = h from by omega]; exact HOut.out
            go_wp2
            try go_step3
            refine ⟨rfl, ⟨p2, h - 1, _, _, _, _, _, _, _, _, _, _, _, _, _, _, _, _, _, _, _, _, _, _, _, _, _, _, _, _, _, _, _, _, _, _, _, _, _, _, _, rfl, by omega, HK2.out, HD.out, HO2.out⟩, ?_⟩
            simp [intOf]
            omega
          · have hp1 : ¬(0 : Int) < (h : Int) := by omega
            have hpd : decide ((0 : Int) < (h : Int)) = false := by simpa using hpos
            have hz : Hid (h = 0) := by show _ = _; omega
            have HF : Hid (PathS (wr.setCell ⟨o, h, none⟩ (.pointer (some ⟨blkP l P p2, 0, none⟩))) o l P E k) := by
              have e := hz.out
              have := HOut.out
              rw [e] at this ⊢
              exact this
            clear hz HOut HAt
            go_upto_region 8 with (fail)
            obtain ⟨wy, hwy⟩ : ∃ wy, wy = wr.setCell ⟨o, h, none⟩ (.pointer (some ⟨blkP l P p2, 0, none⟩)) := ⟨_, rfl⟩
            rw [← hwy] at HF HK2 ⊢
            clear hwy co cf
            obtain ⟨C, hC, hCl, hCP⟩ := HF.out
            obtain ⟨Z, hZ, hZl⟩ := HK2.out.row
            have hone := all_oneCell_toArray (path_one hCP hCl)
            have hrng := hC.range 0 C (fun j v hv => by rw [Nat.zero_add]; exact hv)
            have HZ2 := hZ.setCells C 0 wy Z (by omega)
            rw [lay_all _ _ (by omega)] at HZ2
            have HC := Lib.hid (And.intro hCl hCP)
            have HKZ : Hid (Kept (fun _ => False) w (wy.setCells r 0 C)) := Kept.setCellsN hO.out.2.1 C 0 wy HK2.out.kept
            refine wp_region_lit ?_
            refine wpList_load_mid rfl 68 (.tmp 5) rfl o 0 rfl C _ hrng Try.underlying68 rfl (by rw [links_size, HC.out.1]) ?_
            refine wpList_store_mid rfl 68 (.tmp 4) (.tmp 44) rfl r 0 C.toArray rfl rfl (hZ.there 0 _ (by simp; omega)) (by rw [links_size]; simp [hCl]) hone ?_
            refine wpList_nil ?_
            change Exit.then _ _ _ _ (wy.setCells r 0 C)
            generalize wy.setCells r 0 C = wz at HZ2 HKZ ⊢
            clear hC hCl hCP hone hrng hZ hZl HF HK2
            go_wp2
            try simp only [Exit.jump]
            exact bodyPost_ret (results_cell_row rfl _ _ r 68 C.toArray _ _ rfl HZ2 Try.underlying68 rfl (by rw [links_size]; simp [HC.out.1])) rfl ⟨C, rfl, HC.out.1, HC.out.2, HKZ.out⟩

end Go.Proofs.Ytlmlldcpllagbaa
