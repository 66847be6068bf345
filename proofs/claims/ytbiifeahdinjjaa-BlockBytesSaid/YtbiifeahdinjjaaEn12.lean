/- The reader of a block: check, a number, a text; one entry. -/
import Derived.Test.YtbiifeahdinjjaaPackT
import Derived.Test.YtbiifeahdinjjaaBkM
import Derived.Test.YtbiifeahdinjjaaFoot
import Derived.Laws.Pointers
import Derived.Test.YtbiifeahdinjjaaOrd2
import Derived.Test.YtbiifeahdinjjaaNm12
import Derived.Test.YtbiifeahdinjjaaBkC
import Derived.Test.YtbiifeahdinjjaaRMr
import Derived.Deep.Cut
import Derived.Laws.Rows
namespace Go.Proofs.Ytbiifeahdinjjaa
open Go.RowKit Go.Proofs Go.Proofs.Pk
set_option maxRecDepth 10000
attribute [local simp] mk_get wrap64_u8 mk_extract ByteArray.mk_append_mk get_1k

/-- A reader at p, that has b still to read. -/
structure Rdr (w : World) (p : Nat) (b : Txt) : Prop where
  cell : w.cell? ⟨p, 0, none⟩ = some (.string ⟨b.toArray⟩)
  free : w.frozen? ⟨p, 0, none⟩ = false
  lt : p < w.heap.size
theorem Rdr.kept {w w' : World} {p : Nat} {b : Txt} {X : Nat → Prop} (h : Rdr w p b) (hk : Kept X w w') (hx : ¬X p) : Rdr w' p b :=
  ⟨(hk.cell (p := ⟨p, 0, none⟩) h.lt hx).trans h.cell, (hk.frozen (p := ⟨p, 0, none⟩) h.lt hx).trans h.free, Nat.lt_of_lt_of_le h.lt hk.size⟩
/-- What the reader panics with. -/
def invP : List PanicEntry := [{ v := .iface 45 (.int .i64 3), recovered := false }]
/-- What a reader's deed ends in. -/
def ReadE (p : Nat) (w : World) (ok : Prop) (v : Value) (rest : Txt) (e : Ending) (w' : World) : Prop :=
  (ok ∧ e = .returned v ∧ Rdr w' p rest ∧ Kept (fun k => k = p) w w') ∨ (¬ok ∧ e = .panicked invP ∧ Kept (fun k => k = p) w w')

theorem check_yes (w : World) : Calls Try.prog 32 #[.bool true] w fun e w' => e = .returned (.tuple #[]) ∧ Kept (fun _ => False) w w' := by
  go_enter Try.func32, Try.ntmps32
  go_wp2
  exact ⟨rfl, _, (by kernel_rfl), rfl, Kept.refl _ _⟩
theorem check_no (w : World) : Calls Try.prog 32 #[.bool false] w fun e w' => e = .panicked invP ∧ Kept (fun _ => False) w w' := by
  go_enter Try.func32, Try.ntmps32
  go_wp2
  exact ⟨rfl, rfl, Kept.refl _ _⟩
theorem checkP (b : Bool) (w : World) : Calls Try.prog 32 #[.bool b] w fun e w' => (b = true ∧ e = .returned (.tuple #[]) ∧ Kept (fun _ => False) w w') ∨ (b = false ∧ e = .panicked invP ∧ Kept (fun _ => False) w w') := by
  cases b with
  | true => exact (check_yes w).mono fun e w' h => .inl ⟨rfl, h⟩
  | false => exact (check_no w).mono fun e w' h => .inr ⟨rfl, h⟩

set_option maxHeartbeats 2000000 in
theorem rdNumP (p : Nat) (b : Txt) (w : World) (hb : (b.length : Int) ≤ 140737489000000) (h : Rdr w p b) :
    Calls Try.prog 43 #[.pointer (some ⟨p, 0, none⟩)] w (ReadE p w ((rdNum b).2.2 = 0) (.int .i64 ((rdNum b).1 : Int)) (rdNum b).2.1) := by
  have hR := pRead b w (by unfold maxLen; omega)
  have c0 := h.cell
  have HH := Lib.hid h
  obtain ⟨⟨n, rest, c⟩, hr⟩ : ∃ r, r = rdNum b := ⟨_, rfl⟩
  rw [← hr] at hR ⊢
  simp only at hR ⊢
  have HR := Lib.hid hR
  clear hR hr hb h
  rcases c with _ | c
  · rw [errV_zero] at HR
    go_enter Try.func43, Try.ntmps43
    go_wp2_with fail
    refine HR.out.mono ?_
    clear HR
    rintro e w2 ⟨rfl, hb2⟩
    have hw2 : Kept (fun _ => False) w w2 := Kept.of_below _ hb2
    have HW2 := Lib.hid hw2
    clear hb2 hw2 c0
    go_wp2_with fail
    refine (check_yes w2).mono ?_
    rintro e w3 ⟨rfl, hk3⟩
    have hb3 := HW2.out.trans hk3 (fun _ f => f.elim)
    have h2 := HH.out.kept hb3 (fun f => f)
    have f0 := h2.free
    have c2 := h2.cell
    have HK : Hid (Rdr (w3.setCell ⟨p, 0, none⟩ (.string ⟨rest.toArray⟩)) p rest ∧ Kept (fun k => k = p) w (w3.setCell ⟨p, 0, none⟩ (.string ⟨rest.toArray⟩))) :=
      ⟨⟨World.cell?_setCell_same' _ _ _ (by rw [c2]; rfl), by rw [World.frozen?_setCell]; exact f0, by simpa using h2.lt⟩, Kept.setCell (X := fun k => k = p) (hb3.mono fun _ f => f.elim) (p := ⟨p, 0, none⟩) rfl _⟩
    clear hk3 hb3 h2 HW2
    go_wp2
    go_ret
    exact .inl ⟨by simp, rfl, HK.out.1, HK.out.2⟩
  · rw [errV_succ] at HR
    go_enter Try.func43, Try.ntmps43
    go_wp2_with fail
    refine HR.out.mono ?_
    clear HR
    rintro e w2 ⟨rfl, hb2⟩
    have HK : Hid (Kept (fun k => k = p) w w2) := Kept.of_below _ hb2
    clear hb2 c0
    go_wp2_with fail
    refine (check_no w2).mono ?_
    rintro e w3 ⟨rfl, hk3⟩
    have HK3 := Lib.hid (HK.out.trans hk3 (fun _ f => f.elim))
    clear hk3 HK
    go_wp2
    exact ⟨rfl, .inr ⟨by simp, rfl, HK3.out⟩⟩

set_option maxHeartbeats 2000000 in
theorem rdTxtP (p : Nat) (b : Txt) (w : World) (hb : (b.length : Int) ≤ 140737489000000) (h : Rdr w p b) :
    Calls Try.prog 51 #[.pointer (some ⟨p, 0, none⟩)] w (ReadE p w ((rdTxt b).2.2 = 0) (.string ⟨(rdTxt b).1.toArray⟩) (rdTxt b).2.1) := by
  have hR := pReadText b w (by unfold maxLen; omega)
  have c0 := h.cell
  have HH := Lib.hid h
  obtain ⟨⟨n, rest, c⟩, hr⟩ : ∃ r, r = rdTxt b := ⟨_, rfl⟩
  rw [← hr] at hR ⊢
  simp only at hR ⊢
  have HR := Lib.hid hR
  clear hR hr hb h
  rcases c with _ | c
  · rw [errV_zero] at HR
    go_enter Try.func51, Try.ntmps51
    go_wp2_with fail
    refine HR.out.mono ?_
    clear HR
    rintro e w2 ⟨rfl, hb2⟩
    have hw2 : Kept (fun _ => False) w w2 := Kept.of_below _ hb2
    have HW2 := Lib.hid hw2
    clear hb2 hw2 c0
    go_wp2_with fail
    refine (check_yes w2).mono ?_
    rintro e w3 ⟨rfl, hk3⟩
    have hb3 := HW2.out.trans hk3 (fun _ f => f.elim)
    have h2 := HH.out.kept hb3 (fun f => f)
    have f0 := h2.free
    have c2 := h2.cell
    have HK : Hid (Rdr (w3.setCell ⟨p, 0, none⟩ (.string ⟨rest.toArray⟩)) p rest ∧ Kept (fun k => k = p) w (w3.setCell ⟨p, 0, none⟩ (.string ⟨rest.toArray⟩))) :=
      ⟨⟨World.cell?_setCell_same' _ _ _ (by rw [c2]; rfl), by rw [World.frozen?_setCell]; exact f0, by simpa using h2.lt⟩, Kept.setCell (X := fun k => k = p) (hb3.mono fun _ f => f.elim) (p := ⟨p, 0, none⟩) rfl _⟩
    clear hk3 hb3 h2 HW2
    go_wp2
    go_ret
    exact .inl ⟨by simp, rfl, HK.out.1, HK.out.2⟩
  · rw [errV_succ] at HR
    go_enter Try.func51, Try.ntmps51
    go_wp2_with fail
    refine HR.out.mono ?_
    clear HR
    rintro e w2 ⟨rfl, hb2⟩
    have HK : Hid (Kept (fun k => k = p) w w2) := Kept.of_below _ hb2
    clear hb2 c0
    go_wp2_with fail
    refine (check_no w2).mono ?_
    rintro e w3 ⟨rfl, hk3⟩
    have HK3 := Lib.hid (HK.out.trans hk3 (fun _ f => f.elim))
    clear hk3 HK
    go_wp2
    exact ⟨rfl, .inr ⟨by simp, rfl, HK3.out⟩⟩

theorem one_eq {b last : Txt} {n : Nat} {b1 : Txt} {e1 : Nat} {t b2 : Txt} {e2 q : Nat} {b3 : Txt} {e3 d : Nat} {b4 : Txt} {e4 : Nat} {v b5 : Txt} {e5 : Nat} (h1 : rdNum b = (n, b1, e1)) (h2 : rdTxt b1 = (t, b2, e2)) (h3 : rdNum b2 = (q, b3, e3)) (h4 : rdNum b3 = (d, b4, e4)) (h5 : rdTxt b4 = (v, b5, e5)) :
    rdOne b last = if e1 ≠ 0 ∨ last.length < n then (zeroM, [], false) else if e2 ≠ 0 then (zeroM, [], false) else if e3 ≠ 0 then (zeroM, [], false) else if e4 ≠ 0 ∨ 1 < d then (zeroM, [], false)
      else if d = 1 then ((last.take n ++ t, (q : Int), true, []), b4, true) else if e5 ≠ 0 then (zeroM, [], false) else ((last.take n ++ t, (q : Int), false, v), b5, true) := by
  unfold rdOne
  simp only [h1, h2, h3, h4, h5]

/-- On the way through an entry: the reader, the result's row. -/
structure EnS (w wx : World) (p rc : Nat) (b : Txt) : Prop where
  rd : Rdr wx p b
  kept : Kept (fun k => k = p) w wx
  res : Holds wx rc (entC zeroM) 37
  le : w.heap.size ≤ rc
  lt : p < w.heap.size
/-- And the entry's own row. -/
structure EnB (w wx : World) (p rc q : Nat) (b : Txt) (x : MEnt) : Prop extends EnS w wx p rc b where
  box : Holds wx q (entC x) 37
  ne : rc < q
theorem EnS.step {w wx w' : World} {p rc : Nat} {b b' : Txt} (h : EnS w wx p rc b) (hr : Rdr w' p b') (hk : Kept (fun k => k = p) wx w') : EnS w w' p rc b' :=
  ⟨hr, h.kept.trans hk (fun k hk => .inl hk), h.res.of_block (hk.block rc h.res.lt (fun e => by have := h.le; have := h.lt; omega)), h.le, h.lt⟩
theorem EnS.still {w wx w' : World} {p rc : Nat} {b : Txt} (h : EnS w wx p rc b) (hk : Kept (fun _ => False) wx w') : EnS w w' p rc b :=
  ⟨h.rd.kept hk (fun f => f), h.kept.trans hk (fun k hk => hk.elim), h.res.of_block (hk.block rc h.res.lt (fun e => e)), h.le, h.lt⟩
theorem EnS.alloc {w wx : World} {p rc : Nat} {b : Txt} (h : EnS w wx p rc b) : EnB w (wx.alloc (.cells (entC zeroM).toArray 37)) p rc wx.heap.size b zeroM :=
  ⟨h.still ((Kept.refl _ wx).alloc _), Holds.new wx (entC zeroM) 37, h.res.lt⟩
theorem EnB.step {w wx w' : World} {p rc q : Nat} {b b' : Txt} {x : MEnt} (h : EnB w wx p rc q b x) (hr : Rdr w' p b') (hk : Kept (fun k => k = p) wx w') : EnB w w' p rc q b' x :=
  ⟨h.toEnS.step hr hk, h.box.of_block (hk.block q h.box.lt (fun e => by have := h.le; have := h.lt; have := h.ne; omega)), h.ne⟩

/-- The entry's box, filled. -/
theorem EnB.store {w wx : World} {p rc q : Nat} {b : Txt} {y x : MEnt} (h : EnB w wx p rc q b y) : EnB w (wx.setCells q 0 (entC x)) p rc q b x := by
  have hq : w.heap.size ≤ q := by have := h.le; have := h.ne; omega
  have hk : Kept (fun k => k = q) wx (wx.setCells q 0 (entC x)) := Kept.setCells (X := fun k => k = q) rfl (entC x) 0 wx (Kept.refl _ _)
  have hb := h.box.setCells (entC x) 0 wx (entC y) (Nat.le_refl _)
  rw [lay_all (entC y) (entC x) rfl] at hb
  exact ⟨⟨h.rd.kept hk (fun e => by have := h.lt; omega), Kept.setCellsN hq (entC x) 0 wx h.kept, h.res.of_block (hk.block rc h.res.lt (fun e => by have := h.ne; omega)), h.le, h.lt⟩, hb, h.ne⟩
/-- One cell of the box. -/
theorem EnB.cell {w wx : World} {p rc q : Nat} {b : Txt} {y x : MEnt} (h : EnB w wx p rc q b y) (i : Nat) (v : Value) (hx : (entC y).set i v = entC x) : EnB w (wx.setCell ⟨q, i, none⟩ v) p rc q b x := by
  have hq : w.heap.size ≤ q := by have := h.le; have := h.ne; omega
  have hk : Kept (fun k => k = q) wx (wx.setCell ⟨q, i, none⟩ v) := Kept.setCell (X := fun k => k = q) (Kept.refl _ _) (p := ⟨q, i, none⟩) rfl _
  have hb := h.box.set i v
  rw [hx] at hb
  exact ⟨⟨h.rd.kept hk (fun e => by have := h.lt; omega), h.kept.setNew (p := ⟨q, i, none⟩) hq v, h.res.of_block (hk.block rc h.res.lt (fun e => by have := h.ne; omega)), h.le, h.lt⟩, hb, h.ne⟩

theorem EnB.quiet {w wx w' : World} {p rc q : Nat} {b : Txt} {x : MEnt} (h : EnB w wx p rc q b x) (hk : Kept (fun _ => False) wx w') : EnB w w' p rc q b x :=
  ⟨h.toEnS.still hk, h.box.of_block (hk.block q h.box.lt (fun e => e)), h.ne⟩

set_option maxHeartbeats 8000000 in
theorem entP (p : Nat) (b last : Txt) (i : Nat) (w : World) (hb : (b.length : Int) ≤ 140737489000000) (hll : (last.length : Int) ≤ 1000) (hi1 : (i : Int) ≤ 1000) (h : Rdr w p b) :
    Calls Try.prog 44 #[.pointer (some ⟨p, 0, none⟩), .int .i64 (i : Int), .string ⟨last.toArray⟩] w (ReadE p w (entC1 b last i = true) (.agg (entC (rdOne b last).1).toArray) (rdOne b last).2.1) := by
  obtain ⟨i0, hi, hz0, hz1, hz2⟩ := info_parts ent_info
  obtain ⟨⟨n, b1, e1⟩, r1⟩ : ∃ r, r = rdNum b := ⟨_, rfl⟩
  obtain ⟨⟨t, b2, e2⟩, r2⟩ : ∃ r, r = rdTxt b1 := ⟨_, rfl⟩
  obtain ⟨⟨q, b3, e3⟩, r3⟩ : ∃ r, r = rdNum b2 := ⟨_, rfl⟩
  obtain ⟨⟨d, b4, e4⟩, r4⟩ : ∃ r, r = rdNum b3 := ⟨_, rfl⟩
  obtain ⟨⟨v, b5, e5⟩, r5⟩ : ∃ r, r = rdTxt b4 := ⟨_, rfl⟩
  have h1 := rdNum_len b
  have h2 := rdTxt_len b1
  have h3 := rdNum_len b2
  have h4 := rdNum_len b3
  have ht := rdTxt_fst b1
  rw [← r1] at h1
  rw [← r2] at h2 ht
  rw [← r3] at h3
  rw [← r4] at h4
  simp only at h1 h2 h3 h4 ht
  have H1 := Lib.hid (fun (W : World) (h : Rdr W p b) => rdNumP p b W hb h)
  have H2 := Lib.hid (fun (W : World) (h : Rdr W p b1) => rdTxtP p b1 W (by omega) h)
  have H3 := Lib.hid (fun (W : World) (h : Rdr W p b2) => rdNumP p b2 W (by omega) h)
  have H4 := Lib.hid (fun (W : World) (h : Rdr W p b3) => rdNumP p b3 W (by omega) h)
  have H5 := Lib.hid (fun (W : World) (h : Rdr W p b4) => rdTxtP p b4 W (by omega) h)
  rw [← r1] at H1
  rw [← r2] at H2
  rw [← r3] at H3
  rw [← r4] at H4
  rw [← r5] at H5
  have hone := one_eq (last := last) r1.symm r2.symm r3.symm r4.symm r5.symm
  simp only at H1 H2 H3 H4 H5
  obtain ⟨r, hr⟩ : ∃ r, r = rdOne b last := ⟨_, rfl⟩
  obtain ⟨ok, hokd⟩ : ∃ ok, ok = entC1 b last i := ⟨_, rfl⟩
  have hko : ok = (r.2.2 && decide (n = shareB last i r.1.1)) := by rw [hokd, hr]; unfold entC1; rw [← r1]
  rw [← hr] at hone
  rw [← hr, ← hokd]
  have hbadR : Hid (r.2.2 = false → ok = false) := fun h => by rw [hko, h, Bool.false_and]
  have hkey0 : r.2.2 = true → r.1.1 = last.take n ++ t := fun h => by
    rw [hone] at h ⊢
    by_cases c1 : e1 ≠ 0 ∨ last.length < n
    · rw [if_pos c1] at h; cases h
    rw [if_neg c1] at h ⊢
    by_cases c2 : e2 ≠ 0
    · rw [if_pos c2] at h; cases h
    rw [if_neg c2] at h ⊢
    by_cases c3 : e3 ≠ 0
    · rw [if_pos c3] at h; cases h
    rw [if_neg c3] at h ⊢
    by_cases c4 : e4 ≠ 0 ∨ 1 < d
    · rw [if_pos c4] at h; cases h
    rw [if_neg c4] at h ⊢
    by_cases c5 : d = 1
    · rw [if_pos c5]
    rw [if_neg c5] at h ⊢
    by_cases c6 : e5 ≠ 0
    · rw [if_pos c6] at h; cases h
    rw [if_neg c6]
  have hbadS : Hid (n ≠ shareB last i (last.take n ++ t) → ok = false) := fun h => by
    rw [hko]
    cases hc : r.2.2 with
    | false => rfl
    | true => rw [hkey0 hc, Bool.true_and]; exact decide_eq_false h
  have hgood : Hid (n = shareB last i (last.take n ++ t) → ok = r.2.2) := fun h => by
    rw [hko]
    cases hc : r.2.2 with
    | false => rfl
    | true => rw [hkey0 hc, Bool.true_and]; exact decide_eq_true h
  have HO := Lib.hid hone
  have hov2 : min n last.length + t.length ≤ 9223372036854775807 := by omega
  have HSH := Lib.hid (fun (W : World) => pShared i last (last.take n ++ t) W hi1 (by omega) (by rw [List.length_append, List.length_take]; omega))
  have HS : Hid (EnS w (w.alloc (.cells (entC zeroM).toArray 37)) p w.heap.size b) :=
    ⟨h.kept ((Kept.refl (fun _ => False) w).alloc _) (fun f => f), (Kept.refl _ w).alloc _, Holds.new w _ _, Nat.le_refl _, h.lt⟩
  clear r1 r2 r3 r4 r5 h1 h2 h3 h4 ht hb h hr hone hko hkey0 hokd hi1
  go_enter Try.func44, Try.ntmps44
  go_wp2_with fail
  refine (H1.out _ HS.out.rd).mono ?_
  rintro e w1 (⟨g1, rfl, hr1, hk1⟩ | ⟨g1, rfl, hk1⟩)
  rotate_left
  · have HK : Hid (Kept (fun k => k = p) w w1) := HS.out.kept.trans hk1 (fun k hk => .inl hk)
    have hbad : ok = false := hbadR.out (by rw [HO.out, if_pos (.inl g1)])
    clear hk1
    go_wp2
    exact ⟨rfl, .inr ⟨by simp [hbad], rfl, HK.out⟩⟩
  have HS1 : Hid (EnS w w1 p w.heap.size b1) := HS.out.step hr1 hk1
  clear hr1 hk1 HS
  by_cases hnl : (last.length : Int) < (n : Int)
  · have hbad : ok = false := hbadR.out (by rw [HO.out, if_pos (.inr (by omega))])
    have k1 : ¬(n : Int) ≤ (last.length : Int) := by omega
    go_wp2_with fail
    rw [show decide (n ≤ List.length last) = false from decide_eq_false (by omega)]
    refine (check_no w1).mono ?_
    rintro e w2 ⟨rfl, hk2⟩
    have HK : Hid (Kept (fun k => k = p) w w2) := HS1.out.kept.trans hk2 (fun k hk => hk.elim)
    clear hk2
    go_wp2
    exact ⟨rfl, .inr ⟨by simp [hbad], rfl, HK.out⟩⟩
  have k0 : (0 : Int) ≤ (n : Int) := by omega
  have k1 : (n : Int) ≤ (last.length : Int) := by omega
  have hOne : Hid (r = if e2 ≠ 0 then (zeroM, [], false) else if e3 ≠ 0 then (zeroM, [], false) else if e4 ≠ 0 ∨ 1 < d then (zeroM, [], false)
      else if d = 1 then ((last.take n ++ t, (q : Int), true, []), b4, true) else if e5 ≠ 0 then (zeroM, [], false) else ((last.take n ++ t, (q : Int), false, v), b5, true)) := by
    show r = _
    rw [HO.out, if_neg (by rintro (h | h) <;> omega)]
  clear HO
  go_wp2_with fail
  refine (check_yes w1).mono ?_
  rintro e w1c ⟨rfl, hk1c⟩
  have HS2 : Hid (EnS w w1c p w.heap.size b1) := HS1.out.still hk1c
  clear hk1c HS1
  go_upto_region 3 with fail
  go_cut [8] from 16 (fun s8 wx => ∃ qb, s8 = .pointer (some ⟨qb, 0, none⟩) ∧ Hid (e2 = 0 ∧ EnB w wx p w.heap.size qb b2 (last.take n ++ t, 0, false, [])))
  case first =>
    have hS1 := HS2.out.still ((Kept.refl (fun _ => False) w1c).drewN 1)
    have HD := Lib.hid hS1
    clear hS1
    refine wp_region_until (fun _ => True) 8 (by kernel_rfl) ?_
    refine wpAnyU_take (i := 0) (v := (.string ⟨last.toArray⟩)) (some 16) rfl rfl (by kernel_rfl) (by kernel_rfl) (by kernel_rfl) (by kernel_rfl) (fun _ _ _ h => h) trivial (yields_of (by kernel_rfl) (fun w _ => by go_simp)) ?_
    refine wpAnyU_take (i := 1) (v := (.int .i64 (n : Int))) (some 17) rfl rfl (by kernel_rfl) (by kernel_rfl) (by kernel_rfl) (by kernel_rfl) (fun _ _ _ h => h) trivial (yields_of (by kernel_rfl) (fun w _ => by go_simp)) ?_
    refine wpAnyU_take (i := 2) (v := (.string ⟨(last.take n).toArray⟩)) (some 18) rfl rfl (by kernel_rfl) (by kernel_rfl) (by kernel_rfl) (by kernel_rfl) (fun _ _ _ h => h) trivial (yields_of (by kernel_rfl) (fun w _ => by go_simp)) ?_
    refine wpAnyU_take (i := 3) (v := (.pointer (some ⟨p, 0, none⟩))) (some 19) rfl rfl (by kernel_rfl) (by kernel_rfl) (by kernel_rfl) (by kernel_rfl) (fun _ _ _ h => h) trivial (yields_of (by kernel_rfl) (fun w _ => by go_simp)) ?_
    have badT : e2 ≠ 0 → ok = false := fun h => hbadR.out (by rw [hOne.out, if_pos h])
    refine wpAnyU_two (i := 4) (j := 7) (by kernel_rfl) ?_ ?_
    · refine wpOp_callP (f := 51) (args := #[.pointer (some ⟨p, 0, none⟩)]) (some 20) rfl rfl (by kernel_rfl) (by kernel_rfl) ?_
      refine (H2.out _ HD.out.rd).mono ?_
      rintro e wt (⟨g2, rfl, hr2, hk2⟩ | ⟨g2, rfl, hk2⟩)
      rotate_left
      · exact .inr ⟨_, rfl, rfl, .inr ⟨by rw [badT g2]; simp, rfl, HD.out.kept.trans hk2 (fun k hk => .inl hk)⟩⟩
      have HT := Lib.hid (HD.out.step hr2 hk2)
      refine .inl ⟨_, rfl, fun _ => trivial, ?_⟩
      refine wpAnyU_take (i := 5) (v := (.string ⟨(last.take n ++ t).toArray⟩)) (some 21) rfl rfl (by kernel_rfl) (by kernel_rfl) (by kernel_rfl) (by kernel_rfl) (fun _ _ _ h => h) trivial (yields_of (by kernel_rfl) (fun w _ => by go_simp; try exact hov2)) ?_
      refine wpAnyU_take (i := 6) (v := (.agg (entC (last.take n ++ t, 0, false, [])).toArray)) (some 22) rfl rfl (by kernel_rfl) (by kernel_rfl) (by kernel_rfl) (by kernel_rfl) (fun _ _ _ h => h) trivial (yields_of (by kernel_rfl) (fun w _ => by go_simp; rfl)) ?_
      refine wpAnyU_run (i := 7) (v := .pointer (some ⟨wt.heap.size, 0, none⟩)) (w' := wt.alloc (.cells (entC zeroM).toArray 37)) (some 8) rfl rfl (by kernel_rfl) (by kernel_rfl) (exec_alloc 37 rfl i0 (entC zeroM) hi hz0) (fun _ => trivial) ?_
      have HB := Lib.hid HT.out.alloc
      generalize wt.heap.size = qb at HB ⊢
      generalize wt.alloc (.cells (entC zeroM).toArray 37) = wz at HB ⊢
      refine wpAnyU_skip (i := 8) (w' := wz.setCells qb 0 (entC (last.take n ++ t, 0, false, []))) none rfl rfl (by kernel_rfl) (by kernel_rfl) (exec_store_mid 37 (.tmp 8) (.tmp 22) rfl qb 0 (entC (last.take n ++ t, 0, false, [])).toArray (by kernel_rfl) (by kernel_rfl) (HB.out.box.there 0 _ (Nat.le_refl _)) (by rw [ent_size]; rfl) (all_oneCell_toArray (entC_one _))) (fun h => absurd h (by decide)) ?_
      refine wpAnyU_done (by kernel_rfl) ?_ _
      simp only [put_none, put_lit, List.set_cons_succ, List.set_cons_zero]
      have HZ := Lib.hid (And.intro g2 (HB.out.store (x := (last.take n ++ t, 0, false, []))))
      go_wp2
      go_meet
      case rel => exact ⟨qb, rfl, HZ.out⟩
    · refine wpOp_run (v := .pointer (some ⟨w1c.drew.heap.size, 0, none⟩)) (w' := w1c.drew.alloc (.cells (entC zeroM).toArray 37)) (some 8) rfl rfl (by kernel_rfl) (exec_alloc 37 rfl i0 (entC zeroM) hi hz0) ⟨fun _ => trivial, ?_⟩
      have HB00 := Lib.hid (EnS.alloc (wx := w1c.drew) HD.out)
      generalize w1c.drew.heap.size = qb at HB00 ⊢
      generalize w1c.drew.alloc (.cells (entC zeroM).toArray 37) = wx at HB00 ⊢
      refine wpAnyU_callP (i := 4) (f := 51) (args := #[.pointer (some ⟨p, 0, none⟩)]) (some 20) rfl rfl (by kernel_rfl) (by kernel_rfl) (by kernel_rfl) ?_
      refine (H2.out _ HB00.out.rd).mono ?_
      rintro e wz (⟨g2, rfl, hr2, hk2⟩ | ⟨g2, rfl, hk2⟩)
      rotate_left
      · exact .inr ⟨_, rfl, rfl, .inr ⟨by rw [badT g2]; simp, rfl, HB00.out.kept.trans hk2 (fun k hk => .inl hk)⟩⟩
      have HB := Lib.hid (HB00.out.step hr2 hk2)
      refine .inl ⟨_, rfl, fun _ => trivial, ?_⟩
      refine wpAnyU_take (i := 5) (v := (.string ⟨(last.take n ++ t).toArray⟩)) (some 21) rfl rfl (by kernel_rfl) (by kernel_rfl) (by kernel_rfl) (by kernel_rfl) (fun _ _ _ h => h) trivial (yields_of (by kernel_rfl) (fun w _ => by go_simp; try exact hov2)) ?_
      refine wpAnyU_take (i := 6) (v := (.agg (entC (last.take n ++ t, 0, false, [])).toArray)) (some 22) rfl rfl (by kernel_rfl) (by kernel_rfl) (by kernel_rfl) (by kernel_rfl) (fun _ _ _ h => h) trivial (yields_of (by kernel_rfl) (fun w _ => by go_simp; rfl)) ?_
      refine wpAnyU_skip (i := 8) (w' := wz.setCells qb 0 (entC (last.take n ++ t, 0, false, []))) none rfl rfl (by kernel_rfl) (by kernel_rfl) (exec_store_mid 37 (.tmp 8) (.tmp 22) rfl qb 0 (entC (last.take n ++ t, 0, false, [])).toArray (by kernel_rfl) (by kernel_rfl) (HB.out.box.there 0 _ (Nat.le_refl _)) (by rw [ent_size]; rfl) (all_oneCell_toArray (entC_one _))) (fun h => absurd h (by decide)) ?_
      refine wpAnyU_done (by kernel_rfl) ?_ _
      simp only [put_none, put_lit, List.set_cons_succ, List.set_cons_zero]
      have HZ := Lib.hid (And.intro g2 (HB.out.store (x := (last.take n ++ t, 0, false, []))))
      go_wp2
      go_meet
      case rel => exact ⟨qb, rfl, HZ.out⟩
  case rest =>
    obtain ⟨qb, rfl, hB⟩ := hcut
    clear HS2 H1 H2
    obtain ⟨g2, hB⟩ := hB.out
    have HB := Lib.hid hB
    have hOne2 : Hid (r = if e3 ≠ 0 then (zeroM, [], false) else if e4 ≠ 0 ∨ 1 < d then (zeroM, [], false) else if d = 1 then ((last.take n ++ t, (q : Int), true, []), b4, true) else if e5 ≠ 0 then (zeroM, [], false) else ((last.take n ++ t, (q : Int), false, v), b5, true)) := by
      show r = _
      rw [hOne.out, if_neg (by simp [g2])]
    clear hOne hB
    obtain ⟨key, hkey⟩ : ∃ key, key = last.take n ++ t := ⟨_, rfl⟩
    rw [← hkey] at HB hOne2 HSH hbadS hgood
    obtain ⟨sh, hsh⟩ : ∃ sh, sh = shareB last i key := ⟨_, rfl⟩
    rw [← hsh] at HSH hbadS hgood
    clear hkey hsh g2 k0 k1 hnl hov2 g1
    have c0 := HB.out.box.cell 0 _ rfl
    go_wp2_with fail
    refine (HSH.out _).mono ?_
    rintro e w2 ⟨rfl, hk2⟩
    have HBs : Hid (EnB w w2 p w.heap.size qb b2 (key, 0, false, [])) := HB.out.quiet hk2
    clear hk2 HB HSH c0
    by_cases hns : n = sh
    case neg =>
      have hq : ((n : Int) == (sh : Int)) = false := by rw [beq_eq_false_iff_ne]; omega
      have hbad : ok = false := hbadS.out hns
      go_wp2_with fail
      refine (check_no w2).mono ?_
      rintro e w3 ⟨rfl, hk3⟩
      have HK : Hid (Kept (fun k => k = p) w w3) := HBs.out.kept.trans hk3 (fun k hk => hk.elim)
      clear hk3
      go_wp2
      exact ⟨rfl, .inr ⟨by simp [hbad], rfl, HK.out⟩⟩
    have hq : ((n : Int) == (sh : Int)) = true := by rw [beq_iff_eq]; omega
    have hokr : ok = r.2.2 := hgood.out hns
    clear hns hbadS hgood hbadR
    subst hokr
    go_wp2_with fail
    refine (check_yes w2).mono ?_
    rintro e w2c ⟨rfl, hk3⟩
    have HBc : Hid (EnB w w2c p w.heap.size qb b2 (key, 0, false, [])) := HBs.out.quiet hk3
    clear hk3 HBs hq
    go_wp2_with fail
    refine (H3.out _ HBc.out.rd).mono ?_
    rintro e w4 (⟨g3, rfl, hr3, hk3⟩ | ⟨g3, rfl, hk3⟩)
    rotate_left
    · have HK : Hid (Kept (fun k => k = p) w w4) := HBc.out.kept.trans hk3 (fun k hk => .inl hk)
      have hbad : r.2.2 = false := by rw [hOne2.out, if_pos g3]
      clear hk3
      go_wp2
      exact ⟨rfl, .inr ⟨by simp [hbad], rfl, HK.out⟩⟩
    have hB3 := HBc.out.step hr3 hk3
    have hTwo : Hid (r = if e4 ≠ 0 ∨ 1 < d then (zeroM, [], false) else if d = 1 then ((key, (q : Int), true, []), b4, true) else if e5 ≠ 0 then (zeroM, [], false) else ((key, (q : Int), false, v), b5, true)) := by
      show r = _
      rw [hOne2.out, if_neg (by simp [g3])]
    have s1 := hB3.box.cell 1 _ rfl
    have f1 := hB3.box.free 1
    have HB := Lib.hid (hB3.cell (x := (key, (q : Int), false, [])) 1 (.int .i64 (q : Int)) rfl)
    clear hr3 hk3 HBc hB3 g3 hOne2 H3
    go_upto_region 6 with fail
    generalize w4.setCell ⟨qb, 1, none⟩ (.int .i64 (q : Int)) = w5 at HB ⊢
    clear s1 f1
    go_wp2_with fail
    refine (H4.out _ HB.out.rd).mono ?_
    rintro e w2 (⟨g4, rfl, hr2, hk2⟩ | ⟨g4, rfl, hk2⟩)
    rotate_left
    · have HK : Hid (Kept (fun k => k = p) w w2) := HB.out.kept.trans hk2 (fun k hk => .inl hk)
      have hbad : r.2.2 = false := by rw [hTwo.out, if_pos (.inl g4)]
      clear hk2
      go_wp2
      exact ⟨rfl, .inr ⟨by simp [hbad], rfl, HK.out⟩⟩
    have HB2 := Lib.hid (HB.out.step hr2 hk2)
    clear hr2 hk2 HB H4
    by_cases hd0 : d = 0
    · subst hd0
      go_wp2_with fail
      refine (H5.out _ HB2.out.rd).mono ?_
      rintro e w3 (⟨g5, rfl, hr3, hk3⟩ | ⟨g5, rfl, hk3⟩)
      rotate_left
      · have HK : Hid (Kept (fun k => k = p) w w3) := HB2.out.kept.trans hk3 (fun k hk => .inl hk)
        have hbad : r.2.2 = false := by rw [hTwo.out, if_neg (by rintro (h | h) <;> omega), if_neg (by omega), if_pos g5]
        clear hk3
        go_wp2
        exact ⟨rfl, .inr ⟨by simp [hbad], rfl, HK.out⟩⟩
      have hB3 := HB2.out.step hr3 hk3
      have hok : Hid (r = ((key, (q : Int), false, v), b5, true)) := by
        show r = _
        rw [hTwo.out, if_neg (by rintro (h | h) <;> omega), if_neg (by omega), if_neg (by simp [g5])]
      have c3 := hB3.box.cell 3 _ rfl
      have f3 := hB3.box.free 3
      have HB4 := Lib.hid (hB3.cell (x := (key, (q : Int), false, v)) 3 (.string ⟨v.toArray⟩) rfl)
      clear hr3 hk3 HB2 hB3
      go_upto_region 12 with fail
      generalize w3.setCell ⟨qb, 3, none⟩ (.string ⟨v.toArray⟩) = wz at HB4 ⊢
      have HB5 := HB4
      have c0 := HB4.out.box.cell 0 _ rfl
      have c1 := HB4.out.box.cell 1 _ rfl
      have c2 := HB4.out.box.cell 2 _ rfl
      have c3' := HB4.out.box.cell 3 _ rfl
      have r0 := HB4.out.res.cell 0 _ rfl
      have r1 := HB4.out.res.cell 1 _ rfl
      have r2 := HB4.out.res.cell 2 _ rfl
      have r3 := HB4.out.res.cell 3 _ rfl
      have q0 := HB4.out.res.free 0
      have q1 := HB4.out.res.free 1
      have q2 := HB4.out.res.free 2
      have q3 := HB4.out.res.free 3
      clear c3 f3
      go_wp2
      have hK4 := HB5.out.kept
      have hKN : Kept (fun k => k = p) w (wz.setCells w.heap.size 0 (entC (key, (q : Int), false, v))) := Kept.setCellsN (Nat.le_refl _) _ 0 wz hK4
      have hkr : Kept (fun k => k = w.heap.size) wz (wz.setCells w.heap.size 0 (entC (key, (q : Int), false, v))) := Kept.setCells (X := fun k => k = w.heap.size) rfl _ 0 wz (Kept.refl _ _)
      have hRN := HB5.out.rd.kept hkr (fun e => by have := HB5.out.lt; omega)
      have hPN := HB5.out.res
      have hPN := hPN.setCells (entC (key, (q : Int), false, v)) 0 wz (entC zeroM) (Nat.le_refl _)
      rw [lay_all (entC zeroM) (entC (key, (q : Int), false, v)) rfl] at hPN
      change bodyPost _ _ _ _ _ (wz.setCells w.heap.size 0 (entC (key, (q : Int), false, v)))
      generalize wz.setCells w.heap.size 0 (entC (key, (q : Int), false, v)) = wv at hPN hKN hRN ⊢
      have d0 := hPN.cell 0 _ rfl
      have d1 := hPN.cell 1 _ rfl
      have d2 := hPN.cell 2 _ rfl
      have d3 := hPN.cell 3 _ rfl
      refine bodyPost_ret (v := .agg (entC (key, (q : Int), false, v)).toArray) ?_ rfl (.inl ⟨by rw [hok.out], by rw [hok.out], by rw [hok.out]; exact hRN, hKN⟩)
      exact results_cell_row rfl _ _ w.heap.size 37 (entC (key, (q : Int), false, v)).toArray _ _ rfl hPN Try.underlying37 rfl (by rw [ent_size]; rfl)
    · by_cases hd1 : d = 1
      · subst hd1
        have hB3 := HB2.out
        have hok : Hid (r = ((key, (q : Int), true, []), b4, true)) := by
          show r = _
          rw [hTwo.out, if_neg (by rintro (h | h) <;> omega), if_pos rfl]
        have c3 := hB3.box.cell 2 _ rfl
        have f3 := hB3.box.free 2
        have HB4 := Lib.hid (hB3.cell (x := (key, (q : Int), true, [])) 2 (.bool true) rfl)
        clear HB2 hB3
        go_upto_region 12 with fail
        generalize w2.setCell ⟨qb, 2, none⟩ (.bool true) = wz at HB4 ⊢
        have HB5 := HB4
        have c0 := HB4.out.box.cell 0 _ rfl
        have c1 := HB4.out.box.cell 1 _ rfl
        have c2 := HB4.out.box.cell 2 _ rfl
        have c3' := HB4.out.box.cell 3 _ rfl
        have r0 := HB4.out.res.cell 0 _ rfl
        have r1 := HB4.out.res.cell 1 _ rfl
        have r2 := HB4.out.res.cell 2 _ rfl
        have r3 := HB4.out.res.cell 3 _ rfl
        have q0 := HB4.out.res.free 0
        have q1 := HB4.out.res.free 1
        have q2 := HB4.out.res.free 2
        have q3 := HB4.out.res.free 3
        clear c3 f3
        go_wp2
        have hK4 := HB5.out.kept
        have hKN : Kept (fun k => k = p) w (wz.setCells w.heap.size 0 (entC (key, (q : Int), true, []))) := Kept.setCellsN (Nat.le_refl _) _ 0 wz hK4
        have hkr : Kept (fun k => k = w.heap.size) wz (wz.setCells w.heap.size 0 (entC (key, (q : Int), true, []))) := Kept.setCells (X := fun k => k = w.heap.size) rfl _ 0 wz (Kept.refl _ _)
        have hRN := HB5.out.rd.kept hkr (fun e => by have := HB5.out.lt; omega)
        have hPN := HB5.out.res
        have hPN := hPN.setCells (entC (key, (q : Int), true, [])) 0 wz (entC zeroM) (Nat.le_refl _)
        rw [lay_all (entC zeroM) (entC (key, (q : Int), true, [])) rfl] at hPN
        change bodyPost _ _ _ _ _ (wz.setCells w.heap.size 0 (entC (key, (q : Int), true, [])))
        generalize wz.setCells w.heap.size 0 (entC (key, (q : Int), true, [])) = wv at hPN hKN hRN ⊢
        have d0 := hPN.cell 0 _ rfl
        have d1 := hPN.cell 1 _ rfl
        have d2 := hPN.cell 2 _ rfl
        have d3 := hPN.cell 3 _ rfl
        refine bodyPost_ret (v := .agg (entC (key, (q : Int), true, [])).toArray) ?_ rfl (.inl ⟨by rw [hok.out], by rw [hok.out], by rw [hok.out]; exact hRN, hKN⟩)
        exact results_cell_row rfl _ _ w.heap.size 37 (entC (key, (q : Int), true, [])).toArray _ _ rfl hPN Try.underlying37 rfl (by rw [ent_size]; rfl)
      · have hbad : r.2.2 = false := by rw [hTwo.out, if_pos (.inr (by omega))]
        have z0 : ((d : Int) == 0) = false := by rw [beq_eq_false_iff_ne]; omega
        have z1 : ((d : Int) == 1) = false := by rw [beq_eq_false_iff_ne]; omega
        have HK := Lib.hid HB2.out.kept
        go_wp2_with fail
        refine (check_no _).mono ?_
        rintro e w3 ⟨rfl, hk3⟩
        have HK3 := Lib.hid (HK.out.trans hk3 (fun _ f => f.elim))
        clear hk3
        go_wp2
        exact ⟨rfl, .inr ⟨by simp [hbad], rfl, HK3.out⟩⟩

end Go.Proofs.Ytbiifeahdinjjaa
