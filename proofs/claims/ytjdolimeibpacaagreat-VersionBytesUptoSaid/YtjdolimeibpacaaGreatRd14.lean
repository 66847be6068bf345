/- The reference of layer 14: its reader: a number, a text, a list of numbers. -/
import Derived.Test.YtjdolimeibpacaaGreatVnB
import Derived.Test.YtjdolimeibpacaaGreatOw14
import Derived.Test.YtjdolimeibpacaaGreatJ05
import Derived.Test.YtjdolimeibpacaaGreatRefT
import Derived.Laws.Pointers
import Derived.Deep.Cut
namespace Go.Proofs.YtjdolimeibpacaaGreat
open Go.RowKit Go.Proofs Go.Proofs.Pk
set_option maxRecDepth 10000
attribute [local simp] mk_get wrap64_u8 mk_extract ByteArray.mk_append_mk get_1k

/-- A reader: what is left, whether it was none. -/
def RdV (w : World) (p : Nat) (b : VTxt) (bad : Bool) : Prop := Holds w p [.string ⟨b.toArray⟩, .bool bad] 72
theorem RdV.kept {w w' : World} {p : Nat} {b : VTxt} {bad : Bool} {X : Nat → Prop} (h : RdV w p b bad) (hk : Kept X w w') (hx : ¬X p) : RdV w' p b bad := Holds.of_block h (hk.block p (Holds.lt h) hx)

set_option maxHeartbeats 2000000 in
theorem refRdNum (p : Nat) (b : VTxt) (bad : Bool) (w : World) (hb : b.length ≤ maxLen) (h : RdV w p b bad) :
    Calls Tryz.prog 27 #[.pointer (some ⟨p, 0, none⟩)] w fun e w' => e = .returned (.int .i64 ((rdNum b).1 : Int)) ∧ RdV w' p (rdNum b).2.1 (bad || decide ((rdNum b).2.2 ≠ 0)) ∧ Kept (fun k => k = p) w w' := by
  have hR := rRead b w hb
  have c0 := Holds.cell h 0 _ rfl
  have HH := Lib.hid h
  obtain ⟨⟨n, rest, c⟩, hr⟩ : ∃ r, r = rdNum b := ⟨_, rfl⟩
  rw [← hr] at hR ⊢
  simp only at hR ⊢
  have HR := Lib.hid hR
  clear hR hr hb h
  by_cases hc : c = 0
  · subst hc
    rw [show (bad || decide ((0 : Nat) ≠ 0)) = bad from by simp]
    go_enter Tryz.func27, Tryz.ntmps27
    go_wp2_with fail
    refine HR.out.mono ?_
    clear HR
    rintro e w2 ⟨rfl, hb2⟩
    have h2 := HH.out.kept (Kept.of_below (fun _ => False) hb2) (fun f => f)
    have c2 := Holds.cell h2 0 _ rfl
    have f2 := Holds.free h2 0
    have HN : Hid (RdV (w2.setCell ⟨p, 0, none⟩ (.string ⟨rest.toArray⟩)) p rest bad ∧ Kept (fun k => k = p) w (w2.setCell ⟨p, 0, none⟩ (.string ⟨rest.toArray⟩))) :=
      ⟨Holds.set h2 0 (.string ⟨rest.toArray⟩), Kept.setCell (X := fun k => k = p) (Kept.of_below _ hb2) (p := ⟨p, 0, none⟩) rfl _⟩
    clear hb2 h2 c0
    go_wp2
    go_ret
    exact ⟨rfl, HN.out.1, HN.out.2⟩
  · have hcb : ((c : Int) == 0) = false := by rw [beq_eq_false_iff_ne]; omega
    rw [show (bad || decide (c ≠ 0)) = true from by simp [hc]]
    clear hc
    go_enter Tryz.func27, Tryz.ntmps27
    go_wp2_with fail
    refine HR.out.mono ?_
    clear HR
    rintro e w2 ⟨rfl, hb2⟩
    have h2 := HH.out.kept (Kept.of_below (fun _ => False) hb2) (fun f => f)
    have c2 := Holds.cell h2 1 _ rfl
    have f2 := Holds.free h2 1
    have h3 : RdV (w2.setCell ⟨p, 1, none⟩ (.bool true)) p b true := Holds.set h2 1 (.bool true)
    have c3 := Holds.cell h3 0 _ rfl
    have f3 := Holds.free h3 0
    have HN : Hid (RdV ((w2.setCell ⟨p, 1, none⟩ (.bool true)).setCell ⟨p, 0, none⟩ (.string ⟨rest.toArray⟩)) p rest true ∧ Kept (fun k => k = p) w ((w2.setCell ⟨p, 1, none⟩ (.bool true)).setCell ⟨p, 0, none⟩ (.string ⟨rest.toArray⟩))) :=
      ⟨Holds.set h3 0 (.string ⟨rest.toArray⟩), (Kept.setCell (X := fun k => k = p) (Kept.of_below _ hb2) (p := ⟨p, 1, none⟩) rfl _).setCell (p := ⟨p, 0, none⟩) rfl _⟩
    clear hb2 h2 c0 h3
    go_wp2
    go_ret
    exact ⟨rfl, HN.out.1, HN.out.2⟩

set_option maxHeartbeats 2000000 in
theorem refRdText (p : Nat) (b : VTxt) (bad : Bool) (w : World) (hb : b.length ≤ maxLen) (h : RdV w p b bad) :
    Calls Tryz.prog 28 #[.pointer (some ⟨p, 0, none⟩)] w fun e w' => e = .returned (.string ⟨(rdTxt b).1.toArray⟩) ∧ RdV w' p (rdTxt b).2.1 (bad || decide ((rdTxt b).2.2 ≠ 0)) ∧ Kept (fun k => k = p) w w' := by
  have hR := rReadText b w hb
  have c0 := Holds.cell h 0 _ rfl
  have HH := Lib.hid h
  obtain ⟨⟨n, rest, c⟩, hr⟩ : ∃ r, r = rdTxt b := ⟨_, rfl⟩
  rw [← hr] at hR ⊢
  simp only at hR ⊢
  have HR := Lib.hid hR
  clear hR hr hb h
  by_cases hc : c = 0
  · subst hc
    rw [show (bad || decide ((0 : Nat) ≠ 0)) = bad from by simp]
    go_enter Tryz.func28, Tryz.ntmps28
    go_wp2_with fail
    refine HR.out.mono ?_
    clear HR
    rintro e w2 ⟨rfl, hb2⟩
    have h2 := HH.out.kept (Kept.of_below (fun _ => False) hb2) (fun f => f)
    have c2 := Holds.cell h2 0 _ rfl
    have f2 := Holds.free h2 0
    have HN : Hid (RdV (w2.setCell ⟨p, 0, none⟩ (.string ⟨rest.toArray⟩)) p rest bad ∧ Kept (fun k => k = p) w (w2.setCell ⟨p, 0, none⟩ (.string ⟨rest.toArray⟩))) :=
      ⟨Holds.set h2 0 (.string ⟨rest.toArray⟩), Kept.setCell (X := fun k => k = p) (Kept.of_below _ hb2) (p := ⟨p, 0, none⟩) rfl _⟩
    clear hb2 h2 c0
    go_wp2
    go_ret
    exact ⟨rfl, HN.out.1, HN.out.2⟩
  · have hcb : ((c : Int) == 0) = false := by rw [beq_eq_false_iff_ne]; omega
    rw [show (bad || decide (c ≠ 0)) = true from by simp [hc]]
    clear hc
    go_enter Tryz.func28, Tryz.ntmps28
    go_wp2_with fail
    refine HR.out.mono ?_
    clear HR
    rintro e w2 ⟨rfl, hb2⟩
    have h2 := HH.out.kept (Kept.of_below (fun _ => False) hb2) (fun f => f)
    have c2 := Holds.cell h2 1 _ rfl
    have f2 := Holds.free h2 1
    have h3 : RdV (w2.setCell ⟨p, 1, none⟩ (.bool true)) p b true := Holds.set h2 1 (.bool true)
    have c3 := Holds.cell h3 0 _ rfl
    have f3 := Holds.free h3 0
    have HN : Hid (RdV ((w2.setCell ⟨p, 1, none⟩ (.bool true)).setCell ⟨p, 0, none⟩ (.string ⟨rest.toArray⟩)) p rest true ∧ Kept (fun k => k = p) w ((w2.setCell ⟨p, 1, none⟩ (.bool true)).setCell ⟨p, 0, none⟩ (.string ⟨rest.toArray⟩))) :=
      ⟨Holds.set h3 0 (.string ⟨rest.toArray⟩), (Kept.setCell (X := fun k => k = p) (Kept.of_below _ hb2) (p := ⟨p, 1, none⟩) rfl _).setCell (p := ⟨p, 0, none⟩) rfl _⟩
    clear hb2 h2 c0 h3
    go_wp2
    go_ret
    exact ⟨rfl, HN.out.1, HN.out.2⟩

def joinI (T : List Int) (o : Option (List Int × VTxt)) : Option (List Int × VTxt) := o.map fun p => (T ++ p.1, p.2)
theorem ints_step (n : Nat) (b : VTxt) (T : List Int) (h : (rdNum b).2.2 = 0) : joinI T (rdInts (n + 1) b) = joinI (T ++ [((rdNum b).1 : Int)]) (rdInts n (rdNum b).2.1) := by
  rw [rdInts, if_neg (by simp [h])]
  unfold joinI
  cases rdInts n (rdNum b).2.1 <;> simp
theorem ints_stop (n : Nat) (b : VTxt) (T : List Int) (h : (rdNum b).2.2 ≠ 0) : joinI T (rdInts (n + 1) b) = none := by
  rw [rdInts, if_pos h]; rfl
theorem num_eats (b : VTxt) (h : (rdNum b).2.2 = 0) : (rdNum b).2.1.length + 1 ≤ b.length := by
  have e := rdNum_back b h
  have := congrArg List.length e
  rw [List.length_append, numL_length] at this
  omega
theorem joinI_nil (o : Option (List Int × VTxt)) : joinI [] o = o := by cases o <;> simp [joinI]
/-- On the way through a list of numbers. -/
structure RowS (w wr : World) (p n : Nat) (b : VTxt) (bad : Bool) (j : Nat) (dv : Value) (l : List Int) (rest : VTxt) (bd : Bool) : Prop where
  own : wr.ownsRow w.heap.size 3 1 dv j (l.map intC)
  len : l.length = j
  fit : Fit64 l
  rd : RdV wr p rest bd
  kept : Kept (fun k => k = p) w wr
  le : rest.length ≤ b.length
  good : bd = false → bad = false ∧ j ≤ n ∧ j + rest.length ≤ b.length ∧ rdLst b = joinI l (rdInts (n - j) rest)
  bads : bd = true → (bad = true ∨ rdLst b = none) ∧ j ≤ b.length + 1
theorem RowS.many {w wr : World} {p n : Nat} {b : VTxt} {bad : Bool} {j : Nat} {dv : Value} {l : List Int} {rest : VTxt} {bd : Bool} (h : RowS w wr p n b bad j dv l rest bd) : j ≤ b.length + 1 := by
  cases hb : bd with
  | false => have := (h.good hb).2.2.1; omega
  | true => exact (h.bads hb).2

/-- What a list's reading ends in. -/
def RowE (p : Nat) (w : World) (b : VTxt) (bad : Bool) (e : Ending) (w' : World) : Prop :=
  ∃ ad m cap l rest bd, e = .returned (.slice ad m cap) ∧ w'.ownsRow w.heap.size 3 1 (.slice ad m cap) m (l.map intC) ∧ l.length = m ∧ m ≤ b.length + 1 ∧ Fit64 l ∧
      RdV w' p rest bd ∧ rest.length ≤ b.length ∧ Kept (fun k => k = p) w w' ∧ (bd = false → bad = false ∧ rdLst b = some (l, rest)) ∧ (bd = true → bad = true ∨ rdLst b = none)

set_option maxHeartbeats 4000000 in
theorem refRdRow (p : Nat) (b : VTxt) (bad : Bool) (w : World) (hb : b.length ≤ 1048576) (h : RdV w p b bad) :
    Calls Tryz.prog 29 #[.pointer (some ⟨p, 0, none⟩)] w (RowE p w b bad) := by
  have HC := Lib.hid (refRdNum p b bad w (by unfold maxLen; omega) h)
  have hlp := Holds.lt h
  have hnl := rdNum_len b
  have hne := num_eats b
  have hnM := rdNum_le b
  obtain ⟨i0, hi, hz0, hz1, hz2⟩ := parts_of int_info
  obtain ⟨⟨n, r0, c⟩, hr⟩ : ∃ r, Hid (r = rdNum b) := ⟨rdNum b, rfl⟩
  rw [← hr.out] at HC hnl hne hnM
  simp only at HC hnl hne hnM
  have hn53 : (n : Int) ≤ 9007199254740991 := by unfold MaxN at hnM; omega
  clear h hnM
  go_enter Tryz.func29, Tryz.ntmps29
  go_wp2_with fail
  refine HC.out.mono ?_
  rintro e w1 ⟨rfl, hr1, hk1⟩
  have HI : Hid (RowS w w1 p n b bad 0 (.slice none 0 0) [] r0 (bad || decide (c ≠ 0))) := by
    refine ⟨World.ownsRow_nil _ _ _ _, rfl, fun _ h => (by cases h), hr1, hk1, hnl, fun hg => ?_, fun hg => ⟨?_, by omega⟩⟩
    · simp only [Bool.or_eq_false_iff, decide_eq_false_iff_not, ne_eq, Decidable.not_not] at hg
      refine ⟨hg.1, Nat.zero_le _, by omega, ?_⟩
      unfold rdLst
      rw [← hr.out]
      simp only
      rw [if_neg (by simp [hg.2]), joinI_nil, Nat.sub_zero]
    · simp only [Bool.or_eq_true, decide_eq_true_eq] at hg
      rcases hg with hg | hg
      · exact .inl hg
      · refine .inr ?_
        unfold rdLst
        rw [← hr.out]
        simp only
        rw [if_pos hg]
  clear hr1 hk1 HC hr hnl hne
  generalize (bad || decide (c ≠ 0)) = bd0 at HI
  go_wp2
  obtain ⟨wq, hwq⟩ : ∃ wq, wq = w1 := ⟨_, rfl⟩
  rw [← hwq] at HI ⊢
  clear hwq
  go_loopw [4, 5] (fun dv i wr => ∃ (j : Nat) (l : List Int) (rest : VTxt) (bd : Bool), i = .int .i64 (j : Int) ∧ Hid (RowS w wr p n b bad j dv l rest bd)) (fun _ i _ => n - (intOf i).toNat)
  case atStart => exact ⟨0, [], r0, bd0, rfl, HI⟩
  case round =>
    obtain ⟨j, l, rest, bd, rfl, hI⟩ := hrel
    clear HI
    have j0 : (0 : Int) ≤ (j : Int) := by omega
    have hjm := hI.out.many
    have hwj : IntKind.i64.wrap ((j : Int) + 1) = (j : Int) + 1 := IntWalk.i64_in _ (by omega)
    have c1 := Holds.cell hI.out.rd 1 _ rfl
    have fin : ∀ dv, Hid (RowS w wr p n b bad j dv l rest bd) → (bd = true ∨ ¬j < n) → RowE p w b bad (.returned dv) wr := by
      intro dv hI hd
      obtain ⟨ad, cap, rfl, _, _, _⟩ := owns_ints hI.out.own hI.out.len
      refine ⟨ad, j, cap, l, rest, bd, rfl, hI.out.own, hI.out.len, hjm, hI.out.fit, hI.out.rd, hI.out.le, hI.out.kept, fun hg => ?_, fun hg => (hI.out.bads hg).1⟩
      obtain ⟨g1, g2, _, g4⟩ := hI.out.good hg
      have hjn : j = n := by
        rcases hd with h | h
        · rw [hg] at h; cases h
        · omega
      refine ⟨g1, ?_⟩
      rw [g4, hjn, Nat.sub_self]
      simp [rdInts, joinI]
    have FIN := Lib.hid fin
    clear fin
    by_cases hlt : j < n
    case neg =>
      have jN : ¬(j : Int) < (n : Int) := by omega
      have HF := Lib.hid (FIN.out _ hI (.inr hlt))
      clear hI FIN c1
      go_wp2
      go_ret
      exact HF.out
    have jN : (j : Int) < (n : Int) := by omega
    cases bd with
    | true =>
      have HF := Lib.hid (FIN.out _ hI (.inl rfl))
      clear hI FIN
      go_wp2
      go_ret
      exact HF.out
    | false =>
      obtain ⟨g1, g2, g3, g4⟩ := hI.out.good rfl
      have HC := Lib.hid (refRdNum p rest false wr (by have := hI.out.le; unfold maxLen; omega) hI.out.rd)
      have hnl := rdNum_len rest
      have hne := num_eats rest
      have hnM := rdNum_le rest
      have HST : Hid ((rdNum rest).2.2 = 0 → rdLst b = joinI (l ++ [((rdNum rest).1 : Int)]) (rdInts (n - (j + 1)) (rdNum rest).2.1)) := fun h => by
        rw [g4, show n - j = (n - (j + 1)) + 1 from by omega, ints_step _ _ _ h]
      have HSB : Hid ((rdNum rest).2.2 ≠ 0 → rdLst b = none) := fun h => by
        rw [g4, show n - j = (n - (j + 1)) + 1 from by omega, ints_stop _ _ _ h]
      obtain ⟨⟨x, r2, c2⟩, hr2⟩ : ∃ r, r = rdNum rest := ⟨_, rfl⟩
      rw [← hr2] at HC hnl hne hnM HST HSB
      simp only [Bool.false_or] at HC hnl hne hnM HST HSB
      have HG1 := Lib.hid g1
      clear hr2 g4 FIN g1
      go_wp2_with fail
      refine HC.out.mono ?_
      rintro e wx ⟨rfl, hrx, hkx⟩
      have hown : wx.ownsRow w.heap.size 3 1 u4 j (l.map intC) := owns_of_block hI.out.own fun g hg => hkx.block g (hI.out.own.lt g hg).2 (by have := (hI.out.own.lt g hg).1; omega)
      have HX := Lib.hid (And.intro hown (And.intro hrx (hI.out.kept.trans hkx (fun k hk => .inl hk))))
      have HL := Lib.hid (And.intro hI.out.len (And.intro hI.out.fit hI.out.le))
      have hNb := Lib.hid (Holds.new wx [.int .i64 (x : Int)] 3)
      have HP := Lib.hid (And.intro g2 (And.intro g3 HG1.out))
      clear hI HC hown hrx hkx c1 g2 g3 HG1
      go_wp2_with (at_builtin; refine wpList_append_own _ rfl (.tmp 23) (.tmp 25) 23 rfl w.heap.size 3 i0 (.int .i64 0) 1 8 Tryz.underlying23 hi hz0 hz1 hz2 rfl (by decide) _ j _ rfl (HX.out.1.alloc _) ⟨wx.heap.size, 0, none⟩ 1 1 [intC (x : Int)] rfl rfl ?d1 ?d2 ?d3 ?d4 ?d5 ?_)
      case d1 =>
        intro q u hq
        have := hNb.out.cell q u hq
        rw [add0]
        exact this
      case d2 => intro u hu; rw [List.mem_singleton] at hu; subst hu; rfl
      case d3 => unfold maxLen; omega
      case d4 => omega
      case d5 => have := HX.out.2.2.size; simp; omega
      intro v2 wB hown hgr _
      have hkB : Kept (fun k => u4.ownBlock = some k) wx wB := kept_grown ((Kept.refl _ wx).alloc _) hgr (fun b hb => .inl hb)
      have hnp : ¬u4.ownBlock = some p := fun e => by have := (HX.out.1.lt p e).1; omega
      have hkw : Kept (fun k => k = p) w wB := HX.out.2.2.trans hkB (fun k hk => .inr (HX.out.1.lt k hk).1)
      have HN : Hid (RowS w wB p n b bad (j + 1) v2 (l ++ [(x : Int)]) r2 (decide (c2 ≠ 0))) := by
        refine ⟨by rw [List.map_append]; exact hown, by rw [List.length_append, HL.out.1]; rfl, fun z hz => ?_, HX.out.2.1.kept hkB hnp, hkw, by have := HL.out.2.2; omega, fun hg => ?_, fun hg => ?_⟩
        · rcases List.mem_append.1 hz with h | h
          · exact HL.out.2.1 z h
          · rw [List.mem_singleton] at h; subst h; unfold MaxN at hnM; omega
        · have hc0 : c2 = 0 := by simpa using hg
          exact ⟨HP.out.2.2, by omega, by have := hne hc0; have := HP.out.2.1; omega, HST.out hc0⟩
        · have hc0 : c2 ≠ 0 := by simpa using hg
          exact ⟨.inr (HSB.out hc0), by have := HP.out.2.1; omega⟩
      clear hown hgr hkB hnp hkw HX HL HP HST HSB hNb hnl hne hnM
      go_wp2
      go_roundw
      case rel => exact ⟨j + 1, l ++ [(x : Int)], r2, decide (c2 ≠ 0), by first | rfl | go_num, HN⟩
      case measure => simp [intOf]; omega

end Go.Proofs.YtjdolimeibpacaaGreat
