/- Layer 14's landed program: its reader: table, numbers. -/
import Derived.Test.YtjdolimeibpacaaGreatVl14
import Derived.Test.YtjdolimeibpacaaGreatVd14
namespace Go.Proofs.YtjdolimeibpacaaGreat
open Go.RowKit Go.Proofs Go.Proofs.Pk
set_option maxRecDepth 10000

theorem numMax14 (p : Nat) (o : Option VTxt) (w : World) (hb : (restO o).length ≤ maxLen) (h : RdP w p o) :
    Calls Tryz.prog 24 #[.pointer (some ⟨p, 0, none⟩), .int .i64 9007199254740991] w fun e w' => e = .returned (.int .i64 (numP MaxN o).1) ∧ RdP w' p (numP MaxN o).2 ∧ Kept (fun k => k = p) w w' := num14 p o MaxN w hb h

/-- On the way through a table: the reader, the result's box. -/
structure TabW (w W : World) (p : Nat) (o0 o : Option VTxt) : Prop where
  rd : RdP W p o
  box : Holds W w.heap.size (metaC (0, 0, [], [], 0)) 45
  kept : Kept (fun k => k = p) w W
  le : (restO o).length ≤ (restO o0).length
theorem TabW.step {w W W' : World} {p : Nat} {o0 o o' : Option VTxt} (h : TabW w W p o0 o) (hp : p < w.heap.size) (hr : RdP W' p o') (hk : Kept (fun k => k = p) W W') (hl : (restO o').length ≤ (restO o).length) : TabW w W' p o0 o' :=
  ⟨hr, Holds.of_block h.box (hk.block _ (Holds.lt h.box) (fun e => by omega)), h.kept.trans hk (fun k h => .inl h), Nat.le_trans hl h.le⟩

set_option maxHeartbeats 4000000 in
theorem tab14 (p : Nat) (o : Option VTxt) (w : World) (hb : (restO o).length ≤ maxLen) (h : RdP w p o) :
    Calls Tryz.prog 25 #[.pointer (some ⟨p, 0, none⟩)] w fun e w' => e = .returned (.agg (metaC (metaP o).1).toArray) ∧ RdP w' p (metaP o).2 ∧ Kept (fun k => k = p) w w' := by
  have hp : p < w.heap.size := Holds.lt h
  have hk0 := (Kept.refl (fun k => k = p) w).alloc (.cells (metaC (0, 0, [], [], 0)).toArray 45)
  have H0 : Hid (TabW w (w.alloc (.cells (metaC (0, 0, [], [], 0)).toArray 45)) p o o) := Lib.hid ⟨h.kept ((Kept.refl (fun _ => False) w).alloc _) (fun f => f), Holds.new w _ _, hk0, Nat.le_refl _⟩
  clear h hk0
  have hM : metaP o = (((numP MaxN o).1, (numP MaxN (numP MaxN o).2).1, (txtP (numP MaxN (numP MaxN o).2).2).1, (txtP (txtP (numP MaxN (numP MaxN o).2).2).2).1, (numP MaxN (txtP (txtP (numP MaxN (numP MaxN o).2).2).2).2).1),
    (numP MaxN (txtP (txtP (numP MaxN (numP MaxN o).2).2).2).2).2) := rfl
  rw [hM]
  clear hM
  simp only
  have HC0 : Hid (∀ W, TabW w W p o o → Calls Tryz.prog 24 #[.pointer (some ⟨p, 0, none⟩), .int .i64 9007199254740991] W fun e w' => e = .returned (.int .i64 (numP MaxN o).1) ∧ TabW w w' p o (numP MaxN o).2) := Lib.hid fun W hW => (numMax14 p o W (Nat.le_trans hW.le hb) hW.rd).mono fun e w' h => ⟨h.1, hW.step hp h.2.1 h.2.2 (numP_len MaxN _)⟩
  generalize numP MaxN o = z0 at HC0 ⊢
  obtain ⟨n1, o1⟩ := z0
  simp only at HC0 ⊢
  have HC1 : Hid (∀ W, TabW w W p o o1 → Calls Tryz.prog 24 #[.pointer (some ⟨p, 0, none⟩), .int .i64 9007199254740991] W fun e w' => e = .returned (.int .i64 (numP MaxN o1).1) ∧ TabW w w' p o (numP MaxN o1).2) := Lib.hid fun W hW => (numMax14 p o1 W (Nat.le_trans hW.le hb) hW.rd).mono fun e w' h => ⟨h.1, hW.step hp h.2.1 h.2.2 (numP_len MaxN _)⟩
  generalize numP MaxN o1 = z1 at HC1 ⊢
  obtain ⟨n2, o2⟩ := z1
  simp only at HC1 ⊢
  have HC2 : Hid (∀ W, TabW w W p o o2 → Calls Tryz.prog 55 #[.pointer (some ⟨p, 0, none⟩)] W fun e w' => e = .returned (.string ⟨(txtP o2).1.toArray⟩) ∧ TabW w w' p o (txtP o2).2) := Lib.hid fun W hW => (txt14 p o2 W (Nat.le_trans hW.le hb) hW.rd).mono fun e w' h => ⟨h.1, hW.step hp h.2.1 h.2.2 (txtP_len _)⟩
  generalize txtP o2 = z2 at HC2 ⊢
  obtain ⟨t1, o3⟩ := z2
  simp only at HC2 ⊢
  have HC3 : Hid (∀ W, TabW w W p o o3 → Calls Tryz.prog 55 #[.pointer (some ⟨p, 0, none⟩)] W fun e w' => e = .returned (.string ⟨(txtP o3).1.toArray⟩) ∧ TabW w w' p o (txtP o3).2) := Lib.hid fun W hW => (txt14 p o3 W (Nat.le_trans hW.le hb) hW.rd).mono fun e w' h => ⟨h.1, hW.step hp h.2.1 h.2.2 (txtP_len _)⟩
  generalize txtP o3 = z3 at HC3 ⊢
  obtain ⟨t2, o4⟩ := z3
  simp only at HC3 ⊢
  have HC4 : Hid (∀ W, TabW w W p o o4 → Calls Tryz.prog 24 #[.pointer (some ⟨p, 0, none⟩), .int .i64 9007199254740991] W fun e w' => e = .returned (.int .i64 (numP MaxN o4).1) ∧ TabW w w' p o (numP MaxN o4).2) := Lib.hid fun W hW => (numMax14 p o4 W (Nat.le_trans hW.le hb) hW.rd).mono fun e w' h => ⟨h.1, hW.step hp h.2.1 h.2.2 (numP_len MaxN _)⟩
  generalize numP MaxN o4 = z4 at HC4 ⊢
  obtain ⟨n3, o5⟩ := z4
  simp only at HC4 ⊢
  clear hb
  go_enter Tryz.func25, Tryz.ntmps25
  go_wp2_with fail
  refine (HC0.out _ H0.out).mono ?_
  rintro e w1 ⟨rfl, hT⟩
  have H1 := Lib.hid hT
  clear hT H0 HC0
  go_wp2_with fail
  refine (HC1.out _ H1.out).mono ?_
  rintro e w2 ⟨rfl, hT⟩
  have H2 := Lib.hid hT
  clear hT H1 HC1
  go_wp2_with fail
  refine (HC2.out _ H2.out).mono ?_
  rintro e w3 ⟨rfl, hT⟩
  have H3 := Lib.hid hT
  clear hT H2 HC2
  go_wp2_with fail
  refine (HC3.out _ H3.out).mono ?_
  rintro e w4 ⟨rfl, hT⟩
  have H4 := Lib.hid hT
  clear hT H3 HC3
  go_wp2_with fail
  refine (HC4.out _ H4.out).mono ?_
  rintro e w5 ⟨rfl, hT⟩
  have H5 := Lib.hid hT
  clear hT H4 HC4
  have r0 := Holds.cell H5.out.box 0 _ rfl
  have q0 := Holds.free H5.out.box 0
  have r1 := Holds.cell H5.out.box 1 _ rfl
  have q1 := Holds.free H5.out.box 1
  have r2 := Holds.cell H5.out.box 2 _ rfl
  have q2 := Holds.free H5.out.box 2
  have r3 := Holds.cell H5.out.box 3 _ rfl
  have q3 := Holds.free H5.out.box 3
  have r4 := Holds.cell H5.out.box 4 _ rfl
  have q4 := Holds.free H5.out.box 4
  go_wp2
  have hPN := H5.out.box.setCells (metaC (n1, n2, t1, t2, n3)) 0 w5 (metaC (0, 0, [], [], 0)) (Nat.le_refl _)
  rw [lay_all (metaC (0, 0, [], [], 0)) (metaC (n1, n2, t1, t2, n3)) rfl] at hPN
  have hkr : Kept (fun k => k = w.heap.size) w5 (w5.setCells w.heap.size 0 (metaC (n1, n2, t1, t2, n3))) := Kept.setCells (X := fun k => k = w.heap.size) rfl _ 0 w5 (Kept.refl _ _)
  have hKN : Kept (fun k => k = p) w (w5.setCells w.heap.size 0 (metaC (n1, n2, t1, t2, n3))) := H5.out.kept.trans hkr (fun k h => .inr (by omega))
  have hRN := H5.out.rd.kept hkr (fun e => by omega)
  change bodyPost _ _ _ _ _ (w5.setCells w.heap.size 0 (metaC (n1, n2, t1, t2, n3)))
  generalize w5.setCells w.heap.size 0 (metaC (n1, n2, t1, t2, n3)) = wf at hPN hKN hRN ⊢
  refine bodyPost_ret (v := .agg (metaC (n1, n2, t1, t2, n3)).toArray) ?_ rfl ⟨rfl, hRN, hKN⟩
  exact results_cell_row rfl _ _ w.heap.size 45 (metaC (n1, n2, t1, t2, n3)).toArray _ _ rfl hPN Tryz.underlying45 rfl (by kernel_rfl)

set_option maxHeartbeats 4000000 in
theorem nums14 (p : Nat) (o : Option VTxt) (most : Nat) (w : World) (hm : most ≤ 200) (hb : (restO o).length ≤ maxLen) (h : RdP w p o) :
    Calls Tryz.prog 26 #[.pointer (some ⟨p, 0, none⟩), .int .i64 (most : Int)] w fun e w' => ∃ ad m cap, e = .returned (.slice ad m cap) ∧ w'.ownsRow w.heap.size 3 1 (.slice ad m cap) m ((numsP most o).1.map intC) ∧ (numsP most o).1.length = m ∧ m ≤ most ∧ Fit64 (numsP most o).1 ∧ RdP w' p (numsP most o).2 ∧ (restO (numsP most o).2).length ≤ (restO o).length ∧ Kept (fun k => k = p) w w' := by
  obtain ⟨i0, hi, hz0, hz1, hz2⟩ := parts_of int_info
  have hp : p < w.heap.size := Holds.lt h
  obtain ⟨hn0, hn1, hn2⟩ := numP_range most o
  have hln := numP_len most o
  have HC := Lib.hid (num14 p o most w hb h)
  obtain ⟨Z, hZ⟩ : ∃ Z, Hid (Z = numsP most o) := ⟨_, Lib.hid rfl⟩
  rw [← hZ.out]
  unfold numsP at hZ
  generalize numP most o = z at HC hZ hn0 hn1 hn2 hln
  obtain ⟨nI, o1⟩ := z
  simp only at HC hZ hn0 hn1 hn2 hln
  obtain ⟨n, rfl⟩ := Int.eq_ofNat_of_zero_le hn0
  rw [Int.toNat_natCast] at hZ
  have HFit : Hid (∀ k, Fit64 (manyP (numP MaxN) k o1).1) := Lib.hid (by
    intro k
    induction k with
    | zero => intro x hx; cases hx
    | succ k ih =>
      rw [manyP_snoc]
      intro x hx
      rcases List.mem_append.1 hx with h | h
      · exact ih x h
      · rw [List.mem_singleton] at h
        subst h
        have := numP_range MaxN (manyP (numP MaxN) k o1).2
        omega)
  have HLe : Hid (∀ k, (restO (manyP (numP MaxN) k o1).2).length ≤ (restO o).length) := Lib.hid (by
    intro k
    induction k with
    | zero => exact hln
    | succ k ih =>
      rw [manyP_snoc]
      exact Nat.le_trans (numP_len MaxN _) ih)
  have HB := Lib.hid hb
  clear h hb hln
  go_enter Tryz.func26, Tryz.ntmps26
  go_wp2_with fail
  refine HC.out.mono ?_
  clear HC
  rintro e w1 ⟨rfl, hr1, hk1⟩
  have HI : Hid (w1.ownsRow w.heap.size 3 1 (.slice none 0 0) 0 ((manyP (numP MaxN) 0 o1).1.map intC) ∧ RdP w1 p (manyP (numP MaxN) 0 o1).2 ∧ Kept (fun k => k = p) w w1) := Lib.hid ⟨World.ownsRow_nil _ _ _ _, hr1, hk1⟩
  clear hr1 hk1
  go_wp2
  obtain ⟨wq, hwq⟩ : ∃ wq, wq = w1 := ⟨_, rfl⟩
  rw [← hwq] at HI ⊢
  clear hwq
  go_loopw [5, 9] (fun v i wr => ∃ k : Nat, i = .int .i64 (k : Int) ∧ k ≤ n ∧ Hid (wr.ownsRow w.heap.size 3 1 v k ((manyP (numP MaxN) k o1).1.map intC) ∧ RdP wr p (manyP (numP MaxN) k o1).2 ∧ Kept (fun k => k = p) w wr)) (fun _ i _ => n - (intOf i).toNat)
  case atStart => exact ⟨0, rfl, Nat.zero_le _, HI⟩
  case round =>
    obtain ⟨k, rfl, hk, hI⟩ := hrel
    clear HI
    have k0 : (0 : Int) ≤ (k : Int) := by omega
    have hwk : IntKind.i64.wrap ((k : Int) + 1) = (k : Int) + 1 := IntWalk.i64_in _ (by omega)
    by_cases hlt : k < n
    · have kN : (k : Int) < (n : Int) := by omega
      have HC := Lib.hid (numMax14 p (manyP (numP MaxN) k o1).2 wr (Nat.le_trans (HLe.out k) HB.out) hI.out.2.1)
      have hst : Hid (manyP (numP MaxN) (k + 1) o1 = ((manyP (numP MaxN) k o1).1 ++ [(numP MaxN (manyP (numP MaxN) k o1).2).1], (numP MaxN (manyP (numP MaxN) k o1).2).2)) := Lib.hid (manyP_snoc _ _ _)
      generalize numP MaxN (manyP (numP MaxN) k o1).2 = z at HC hst
      obtain ⟨x, o2⟩ := z
      simp only at HC hst
      go_wp2_with fail
      refine HC.out.mono ?_
      clear HC
      rintro e wx ⟨rfl, hrx, hkx⟩
      have hown : wx.ownsRow w.heap.size 3 1 u5 k ((manyP (numP MaxN) k o1).1.map intC) := owns_of_block hI.out.1 fun g hg => hkx.block g (hI.out.1.lt g hg).2 (by have := (hI.out.1.lt g hg).1; omega)
      have HX := Lib.hid (And.intro hown (And.intro hrx (hI.out.2.2.trans hkx (fun k hk => .inl hk))))
      have hNb := Lib.hid (Holds.new wx [.int .i64 x] 3)
      clear hI hown hrx hkx
      go_wp2_with (at_builtin; refine wpList_append_own _ rfl (.tmp 11) (.tmp 14) 23 rfl w.heap.size 3 i0 (.int .i64 0) 1 8 Tryz.underlying23 hi hz0 hz1 hz2 rfl (by decide) _ k _ rfl (HX.out.1.alloc _) ⟨wx.heap.size, 0, none⟩ 1 1 [intC x] rfl rfl ?d1 ?d2 ?d3 ?d4 ?d5 ?_)
      case d1 =>
        intro q u hq
        have := hNb.out.cell q u hq
        rw [add0]
        exact this
      case d2 => intro u hu; rw [List.mem_singleton] at hu; subst hu; rfl
      case d3 => unfold maxLen; omega
      case d4 => omega
      case d5 => have := HX.out.2.2.size; simp; omega
      intro v2 wB hown hgr _
      have hkB : Kept (fun k => u5.ownBlock = some k) wx wB := kept_grown ((Kept.refl _ wx).alloc _) hgr (fun b hb => .inl hb)
      have hnp : ¬u5.ownBlock = some p := fun e => by have := (HX.out.1.lt p e).1; omega
      have HN : Hid (wB.ownsRow w.heap.size 3 1 v2 (k + 1) ((manyP (numP MaxN) (k + 1) o1).1.map intC) ∧ RdP wB p (manyP (numP MaxN) (k + 1) o1).2 ∧ Kept (fun k => k = p) w wB) := Lib.hid (by
        rw [hst.out]
        exact ⟨by rw [List.map_append]; exact hown, HX.out.2.1.kept hkB hnp, HX.out.2.2.trans hkB (fun k hk => .inr (HX.out.1.lt k hk).1)⟩)
      clear hown hgr hkB hnp HX hNb hst
      go_wp2
      go_roundw
      case rel => exact ⟨k + 1, by first | rfl | go_num, by omega, HN⟩
      case measure => simp [intOf]; omega
    · have kN : ¬(k : Int) < (n : Int) := by omega
      have hke : k = n := by omega
      have HE : Hid (∃ ad m cap, u5 = .slice ad m cap ∧ wr.ownsRow w.heap.size 3 1 (.slice ad m cap) m (Z.1.map intC) ∧ Z.1.length = m ∧ m ≤ most ∧ Fit64 Z.1 ∧ RdP wr p Z.2 ∧ (restO Z.2).length ≤ (restO o).length ∧ Kept (fun k => k = p) w wr) := Lib.hid (by
        subst hke
        have hlen := manyP_len (numP MaxN) k o1
        obtain ⟨ad, cap, he, _⟩ := owns_ints hI.out.1 hlen
        have h1 := hI.out.1
        rw [hZ.out]
        rw [he] at h1
        exact ⟨ad, k, cap, he, h1, hlen, by omega, HFit.out k, hI.out.2.1, HLe.out k, hI.out.2.2⟩)
      clear hI hke
      go_wp2
      go_ret
      obtain ⟨ad, m, cap, h1, h2⟩ := HE.out
      subst h1
      exact ⟨ad, m, cap, rfl, h2⟩

end Go.Proofs.YtjdolimeibpacaaGreat
