/- Layer 14's landed program: Encode. -/
import Derived.Test.YtjdolimeibpacaaGreatVj14
import Derived.Test.YtjdolimeibpacaaGreatVd14
import Derived.Test.YtjdolimeibpacaaGreatOrd
import Derived.Test.YtjdolimeibpacaaGreatVf14
namespace Go.Proofs.YtjdolimeibpacaaGreat
open Go.RowKit Go.Proofs Go.Proofs.Pk
set_option maxRecDepth 100000

set_option maxHeartbeats 4000000 in
/-- String of a writer that holds something. -/
theorem wString (B g : Nat) (l : VTxt) (w : World) (h : WrW w B g l) (h0 : l ≠ []) : Calls Tryz.prog 18 #[.pointer (some ⟨g, 0, none⟩)] w fun e w' => e = .returned (.string ⟨l.toArray⟩) ∧ Below B w w' := by
  obtain ⟨hB, p, v, hp, hh, ho⟩ := h
  have hl0 : l.length ≠ 0 := by simpa using h0
  rcases ho.2 with ⟨_, k2⟩ | ⟨q, cap, cur, rfl, hbq, hq, hnc, hcm, hcs, htk⟩
  · exact absurd k2 hl0
  · have c1 : w.drew.cell? ⟨g, 1, none⟩ = some (.slice (some ⟨q, 0, none⟩) l.length cap) := Holds.cell hh 1 _ rfl
    have hSD : (Builtin.unsafeSliceData_ #[51] 97 #[.slice (some ⟨q, 0, none⟩) l.length cap]).run Tryz.prog w.drew = .ok (.pointer (some ⟨q, 0, none⟩)) w.drew := Lib.run_unsafeSliceData_row _ _ _ _ _ _ (by omega)
    have hUS : (Builtin.unsafeString_ #[97, 3] 9 #[.pointer (some ⟨q, 0, none⟩), .int .i64 l.length]).run Tryz.prog w.drew = .ok (.string ⟨l.toArray⟩) (w.drew.freeze ⟨q, 0, none⟩ l.length) := by
      refine Lib.run_unsafeString_row w.drew 97 3 9 5 Tryz.underlying97 (by kernel_rfl) q cur.size ?_ l h0 (by omega) (by unfold maxLen at hcm; omega) ?_
      · have hq' : w.drew.heap[q]? = some (.cells cur 5) := hq
        simp [World.shape?, hq']
      · intro j x hx
        exact ho.cells (g := q) rfl j (.int .u8 x.toNat) (by simp [Lib.byteCells, hx])
    have HX := Lib.hid (And.intro hbq hB)
    clear hh ho hq hcs htk
    go_enter Tryz.func18, Tryz.ntmps18
    go_wp2
    go_region
    all_goals (go_wp2; go_ret; exact ⟨rfl, Lib.below_freeze (Below.drew (Below.refl B w)) (p := ⟨q, 0, none⟩) HX.out.1 _⟩)

theorem off_ints {w : World} {ad : Option Addr} {len : Nat} {l : List Int} (h : Ints w ad len l) : l = [] ∨ IntsOff (fun k => w.heap.size ≤ k) ad := h.2.imp_right (by
  rintro ⟨b, off, rfl, hb, _⟩ b' off' e hx
  cases e
  have : w.heap.size ≤ b := hx
  omega)
theorem metas_len (l : List MetaV) (h : ∀ m ∈ l, metaOk m = true) : (l.flatMap metaB).length ≤ l.length * 200 := by
  induction l with
  | nil => simp
  | cons m r ih =>
    obtain ⟨_, _, _, _, _, h6, _, h8, _⟩ := meta_of (h m (by simp))
    have := ih (fun x hx => h x (by simp [hx]))
    have a := numL_len_le m.1.toNat
    have b := numL_len_le m.2.1.toNat
    have c := numL_len_le m.2.2.2.2.toNat
    have d := txtL_le m.2.2.1
    have e := txtL_le m.2.2.2.1
    have hm : (metaB m).length ≤ 200 := by unfold metaB; simp only [List.length_append]; omega
    rw [List.flatMap_cons, List.length_append, List.length_cons]
    omega
theorem row_lenP (l : List Int) : (rowE l).length ≤ 8 + l.length * 8 := by
  unfold rowE
  have go : ∀ l : List Int, (l.flatMap fun n => numL n.toNat).length ≤ l.length * 8 := by
    intro l
    induction l with
    | nil => simp
    | cons a r ih =>
      rw [List.flatMap_cons, List.length_append, List.length_cons]
      have := numL_len_le a.toNat
      omega
  have h1 := go l
  have h2 := numL_len_le l.length
  rw [List.length_append]
  omega

/-- Encode on its way: the edit's box, the writer. -/
structure EnW (w W : World) (g : Nat) (C : List Value) (l : VTxt) : Prop where
  box : Holds W w.heap.size C 25
  kept : Kept (WX w w.heap.size g) w W
  wr : WrW W w.heap.size g l
theorem EnW.step {w W W' : World} {g : Nat} {C : List Value} {l l' : VTxt} (h : EnW w W g C l) (hg : w.heap.size < g) (hw : WrW W' w.heap.size g l') (hk : Kept (WX W w.heap.size g) W W') : EnW w W' g C l' :=
  ⟨wx_holds hk h.box (by omega) (by decide), wx_trans h.kept hk, hw⟩
theorem EnW.quiet {w W W' : World} {g : Nat} {C : List Value} {l : VTxt} (h : EnW w W g C l) (hk : Kept (fun _ => False) W W') : EnW w W' g C l :=
  ⟨Holds.of_block h.box (hk.block _ (Holds.lt h.box) (fun f => f)), wx_trans h.kept (wx_none hk), h.wr.kept hk⟩
theorem EnW.ints {w W : World} {g : Nat} {C : List Value} {l : VTxt} {ad : Option Addr} {len : Nat} {I : List Int} (h : EnW w W g C l) (hi : Ints w ad len I) : Ints W ad len I :=
  hi.kept h.kept ((off_ints hi).imp id (fun h b off hb hx => h b off hb hx.1))

set_option maxHeartbeats 8000000 in
theorem encode14 (bd : Option Addr) (bl bc : Nat) (bd2 : Option Addr) (bl2 bc2 : Nat) (bd3 : Option Addr) (bl3 bc3 : Nat) (bd4 : Option Addr) (bl4 bc4 : Nat) (e : EdV) (w : World) (he : EdW w bd bl bc bd2 bl2 bc2 bd3 bl3 bc3 bd4 bl4 bc4 e) :
    Calls Tryz.prog 5 #[edC bd bl bc bd2 bl2 bc2 bd3 bl3 bc3 bd4 bl4 bc4 e.2.2.2.2] w fun r w' => r = .returned (.tuple #[.string ⟨(encE e).1.toArray⟩, errV 49 (if (encE e).2 = true then 0 else 1)]) ∧ Kept (fun _ => False) w w' := by
  show Calls Tryz.prog 5 #[.agg #[.slice bd bl bc, .slice bd2 bl2 bc2, .slice bd3 bl3 bc3, .slice bd4 bl4 bc4, .int .i64 e.2.2.2.2]] w _
  have HE := Lib.hid he
  have hk0 := (Kept.refl (fun _ => False) w).alloc (.cells #[.slice bd bl bc, .slice bd2 bl2 bc2, .slice bd3 bl3 bc3, .slice bd4 bl4 bc4, .int .i64 e.2.2.2.2] 25)
  have hB0 : Holds (w.alloc (.cells #[.slice bd bl bc, .slice bd2 bl2 bc2, .slice bd3 bl3 bc3, .slice bd4 bl4 bc4, .int .i64 e.2.2.2.2] 25)) w.heap.size [.slice bd bl bc, .slice bd2 bl2 bc2, .slice bd3 bl3 bc3, .slice bd4 bl4 bc4, .int .i64 e.2.2.2.2] 25 := Holds.new w _ _
  have HRt : Hid (Calls Tryz.prog 14 #[.agg #[.slice bd bl bc, .slice bd2 bl2 bc2, .slice bd3 bl3 bc3, .slice bd4 bl4 bc4, .int .i64 e.2.2.2.2]] (w.alloc (.cells #[.slice bd bl bc, .slice bd2 bl2 bc2, .slice bd3 bl3 bc3, .slice bd4 bl4 bc4, .int .i64 e.2.2.2.2] 25)) fun r w' => r = .returned (.bool (edOk e)) ∧ Kept (fun _ => False) (w.alloc (.cells #[.slice bd bl bc, .slice bd2 bl2 bc2, .slice bd3 bl3 bc3, .slice bd4 bl4 bc4, .int .i64 e.2.2.2.2] 25)) w') :=
    Lib.hid (edit14 bd bl bc bd2 bl2 bc2 bd3 bl3 bc3 bd4 bl4 bc4 e _ (metas_kept he.1 hk0) (ints_keptV he.2.2.1 hk0) (ints_keptV he.2.2.2.2.1 hk0) (ints_keptV he.2.2.2.2.2.2.1 hk0) (by have := he.2.1.2.2.1; omega) (by have := he.2.2.2.1.2.2.1; omega) (by have := he.2.2.2.2.2.1.2.2.1; omega) (by have := he.2.2.2.2.2.2.2.1.2.2.1; omega))
  have H0 := Lib.hid (And.intro hB0 hk0)
  clear hk0 hB0 he
  cases hok : edOk e with
  | false =>
    rw [hok] at HRt
    have hr : encE e = ([], false) := by unfold encE; rw [if_neg (by rw [hok]; simp)]
    rw [hr]
    go_enter Tryz.func5, Tryz.ntmps5
    go_wp2_with fail
    refine HRt.out.mono ?_
    clear HRt
    rintro r w1 ⟨rfl, hk⟩
    have HK := Lib.hid (H0.out.2.trans hk (fun _ f => f.elim))
    clear hk H0 hr
    go_wp2
    go_ret2
    exact ⟨rfl, HK.out⟩
  | true =>
    rw [hok] at HRt
    obtain ⟨h1, h2, h3, h4, h5, h6, h7⟩ := ed_of hok
    have hr : encE e = (bodyE e, true) := by unfold encE; rw [if_pos hok]
    rw [hr]
    obtain ⟨tot, htot⟩ : ∃ t, Hid (t = bodyE e) := ⟨_, Lib.hid rfl⟩
    simp only
    rw [← htot.out]
    have hbl : bl ≤ 200 := by rw [← HE.out.1.1]; exact h1
    have hbl2 : bl2 ≤ 200 := by rw [← HE.out.2.2.1.1]; exact (nums_of h3).2
    have hbl3 : bl3 ≤ 20 := by rw [← HE.out.2.2.2.2.1.1]; exact (nums_of h4).2
    have hbl4 : bl4 ≤ 20 := by rw [← HE.out.2.2.2.2.2.2.1.1]; exact (nums_of h5).2
    obtain ⟨s, hs⟩ : ∃ s : Nat, e.2.2.2.2 = (s : Int) := ⟨e.2.2.2.2.toNat, by omega⟩
    rw [hs] at H0 HRt ⊢ h7
    have HOK := Lib.hid h2
    have HN2 := Lib.hid (nums_of h3).1
    have HN3 := Lib.hid (nums_of h4).1
    have HN4 := Lib.hid (nums_of h5).1
    have Hml : Hid (∀ k, (((e.1.take k).flatMap metaB)).length ≤ 40000) := Lib.hid fun k => by
      have := metas_len (e.1.take k) (fun m hm => h2 m (List.mem_of_mem_take hm))
      have : (e.1.take k).length ≤ 200 := by rw [List.length_take]; omega
      omega
    have Hl2 : Hid ((rowE e.2.1).length ≤ 2000) := Lib.hid (by have := row_lenP e.2.1; have := (nums_of h3).2; omega)
    have Hl3 : Hid ((rowE e.2.2.1).length ≤ 2000) := Lib.hid (by have := row_lenP e.2.2.1; have := (nums_of h4).2; omega)
    have Hl4 : Hid ((rowE e.2.2.2.1).length ≤ 2000) := Lib.hid (by have := row_lenP e.2.2.2.1; have := (nums_of h5).2; omega)
    have hn0 := numL_len_le bl
    have hns := numL_len_le s
    have HTOT : Hid (tot = numL bl ++ e.1.flatMap metaB ++ rowE e.2.1 ++ rowE e.2.2.1 ++ rowE e.2.2.2.1 ++ numL s) := Lib.hid (by rw [htot.out]; unfold bodyE; rw [HE.out.1.1, hs, Int.toNat_natCast])
    clear hok h1 h2 h3 h4 h5 h6 hs hr htot
    go_enter Tryz.func5, Tryz.ntmps5
    go_wp2_with fail
    refine HRt.out.mono ?_
    clear HRt
    rintro r w1 ⟨rfl, hk⟩
    have hkw := H0.out.2.trans hk (fun _ f => f.elim)
    have hbw : Holds w1 w.heap.size [.slice bd bl bc, .slice bd2 bl2 bc2, .slice bd3 bl3 bc3, .slice bd4 bl4 bc4, .int .i64 (s : Int)] 25 := Holds.of_block H0.out.1 (hk.block _ (Holds.lt H0.out.1) (fun f => f))
    have hkz := (Kept.refl (fun _ => False) w1).alloc (.cells #[.pointer none, .slice none 0 0] 55)
    have H1 : Hid (Holds (w1.alloc (.cells #[.pointer none, .slice none 0 0] 55)) w.heap.size [.slice bd bl bc, .slice bd2 bl2 bc2, .slice bd3 bl3 bc3, .slice bd4 bl4 bc4, .int .i64 (s : Int)] 25 ∧ Kept (WX w w.heap.size w1.heap.size) w (w1.alloc (.cells #[.pointer none, .slice none 0 0] 55)) ∧ WrW (w1.alloc (.cells #[.pointer none, .slice none 0 0] 55)) w.heap.size w1.heap.size []) :=
      Lib.hid ⟨Holds.of_block hbw (hkz.block _ (Holds.lt hbw) (fun f => f)), wx_none (hkw.trans hkz (fun _ f => f.elim)), hkw.size, .pointer none, .slice none 0 0, .inl rfl, Holds.new w1 _ _, World.ownsRow_nil _ _ _ _⟩
    have hg1 : w.heap.size < w1.heap.size := Holds.lt hbw
    clear hk hkw hbw hkz H0
    go_upto_region 4 with (fail)
    have H2 : Hid (EnW w (w1.alloc (.cells #[.pointer none, .slice none 0 0] 55)) w1.heap.size [.slice bd bl bc, .slice bd2 bl2 bc2, .slice bd3 bl3 bc3, .slice bd4 bl4 bc4, .int .i64 (s : Int)] []) := Lib.hid ⟨H1.out.1, H1.out.2.1, H1.out.2.2⟩
    clear H1
    generalize w1.alloc (.cells #[.pointer none, .slice none 0 0] 55) = w2 at H2 ⊢
    generalize w1.heap.size = g at H2 hg1 ⊢
    have HC := Lib.hid (wNum w.heap.size g [] bl w2 H2.out.wr (by unfold MaxN; omega) (by simp) (H2.out.kept.size))
    have c0 := Holds.cell H2.out.box 0 _ rfl
    go_wp2_with fail
    refine HC.out.mono ?_
    clear HC c0
    rintro r w3 ⟨rfl, hw, hk⟩
    have H3 := Lib.hid (H2.out.step hg1 hw hk)
    clear hw hk H2
    have c0 := Holds.cell H3.out.box 0 _ rfl
    have H4 : Hid (EnW w w3 g [.slice bd bl bc, .slice bd2 bl2 bc2, .slice bd3 bl3 bc3, .slice bd4 bl4 bc4, .int .i64 (s : Int)] (numL bl ++ (e.1.take 0).flatMap metaB)) := Lib.hid (by simpa using H3.out)
    clear H3
    go_wp2
    obtain ⟨wq, hwq⟩ : ∃ wq, wq = w3 := ⟨_, rfl⟩
    rw [← hwq] at H4 ⊢
    clear hwq c0
    go_loopw [18] (fun i wr => ∃ k : Nat, i = .int .i64 (k : Int) ∧ k ≤ bl ∧ Hid (EnW w wr g [.slice bd bl bc, .slice bd2 bl2 bc2, .slice bd3 bl3 bc3, .slice bd4 bl4 bc4, .int .i64 (s : Int)] (numL bl ++ (e.1.take k).flatMap metaB))) (fun i _ => bl - (intOf i).toNat)
    case atStart => exact ⟨0, rfl, Nat.zero_le _, H4⟩
    case round =>
      obtain ⟨k, rfl, hk, hI⟩ := hrel
      clear H4
      have k0 : (0 : Int) ≤ (k : Int) := by omega
      have hwk : IntKind.i64.wrap ((k : Int) + 1) = (k : Int) + 1 := IntWalk.i64_in _ (by omega)
      by_cases hlt : k < bl
      · have kN : (k : Int) < (bl : Int) := by omega
        have hkl : k < e.1.length := by rw [HE.out.1.1]; exact hlt
        obtain ⟨b, off, rfl, hbl', _⟩ := MetasW.at HE.out.1 k hkl
        have hM := metas_keptX HE.out.1 hI.out.kept (fun b' off' sp hb hx => by cases hb; have := hx.1; omega)
        obtain ⟨c0, c1, c2, c3, c4⟩ := t_cells hM k hkl
        have hmo := HOK.out e.1[k] (List.getElem_mem hkl)
        have hst : Hid ((e.1.take (k + 1)).flatMap metaB = (e.1.take k).flatMap metaB ++ metaB e.1[k]) := Lib.hid (by rw [List.take_succ_eq_append_getElem hkl, List.flatMap_append]; simp)
        generalize e.1[k] = m at c0 c1 c2 c3 c4 hmo hst
        have hka := (Kept.refl (fun _ => False) wr).alloc (.cells (metaC m).toArray 45)
        have HQ := Lib.hid (hI.out.quiet hka)
        have HC : Hid (Calls Tryz.prog 16 #[.pointer (some ⟨g, 0, none⟩), .agg #[.int .i64 m.1, .int .i64 m.2.1, .string ⟨m.2.2.1.toArray⟩, .string ⟨m.2.2.2.1.toArray⟩, .int .i64 m.2.2.2.2]] (wr.alloc (.cells #[.int .i64 m.1, .int .i64 m.2.1, .string ⟨m.2.2.1.toArray⟩, .string ⟨m.2.2.2.1.toArray⟩, .int .i64 m.2.2.2.2] 45)) fun e' w' => e' = .returned (.tuple #[]) ∧ WrW w' w.heap.size g (numL bl ++ (e.1.take k).flatMap metaB ++ metaB m) ∧ Kept (WX (wr.alloc (.cells (metaC m).toArray 45)) w.heap.size g) (wr.alloc (.cells (metaC m).toArray 45)) w') :=
          Lib.hid (wTable w.heap.size g _ m _ HQ.out.wr hmo (by have := Hml.out k; simp only [List.length_append]; omega) HQ.out.kept.size)
        clear hka hM hI hmo
        go_wp2_with fail
        refine HC.out.mono ?_
        clear HC
        rintro r w4 ⟨rfl, hw, hk2⟩
        have HN : Hid (EnW w w4 g [.slice (some ⟨b, off, none⟩) bl bc, .slice bd2 bl2 bc2, .slice bd3 bl3 bc3, .slice bd4 bl4 bc4, .int .i64 (s : Int)] (numL bl ++ (e.1.take (k + 1)).flatMap metaB)) := Lib.hid (HQ.out.step hg1 (by rw [hst.out, ← List.append_assoc]; exact hw) hk2)
        clear hw hk2 HQ hst c0 c1 c2 c3 c4
        go_wp2
        go_roundw
        case rel => exact ⟨k + 1, by first | rfl | go_num, by omega, HN⟩
        case measure => simp [intOf]; omega
      · have kN : ¬(k : Int) < (bl : Int) := by omega
        have H5 : Hid (EnW w wr g [.slice bd bl bc, .slice bd2 bl2 bc2, .slice bd3 bl3 bc3, .slice bd4 bl4 bc4, .int .i64 (s : Int)] (numL bl ++ e.1.flatMap metaB)) := Lib.hid (by
          have := hI.out
          rwa [List.take_of_length_le (by rw [HE.out.1.1]; omega)] at this)
        have Hl1 : Hid ((e.1.flatMap metaB).length ≤ 40000) := Lib.hid (by have := Hml.out e.1.length; rwa [List.take_length] at this)
        clear hI
        have c1 := Holds.cell H5.out.box 1 _ rfl
        have HC6 := Lib.hid (wNums w.heap.size g _ bd2 bl2 bc2 e.2.1 wr H5.out.wr (H5.out.ints HE.out.2.2.1) HN2.out hbl2 (by have := Hl1.out; have := Hl2.out; have := Hl3.out; have := Hl4.out; simp only [List.length_append]; omega) H5.out.kept.size (off_ints HE.out.2.2.1))
        go_wp2_with fail
        refine HC6.out.mono ?_
        clear HC6 c1
        rintro r w6 ⟨rfl, hw, hk⟩
        have H6 := Lib.hid (H5.out.step hg1 hw hk)
        clear hw hk H5
        have c2 := Holds.cell H6.out.box 2 _ rfl
        have HC7 := Lib.hid (wNums w.heap.size g _ bd3 bl3 bc3 e.2.2.1 w6 H6.out.wr (H6.out.ints HE.out.2.2.2.2.1) HN3.out (by omega) (by have := Hl1.out; have := Hl2.out; have := Hl3.out; have := Hl4.out; simp only [List.length_append]; omega) H6.out.kept.size (off_ints HE.out.2.2.2.2.1))
        go_wp2_with fail
        refine HC7.out.mono ?_
        clear HC7 c2
        rintro r w7 ⟨rfl, hw, hk⟩
        have H7 := Lib.hid (H6.out.step hg1 hw hk)
        clear hw hk H6
        have c3 := Holds.cell H7.out.box 3 _ rfl
        have HC8 := Lib.hid (wNums w.heap.size g _ bd4 bl4 bc4 e.2.2.2.1 w7 H7.out.wr (H7.out.ints HE.out.2.2.2.2.2.2.1) HN4.out (by omega) (by have := Hl1.out; have := Hl2.out; have := Hl3.out; have := Hl4.out; simp only [List.length_append]; omega) H7.out.kept.size (off_ints HE.out.2.2.2.2.2.2.1))
        go_wp2_with fail
        refine HC8.out.mono ?_
        clear HC8 c3
        rintro r w8 ⟨rfl, hw, hk⟩
        have H8 := Lib.hid (H7.out.step hg1 hw hk)
        clear hw hk H7
        have c4 := Holds.cell H8.out.box 4 _ rfl
        have HC9 := Lib.hid (wNum w.heap.size g _ s w8 H8.out.wr (by unfold MaxN; omega) (by have := Hl1.out; have := Hl2.out; have := Hl3.out; have := Hl4.out; simp only [List.length_append]; omega) H8.out.kept.size)
        go_wp2_with fail
        refine HC9.out.mono ?_
        clear HC9 c4
        rintro r w9 ⟨rfl, hw, hk⟩
        have H9 := Lib.hid (H8.out.step hg1 hw hk)
        clear hw hk H8
        have HW9 : Hid (WrW w9 w.heap.size g tot) := Lib.hid (by rw [HTOT.out]; exact H9.out.wr)
        have htn : tot ≠ [] := by
          intro h
          have := congrArg List.length HTOT.out
          rw [h] at this
          simp only [List.length_append, List.length_nil, numL_length] at this
          omega
        have HS := Lib.hid (wString w.heap.size g tot w9 HW9.out htn)
        have HK9 := Lib.hid H9.out.kept
        clear H9 HW9 htn
        go_wp2_with fail
        refine HS.out.mono ?_
        clear HS
        rintro r w10 ⟨rfl, hb⟩
        have HF : Hid (Kept (fun _ => False) w w10) := Lib.hid (HK9.out.mono (fun k h => h.1) |>.trans (⟨hb.os, hb.tape, hb.output, hb.size, fun q _ hx => hb.block q (by omega)⟩ : Kept (fun n => w.heap.size ≤ n) w9 w10) (fun n hn => .inl hn) |> fun h => ⟨h.os, h.tape, h.output, h.size, fun n hn _ => h.block n hn (by omega)⟩)
        clear hb HK9
        go_wp2
        go_ret2
        exact ⟨by simp [errV], HF.out⟩

end Go.Proofs.YtjdolimeibpacaaGreat
