/- Layer 18's landed program: Encode and its closure, which writes a number. -/
import Derived.Test.YtgjblcjoglaldaaPc18
namespace Go.Proofs.Ytgjblcjoglaldaa
open Go.RowKit Go.Proofs Go.Proofs.Pk
set_option maxRecDepth 10000
attribute [local simp] mk_get wrap64_u8 mk_extract ByteArray.mk_append_mk get_1k

theorem bldAt_quietP {B b : Nat} {p : Value} {bs : List Value} {W W' : World} (h : Lib.BuilderAtF 54 5 B b p bs W) (k : Kept (fun _ => False) W W') : Lib.BuilderAtF 54 5 B b p bs W' := by
  have hl := h.lt
  obtain ⟨h0, v, h1, h2, h3⟩ := h
  refine ⟨h0, v, (k.block b hl (fun f => f)).trans h1, ?_, h3⟩
  exact h2.kept (row := none) ⟨k.os, k.tape, k.output, k.size, fun n hn _ => k.block n hn (fun f => f)⟩ (Classical.em _)
theorem bld_quietP {B b : Nat} {bs : List Value} {W W' : World} (h : Lib.IsBuilderF 54 5 B b bs W) (k : Kept (fun _ => False) W W') : Lib.IsBuilderF 54 5 B b bs W' :=
  h.elim (fun h => .inl (bldAt_quietP h k)) (fun h => .inr (bldAt_quietP h k))

set_option maxHeartbeats 4000000 in
theorem wrNum18 (B b : Nat) (l : DTxt) (n : Nat) (w : World) (h : Lib.IsBuilderF 54 5 B b (Lib.byteCells l) w) (hn : n ≤ MaxN) (hlen : l.length + 8 ≤ 140737488355328) (hBw : B ≤ w.heap.size) :
    Calls Try.prog 25 #[.int .i64 (n : Int), .pointer (some ⟨b, 0, none⟩)] w fun e w' => e = .returned (.tuple #[]) ∧ Lib.IsBuilderF 54 5 B b (Lib.byteCells (l ++ numL n)) w' ∧ Below B w w' ∧ Lib.OthersKept 5 (some b) w w' := by
  have HN := Lib.hid (pNum_ok n w hn)
  have HL := Lib.hid (numL_len_le n)
  have H := Lib.hid h
  clear h
  go_enter Try.func25, Try.ntmps25
  go_wp2_with fail
  refine HN.out.mono ?_
  clear HN
  rintro e w1 ⟨rfl, hb⟩
  have hk : Kept (fun _ => False) w w1 := Kept.of_below (fun _ => False) hb
  have HS := Lib.hid (Try.Builder_WriteString_k B b (Lib.byteCells l) ⟨(numL n).toArray⟩ w1 (bld_quietP H.out hk) (by have := HL.out; rw [Lib.byteCells_length, mk_size]; omega) (by have := hk.size; omega))
  have HK : Hid (Below B w w1 ∧ Lib.OthersKept 5 (some b) w w1) := Lib.hid ⟨hb.mono hBw, fun g o hg _ _ => (hb.block g (by rcases Nat.lt_or_ge g w.heap.size with h | h; exact h; rw [Array.getElem?_eq_none (by omega)] at hg; cases hg)).trans hg⟩
  clear hb hk H
  go_wp2_with fail
  refine HS.out.mono ?_
  clear HS
  rintro e w2 ⟨rfl, h2, b2, o2⟩
  have HE : Hid (Lib.IsBuilderF 54 5 B b (Lib.byteCells (l ++ numL n)) w2 ∧ Below B w w2 ∧ Lib.OthersKept 5 (some b) w w2) := Lib.hid ⟨.inr (by rw [Lib.byteCells_append, ← strCells_mk (numL n)]; exact h2), HK.out.1.trans b2, HK.out.2.trans o2⟩
  clear h2 b2 o2 HK
  go_wp2
  go_end0
  exact ⟨rfl, HE.out⟩

/-- Encode on its way: the definition's box, the builder. -/
structure EN (w W : World) (g : Nat) (ad : Option Addr) (len cap : Nat) (nm : DTxt) (l : DTxt) : Prop where
  kept : Kept (fun _ => False) w W
  box : Holds W w.heap.size [.string ⟨nm.toArray⟩, .slice ad len cap] 24
  bld : Lib.IsBuilderF 54 5 g g (Lib.byteCells l) W
  lt : w.heap.size < g
  le : g ≤ W.heap.size
theorem kept_of_belowP {g : Nat} {W W' : World} (h : Below g W W') : Kept (fun n => g ≤ n) W W' := ⟨h.os, h.tape, h.output, h.size, fun q _ hx => h.block q (by omega)⟩
theorem EN.step {w W W' : World} {g : Nat} {ad : Option Addr} {len cap : Nat} {nm l l' : DTxt} (h : EN w W g ad len cap nm l) (hb : Below g W W') (hl : Lib.IsBuilderF 54 5 g g (Lib.byteCells l') W') : EN w W' g ad len cap nm l' :=
  ⟨h.kept.trans (kept_of_belowP hb) (fun n hn => .inr (by have := h.lt; omega)), h.box.of_block ((kept_of_belowP hb).block _ h.box.lt (fun e => by have := h.lt; omega)), hl, h.lt, Nat.le_trans h.le hb.size⟩
theorem EN.quiet {w W W' : World} {g : Nat} {ad : Option Addr} {len cap : Nat} {nm l : DTxt} (h : EN w W g ad len cap nm l) (hk : Kept (fun _ => False) W W') : EN w W' g ad len cap nm l :=
  ⟨h.kept.trans hk (fun _ f => f.elim), h.box.of_block (hk.block _ h.box.lt (fun f => f)), bld_quietP h.bld hk, h.lt, Nat.le_trans h.le hk.size⟩
theorem others_holds {g k : Nat} {C : List Value} {e : TypeId} {W W' : World} (h : Lib.OthersKept 5 (some g) W W') (hh : Holds W k C e) (hg : k ≠ g) (he : e ≠ 5) : Holds W' k C e :=
  h k _ hh (fun x => hg (Option.some.inj x)) (fun c fz x => by injection x with _ x _; exact he x)
theorem stepB_len (s : StV) : (stepB s).length ≤ 16 := by
  unfold stepB
  have a := numL_len_le s.1.toNat
  have b := numL_len_le s.2.toNat
  rw [List.length_append]; omega
theorem stepsB_len : ∀ l : List StV, (l.flatMap stepB).length ≤ l.length * 16
  | [] => by simp
  | s :: r => by
    have := stepsB_len r
    have := stepB_len s
    rw [List.flatMap_cons, List.length_append, List.length_cons]; omega

set_option maxHeartbeats 8000000 in
theorem pEncode18 (w : World) (ad : Option Addr) (len cap : Nat) (d : DefV) (h0 : DefW w ad len cap d) :
    Calls Try.prog 15 #[defC d.1 ad len cap] w fun e w' => e = .returned (.tuple #[.string ⟨(encD d).1.toArray⟩, errV 49 (if (encD d).2 = true then 0 else 1)]) ∧ Kept (fun _ => False) w w' := by
  have hlen := h0.1.1
  have hbl : (len : Int) * 16 ≤ 140737488353280 := h0.2.1.2.2.1
  have HD := Lib.hid h0
  have HB := Lib.hid (DBox.new (Kept.refl _ w) h0)
  obtain ⟨nm, hnm⟩ : ∃ nm, Hid (nm = d.1) := ⟨_, rfl⟩
  unfold defC
  rw [← hnm.out] at HB ⊢
  clear h0
  obtain ⟨⟨tot, zo⟩, hZ⟩ : ∃ Z, Hid (Z = encD d) := ⟨_, Lib.hid rfl⟩
  rw [← hZ.out]
  simp only
  go_enter Try.func15, Try.ntmps15
  go_upto_region 1 with fail
  change Code.wp _ _ _ _ (w.alloc (.cells #[.string ⟨nm.toArray⟩, .slice ad len cap] 24))
  generalize w.alloc (.cells #[.string ⟨nm.toArray⟩, .slice ad len cap] 24) = wa at HB ⊢
  obtain ⟨d0, d1⟩ := HB.out.cells
  rw [← hnm.out] at d0
  have HR := Lib.hid (pRight18 wa ad len cap d HB.out.df)
  unfold defC at HR
  rw [← hnm.out] at HR
  go_wp2_with fail
  refine HR.out.mono ?_
  rintro e w1 ⟨rfl, hk⟩
  have HB1 := Lib.hid (HB.out.quiet hk)
  clear hk HB HR d0 d1
  obtain ⟨ok, hok⟩ : ∃ ok, Hid (ok = rightD d) := ⟨_, rfl⟩
  rw [← hok.out]
  cases ok with
  | false =>
    have hz : (tot, zo) = (([] : DTxt), false) := by rw [hZ.out]; exact encD_wrong hok.out.symm
    obtain ⟨rfl, rfl⟩ := Prod.mk.inj hz
    clear hz
    have HK := Lib.hid HB1.out.kept
    clear HB1 hok hZ
    go_wp2
    go_ret2
    exact ⟨rfl, HK.out⟩
  | true =>
    have HRt : Hid (rightD d = true) := Lib.hid hok.out.symm
    have hz : (tot, zo) = (bodyD d, true) := by rw [hZ.out]; exact encD_right HRt.out
    obtain ⟨hz1, rfl⟩ := Prod.mk.inj hz
    have htot := Lib.hid hz1
    clear hz hz1
    have hst : Hid (∀ s ∈ d.2, stepOk s = true) := Lib.hid (right_ofD HRt.out).2.2
    have hl6 : len ≤ 6 := by have := (right_ofD HRt.out).2.1.2; omega
    have hn20 : nm.length ≤ 20 := by rw [hnm.out]; exact (name_ofD (right_ofD HRt.out).1).2.2
    have HT : Hid (tot = txtL nm ++ numL len ++ d.2.flatMap stepB) := Lib.hid (by rw [htot.out, hnm.out]; unfold bodyD; rw [hlen])
    have htl := txtL_le nm
    have hnl := numL_len_le len
    have HX := Lib.hid (pText_ok nm w1 (by omega))
    obtain ⟨d0, d1⟩ := HB1.out.cells
    rw [← hnm.out] at d0
    clear hok hZ htot
    go_wp2_with fail
    refine HX.out.mono ?_
    clear HX d0 d1
    rintro e w2 ⟨rfl, hb2⟩
    have hk2 : Kept (fun _ => False) w1 w2 := Kept.of_below (fun _ => False) hb2
    have hbx : Holds w2 w.heap.size [.string ⟨nm.toArray⟩, .slice ad len cap] 24 := by have := (HB1.out.quiet hk2).box; rwa [← hnm.out] at this
    have H0 : Hid (EN w (w2.alloc (.cells #[.pointer none, .slice none 0 0] 54)) w2.heap.size ad len cap nm []) :=
      Lib.hid ⟨(HB1.out.kept.trans hk2 (fun _ f => f.elim)).alloc _, hbx.alloc _, fresh w2, hbx.lt, by simp⟩
    clear hb2 hk2 hbx HB1
    go_upto_region 5 with fail
    generalize w2.heap.size = g at H0 ⊢
    generalize w2.alloc (.cells #[.pointer none, .slice none 0 0] 54) = w3 at H0 ⊢
    have HS := Lib.hid (Try.Builder_WriteString_k g g (Lib.byteCells []) ⟨(txtL nm).toArray⟩ w3 H0.out.bld (by rw [Lib.byteCells_length, mk_size, List.length_nil]; omega) H0.out.le)
    go_wp2_with fail
    refine HS.out.mono ?_
    clear HS
    rintro e w4 ⟨rfl, h4, b4, _⟩
    have H4 : Hid (EN w w4 g ad len cap nm (txtL nm)) := Lib.hid (H0.out.step b4 (.inr (by rw [← strCells_mk (txtL nm)]; exact h4)))
    clear h4 b4 H0
    have d1 := Holds.cell H4.out.box 1 _ rfl
    have HC := Lib.hid (wrNum18 g g (txtL nm) len w4 H4.out.bld (by unfold MaxN; omega) (by omega) H4.out.le)
    go_wp2_with (go_at_call 25; fail)
    refine HC.out.mono ?_
    clear HC d1
    rintro e w5 ⟨rfl, h5, b5, _⟩
    have H5 : Hid (EN w w5 g ad len cap nm (txtL nm ++ numL len ++ (d.2.take 0).flatMap stepB)) := Lib.hid (by simpa using H4.out.step b5 h5)
    clear h5 b5 H4
    have d1 := Holds.cell H5.out.box 1 _ rfl
    go_wp2
    clear d1
    obtain ⟨wq, hwq⟩ : ∃ wq, wq = w5 := ⟨_, rfl⟩
    rw [← hwq] at H5 ⊢
    clear hwq
    go_loopw [31] (fun i wr => ∃ k : Nat, i = .int .i64 (k : Int) ∧ k ≤ len ∧ Hid (EN w wr g ad len cap nm (txtL nm ++ numL len ++ (d.2.take k).flatMap stepB))) (fun i _ => len - (intOf i).toNat)
    case atStart => exact ⟨0, rfl, Nat.zero_le _, H5⟩
    case round =>
      obtain ⟨k, rfl, hk, hI⟩ := hrel
      clear H5
      have k0 : (0 : Int) ≤ (k : Int) := by omega
      have hwk : IntKind.i64.wrap ((k : Int) + 1) = (k : Int) + 1 := IntWalk.i64_in _ (by omega)
      by_cases hlt : k < len
      · have kN : (k : Int) < (len : Int) := by omega
        have hkl : k < d.2.length := by omega
        obtain ⟨b, off, rfl, hbl', e0, e1, hft⟩ := (steps_kept HD.out.1 hI.out.kept).at k hkl
        obtain ⟨q1, q2, q3, q4⟩ := step_of (hst.out d.2[k] (List.getElem_mem hkl))
        have hstp : Hid ((d.2.take (k + 1)).flatMap stepB = (d.2.take k).flatMap stepB ++ stepB d.2[k]) := Lib.hid (by rw [List.take_succ_eq_append_getElem hkl, List.flatMap_append]; simp)
        have hpl : ((d.2.take k).flatMap stepB).length ≤ 96 := by
          have := stepsB_len (d.2.take k)
          have : (d.2.take k).length ≤ k := by rw [List.length_take]; omega
          omega
        obtain ⟨⟨s1, s2⟩, hs⟩ : ∃ s, s = d.2[k] := ⟨_, rfl⟩
        rw [← hs] at e0 e1 q1 q2 q3 q4 hstp
        simp only at e0 e1 q1 q2 q3 q4
        obtain ⟨a, rfl⟩ := Int.eq_ofNat_of_zero_le q1
        obtain ⟨c, rfl⟩ := Int.eq_ofNat_of_zero_le (show 0 ≤ s2 by omega)
        clear hs hft q1 q3
        have HBn := Lib.hid (Holds.new wr [.int .i64 (a : Int), .int .i64 (c : Int)] 43)
        have HEn := Lib.hid (hI.out.quiet ((Kept.refl _ wr).alloc (.cells #[.int .i64 (a : Int), .int .i64 (c : Int)] 43)))
        have hgw : g < wr.heap.size := hI.out.bld.elim (fun h => h.lt) (fun h => h.lt)
        go_upto_region 11 with fail
        have hBs := HBn.out
        change Holds (wr.alloc (.cells #[.int .i64 (a : Int), .int .i64 (c : Int)] 43)) _ _ _ at hBs
        obtain ⟨eb, heb⟩ : ∃ eb, eb = wr.heap.size := ⟨_, rfl⟩
        rw [← heb] at hBs hgw ⊢
        change Code.wp _ _ _ _ (wr.alloc (.cells #[.int .i64 (a : Int), .int .i64 (c : Int)] 43))
        generalize wr.alloc (.cells #[.int .i64 (a : Int), .int .i64 (c : Int)] 43) = wb at HEn hBs ⊢
        clear heb HBn e0 e1 hI hbl'
        have c0 := Holds.cell hBs 0 _ rfl
        have c1 := Holds.cell hBs 1 _ rfl
        have hpre : (txtL nm ++ numL len ++ (d.2.take k).flatMap stepB).length ≤ 200 := by rw [List.length_append, List.length_append]; omega
        have HC1 := Lib.hid (wrNum18 g g _ a wb HEn.out.bld (by unfold MaxN; omega) (by omega) HEn.out.le)
        have ha8 := numL_len_le a
        obtain ⟨pre, hpr⟩ : ∃ pre, Hid (pre = txtL nm ++ numL len ++ (d.2.take k).flatMap stepB) := ⟨_, Lib.hid rfl⟩
        rw [← hpr.out] at HEn HC1 hpre
        have hge : g < eb := hgw
        go_wp2_with (go_at_call 25; fail)
        refine HC1.out.mono ?_
        clear HC1
        rintro e w6 ⟨rfl, h6, b6, o6⟩
        have H6 : Hid (EN w w6 g (some ⟨b, off, none⟩) len cap nm (pre ++ numL a)) := Lib.hid (HEn.out.step b6 h6)
        have hB6 := others_holds o6 hBs (by omega) (by decide)
        clear h6 b6 o6 HEn hBs c0 c1
        have c1 := Holds.cell hB6 1 _ rfl
        have HC2 := Lib.hid (wrNum18 g g _ c w6 H6.out.bld (by unfold MaxN; omega) (by rw [List.length_append]; omega) H6.out.le)
        go_wp2_with (go_at_call 25; fail)
        refine HC2.out.mono ?_
        clear HC2 c1 hB6
        rintro e w7 ⟨rfl, h7, b7, o7⟩
        have HN : Hid (EN w w7 g (some ⟨b, off, none⟩) len cap nm (txtL nm ++ numL len ++ (d.2.take (k + 1)).flatMap stepB)) := Lib.hid (by
          have := H6.out.step b7 h7
          rw [hstp.out, show stepB ((a : Int), (c : Int)) = numL a ++ numL c from rfl]
          rw [hpr.out] at this
          simpa only [List.append_assoc] using this)
        clear h7 b7 o7 H6
        go_wp2
        go_roundw
        case rel => exact ⟨k + 1, by first | rfl | go_num, by omega, HN⟩
        case measure => simp [intOf]; omega
      · have kN : ¬(k : Int) < (len : Int) := by omega
        have HE : Hid (EN w wr g ad len cap nm tot) := Lib.hid (by
          have := hI.out
          rw [List.take_of_length_le (by omega)] at this
          rw [HT.out]; exact this)
        clear hI HT
        have HS := Lib.hid (Try.Builder_String_any_k g g tot wr HE.out.bld HE.out.le)
        go_wp2_with fail
        refine HS.out.mono ?_
        clear HS
        rintro e w6 ⟨rfl, h6, b6, _⟩
        have HF : Hid (Kept (fun _ => False) w w6) := Lib.hid (HE.out.step b6 h6).kept
        clear h6 b6 HE
        go_wp2
        go_ret2
        exact ⟨rfl, HF.out⟩

end Go.Proofs.Ytgjblcjoglaldaa
