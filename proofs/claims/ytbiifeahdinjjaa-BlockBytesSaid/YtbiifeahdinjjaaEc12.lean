/- Package block: Encode (printed by genec12b.py). -/
import Derived.Test.YtbiifeahdinjjaaBkK
import Derived.Test.YtbiifeahdinjjaaBkN
import Derived.Test.YtbiifeahdinjjaaSp12
import Derived.Test.YtbiifeahdinjjaaNm12
import Derived.Test.YtbiifeahdinjjaaOrd2
import Derived.Test.YtbiifeahdinjjaaOrdS
namespace Go.Proofs.Ytbiifeahdinjjaa
open Go.RowKit Go.Proofs Go.Proofs.Pk
set_option maxRecDepth 10000
attribute [local simp] mk_get wrap64_u8 mk_extract ByteArray.mk_append_mk get_1k

theorem bldAt_quiet {B b : Nat} {p : Value} {bs : List Value} {W W' : World} (h : Lib.BuilderAtF 49 5 B b p bs W) (k : Kept (fun _ => False) W W') : Lib.BuilderAtF 49 5 B b p bs W' := by
  have hl := h.lt
  obtain ⟨h0, v, h1, h2, h3⟩ := h
  refine ⟨h0, v, (k.block b hl (fun f => f)).trans h1, ?_, h3⟩
  exact h2.kept (row := none) ⟨k.os, k.tape, k.output, k.size, fun n hn _ => k.block n hn (fun f => f)⟩ (Classical.em _)
theorem bld_quiet {B b : Nat} {bs : List Value} {W W' : World} (h : Lib.IsBuilderF 49 5 B b bs W) (k : Kept (fun _ => False) W W') : Lib.IsBuilderF 49 5 B b bs W' :=
  h.elim (fun z => .inl (bldAt_quiet z k)) (fun z => .inr (bldAt_quiet z k))
theorem kept_onto {a b c : World} {B : Nat} (h : Kept (fun _ => False) a b) (k : Below B b c) (hB : a.heap.size ≤ B) : Kept (fun _ => False) a c :=
  ⟨k.os.trans h.os, k.tape.trans h.tape, k.output.trans h.output, Nat.le_trans h.size k.size, fun n hn hf => (k.block n (by omega)).trans (h.block n hn hf)⟩
/-- What stands while an entry is written: the builder's bytes, the entry's own cells. -/
structure EncAt (w0 : World) (B g : Nat) (x : MEnt) (out : Txt) (W : World) : Prop where
  bld : Lib.IsBuilderF 49 5 B B (Lib.byteCells out) W
  hB : B ≤ W.heap.size
  base : w0.heap.size ≤ B
  kept : Kept (fun _ => False) w0 W
  row : W.heap[g]? = some (.cells (entC x).toArray 37 (0, 0))
  hg : g ≠ B
theorem EncAt.lt {w0 W : World} {B g : Nat} {x : MEnt} {out : Txt} (h : EncAt w0 B g x out W) : g < W.heap.size := by
  have := h.row
  rcases Nat.lt_or_ge g W.heap.size with hl | hl
  · exact hl
  · rw [Array.getElem?_eq_none hl] at this; cases this
theorem EncAt.quiet {w0 W W' : World} {B g : Nat} {x : MEnt} {out : Txt} (h : EncAt w0 B g x out W) (k : Kept (fun _ => False) W W') : EncAt w0 B g x out W' :=
  ⟨bld_quiet h.bld k, Nat.le_trans h.hB k.size, h.base, h.kept.trans k (fun _ f => f.elim), (k.block g h.lt (fun f => f)).trans h.row, h.hg⟩
theorem EncAt.put {w0 W W' : World} {B g : Nat} {x : MEnt} {out : Txt} (h : EncAt w0 B g x out W) (s : Txt) (k : Lib.BuilderAtF 49 5 B B (.pointer (some ⟨B, 0, Option.none⟩)) (Lib.byteCells out ++ Lib.strCells ⟨s.toArray⟩) W' ∧ Below B W W' ∧ Lib.OthersKept 5 (some B) W W') : EncAt w0 B g x (out ++ s) W' :=
  ⟨.inr (by rw [Lib.byteCells_append, ← strCells_mk s]; exact k.1), Nat.le_trans h.hB k.2.1.size, h.base, kept_onto h.kept k.2.1 h.base,
    k.2.2 g _ h.row (fun e => h.hg (Option.some.inj e)) (fun c fz e => by injection e with _ e _; revert e; decide), h.hg⟩
theorem EncAt.cells {w0 W : World} {B g : Nat} {x : MEnt} {out : Txt} (h : EncAt w0 B g x out W) : W.cell? ⟨g, 0, Option.none⟩ = some (.string ⟨x.1.toArray⟩) ∧ W.cell? ⟨g, 1, Option.none⟩ = some (.int .i64 x.2.1) ∧ W.cell? ⟨g, 2, Option.none⟩ = some (.bool x.2.2.1) ∧ W.cell? ⟨g, 3, Option.none⟩ = some (.string ⟨x.2.2.2.toArray⟩) := by
  have := h.row
  refine ⟨?_, ?_, ?_, ?_⟩ <;> simp [World.cell?, this, entC]

set_option maxHeartbeats 8000000 in
theorem pEncode (w : World) (ad : Option Addr) (len cap : Nat) (l : List MEnt) (h : EntsW w ad len l) (hlm : (len : Int) ≤ 140737488351232) :
    Calls Try.prog 10 #[.slice ad len cap] w fun e w' => e = .returned (.tuple #[.string ⟨(encB l).1.toArray⟩, errV 45 (encB l).2]) ∧ Kept (fun _ => False) w w' := by
  have hlen := h.1
  by_cases hbig : 200 < l.length
  · have HV : Hid (encB l = ([], 5)) := by show _ = _; unfold encB; rw [if_pos hbig]
    have h1 : (200 : Int) < (len : Int) := by omega
    rw [HV.out]
    clear h hbig
    go_enter Try.func10, Try.ntmps10
    go_wp2
    go_ret2
    exact ⟨rfl, Kept.refl _ _⟩
  have h1 : ¬(200 : Int) < (len : Int) := by omega
  have CS := Lib.hid (pSorted w ad len cap l h hlm)
  obtain ⟨sb, hsb⟩ : ∃ sb, Hid (sb = sortB l) := ⟨sortB l, rfl⟩
  rw [← hsb.out] at CS
  cases sb with
  | false =>
    have HV : Hid (encB l = ([], 1)) := by show _ = _; unfold encB; rw [if_neg hbig, ← hsb.out]; rfl
    rw [HV.out]
    clear h hbig
    go_enter Try.func10, Try.ntmps10
    go_wp2_with fail
    refine CS.out.mono ?_
    rintro e wx ⟨rfl, hk⟩
    have HK := Lib.hid hk
    clear hk CS
    go_wp2
    go_ret2
    exact ⟨rfl, HK.out⟩
  | true =>
    have H := Lib.hid h
    have hss : Hid (sortB l = true) := hsb.out.symm
    have HV : Hid (encB l = (outB l len, 0)) := by have := out_all hbig hss.out; rw [hlen] at this; exact this
    rw [HV.out]
    have CL := Lib.hid (fun W : World => pNum12 len W (by unfold MaxN; omega))
    obtain ⟨o0, ho0⟩ : ∃ o0, Hid (o0 = numL len) := ⟨numL len, rfl⟩
    have HO0 : Hid (o0.length ≤ 8) := by show _ ≤ _; rw [ho0.out]; exact numL_len_le _
    rw [← ho0.out] at CL
    obtain ⟨w0, hw0⟩ : ∃ w0, w0 = w := ⟨_, rfl⟩
    rw [← hw0] at H CS ⊢
    clear h hbig hw0
    go_enter Try.func10, Try.ntmps10
    go_wp2_with fail
    refine CS.out.mono ?_
    rintro e wx ⟨rfl, hk⟩
    have HKx := Lib.hid hk
    clear hk CS
    have HF := Lib.hid (fresh wx)
    have HZ : Hid (Kept (fun _ => False) w0 (wx.alloc (.cells #[.pointer Option.none, .slice Option.none 0 0] 49))) := HKx.out.alloc _
    have hws := HKx.out.size
    obtain ⟨B, hB⟩ : ∃ B, B = wx.heap.size := ⟨_, rfl⟩
    have HB1 : Hid (B < (wx.alloc (.cells #[.pointer Option.none, .slice Option.none 0 0] 49)).heap.size) := by show _ < _; rw [hB]; simp
    go_wp2_with fail
    rw [← hB] at HF hws ⊢
    refine (CL.out _).mono ?_
    rintro e wy ⟨rfl, hk⟩
    have HB2 : Hid (B ≤ wy.heap.size) := by have := hk.size; have := HB1.out; show _ ≤ _; omega
    have HKy := Lib.hid (HZ.out.trans hk (fun _ f => f.elim))
    have HF2 := Lib.hid (bld_quiet HF.out hk)
    clear hk CL HF HZ HB1 hB HKx
    go_wp2_with fail
    refine (Try.Builder_WriteString_k B B _ ⟨o0.toArray⟩ _ HF2.out (by have := HO0.out; rw [Lib.byteCells_length, mk_size, List.length_nil]; omega) HB2.out).mono ?_
    rintro e wz ⟨rfl, h2, b2, _⟩
    have HI : Hid (Lib.IsBuilderF 49 5 B B (Lib.byteCells (outB l 0)) wz ∧ B ≤ wz.heap.size ∧ Kept (fun _ => False) w0 wz) :=
      ⟨.inr (by have e : outB l 0 = [] ++ o0 := by rw [ho0.out]; unfold outB; rw [hlen]; simp [bodyB]
                rw [e, Lib.byteCells_append, ← strCells_mk o0]; exact h2), Nat.le_trans HB2.out b2.size, kept_onto HKy.out b2 hws⟩
    have HWS := Lib.hid hws
    clear h2 b2 HB2 HKy HF2 ho0 HO0 hws
    go_wp2
    go_loopw [5, 23] (fun o i wr => ∃ j : Nat, j ≤ len ∧ i = .int .i64 (j : Int) ∧ o = .string ⟨(lastK [] (l.take j)).toArray⟩ ∧ Hid (Lib.IsBuilderF 49 5 B B (Lib.byteCells (outB l j)) wr ∧ B ≤ wr.heap.size ∧ Kept (fun _ => False) w0 wr)) (fun _ i _ => len - (intOf i).toNat)
    case atStart => exact ⟨0, Nat.zero_le _, rfl, rfl, HI⟩
    case round =>
      obtain ⟨j, hj, rfl, rfl, hI⟩ := hrel
      clear HI
      have j0 : (0 : Int) ≤ (j : Int) := by omega
      by_cases hlt : j < len
      case neg =>
        obtain rfl : j = len := by omega
        have jn : ¬(j : Int) < (j : Int) := by omega
        generalize lastK [] (l.take j) = lk
        go_wp2_with fail
        refine (Try.Builder_String_any_k B B _ _ hI.out.1 hI.out.2.1).mono ?_
        rintro e wf ⟨rfl, _, b3, _⟩
        have HKf := Lib.hid (kept_onto hI.out.2.2 b3 HWS.out)
        clear hI b3
        go_wp2
        go_ret2
        exact ⟨rfl, HKf.out⟩
      have jn : (j : Int) < (len : Int) := by omega
      have hwj : IntKind.i64.wrap ((j : Int) + 1) = (j : Int) + 1 := IntWalk.i64_in _ (by omega)
      have hjl : j < l.length := by omega
      have hE := ents_keptK H.out hI.out.2.2
      obtain ⟨b, off, rfl, hb, d0, d1, d2, d3⟩ := hE.atS j hjl
      obtain ⟨x, hx⟩ : ∃ x, Hid (x = l[j]'hjl) := ⟨l[j]'hjl, rfl⟩
      rw [← hx.out] at d0 d1 d2 d3
      have hrx : rightM x = true := by rw [hx.out]; exact sort_mem l none hss.out _ (List.getElem_mem hjl)
      obtain ⟨_, r2, r3, r4, r5, _⟩ := right_of hrx
      obtain ⟨n, hn⟩ : ∃ n, Hid (n = shareB (lastK [] (l.take j)) j x.1) := ⟨_, rfl⟩
      have hnl : n ≤ x.1.length := by rw [hn.out]; exact (share_le _ _ _).2
      obtain ⟨lk, hlk⟩ : ∃ lk, Hid (lk = lastK [] (l.take j)) := ⟨_, rfl⟩
      have hlkl : lk.length ≤ 80 := by
        rw [hlk.out]
        by_cases h0 : j = 0
        · subst h0; simp [lastK]
        · rw [last_take (by omega) (by omega)]
          exact (right_of (sort_mem l none hss.out _ (List.getElem_mem (by omega)))).2.1
      have HLK1 : Hid (lastK [] (l.take (j + 1)) = x.1) := by show _ = _; rw [last_take (by omega) (by omega), hx.out]; rfl
      obtain ⟨q, hq⟩ : ∃ q, Hid (q = x.2.1.toNat) := ⟨x.2.1.toNat, rfl⟩
      have hqx : x.2.1 = (q : Int) := by rw [hq.out]; omega
      have HQX := Lib.hid hqx
      obtain ⟨tl, htl⟩ : ∃ tl, tl = x.1.drop n := ⟨_, rfl⟩
      have htll : tl.length ≤ 80 := by rw [htl, List.length_drop]; omega
      have HB := Lib.hid (out_bound hss.out j (by omega))
      obtain ⟨out, hout⟩ : ∃ out, Hid (out = outB l j) := ⟨outB l j, rfl⟩
      rw [← hout.out] at HB hI
      have CH := Lib.hid (fun W : World => pShared j lk x.1 W (by omega) (by omega) (by omega))
      have CN := Lib.hid (fun W : World => pNum12 n W (by unfold MaxN; omega))
      have CT := Lib.hid (fun W : World => pTxt12 tl W (by omega))
      have CQ := Lib.hid (fun W : World => pNum12 q W (by rw [hq.out]; unfold MaxN; omega))
      have C1 := Lib.hid (fun W : World => pNum12 1 W (by unfold MaxN; omega))
      have C0 := Lib.hid (fun W : World => pNum12 0 W (by unfold MaxN; omega))
      have CV := Lib.hid (fun W : World => pTxt12 x.2.2.2 W (by omega))
      rw [← hqx] at CQ
      rw [show ((1 : Nat) : Int) = 1 from rfl] at C1
      rw [show ((0 : Nat) : Int) = 0 from rfl] at C0
      have HREC : Hid (outB l (j + 1) = out ++ (numL n ++ txtL tl ++ numL q ++ dropB x)) := by
        show _ = _
        rw [out_step hjl, ← hout.out, ← hx.out, recB, ← hn.out, ← htl, ← hq.out]
      obtain ⟨A1, hA1⟩ : ∃ A1, Hid (A1 = numL n) := ⟨_, rfl⟩
      obtain ⟨A2, hA2⟩ : ∃ A2, Hid (A2 = txtL tl) := ⟨_, rfl⟩
      obtain ⟨A3, hA3⟩ : ∃ A3, Hid (A3 = numL q) := ⟨_, rfl⟩
      obtain ⟨A4, hA4⟩ : ∃ A4, Hid (A4 = numL 0) := ⟨_, rfl⟩
      obtain ⟨A5, hA5⟩ : ∃ A5, Hid (A5 = txtL x.2.2.2) := ⟨_, rfl⟩
      obtain ⟨A6, hA6⟩ : ∃ A6, Hid (A6 = numL 1) := ⟨_, rfl⟩
      have HOUT1 : Hid (x.2.2.1 = true → outB l (j + 1) = out ++ A1 ++ A2 ++ A3 ++ A6) := fun hd => by rw [HREC.out, dropB, if_pos hd, hA1.out, hA2.out, hA3.out, hA6.out]; simp only [List.append_assoc]
      have HOUT0 : Hid (x.2.2.1 = false → outB l (j + 1) = out ++ A1 ++ A2 ++ A3 ++ A4 ++ A5) := fun hd => by rw [HREC.out, dropB, if_neg (by rw [hd]; simp), hA1.out, hA2.out, hA3.out, hA4.out, hA5.out]; simp only [List.append_assoc]
      have HLE : Hid (A1.length ≤ 8 ∧ A2.length ≤ 88 ∧ A3.length ≤ 8 ∧ A4.length ≤ 8 ∧ A5.length ≤ 308 ∧ A6.length ≤ 8 ∧ out.length ≤ 84808) :=
        ⟨by rw [hA1.out]; exact numL_len_le _, by rw [hA2.out]; have := numL_len_le tl.length; unfold txtL; rw [List.length_append]; omega, by rw [hA3.out]; exact numL_len_le _, by rw [hA4.out]; exact numL_len_le _,
          by rw [hA5.out]; have := numL_len_le x.2.2.2.length; unfold txtL; rw [List.length_append]; omega, by rw [hA6.out]; exact numL_len_le _, by have := HB.out; omega⟩
      rw [← hA1.out] at CN
      rw [← hA2.out] at CT
      rw [← hA3.out] at CQ
      rw [← hA4.out] at C0
      rw [← hA5.out] at CV
      rw [← hA6.out] at C1
      have hts : List.take (x.1.length - n) (List.drop n x.1) = tl := by rw [htl, List.take_of_length_le (by rw [List.length_drop]; exact Nat.le_refl _)]
      have HTL := Lib.hid htl
      have nX : (n : Int) ≤ (x.1.length : Int) := by omega
      have n0 : (0 : Int) ≤ (n : Int) := by omega
      have HEA : Hid (EncAt w0 B wr.heap.size x out (wr.alloc (.cells (entC x).toArray 37))) := by
        have hbl := bld_quiet hI.out.1 ((Kept.refl (fun _ => False) wr).alloc (.cells (entC x).toArray 37))
        have hlt2 : B < wr.heap.size := hI.out.1.elim (fun z => z.lt) (fun z => z.lt)
        exact ⟨hbl, by simp; omega, HWS.out, hI.out.2.2.alloc _, heap_alloc_new wr _, by omega⟩
      obtain ⟨g, hg⟩ : ∃ g, g = wr.heap.size := ⟨_, rfl⟩
      clear hE hb hI htll r2 r3 r4 r5 hrx HB HREC hqx htl hlkl hnl
      unfold entC at HEA
      rw [← hlk.out]
      go_upto_region 11 with fail
      rw [← hg] at HEA ⊢
      change Code.wp _ _ _ _ (wr.alloc (.cells (entC x).toArray 37))
      change Hid (EncAt w0 B g x out (wr.alloc (.cells (entC x).toArray 37))) at HEA
      clear d0 d1 d2 d3 hg
      generalize wr.alloc (.cells (entC x).toArray 37) = wa at HEA ⊢
      obtain ⟨c0, c1, c2, c3⟩ := HEA.out.cells
      rw [← hlk.out] at hn
      rw [← hn.out] at CH
      go_wp2_with fail
      refine (CH.out _).mono ?_
      rintro e u1 ⟨rfl, hk⟩
      have HE1 := Lib.hid (HEA.out.quiet hk)
      clear hk HEA
      obtain ⟨c0, c1, c2, c3⟩ := HE1.out.cells
      go_upto_region 12 with fail
      have HS0 := Lib.hid (HE1.out.quiet ((Kept.refl (fun _ => False) _).drewN 1))
      clear c0 c1 c2 c3 HE1
      refine wp_region_S (EncAt w0 B g x out) 12 (by kernel_rfl) HS0.out ?_
      clear HS0
      refine wpAnyS_take (i := 0) (v := (.int .i64 (n : Int))) (some 33) rfl rfl (by kernel_rfl) (by kernel_rfl) (by kernel_rfl) (by kernel_rfl) (fun _ _ _ h => h) (by kernel_rfl) (fun W hW => by obtain ⟨c0, c1, c2, c3⟩ := hW.cells; go_simp) ?_
      refine wpAnyS_call (i := 1) (v := (.string ⟨A1.toArray⟩)) (f := 21) (args := #[.int .i64 (n : Int)]) (some 34) rfl rfl (by kernel_rfl) (by kernel_rfl) (by kernel_rfl) (by kernel_rfl) (fun _ _ _ h => h) (by kernel_rfl) (fun W _ => by kernel_rfl) (fun W hW => (CN.out W).mono fun e W2 h => ⟨h.1, hW.quiet h.2⟩) ?_
      refine wpAnyS_take (i := 2) (v := (.pointer (some ⟨g, 0, Option.none⟩))) (some 35) rfl rfl (by kernel_rfl) (by kernel_rfl) (by kernel_rfl) (by kernel_rfl) (fun _ _ _ h => h) (by kernel_rfl) (fun W hW => by obtain ⟨c0, c1, c2, c3⟩ := hW.cells; go_simp) ?_
      refine wpAnyS_take (i := 3) (v := (.string ⟨x.1.toArray⟩)) (some 36) rfl rfl (by kernel_rfl) (by kernel_rfl) (by kernel_rfl) (by kernel_rfl) (fun _ _ _ h => h) (by kernel_rfl) (fun W hW => by obtain ⟨c0, c1, c2, c3⟩ := hW.cells; go_simp) ?_
      refine wpAnyS_take (i := 4) (v := (.int .i64 (n : Int))) (some 37) rfl rfl (by kernel_rfl) (by kernel_rfl) (by kernel_rfl) (by kernel_rfl) (fun _ _ _ h => h) (by kernel_rfl) (fun W hW => by obtain ⟨c0, c1, c2, c3⟩ := hW.cells; go_simp) ?_
      refine wpAnyS_take (i := 5) (v := (.string ⟨tl.toArray⟩)) (some 38) rfl rfl (by kernel_rfl) (by kernel_rfl) (by kernel_rfl) (by kernel_rfl) (fun _ _ _ h => h) (by kernel_rfl) (fun W hW => by obtain ⟨c0, c1, c2, c3⟩ := hW.cells; go_simp) ?_
      refine wpAnyS_call (i := 6) (v := (.string ⟨A2.toArray⟩)) (f := 23) (args := #[.string ⟨tl.toArray⟩]) (some 39) rfl rfl (by kernel_rfl) (by kernel_rfl) (by kernel_rfl) (by kernel_rfl) (fun _ _ _ h => h) (by kernel_rfl) (fun W _ => by kernel_rfl) (fun W hW => (CT.out W).mono fun e W2 h => ⟨h.1, hW.quiet h.2⟩) ?_
      refine wpAnyS_take (i := 7) (v := (.string ⟨(A1 ++ A2).toArray⟩)) (some 40) rfl rfl (by kernel_rfl) (by kernel_rfl) (by kernel_rfl) (by kernel_rfl) (fun _ _ _ h => h) (by kernel_rfl) (fun W hW => by obtain ⟨c0, c1, c2, c3⟩ := hW.cells; go_simp; have := HLE.out; omega) ?_
      refine wpAnyS_take (i := 8) (v := (.pointer (some ⟨g, 1, Option.none⟩))) (some 41) rfl rfl (by kernel_rfl) (by kernel_rfl) (by kernel_rfl) (by kernel_rfl) (fun _ _ _ h => h) (by kernel_rfl) (fun W hW => by obtain ⟨c0, c1, c2, c3⟩ := hW.cells; go_simp) ?_
      refine wpAnyS_take (i := 9) (v := (.int .i64 x.2.1)) (some 42) rfl rfl (by kernel_rfl) (by kernel_rfl) (by kernel_rfl) (by kernel_rfl) (fun _ _ _ h => h) (by kernel_rfl) (fun W hW => by obtain ⟨c0, c1, c2, c3⟩ := hW.cells; go_simp) ?_
      refine wpAnyS_call (i := 10) (v := (.string ⟨A3.toArray⟩)) (f := 21) (args := #[.int .i64 x.2.1]) (some 43) rfl rfl (by kernel_rfl) (by kernel_rfl) (by kernel_rfl) (by kernel_rfl) (fun _ _ _ h => h) (by kernel_rfl) (fun W _ => by kernel_rfl) (fun W hW => (CQ.out W).mono fun e W2 h => ⟨h.1, hW.quiet h.2⟩) ?_
      refine wpAnyS_take (i := 11) (v := (.string ⟨(A1 ++ A2 ++ A3).toArray⟩)) (some 44) rfl rfl (by kernel_rfl) (by kernel_rfl) (by kernel_rfl) (by kernel_rfl) (fun _ _ _ h => h) (by kernel_rfl) (fun W hW => by obtain ⟨c0, c1, c2, c3⟩ := hW.cells; go_simp; have := HLE.out; omega) ?_
      refine wpAnyS_last (i := 12) (by kernel_rfl) (Nat.le_refl _) fun W hW => ?_
      have HW := Lib.hid hW
      clear hW
      refine wpOp_call (f := 20) (args := #[.pointer (some ⟨B, 0, Option.none⟩), .string ⟨(A1 ++ A2 ++ A3).toArray⟩]) (some 45) rfl rfl (by kernel_rfl) (by kernel_rfl) ?_
      refine (Try.Builder_WriteString_k B B _ ⟨(A1 ++ A2 ++ A3).toArray⟩ _ HW.out.bld (by have := HLE.out; rw [Lib.byteCells_length, mk_size]; (try simp only [List.length_append]); omega) HW.out.hB).mono ?_
      rintro e wb ⟨rfl, hk⟩
      refine ⟨_, rfl, ?_⟩
      have HEB := Lib.hid (HW.out.put (A1 ++ A2 ++ A3) hk)
      clear hk HW
      refine wpAny_done (by kernel_rfl) ?_ _
      simp only [put_none, put_lit, List.set_cons_succ, List.set_cons_zero]
      obtain ⟨c0, c1, c2, c3⟩ := HEB.out.cells
      obtain ⟨outB2, houtB2⟩ : ∃ o2, Hid (o2 = out ++ (A1 ++ A2 ++ A3)) := ⟨_, rfl⟩
      rw [← houtB2.out] at HEB
      have HLB : Hid (outB2.length ≤ 84912) := by show _ ≤ _; rw [houtB2.out]; have := HLE.out; simp only [List.length_append]; omega
      obtain ⟨d, hd⟩ : ∃ d, Hid (d = x.2.2.1) := ⟨x.2.2.1, rfl⟩
      rw [← hd.out] at c2
      clear CN CT CQ CH HTL hts
      cases d with
      | true =>
        go_wp2_with fail
        refine (C1.out _).mono ?_
        rintro e w14 ⟨rfl, hk⟩
        have HE14 := Lib.hid (HEB.out.quiet hk)
        clear hk c0 c1 c2 c3 HEB
        go_wp2_with fail
        refine (Try.Builder_WriteString_k B B _ ⟨A6.toArray⟩ _ HE14.out.bld (by have := HLE.out; have := HLB.out; rw [Lib.byteCells_length, mk_size]; omega) HE14.out.hB).mono ?_
        rintro e w15 ⟨rfl, hk⟩
        have HE15 := Lib.hid (HE14.out.put A6 hk)
        clear hk HE14
        obtain ⟨c0, c1, c2, c3⟩ := HE15.out.cells
        have HN : Hid (Lib.IsBuilderF 49 5 B B (Lib.byteCells (outB l (j + 1))) w15 ∧ B ≤ w15.heap.size ∧ Kept (fun _ => False) w0 w15) := ⟨by rw [show outB l (j + 1) = outB2 ++ A6 from by rw [HOUT1.out hd.out.symm, houtB2.out]; simp only [List.append_assoc]]; exact HE15.out.bld, HE15.out.hB, HE15.out.kept⟩
        go_wp2
        go_roundw
        case rel => exact ⟨j + 1, by omega, by first | rfl | go_num, by rw [HLK1.out], HN⟩
        case measure => simp [intOf]; omega
      | false =>
        go_upto_region 15 with fail
        have HS0 := Lib.hid (HEB.out.quiet ((Kept.refl (fun _ => False) _).drewN 1))
        clear c0 c1 c2 c3 HEB
        refine wp_region_S (EncAt w0 B g x outB2) 5 (by kernel_rfl) HS0.out ?_
        clear HS0
        refine wpAnyS_call (i := 0) (v := (.string ⟨A4.toArray⟩)) (f := 21) (args := #[.int .i64 0]) (some 50) rfl rfl (by kernel_rfl) (by kernel_rfl) (by kernel_rfl) (by kernel_rfl) (fun _ _ _ h => h) (by kernel_rfl) (fun W _ => by kernel_rfl) (fun W hW => (C0.out W).mono fun e W2 h => ⟨h.1, hW.quiet h.2⟩) ?_
        refine wpAnyS_take (i := 1) (v := (.pointer (some ⟨g, 3, Option.none⟩))) (some 51) rfl rfl (by kernel_rfl) (by kernel_rfl) (by kernel_rfl) (by kernel_rfl) (fun _ _ _ h => h) (by kernel_rfl) (fun W hW => by obtain ⟨c0, c1, c2, c3⟩ := hW.cells; go_simp) ?_
        refine wpAnyS_take (i := 2) (v := (.string ⟨x.2.2.2.toArray⟩)) (some 52) rfl rfl (by kernel_rfl) (by kernel_rfl) (by kernel_rfl) (by kernel_rfl) (fun _ _ _ h => h) (by kernel_rfl) (fun W hW => by obtain ⟨c0, c1, c2, c3⟩ := hW.cells; go_simp) ?_
        refine wpAnyS_call (i := 3) (v := (.string ⟨A5.toArray⟩)) (f := 23) (args := #[.string ⟨x.2.2.2.toArray⟩]) (some 53) rfl rfl (by kernel_rfl) (by kernel_rfl) (by kernel_rfl) (by kernel_rfl) (fun _ _ _ h => h) (by kernel_rfl) (fun W _ => by kernel_rfl) (fun W hW => (CV.out W).mono fun e W2 h => ⟨h.1, hW.quiet h.2⟩) ?_
        refine wpAnyS_take (i := 4) (v := (.string ⟨(A4 ++ A5).toArray⟩)) (some 54) rfl rfl (by kernel_rfl) (by kernel_rfl) (by kernel_rfl) (by kernel_rfl) (fun _ _ _ h => h) (by kernel_rfl) (fun W hW => by obtain ⟨c0, c1, c2, c3⟩ := hW.cells; go_simp; have := HLE.out; omega) ?_
        refine wpAnyS_last (i := 5) (by kernel_rfl) (Nat.le_refl _) fun W hW => ?_
        have HW := Lib.hid hW
        clear hW
        refine wpOp_call (f := 20) (args := #[.pointer (some ⟨B, 0, Option.none⟩), .string ⟨(A4 ++ A5).toArray⟩]) (some 55) rfl rfl (by kernel_rfl) (by kernel_rfl) ?_
        refine (Try.Builder_WriteString_k B B _ ⟨(A4 ++ A5).toArray⟩ _ HW.out.bld (by have := HLE.out; have := HLB.out; rw [Lib.byteCells_length, mk_size]; (try simp only [List.length_append]); omega) HW.out.hB).mono ?_
        rintro e w15 ⟨rfl, hk⟩
        refine ⟨_, rfl, ?_⟩
        have HE15 := Lib.hid (HW.out.put (A4 ++ A5) hk)
        clear hk HW
        refine wpAny_done (by kernel_rfl) ?_ _
        simp only [put_none, put_lit, List.set_cons_succ, List.set_cons_zero]
        obtain ⟨c0, c1, c2, c3⟩ := HE15.out.cells
        have HN : Hid (Lib.IsBuilderF 49 5 B B (Lib.byteCells (outB l (j + 1))) w15 ∧ B ≤ w15.heap.size ∧ Kept (fun _ => False) w0 w15) := ⟨by rw [show outB l (j + 1) = outB2 ++ (A4 ++ A5) from by rw [HOUT0.out hd.out.symm, houtB2.out]; simp only [List.append_assoc]]; exact HE15.out.bld, HE15.out.hB, HE15.out.kept⟩
        go_wp2
        go_roundw
        case rel => exact ⟨j + 1, by omega, by first | rfl | go_num, by rw [HLK1.out], HN⟩
        case measure => simp [intOf]; omega

end Go.Proofs.Ytbiifeahdinjjaa
