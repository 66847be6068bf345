/- VolD, VolO. -/
import Derived.Test.YtfbgagpihhbllaaGreatDoorJ25
import Derived.Test.YtfbgagpihhbllaaGreatDoorJ26
import Derived.Test.YtfbgagpihhbllaaGreatDoorJ23
import Derived.BigQuiet

/- Package volume: store, change: a root made the volume's. -/
namespace Go.Proofs.YtfbgagpihhbllaaGreatDoor
open Go.RowKit Go.Proofs Go.Proofs.Pk
set_option maxRecDepth 10000
attribute [local simp] mk_get wrap64_u8 mk_extract ByteArray.mk_append_mk get_1k

theorem fails_down (V : Vol) (r : Dsk × Nat) : failsV V r = (downV ⟨r.1, V.R, V.gone⟩ r.2, r.2) := by
  unfold failsV downV; rfl
theorem putV_zero {V : Vol} {a : Nat} {b : List UInt8} (h : (putV V a b).2 = 0) : (putV V a b).1 = ⟨(writesL V.D (chunksAt a b)).1.sync.1, V.R, V.gone⟩ := by
  unfold putV at h ⊢
  simp only at h ⊢
  split at h
  · omega
  · rename_i h1
    simp only at h
    rw [if_neg h1]
    simp only
    rw [h]; rfl
theorem putV_bound (V : Vol) (a : Nat) (b : List UInt8) : (putV V a b).1.D.C.length ≤ V.D.C.length + nch b.length ∧ (putV V a b).1.D.n ≤ V.D.n + nch b.length ∧ (putV V a b).1.D.L.length = V.D.L.length := by
  obtain ⟨a1, a2, a3, _⟩ := writesL_all (chunksAt a b) V.D
  rw [chunksAt_length] at a2 a3
  have hsy : (writesL V.D (chunksAt a b)).1.sync.1.C.length ≤ (writesL V.D (chunksAt a b)).1.C.length ∧ (writesL V.D (chunksAt a b)).1.sync.1.n = (writesL V.D (chunksAt a b)).1.n ∧ (writesL V.D (chunksAt a b)).1.sync.1.L.length = (writesL V.D (chunksAt a b)).1.L.length := by
    unfold Dsk.sync
    split
    · exact ⟨Nat.le_refl _, rfl, rfl⟩
    · exact ⟨by simp, rfl, by simp only; rw [syncL_length]⟩
  unfold putV
  simp only
  split
  · unfold downV; split <;> exact ⟨by simp only; omega, by simp only; omega, by simp only; omega⟩
  · unfold downV; split <;> exact ⟨by simp only; omega, by simp only; omega, by simp only; omega⟩
theorem chunks_head (a : Nat) (b : List UInt8) (h : b.length = 64) : chunksAt a b = [(a, b)] := by
  unfold chunksAt nch
  rw [h]
  simp [chunk, List.range_succ]
  exact List.take_of_length_le (by omega)
theorem lay_put (V : Vol) (R : RootN) : layV V R = if (putV V (slotOf R.1 + 1) (rootBN R)).2 ≠ 0 then putV V (slotOf R.1 + 1) (rootBN R) else
    if (putV (putV V (slotOf R.1 + 1) (rootBN R)).1 (slotOf R.1) (headB R.1 (rootBN R).length)).2 ≠ 0 then putV (putV V (slotOf R.1 + 1) (rootBN R)).1 (slotOf R.1) (headB R.1 (rootBN R).length) else
    (⟨(putV (putV V (slotOf R.1 + 1) (rootBN R)).1 (slotOf R.1) (headB R.1 (rootBN R).length)).1.D, R, V.gone⟩, 0) := by
  by_cases h1 : (writesL V.D (chunksAt (slotOf R.1 + 1) (rootBN R))).2 ≠ 0
  · have e : putV V (slotOf R.1 + 1) (rootBN R) = failsV V (writesL V.D (chunksAt (slotOf R.1 + 1) (rootBN R))) := by rw [fails_down]; unfold putV; rw [if_pos h1]
    have e2 : layV V R = failsV V (writesL V.D (chunksAt (slotOf R.1 + 1) (rootBN R))) := by unfold layV; rw [if_pos h1]
    rw [e, e2, if_pos (by rw [fails_down]; exact h1)]
  · by_cases h2 : (writesL V.D (chunksAt (slotOf R.1 + 1) (rootBN R))).1.sync.2 ≠ 0
    · have e : putV V (slotOf R.1 + 1) (rootBN R) = failsV V (writesL V.D (chunksAt (slotOf R.1 + 1) (rootBN R))).1.sync := by rw [fails_down]; unfold putV; rw [if_neg h1]
      have e2 : layV V R = failsV V (writesL V.D (chunksAt (slotOf R.1 + 1) (rootBN R))).1.sync := by unfold layV; rw [if_neg h1, if_pos h2]
      rw [e, e2, if_pos (by rw [fails_down]; exact h2)]
    · have z : (putV V (slotOf R.1 + 1) (rootBN R)).2 = 0 := by unfold putV; rw [if_neg h1]; simp only; omega
      rw [if_neg (by omega), putV_zero z]
      have hc := chunks_head (slotOf R.1) (headB R.1 (rootBN R).length) (headB_length _ _)
      unfold layV
      rw [if_neg h1]
      simp only
      rw [if_neg h2]
      generalize (writesL V.D (chunksAt (slotOf R.1 + 1) (rootBN R))).1.sync.1 = S
      unfold putV
      simp only [hc, writesL_one]
      by_cases h3 : (S.write (slotOf R.1 : Nat) (headB R.1 (rootBN R).length)).2 ≠ 0
      · rw [if_pos h3, if_pos h3, if_pos (by simpa using h3), fails_down]
      · rw [if_neg h3, if_neg h3]
        by_cases h4 : (S.write (slotOf R.1 : Nat) (headB R.1 (rootBN R).length)).1.sync.2 ≠ 0
        · rw [if_pos h4, if_pos (by simpa using h4), fails_down]
        · have h4' : (S.write (slotOf R.1 : Nat) (headB R.1 (rootBN R).length)).1.sync.2 = 0 := by omega
          rw [if_neg h4, if_neg (by simpa using h4'), h4']
          rfl

set_option maxHeartbeats 2000000 in
theorem storeP (w : World) (B p pd : Nat) (V : Vol) (vF : Value) (X : Nat → Prop) (h : VlP w B p pd V vF X) (hg : ErrTy w) (hB : 0 < B) (hl : V.gone = false) (R : RootN) (vR : Value)
    (ho : w.ownsRow B 102 3 vR R.2.2.2.length (cellsF R.2.2.2)) (hno : ∀ b, vR.ownBlock = some b → ¬X b) (hr : rightN V.D.L.length R = true) (hC : V.D.C.length ≤ 900000) (hN : V.D.n ≤ 900000) :
    Calls Tryz.prog 52 #[.pointer (some ⟨p, 0, none⟩), .agg #[.int .i64 (R.1 : Int), .int .i64 (R.2.1 : Int), .int .i64 (R.2.2.1 : Int), vR]] w fun e w' => ∃ v, e = .returned v ∧ ErF w' v (layV V R).2 true ∧
      ∃ X' vF', VlP w' B p pd (layV V R).1 vF' X' ∧ Grows w X X' ∧ (∀ b, vF'.ownBlock = some b → vF.ownBlock = some b ∨ vR.ownBlock = some b ∨ w.heap.size ≤ b) ∧ Kept X w w' := by
  obtain ⟨rf1, rf2, rf3, rf4, rf5, rf6, rf7⟩ := right_few hr
  have hlt := h.lt
  obtain ⟨ad, cap, rfl, hFs⟩ := own_files ho rfl (fun f hf => (rf5 f hf).1)
  obtain ⟨Xd, hA, hX⟩ := h
  have hT : Fit (V.D.L.length : Int) := by have := hA.ok.few; unfold Fit; omega
  have hlenB := rootBN_len hr
  have hlp := lay_put V R
  obtain ⟨s, n, c, fs⟩ := R
  simp only at rf1 rf2 rf3 rf4 rf6 hFs ho hlp ⊢
  have hk1 : Kept (fun _ => False) w (w.alloc (.cells #[.int .i64 (s : Int), .int .i64 (n : Int), .int .i64 (c : Int), .slice ad fs.length cap] 78)) := (Kept.refl _ _).alloc _
  have hN1 := Holds.new w [.int .i64 (s : Int), .int .i64 (n : Int), .int .i64 (c : Int), .slice ad fs.length cap] 78
  change Holds (w.alloc (.cells #[.int .i64 (s : Int), .int .i64 (n : Int), .int .i64 (c : Int), .slice ad fs.length cap] 78)) _ _ _ at hN1
  have hv : VlP w B p pd V vF X := ⟨Xd, hA, hX⟩
  go_enter Tryz.func52, Tryz.ntmps52
  go_upto_region 1 with (fail)
  obtain ⟨q, hq⟩ : ∃ q, Hid (q = w.heap.size) := ⟨_, rfl⟩
  rw [← hq.out] at hN1 ⊢
  generalize w.alloc (.cells #[.int .i64 (s : Int), .int .i64 (n : Int), .int .i64 (c : Int), .slice ad fs.length cap] 78) = w1 at hk1 hN1 ⊢
  have hA1 : DskP w1 B pd V.D Xd := hA.dsk.kept hk1 (fun _ _ hf => hf)
  have hF1 : Files w1 ad fs.length (fs.map fileI) := by
    refine ⟨hFs.1, ?_⟩
    rcases hFs.2 with h0 | ⟨b, off, h1, h2, h3⟩
    · exact .inl h0
    · exact .inr ⟨b, off, h1, Nat.lt_of_lt_of_le h2 hk1.size, fun i hi => ⟨fun t u hu => by rw [hk1.cell (p := ⟨b, off + i * 3 + t, none⟩) h2 (fun hf => hf)]; exact (h3 i hi).1 t u hu, (h3 i hi).2⟩⟩
  have HSZ := Lib.hid (fun (m : Nat) => pSize (w1.drewN m) B pd V.D Xd (hA1.drewN m))
  have HEN := Lib.hid (fun (w2 : World) (hb : Below w1.heap.size w1 w2) => pEncode_ok (V.D.L.length : Int) s n c fs ad fs.length cap w2 hT (hF1.below hb) hr)
  have ho1 := hA.obj.of_block (hk1.block p hA.obj.lt (fun hf => hf))
  have c0 := ho1.cell 0 _ rfl
  have b0 := hN1.cell 0 _ rfl
  have b1 := hN1.cell 1 _ rfl
  have b2 := hN1.cell 2 _ rfl
  have b3 := hN1.cell 3 _ rfl
  have H1 := Lib.hid (And.intro hv (And.intro hk1 hN1))
  have HO := Lib.hid ho
  have HLP := Lib.hid hlp
  obtain ⟨T, hTl⟩ : ∃ T, Hid (T = V.D.L.length) := ⟨_, rfl⟩
  rw [← hTl.out] at HEN HSZ
  have HG := Lib.hid hg
  have HL0 := Lib.hid hl
  have HCN := Lib.hid (And.intro hC hN)
  have HLB := Lib.hid hlenB
  have HLT := Lib.hid hlt
  have HNO := Lib.hid hno
  have HRT := Lib.hid hr
  clear hA1 hF1 ho1 hN1 hk1 hv hT hFs hlp ho hg hl hC hN hlt hno hr hA hX rf5
  go_region_with (first | (go_at_call 36; refine (HSZ.out _).mono ?_; rintro e wn ⟨rfl, m, rfl⟩) | (go_at_call 73; refine (HEN.out _ (belowN (Below.refl _ _) _)).mono ?_; rintro e wn ⟨rfl, hbE⟩))
  all_goals
    have hb2 := belowT (belowN (Below.refl w1.heap.size w1) (1 + m)) hbE
    have hN2 := H1.out.2.2.of_block (hb2.block q H1.out.2.2.lt)
    have hk2 : Kept (fun _ => False) w wn := H1.out.2.1.trans (Kept.of_below (fun _ => False) hb2) (fun _ hf => hf.elim)
    have HH := Lib.hid (pHead_ok s (rootB s n c fs).length wn rf6 rf2 hlenB)
    rw [show errV 33 0 = .nilIface from rfl]
    have H2 := Lib.hid (And.intro hN2 hk2)
    obtain ⟨rb, hrb⟩ : ∃ rb, Hid (rb = rootB s n c fs) := ⟨_, rfl⟩
    rw [← hrb.out] at HH ⊢
    have b0 := hN2.cell 0 _ rfl
    clear hbE hb2 hN2 hk2
    go_wp2_with fail
    refine HH.out.mono ?_
    clear HH
    rintro e w3 ⟨rfl, hb3⟩
    rw [show errV 33 0 = .nilIface from rfl]
    have hN3 := H2.out.1.of_block (hb3.block q H2.out.1.lt)
    have hk3 : Kept (fun _ => False) w w3 := H2.out.2.trans (Kept.of_below (fun _ => False) hb3) (fun _ hf => hf.elim)
    have hv3 := H1.out.1.still hk3
    have hE3 := HG.out.kept hk3 (fun hf => hf)
    obtain ⟨r, hr0⟩ : ∃ r, r = s % 2 := ⟨_, rfl⟩
    have hr2 : r < 2 := by omega
    have hsl : slotOf s = r * 9 := by unfold slotOf; omega
    have ht : (s : Int).tmod 2 = (r : Int) := by rw [Int.tmod_eq_emod_of_nonneg (by omega)]; omega
    have hw1 : IntKind.i64.wrap (r : Int) = (r : Int) := IntWalk.i64_in _ (by omega)
    have hw9 : IntKind.i64.wrap ((r : Int) * 9) = (r : Int) * 9 := IntWalk.i64_in _ (by omega)
    have hw91 : IntKind.i64.wrap ((r : Int) * 9 + 1) = (r : Int) * 9 + 1 := IntWalk.i64_in _ (by omega)
    have hHP := putP w3 B p pd V vF X hv3 hE3 hB HL0.out (r * 9 + 1) (by omega) rb (by rw [hrb.out]; exact HLB.out) (by have := HCN.out.1; omega) (by have := HCN.out.2; omega)
    rw [show ((r * 9 + 1 : Nat) : Int) = (r : Int) * 9 + 1 from by omega] at hHP
    have HP := Lib.hid hHP
    have HLP2 := Lib.hid (show layV V (s, n, c, fs) = _ from HLP.out)
    rw [show rootBN (s, n, c, fs) = rb from hrb.out.symm, hsl] at HLP2
    have H3 := Lib.hid (And.intro hN3 (And.intro hk3 hE3))
    have b0 := hN3.cell 0 _ rfl
    clear hN3 hk3 hv3 hE3 hHP hr0 hb3 hsl
    go_wp2_with fail
    refine HP.out.mono ?_
    clear HP
    rintro e w4 ⟨v, rfl, he, X1, vF1, hv4, hg4, hf4, hk4⟩
    have hq3 : q < w3.heap.size := H3.out.1.lt
    have hqX : ¬X q := fun hx => by have := (HLT.out q (.inl hx)).2; have := hq.out; omega
    have hN4 := H3.out.1.of_block (hk4.block q hq3 hqX)
    have hgw4 : Grows w X X1 := fun k hk => (hg4 k hk).elim .inl (fun h => .inr (Nat.le_trans H3.out.2.1.size h))
    have hkw4 : Kept X w w4 := (H3.out.2.1.mono (fun _ hf => hf.elim)).trans hk4 (fun k hk => .inl hk)
    have hfw4 : ∀ b, vF1.ownBlock = some b → vF.ownBlock = some b ∨ w.heap.size ≤ b := fun b hb => (hf4 b hb).elim .inl (fun h => .inr (Nat.le_trans H3.out.2.1.size h))
    rcases he with ⟨hz, rfl⟩ | ⟨hnz, bb, hbb, rfl, hfa⟩
    · have hz1 := putV_zero hz
      obtain ⟨hc1, hn1, hl1⟩ := putV_bound V (r * 9 + 1) rb
      have hrbl : nch rb.length ≤ 8 := nch_le (by rw [hrb.out]; exact HLB.out)
      have hgone1 : (putV V (r * 9 + 1) rb).1.gone = false := by rw [hz1]; exact HL0.out
      have hqX1 : ¬X1 q := fun hx => (hg4 q hx).elim hqX (fun h => by omega)
      have hE4 := HG.out.kept hkw4 (fun hx => by have := (HLT.out _ (.inl hx)).1; omega)
      have hq4 : q < w4.heap.size := hN4.lt
      have hHP := putP w4 B p pd _ vF1 X1 hv4 hE4 hB hgone1 (r * 9) (by omega) (headB s rb.length) (by rw [headB_length]; omega) (by have := HCN.out.1; omega) (by have := HCN.out.2; omega)
      rw [show ((r * 9 : Nat) : Int) = (r : Int) * 9 from by omega] at hHP
      have HP := Lib.hid hHP
      have HZ := Lib.hid (And.intro hz (And.intro hl1 hgone1))
      have H4 := Lib.hid (And.intro hN4 (And.intro hgw4 (And.intro hkw4 hfw4)))
      have b0 := hN4.cell 0 _ rfl
      clear hN4 hgw4 hkw4 hfw4 hz1 hc1 hn1 hl1 hrbl hgone1 hE4 hHP hz hv4 hg4 hf4 hk4
      go_wp2_with fail
      refine HP.out.mono ?_
      clear HP
      rintro e w5 ⟨v, rfl, he, X2, vF2, hv5, hg5, hf5, hk5⟩
      have hN5 := H4.out.1.of_block (hk5.block q hq4 hqX1)
      have hgw5 : Grows w X X2 := fun k hk => (hg5 k hk).elim (fun h => H4.out.2.1 k h) (fun h => .inr (Nat.le_trans H4.out.2.2.1.size h))
      have hkw5 : Kept X w w5 := H4.out.2.2.1.trans hk5 (fun k hk => H4.out.2.1 k hk)
      have hfw5 : ∀ b, vF2.ownBlock = some b → vF.ownBlock = some b ∨ w.heap.size ≤ b := fun b hb => (hf5 b hb).elim (fun h => H4.out.2.2.2 b h) (fun h => .inr (Nat.le_trans H4.out.2.2.1.size h))
      rcases he with ⟨hz2, rfl⟩ | ⟨hnz, bb, hbb, rfl, hfa⟩
      · have hz1 := putV_zero hz2
        obtain ⟨_, _, hl2⟩ := putV_bound (putV V (r * 9 + 1) rb).1 (r * 9) (headB s rb.length)
        have hlay : Hid (layV V (s, n, c, fs) = (⟨(putV (putV V (r * 9 + 1) rb).1 (r * 9) (headB s rb.length)).1.D, (s, n, c, fs), false⟩, 0)) := by
          show _ = _
          rw [HLP2.out, if_neg (by have := HZ.out.1; omega), if_neg (by omega), HL0.out]
        have hgone2 : (putV (putV V (r * 9 + 1) rb).1 (r * 9) (headB s rb.length)).1.gone = false := by rw [hz1]; exact HZ.out.2.2
        have hoR : w5.ownsRow B 102 3 (.slice ad fs.length cap) fs.length (cellsF fs) := owns_of_block HO.out fun g hgb => hkw5.block g (HO.out.lt g hgb).2 (HNO.out g hgb)
        have hnoR : ∀ b, (Value.slice ad fs.length cap).ownBlock = some b → ¬X2 b := fun b hb hx => (hgw5 b hx).elim (HNO.out b hb) (fun h => by have := (HO.out.lt b hb).2; omega)
        have hob := hv5.obj
        rw [hgone2] at hob
        have hfin := hv5.reroot (s, n, c, fs) false hoR hnoR (.inl (by rw [hl2, HZ.out.2.1]; exact HRT.out)) _ heap_rooted (obj_rooted (R' := (s, n, c, fs)) (vF' := .slice ad fs.length cap) hob)
        have hkf : Kept X w ((((w5.setCell ⟨p, 1, none⟩ (.int .i64 (s : Int))).setCell ⟨p, 2, none⟩ (.int .i64 (n : Int))).setCell ⟨p, 3, none⟩ (.int .i64 (c : Int))).setCell ⟨p, 4, none⟩ (.slice ad fs.length cap)) :=
          (((hkw5.setCell (p := ⟨p, 1, none⟩) H1.out.1.mine _).setCell (p := ⟨p, 2, none⟩) H1.out.1.mine _).setCell (p := ⟨p, 3, none⟩) H1.out.1.mine _).setCell (p := ⟨p, 4, none⟩) H1.out.1.mine _
        have b0 := hN5.cell 0 _ rfl
        have b1 := hN5.cell 1 _ rfl
        have b2 := hN5.cell 2 _ rfl
        have b3 := hN5.cell 3 _ rfl
        have c1 := hob.cell 1 _ rfl
        have c2 := hob.cell 2 _ rfl
        have c3 := hob.cell 3 _ rfl
        have c4 := hob.cell 4 _ rfl
        have f1 := hob.free 1
        have f2 := hob.free 2
        have f3 := hob.free 3
        have f4 := hob.free 4
        have HF := Lib.hid (And.intro hfin (And.intro hgw5 hkf))
        clear hz1 hl2 hgone2 hoR hnoR hob hfin hkf hv5 hg5 hf5 hk5 hN5 hgw5 hkw5 hfw5 hz2
        go_wp2
        go_ret
        rw [hlay.out]
        exact ⟨_, rfl, ErF.none _ _, X2, _, HF.out.1, HF.out.2.1, fun b hb => .inr (.inl hb), HF.out.2.2⟩
      · have hlay : Hid (layV V (s, n, c, fs) = putV (putV V (r * 9 + 1) rb).1 (r * 9) (headB s rb.length)) := by
          show _ = _
          rw [HLP2.out, if_neg (by have := HZ.out.1; omega), if_pos hnz]
        have HR := Lib.hid (show ErF w5 _ _ true from .inr ⟨hnz, bb, hbb, rfl, hfa⟩)
        have HF := Lib.hid (And.intro hv5 (And.intro hgw5 (And.intro hkw5 hfw5)))
        clear hnz hbb hfa hv5 hg5 hf5 hk5 hN5 hgw5 hkw5 hfw5
        go_wp2
        go_ret
        rw [hlay.out]
        exact ⟨_, rfl, HR.out, X2, vF2, HF.out.1, HF.out.2.1, fun b hb => (HF.out.2.2.2 b hb).elim .inl (fun h => .inr (.inr h)), HF.out.2.2.1⟩
    · have hlay : Hid (layV V (s, n, c, fs) = putV V (r * 9 + 1) rb) := by
        show _ = _
        rw [HLP2.out, if_pos hnz]
      have HR := Lib.hid (show ErF w4 _ _ true from .inr ⟨hnz, bb, hbb, rfl, hfa⟩)
      have HF := Lib.hid (And.intro hv4 (And.intro hgw4 (And.intro hkw4 hfw4)))
      clear hnz hbb hfa hv4 hg4 hf4 hk4 hN4 hgw4 hkw4 hfw4
      go_wp2
      go_ret
      rw [hlay.out]
      exact ⟨_, rfl, HR.out, X1, vF1, HF.out.1, HF.out.2.1, fun b hb => (HF.out.2.2.2 b hb).elim .inl (fun h => .inr (.inr h)), HF.out.2.2.1⟩

end Go.Proofs.YtfbgagpihhbllaaGreatDoor

/- Package volume: Open, Format. -/
namespace Go.Proofs.YtfbgagpihhbllaaGreatDoor
open Go.RowKit Go.Proofs Go.Proofs.Pk
set_option maxRecDepth 10000
attribute [local simp] mk_get wrap64_u8 mk_extract ByteArray.mk_append_mk get_1k

theorem dec_right {T : Int} {b : List UInt8} (h : (decV T b).2 = 0) : rightN T (decV T b).1 = true := by
  exact (dec_back h).1
theorem got_right (S : Dsk) (a : Nat) : placeV S a = none ∧ gotR S a = rootZ ∨ ∃ r, placeV S a = some r ∧ gotR S a = r ∧ rightN S.L.length r = true ∧ 1 ≤ r.1 := by
  unfold gotR
  cases hp : placeV S a with
  | none => exact .inl ⟨rfl, rfl⟩
  | some r =>
    refine .inr ⟨r, rfl, rfl, ?_⟩
    have hr : rightN S.L.length r = true := by
      unfold placeV at hp
      simp only at hp
      split at hp
      · cases hp
      · split at hp
        · rename_i h1
          injection hp with hp
          rw [← hp]
          exact dec_right h1.1
        · cases hp
    exact ⟨hr, (right_few hr).2.2.2.2.2.1⟩
/-- The root after so many slots. -/
def foldR (S : Dsk) : Nat → RootN
  | 0 => rootZ
  | j + 1 => if (foldR S j).1 < (gotR S (9 * j)).1 then gotR S (9 * j) else foldR S j
theorem fold_right (S : Dsk) : ∀ j, rightN S.L.length (foldR S j) = true ∨ foldR S j = rootZ
  | 0 => .inr rfl
  | j + 1 => by
    unfold foldR
    split
    · rcases got_right S (9 * j) with ⟨_, h⟩ | ⟨r, _, h, hr, _⟩
      · exact .inr h
      · rw [h]; exact .inl hr
    · exact fold_right S j
theorem open_fold (S : Dsk) : openV S = if (foldR S 2).1 = 0 then none else some (foldR S 2) := by
  have e : foldR S 2 = if (if 0 < (gotR S 0).1 then gotR S 0 else rootZ).1 < (gotR S 9).1 then gotR S 9 else if 0 < (gotR S 0).1 then gotR S 0 else rootZ := rfl
  rw [e]
  unfold openV
  rcases got_right S 0 with ⟨p0, g0⟩ | ⟨r, p0, g0, _, h0⟩
  · rcases got_right S 9 with ⟨p9, g9⟩ | ⟨t, p9, g9, _, h9⟩
    · rw [p0, g0, p9, g9]; simp [rootZ]
    · rw [p0, g0, p9, g9]
      simp only [ite_self]
      rw [if_pos (show rootZ.1 < t.1 by show 0 < t.1; omega), if_neg (by omega)]
  · rcases got_right S 9 with ⟨p9, g9⟩ | ⟨t, p9, g9, _, h9⟩
    · rw [p0, g0, p9, g9]
      rw [if_pos (show 0 < r.1 by omega)]
      have e1 : (if r.1 < rootZ.1 then rootZ else r) = r := if_neg (by show ¬r.1 < 0; omega)
      rw [e1, if_neg (by omega)]
    · rw [p0, g0, p9, g9]
      rw [if_pos (show 0 < r.1 by omega)]
      by_cases hlt : r.1 < t.1
      · simp only [if_pos hlt]
        rw [if_neg (by omega)]
      · simp only [if_neg hlt]
        rw [if_neg (by omega)]

/-- What Open answers. -/
def OpenQ (w : World) (B pd : Nat) (S : Dsk) (Xd : Nat → Prop) (e : Ending) (w' : World) : Prop :=
  Kept (fun _ => False) w w' ∧ ((∃ R q vF X', openV S = some R ∧ e = .returned (.tuple #[.pointer (some ⟨q, 0, none⟩), .nilIface]) ∧ VlP w' B q pd ⟨S, R, false⟩ vF X' ∧ w.heap.size ≤ q ∧ (∀ k, X' k ↔ k = q ∨ Xd k) ∧ (∀ b, vF.ownBlock = some b → w.heap.size ≤ b)) ∨
    (openV S = none ∧ ∃ v, e = .returned (.tuple #[.pointer none, v]) ∧ ErF w' v 8 false ∧ FreshV w v))

set_option maxHeartbeats 2000000 in
theorem openP (w : World) (B pd : Nat) (S : Dsk) (Xd : Nat → Prop) (h : DskP w B pd S Xd) (hok : S.Ok) (hoff : S.off = false) (hroom : 18 ≤ S.L.length) (hBw : B ≤ w.heap.size) :
    Calls Tryz.prog 20 #[.pointer (some ⟨pd, 0, none⟩)] w (OpenQ w B pd S Xd) := by
  have HSZ := Lib.hid (pSize w B pd S Xd h)
  have hfew := hok.few
  have h18 : ¬(S.L.length : Int) < 18 := by omega
  go_enter Tryz.func20, Tryz.ntmps20
  go_wp2_with fail
  refine HSZ.out.mono ?_
  clear HSZ
  rintro e w1 ⟨rfl, m, rfl⟩
  have hk1 : Kept (fun _ => False) w (w.drewN m) := (Kept.refl _ _).drewN m
  have hd1 := h.drewN m
  have hN2 := Holds.new (w.drewN m) (cellsV pd rootZ (.slice none 0 0) false) 80
  change Holds ((w.drewN m).alloc (.cells #[.pointer (some ⟨pd, 0, none⟩), .int .i64 0, .int .i64 0, .int .i64 0, .slice none 0 0, .bool false] 80)) w.heap.size _ _ at hN2
  have hk2 : Kept (fun _ => False) w ((w.drewN m).alloc (.cells #[.pointer (some ⟨pd, 0, none⟩), .int .i64 0, .int .i64 0, .int .i64 0, .slice none 0 0, .bool false] 80)) := hk1.alloc _
  have hd2 : DskP ((w.drewN m).alloc (.cells #[.pointer (some ⟨pd, 0, none⟩), .int .i64 0, .int .i64 0, .int .i64 0, .slice none 0 0, .bool false] 80)) B pd S Xd := hd1.kept (Kept.alloc (Kept.refl (fun _ => False) (w.drewN m)) _) (fun _ _ hf => hf)
  go_wp2
  obtain ⟨p, hp⟩ : ∃ p, Hid (p = w.heap.size) := ⟨_, rfl⟩
  rw [← hp.out] at hN2 ⊢
  generalize (w.drewN m).alloc (.cells #[.pointer (some ⟨pd, 0, none⟩), .int .i64 0, .int .i64 0, .int .i64 0, .slice none 0 0, .bool false] 80) = w2 at hN2 hk2 hd2 ⊢
  have hdlt := h.lt
  have hV2 : VlP w2 B p pd ⟨S, foldR S 0, false⟩ (.slice none 0 0) (fun k => k = p ∨ Xd k) :=
    ⟨Xd, ⟨hN2, hd2, World.ownsRow_nil _ _ _ _, by have := hp.out; omega, fun hx => by have := (hdlt p hx).2; have := hp.out; omega, fun b hb => by simp [Value.ownBlock] at hb, hok, hroom, .inr rfl⟩, fun _ => Iff.rfl⟩
  have HI : Hid (∃ vF, VlP w2 B p pd ⟨S, foldR S 0, false⟩ vF (fun k => k = p ∨ Xd k) ∧ (∀ b, vF.ownBlock = some b → w.heap.size ≤ b) ∧ Kept (fun _ => False) w w2) := ⟨_, hV2, fun b hb => by simp [Value.ownBlock] at hb, hk2⟩
  have hpw : Hid (w.heap.size ≤ p) := by show _ ≤ _; have := hp.out; omega
  clear hN2 hk2 hd2 hV2 hd1 hk1 h
  go_loopw [5, 6, 7, 15] (fun _ _ _ i wr => ∃ j : Nat, j ≤ 2 ∧ i = .int .i64 (j : Int) ∧ Hid (∃ vF, VlP wr B p pd ⟨S, foldR S j, false⟩ vF (fun k => k = p ∨ Xd k) ∧ (∀ b, vF.ownBlock = some b → w.heap.size ≤ b) ∧ Kept (fun _ => False) w wr)) (fun _ _ _ i _ => 2 - (intOf i).toNat)
  case atStart => exact ⟨0, by omega, rfl, HI⟩
  case round =>
    obtain ⟨j, hj, rfl, hI⟩ := hrel
    by_cases hlt : (j : Int) < 2
    · have hj2 : j < 2 := by omega
      obtain ⟨vF, hv, hvf, hk⟩ := hI.out
      have hL := loadP wr B p pd ⟨S, foldR S j, false⟩ vF _ hv hoff (9 * j) (by simp only; omega)
      rw [show ((9 * j : Nat) : Int) = (j : Int) * 9 from by omega] at hL
      have HL := Lib.hid hL
      have HS := Lib.hid (And.intro hv (And.intro hvf hk))
      have hw9 : IntKind.i64.wrap ((j : Int) * 9) = (j : Int) * 9 := IntWalk.i64_in _ (by omega)
      have hwj : IntKind.i64.wrap ((j : Int) + 1) = (j : Int) + 1 := IntWalk.i64_in _ (by omega)
      clear hL hv hvf hk hI
      go_wp2_with fail
      refine HL.out.mono ?_
      clear HL
      rintro e w3 ⟨vR, rfl, ho3, hk3⟩
      simp only at ho3 ⊢
      have hgr := got_right S (9 * j)
      obtain ⟨⟨g1, g2, g3, fs⟩, hg⟩ : ∃ g, Hid (g = gotR S (9 * j)) := ⟨_, rfl⟩
      rw [← hg.out] at ho3 hgr ⊢
      simp only at ho3 ⊢
      obtain ⟨ad, cap, rfl⟩ : ∃ ad cap, vR = .slice ad fs.length cap := by
        rcases ho3.2 with ⟨rfl, h0⟩ | ⟨g, c', cur, rfl, _⟩
        · exact ⟨none, 0, by rw [h0]⟩
        · exact ⟨_, c', rfl⟩
      obtain ⟨nf, hnf⟩ : ∃ nf, Hid (nf = fs.length) := ⟨_, rfl⟩
      rw [← hnf.out] at ho3 ⊢
      have hN4 := Holds.new w3 [.int .i64 (g1 : Int), .int .i64 (g2 : Int), .int .i64 (g3 : Int), .slice ad nf cap] 78
      change Holds (w3.alloc (.cells #[.int .i64 (g1 : Int), .int .i64 (g2 : Int), .int .i64 (g3 : Int), .slice ad nf cap] 78)) _ _ _ at hN4
      have hk4 : Kept (fun _ => False) w (w3.alloc (.cells #[.int .i64 (g1 : Int), .int .i64 (g2 : Int), .int .i64 (g3 : Int), .slice ad nf cap] 78)) := (HS.out.2.2.trans hk3 (fun _ hf => hf.elim)).alloc _
      have hk34 : Kept (fun _ => False) wr (w3.alloc (.cells #[.int .i64 (g1 : Int), .int .i64 (g2 : Int), .int .i64 (g3 : Int), .slice ad nf cap] 78)) := hk3.alloc _
      have ho4 := ho3.alloc (.cells #[.int .i64 (g1 : Int), .int .i64 (g2 : Int), .int .i64 (g3 : Int), .slice ad nf cap] 78)
      have hws := HS.out.2.2.size
      obtain ⟨b, hb⟩ : ∃ b, Hid (b = w3.heap.size) := ⟨_, rfl⟩
      have ho3lt := ho3.lt
      clear hk3 ho3
      go_upto_region 10 with (fail)
      rw [← hb.out] at hN4 ⊢
      generalize w3.alloc (.cells #[.int .i64 (g1 : Int), .int .i64 (g2 : Int), .int .i64 (g3 : Int), .slice ad nf cap] 78) = w4 at hN4 hk4 hk34 ho4 ⊢
      have hV4 := HS.out.1.still hk34
      have b0 := hN4.cell 0 _ rfl
      obtain ⟨⟨o1, o2, o3, os⟩, ho⟩ : ∃ o, Hid (o = foldR S j) := ⟨_, rfl⟩
      rw [← ho.out] at hV4
      have c1 := hV4.obj.cell 1 _ rfl
      simp only at c1
      have HV4 := Lib.hid (And.intro hV4 (And.intro hN4 (And.intro hk4 ho4)))
      clear hV4 hN4 hk4 ho4 hk34
      go_quiet (fail)
      have hk5 : Kept (fun _ => False) w4 (w4.drewN nq) := (Kept.refl _ _).drewN nq
      obtain ⟨hV4, hN4, hk4, ho4⟩ := HV4.out
      have hV5 := hV4.still hk5
      have hN5 := hN4.of_block (hk5.block b hN4.lt (fun hf => hf))
      have ho5 := owns_of_block ho4 fun g hgb => hk5.block g (ho4.lt g hgb).2 (fun hf => hf)
      have hkw5 := hk4.trans hk5 (fun _ hf => hf.elim)
      generalize w4.drewN nq = w5 at hV5 hN5 ho5 hkw5 ⊢
      clear hk5 hV4 hN4 hk4 ho4 HV4 b0 c1
      by_cases hgt : o1 < g1
      · have hfold : Hid (foldR S (j + 1) = (g1, g2, g3, fs)) := by
          show _ = _
          unfold foldR
          rw [← ho.out, ← hg.out, if_pos hgt]
        have hgi : (o1 : Int) < (g1 : Int) := by omega
        have hr : rightN S.L.length (g1, g2, g3, fs) = true ∨ ((g1, g2, g3, fs) : RootN) = rootZ := by
          rcases hgr with ⟨_, h⟩ | ⟨r, _, h, h2, _⟩
          · exact .inr h
          · rw [h]; exact .inl h2
        have b0 := hN5.cell 0 _ rfl
        have b1 := hN5.cell 1 _ rfl
        have b2 := hN5.cell 2 _ rfl
        have b3 := hN5.cell 3 _ rfl
        have hob := hV5.obj
        have c1 := hob.cell 1 _ rfl
        have c2 := hob.cell 2 _ rfl
        have c3 := hob.cell 3 _ rfl
        have c4 := hob.cell 4 _ rfl
        have f1 := hob.free 1
        have f2 := hob.free 2
        have f3 := hob.free 3
        have f4 := hob.free 4
        have hnX : ∀ k, (Value.slice ad nf cap).ownBlock = some k → ¬(k = p ∨ Xd k) := fun k hk hx => by
          have h1 := (ho3lt k hk).1
          have h2 := (HS.out.1.lt k (.inl hx)).2
          omega
        have hV6 := hV5.reroot (g1, g2, g3, fs) false (vF' := .slice ad nf cap) (by rw [← hnf.out]; exact owns_base ho5 (by omega)) hnX hr _ heap_rooted (obj_rooted (R' := (g1, g2, g3, fs)) (vF' := .slice ad nf cap) hob)
        have hk6 := (((hkw5.setNew (p := ⟨p, 1, none⟩) hpw.out (.int .i64 (g1 : Int))).setNew (p := ⟨p, 2, none⟩) hpw.out (.int .i64 (g2 : Int))).setNew (p := ⟨p, 3, none⟩) hpw.out (.int .i64 (g3 : Int))).setNew (p := ⟨p, 4, none⟩) hpw.out (.slice ad nf cap)
        have HF : Hid (∃ vF, VlP ((((w5.setCell ⟨p, 1, none⟩ (.int .i64 (g1 : Int))).setCell ⟨p, 2, none⟩ (.int .i64 (g2 : Int))).setCell ⟨p, 3, none⟩ (.int .i64 (g3 : Int))).setCell ⟨p, 4, none⟩ (.slice ad nf cap)) B p pd ⟨S, foldR S (j + 1), false⟩ vF (fun k => k = p ∨ Xd k) ∧ (∀ b, vF.ownBlock = some b → w.heap.size ≤ b) ∧ Kept (fun _ => False) w ((((w5.setCell ⟨p, 1, none⟩ (.int .i64 (g1 : Int))).setCell ⟨p, 2, none⟩ (.int .i64 (g2 : Int))).setCell ⟨p, 3, none⟩ (.int .i64 (g3 : Int))).setCell ⟨p, 4, none⟩ (.slice ad nf cap))) :=
          ⟨.slice ad nf cap, by rw [hfold.out]; exact hV6, fun k hk => by have h1 := (ho3lt k hk).1; omega, hk6⟩
        clear hV6 hk6 hnX hob hr hV5 hN5 ho5 hkw5 hgr hgt
        go_wp2
        go_roundw
        case rel => exact ⟨j + 1, by omega, by first | rfl | go_num, HF⟩
        case measure => simp [intOf]; omega
      · have hfold : Hid (foldR S (j + 1) = (o1, o2, o3, os)) := by
          show _ = _
          unfold foldR
          rw [← ho.out, ← hg.out, if_neg hgt]
        have hgi : ¬(o1 : Int) < (g1 : Int) := by omega
        have HF : Hid (∃ vF, VlP w5 B p pd ⟨S, foldR S (j + 1), false⟩ vF (fun k => k = p ∨ Xd k) ∧ (∀ b, vF.ownBlock = some b → w.heap.size ≤ b) ∧ Kept (fun _ => False) w w5) :=
          ⟨vF, by rw [hfold.out]; exact hV5, HS.out.2.1, hkw5⟩
        clear hV5 hN5 ho5 hkw5 hgr hgt
        go_wp2
        go_roundw
        case rel => exact ⟨j + 1, by omega, by first | rfl | go_num, HF⟩
        case measure => simp [intOf]; omega
    · obtain rfl : j = 2 := by omega
      obtain ⟨vF, hv, hvf, hk⟩ := hI.out
      have hof := open_fold S
      obtain ⟨⟨o1, o2, o3, os⟩, ho⟩ : ∃ o, Hid (o = foldR S 2) := ⟨_, rfl⟩
      rw [← ho.out] at hv hof
      have c1 := hv.obj.cell 1 _ rfl
      simp only at c1 hof
      by_cases hz : o1 = 0
      · rw [if_pos hz] at hof
        subst hz
        have HF := Lib.hid (faultPN 8 (by decide) wr)
        have HE := Lib.hid (And.intro hof hk)
        clear hof hv hvf hk hI
        go_wp2_with fail
        refine HF.out.mono ?_
        clear HF
        rintro e w3 ⟨v, rfl, he, hfr, hk3⟩
        have HE3 := Lib.hid (And.intro he (And.intro hfr hk3))
        clear he hfr hk3
        go_wp2
        go_ret2
        exact ⟨HE.out.2.trans HE3.out.2.2 (fun _ hf => hf.elim), .inr ⟨HE.out.1, _, rfl, HE3.out.1, fun b hb => Nat.le_trans HE.out.2.size (HE3.out.2.1 b hb)⟩⟩
      · rw [if_neg hz] at hof
        have hzi : ((o1 : Int) == 0) = false := by simp; exact hz
        have HE := Lib.hid (And.intro hof (And.intro hv (And.intro hvf hk)))
        clear hof hv hvf hk hI hz
        go_wp2
        go_ret2
        exact ⟨HE.out.2.2.2, .inl ⟨_, p, vF, _, HE.out.1, rfl, HE.out.2.1, hpw.out, fun _ => Iff.rfl, HE.out.2.2.1⟩⟩

end Go.Proofs.YtfbgagpihhbllaaGreatDoor
