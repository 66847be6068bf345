/- VolN. -/
import Derived.Test.YtfbgagpihhbllaaGreatDoorJ30

/- Package volume: Drop of one file. -/
namespace Go.Proofs.YtfbgagpihhbllaaGreatDoor
open Go.RowKit Go.Proofs Go.Proofs.Pk
set_option maxRecDepth 10000
attribute [local simp] mk_get wrap64_u8 mk_extract ByteArray.mk_append_mk get_1k

set_option maxHeartbeats 1000000 in
theorem indexOne (b : Nat) (x c : Int) (w : World) (h : w.cell? ⟨b, 0, none⟩ = some (.int .i64 x)) :
    Calls Tryz.prog 68 #[.slice (some ⟨b, 0, none⟩) 1 1, .int .i64 c] w fun e w' => e = .returned (.int .i64 (if x = c then 0 else -1)) ∧ Kept (fun _ => False) w w' := by
  by_cases he : x = c
  · subst he
    rw [if_pos rfl]
    go_enter Tryz.func68, Tryz.ntmps68
    go_wp2
    refine wp_loop_rounds 2 ?_
    rw [rounds_succ]
    go_wp2
    go_ret
    exact ⟨rfl, Kept.refl _ _⟩
  · rw [if_neg he]
    have he1 : (c == x) = false := by simpa using fun h => he h.symm
    go_enter Tryz.func68, Tryz.ntmps68
    go_wp2
    refine wp_loop_rounds 2 ?_
    rw [rounds_succ]
    go_wp2
    rw [rounds_succ]
    go_wp2
    go_ret
    exact ⟨rfl, Kept.refl _ _⟩

set_option maxHeartbeats 1000000 in
theorem containsOne (b : Nat) (x c : Int) (w : World) (h : w.cell? ⟨b, 0, none⟩ = some (.int .i64 x)) :
    Calls Tryz.prog 44 #[.slice (some ⟨b, 0, none⟩) 1 1, .int .i64 c] w fun e w' => e = .returned (.bool (decide (x = c))) ∧ Kept (fun _ => False) w w' := by
  have HI := Lib.hid (indexOne b x c w h)
  clear h
  by_cases he : x = c
  · rw [if_pos he] at HI
    rw [decide_eq_true he]
    clear he
    go_enter Tryz.func44, Tryz.ntmps44
    go_wp2_with fail
    refine HI.out.mono ?_
    clear HI
    rintro e w1 ⟨rfl, hk⟩
    go_wp2
    go_ret
    exact ⟨rfl, hk⟩
  · rw [if_neg he] at HI
    rw [decide_eq_false he]
    clear he
    go_enter Tryz.func44, Tryz.ntmps44
    go_wp2_with fail
    refine HI.out.mono ?_
    clear HI
    rintro e w1 ⟨rfl, hk⟩
    go_wp2
    go_ret
    exact ⟨rfl, hk⟩

theorem cellsF_flat (fs : List FileN) : cellsF fs = flatF (fs.map fileI) := by
  unfold cellsF flatF; rw [List.flatMap_map]
theorem eraseIdx_mapF (fs : List FileN) (k : Nat) : (fs.map fileI).eraseIdx k = (fs.eraseIdx k).map fileI := by
  rw [List.eraseIdx_eq_take_drop_succ, List.eraseIdx_eq_take_drop_succ, List.map_append, List.map_take, List.map_drop]
theorem erase_filter : ∀ (fs : List FileN) (i : Nat) (hi : i < fs.length), fs.Pairwise (fun f g => f.1 < g.1) → fs.eraseIdx i = fs.filter fun f => decide ((f.1 : Int) ≠ (fs[i].1 : Int))
  | f :: fs, 0, _, hp => by
    have h := List.pairwise_cons.1 hp
    simp only [List.eraseIdx_cons_zero, List.getElem_cons_zero]
    rw [List.filter_cons_of_neg (by simp)]
    refine (List.filter_eq_self.2 fun g hg => ?_).symm
    have := h.1 g hg
    rw [decide_eq_true_eq]; omega
  | f :: fs, i + 1, hi, hp => by
    have h := List.pairwise_cons.1 hp
    have hi' : i < fs.length := by simpa using hi
    simp only [List.eraseIdx_cons_succ, List.getElem_cons_succ]
    rw [List.filter_cons_of_pos (by have := h.1 fs[i] (List.getElem_mem hi'); rw [decide_eq_true_eq]; omega), erase_filter fs i hi' h.2]

set_option maxHeartbeats 2000000 in
/-- Drop of one file does what the chapter says. -/
theorem dropP (w : World) (B p pd : Nat) (V : Vol) (vF : Value) (X : Nat → Prop) (h : VlP w B p pd V vF X) (hg : ErrTy w) (hB : 0 < B) (hC : V.D.C.length ≤ 900000) (hN : V.D.n ≤ 900000) (hrt0 : V.gone = false → rightN V.D.L.length V.R = true) (b : Nat) (id : Int) (hb : Holds w b [.int .i64 id] 3) (hbX : ¬X b) :
    Calls Tryz.prog 26 #[.pointer (some ⟨p, 0, none⟩), .slice (some ⟨b, 0, none⟩) 1 1] w fun e w' => ∃ v, e = .returned v ∧ ErF w' v (dropV V [id]).2.1 (dropV V [id]).2.2 ∧ VlLeft w B p pd (dropV V [id]).1 vF X w' := by
  have c5 := h.obj.cell 5 _ rfl
  cases hgn : V.gone with
  | true =>
    rw [hgn] at c5
    have hp : Hid (dropV V [id] = (V, 6, false)) := by show _ = _; unfold dropV; rw [if_pos hgn]
    have HF := Lib.hid (faultP 6 (by decide) w)
    have H := Lib.hid h
    rw [hp.out]
    clear h hg hgn hb
    go_enter Tryz.func26, Tryz.ntmps26
    go_wp2_with fail
    refine HF.out.mono ?_
    clear HF
    rintro e w2 ⟨v, rfl, he, hk2⟩
    go_wp2
    go_ret
    exact ⟨_, rfl, he, VlLeft.same H.out hk2⟩
  | false =>
    rw [hgn] at c5
    have HR := Lib.hid (rootP w B p pd V vF X h)
    have H := Lib.hid h
    have HG := Lib.hid hg
    have hfw := h.few
    have hrt := hrt0 hgn
    clear hrt0
    go_enter Tryz.func26, Tryz.ntmps26
    go_wp2_with fail
    refine HR.out.mono ?_
    clear HR
    rintro e w2 ⟨hk2, vR, rfl, ho⟩
    obtain ⟨ad, cap, rfl, hFs⟩ := own_files ho rfl (fun f hf => (hfw.2.2.2.2 f hf).1)
    have hk2s := hk2.size
    have hBw : B ≤ w.heap.size := by have := (h.lt p (.inl h.mine)); omega
    obtain ⟨D, ⟨s, n, c, fs⟩, gone⟩ := V
    simp only at hgn hfw hrt ho hFs c5 ⊢
    subst hgn
    obtain ⟨nf, hnf⟩ : ∃ nf, Hid (nf = fs.length) := ⟨_, rfl⟩
    have HN3 := Holds.new w2 [.int .i64 (s : Int), .int .i64 (n : Int), .int .i64 (c : Int), .slice ad nf cap] 78
    change Holds (w2.alloc (.cells #[.int .i64 (s : Int), .int .i64 (n : Int), .int .i64 (c : Int), .slice ad nf cap] 78)) _ _ _ at HN3
    have hk3 : Kept (fun _ => False) w (w2.alloc (.cells #[.int .i64 (s : Int), .int .i64 (n : Int), .int .i64 (c : Int), .slice ad nf cap] 78)) := hk2.alloc _
    have hb3 : Below w2.heap.size w2 (w2.alloc (.cells #[.int .i64 (s : Int), .int .i64 (n : Int), .int .i64 (c : Int), .slice ad nf cap] 78)) := (Below.refl _ _).alloc (Nat.le_refl _) _
    have ho3 := owns_of_block ho fun g hgb => hb3.block g (ho.lt g hgb).2
    obtain ⟨q, hq⟩ : ∃ q, Hid (q = w2.heap.size) := ⟨_, rfl⟩
    rw [← hnf.out]
    go_upto_region 6 with (fail)
    rw [← hq.out] at HN3 ⊢
    have hFs3 := hFs.below hb3
    generalize w2.alloc (.cells #[.int .i64 (s : Int), .int .i64 (n : Int), .int .i64 (c : Int), .slice ad nf cap] 78) = w3 at HN3 hk3 hb3 ho3 hFs3 ⊢
    rw [← hnf.out] at hFs3 ho3
    have HI := Lib.hid (findP ad nf cap (fs.map fileI) id w3 hFs3 (by have := hnf.out; omega))
    have hN3b := hb.of_block (hk3.block b hb.lt (fun hf => hf))
    have hbw : b < w.heap.size := hb.lt
    have i0 := hN3b.cell 0 _ rfl
    have b3 := HN3.cell 3 _ rfl
    have hqw : Hid (w.heap.size ≤ q) := by have := hq.out; show w.heap.size ≤ q; omega
    have HOo : Hid (∀ b, (Value.slice ad nf cap).ownBlock = some b → w.heap.size ≤ b ∧ b < q) := fun b hb => by
      have := ho.lt b (by rw [← hnf.out]; exact hb); have := hq.out; omega
    have HH := Lib.hid (And.intro HN3 (And.intro hk3 (And.intro (owns_base ho3 hBw) hN3b)))
    have HFW := Lib.hid hfw
    have HRT := Lib.hid hrt
    have HCN := Lib.hid (And.intro hC hN)
    clear HN3 hk3 hb3 ho3 hFs3 hFs ho hfw hrt hC hN hk2 hk2s h hg hb hN3b
    go_wp2
    refine wp_loop_rounds 2 ?_
    rw [rounds_succ]
    go_wp2_with fail
    clear b3
    refine HI.out.mono ?_
    clear HI
    rintro e w4 ⟨rfl, hb4⟩
    have hN4 := HH.out.1.of_block (hb4.block q HH.out.1.lt)
    have hk4 : Kept (fun _ => False) w w4 := HH.out.2.1.trans (Kept.of_below (fun _ => False) hb4) (fun _ hf => hf.elim)
    have ho4 := owns_of_block HH.out.2.2.1 fun g hgb => hb4.block g (HH.out.2.2.1.lt g hgb).2
    have hN4b := HH.out.2.2.2.of_block (hb4.block b HH.out.2.2.2.lt)
    by_cases hex : ∃ f ∈ fs, (f.1 : Int) = id
    · obtain ⟨f, hfm, hid⟩ := hex
      obtain ⟨k, hk, hfk, hge, -⟩ := findI_ge (fs.map fileI) id ⟨fileI f, List.mem_map_of_mem hfm, hid⟩
      have hkf : k < fs.length := by simpa using hk
      have hgk : ((fs[k]).1 : Int) = id := by rw [List.getElem_map] at hge; exact hge
      rw [hfk]
      have hk0 : decide ((k : Int) < 0) = false := by rw [decide_eq_false_iff_not]; omega
      have hwk : IntKind.i64.wrap ((k : Int) + 1) = (k : Int) + 1 := IntWalk.i64_in _ (by have := HFW.out.1; omega)
      obtain ⟨g, rfl⟩ : ∃ g, ad = some ⟨g, 0, none⟩ := by
        rcases ho4.2 with ⟨_, h0⟩ | ⟨g, c', cur, h1, _⟩
        · have := hnf.out; omega
        · injection h1 with h1; exact ⟨g, h1⟩
      rw [cellsF_flat] at ho4
      have hD := deleteP B g nf cap k (fs.map fileI) w4 ho4 (by rw [List.length_map]; exact hnf.out.symm) (by have := hnf.out; omega) (by have := HFW.out.1; have := hnf.out; omega)
      rw [show ((k + 1 : Nat) : Int) = (k : Int) + 1 from by omega, eraseIdx_mapF, ← cellsF_flat] at hD
      have HD := Lib.hid hD
      obtain ⟨fs', hfs'⟩ : ∃ fs', Hid (fs' = fs.eraseIdx k) := ⟨_, rfl⟩
      rw [← hfs'.out] at HD
      have hpw : fs.Pairwise (fun f g => f.1 < g.1) := by
        have := (right_p.1 HRT.out).up
        rw [List.pairwise_map] at this
        exact this.imp (fun h => by unfold fileI at h; simp only at h; omega)
      have hfilt : Hid (fs' = fs.filter fun f => decide ((f.1 : Int) ∉ [id])) := by
        show _ = _
        rw [hfs'.out, erase_filter fs k hkf hpw, hgk]
        congr 1
        funext x
        simp
      have hlen' : Hid (fs'.length = nf - 1) := by
        show _ = _
        rw [hfs'.out, List.length_eraseIdx, if_pos hkf, hnf.out]
      have hisF : isFile (s, n, c, fs) id = true := isFile_iff.2 ⟨f, hfm, hid⟩
      have HIS := Lib.hid hisF
      have HN4 := Lib.hid (And.intro hN4 (And.intro hk4 hN4b))
      have c3 := hN4.cell 3 _ rfl
      clear hfk hge hk hgk hkf hisF hD hk4 hN4b hN4 hpw hid hfm ho4
      go_wp2_with fail
      clear c3
      refine HD.out.mono ?_
      clear HD
      rintro e w5 ⟨rfl, ho5, hk5⟩
      have hgq : q ≠ g := by have := (HOo.out g rfl).2; omega
      have hgw : w.heap.size ≤ g := (HOo.out g rfl).1
      have hN5 := HN4.out.1.of_block (hk5.block q HN4.out.1.lt hgq)
      have hk45 : Kept (fun _ => False) w w5 := HN4.out.2.1.trans hk5 (fun k h => .inr (by omega))
      have hN5b := HN4.out.2.2.of_block (hk5.block b HN4.out.2.2.lt (by omega))
      have hN6 := hN5.set 3 (.slice (some ⟨g, 0, none⟩) (nf - 1) cap)
      have hk6 : Kept (fun _ => False) w (w5.setCell ⟨q, 3, none⟩ (.slice (some ⟨g, 0, none⟩) (nf - 1) cap)) := hk45.setNew (p := ⟨q, 3, none⟩) hqw.out _
      have ho6 : (w5.setCell ⟨q, 3, none⟩ (.slice (some ⟨g, 0, none⟩) (nf - 1) cap)).ownsRow B 102 3 (.slice (some ⟨g, 0, none⟩) (nf - 1) cap) (nf - 1) (cellsF fs') := owns_setCell ho5 (fun hx => by injection hx with hx; exact hgq hx.symm)
      have hbq : b ≠ q := by have := hqw.out; omega
      have hN6b : Holds (w5.setCell ⟨q, 3, none⟩ (.slice (some ⟨g, 0, none⟩) (nf - 1) cap)) b [.int .i64 id] 3 := hN5b.ne hbq 3 _
      have c3 := hN5.cell 3 _ rfl
      have f3 := hN5.free 3
      have H6 := Lib.hid (And.intro hN6 (And.intro hk6 (And.intro ho6 hN6b)))
      clear hN5 hk45 hN5b hN6 hk6 ho6 hN6b ho5 hk5
      go_upto_region 13 with (fail)
      clear c3 f3
      generalize w5.setCell ⟨q, 3, none⟩ (.slice (some ⟨g, 0, none⟩) (nf - 1) cap) = w6 at H6 ⊢
      have c2 := H6.out.1.cell 2 _ rfl
      have HCT := Lib.hid (containsOne b id c w6 (H6.out.2.2.2.cell 0 _ rfl))
      go_wp2
      rw [rounds_succ]
      go_wp2_with fail
      clear c2
      refine HCT.out.mono ?_
      clear HCT
      rintro e w7 ⟨rfl, hk7⟩
      have hk7w : Kept (fun _ => False) w w7 := H6.out.2.1.trans hk7 (fun _ hf => hf.elim)
      by_cases hic : id = (c : Int)
      · have hp : Hid (dropV ⟨D, (s, n, c, fs), false⟩ [id] = (⟨D, (s, n, c, fs), false⟩, 1, false)) := by
          show _ = _
          unfold dropV
          rw [if_neg (by simp), if_neg (by simp [HIS.out]), if_pos (by simp [hic])]
        have HF := Lib.hid (faultP 1 (by decide) w7)
        have HK7 := Lib.hid hk7w
        rw [decide_eq_true hic]
        clear hic hk7 hk7w
        go_wp2_with fail
        refine HF.out.mono ?_
        clear HF
        rintro e w8 ⟨v, rfl, he, hk8⟩
        have HE := Lib.hid (And.intro he hk8)
        clear he hk8
        go_wp2
        go_ret
        rw [hp.out]
        exact ⟨_, rfl, HE.out.1, VlLeft.same H.out (HK7.out.trans HE.out.2 (fun _ hf => hf.elim))⟩
      · have hp : Hid (dropV ⟨D, (s, n, c, fs), false⟩ [id] = chgV ⟨D, (s, n, c, fs), false⟩ (s, n, c, fs')) := by
          show _ = _
          unfold dropV chgV
          rw [if_neg (by simp), if_neg (by simp [HIS.out]), if_neg (by simp; exact fun h => hic h.symm), if_neg (by simp), hfilt.out]
        have hN7 := H6.out.1.of_block (hk7.block q H6.out.1.lt (fun hf => hf))
        have ho7 := owns_of_block H6.out.2.2.1 fun g hgb => hk7.block g (H6.out.2.2.1.lt g hgb).2 (fun hf => hf)
        have hrp : s < MaxN → rightN D.L.length (s + 1, n, c, fs') = true := fun hs => by
          have hp := right_p.1 HRT.out
          rw [right_p]
          have := right_drop hp (by unfold MaxN at hs; omega) (fun f => decide (f.1 ∉ [id])) (fun f _ he => by rw [he]; simp; exact fun h => hic h.symm)
          rw [List.filter_map] at this
          rw [hfilt.out]
          exact this
        have hC7 := changeP w7 B p pd ⟨D, (s, n, c, fs), false⟩ vF X (H.out.still hk7w) (HG.out.kept hk7w (fun hf => hf)) hB rfl (s, n, c, fs') (.slice (some ⟨g, 0, none⟩) (nf - 1) cap) (by rw [hlen'.out]; exact ho7)
          (fun b hb hx => by injection hb with hb; subst hb; have := (H.out.lt g (.inl hx)).2; omega) HFW.out.2.1 hrp HCN.out.1 HCN.out.2
        simp only at hC7
        have HC7 := Lib.hid hC7
        have HK7 := Lib.hid hk7w
        have c0 := hN7.cell 0 _ rfl
        have c1 := hN7.cell 1 _ rfl
        have c2 := hN7.cell 2 _ rfl
        have c3 := hN7.cell 3 _ rfl
        rw [decide_eq_false hic]
        clear hic hk7 hk7w hN7 ho7 hrp hC7
        go_wp2_with fail
        clear c0 c1 c2 c3
        refine HC7.out.mono ?_
        clear HC7
        rintro e w8 ⟨v, rfl, he, hv⟩
        have HE := Lib.hid (And.intro he hv)
        clear he hv
        go_wp2
        go_ret
        rw [hp.out]
        exact ⟨_, rfl, HE.out.1, VlLeftR.behind HK7.out (fun b hb => by injection hb with hb; subst hb; exact hgw) HE.out.2⟩
    · have hf1 := findI_lt (fs.map fileI) id (fun ⟨g, hgm, he⟩ => by obtain ⟨f, hfm, rfl⟩ := List.mem_map.1 hgm; exact hex ⟨f, hfm, he⟩)
      rw [hf1]
      have hisF : isFile (s, n, c, fs) id = false := by
        cases hi : isFile (s, n, c, fs) id with
        | false => rfl
        | true => exact absurd (isFile_iff.1 hi) hex
      have hp : Hid (dropV ⟨D, (s, n, c, fs), false⟩ [id] = (⟨D, (s, n, c, fs), false⟩, 8, false)) := by
        show _ = _
        unfold dropV
        rw [if_neg (by simp), if_pos (.inl (by simp [hisF]))]
      have HF := Lib.hid (faultP 8 (by decide) w4)
      have HK4 := Lib.hid hk4
      clear hf1 hisF hk4 hN4 ho4 hb4 hex hN4b
      go_wp2_with fail
      refine HF.out.mono ?_
      clear HF
      rintro e w5 ⟨v, rfl, he, hk5⟩
      have HE := Lib.hid (And.intro he hk5)
      clear he hk5
      go_wp2
      go_ret
      rw [hp.out]
      exact ⟨_, rfl, HE.out.1, VlLeft.same H.out (HK4.out.trans HE.out.2 (fun _ hf => hf.elim))⟩

end Go.Proofs.YtfbgagpihhbllaaGreatDoor
