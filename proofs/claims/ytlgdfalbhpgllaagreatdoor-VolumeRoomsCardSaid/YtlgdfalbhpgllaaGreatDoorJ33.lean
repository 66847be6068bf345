/- Ex7, OpenI, OpenW. -/
import Derived.Test.YtlgdfalbhpgllaaGreatDoorJ31
import Derived.Test.YtlgdfalbhpgllaaGreatDoorJ32
import Derived.Test.YtlgdfalbhpgllaaGreatDoorJ10
import Derived.Test.YtlgdfalbhpgllaaGreatDoorProg
import Derived.SizedLaws
import Derived.ChangeSlices
import Derived.ProofKit
import Derived.Test.YtlgdfalbhpgllaaGreatDoorJ12
import Derived.Deep.Slices

/- The chapter's examples of layer 7 hold of the program. -/
namespace Go.Proofs.YtlgdfalbhpgllaaGreatDoor
open Go.RowKit Go.Proofs Go.Proofs.Pk
set_option maxRecDepth 10000
attribute [local simp] mk_get wrap64_u8 mk_extract ByteArray.mk_append_mk get_1k

theorem lay_code (V : Vol) (R : RootN) (h : (layV V R).2 ≠ 0) : (layV V R).1.R = V.R ∨ (layV V R).1.gone = true := by
  have key : ∀ r : Dsk × Nat, (failsV V r).1.R = V.R ∨ (failsV V r).1.gone = true := fun r => by
    unfold failsV; simp only; split
    · exact .inr rfl
    · exact .inl rfl
  unfold layV at h ⊢
  simp only at h ⊢
  split
  · exact key _
  · rename_i h1
    rw [if_neg h1] at h
    split
    · exact key _
    · rename_i h2
      rw [if_neg h2] at h
      split
      · exact key _
      · rename_i h3
        rw [if_neg h3] at h
        split
        · exact key _
        · rename_i h4
          rw [if_neg h4] at h
          exact absurd rfl h
/-- A living volume without a fuse. -/
structure Live (V : Vol) (N : Nat) (R : RootN) : Prop where
  alive : Alive V
  fuse : V.D.fuse < 0
  size : V.D.L.length = N
  root : V.R = R
theorem Live.of_goes {V V' : Vol} {N : Nat} {R R' : RootN} (h : Live V N R) (hg : Goes V V' R') : Live V' N R' := by
  rcases hg.fate with ⟨a, b, c⟩ | ⟨_, _, _, _, c⟩
  · exact ⟨a, c h.fuse, by rw [hg.size, h.size], b⟩
  · have := h.fuse; omega
theorem Live.make {V : Vol} {N : Nat} {R : RootN} (h : Live V N R) (m : Int) (R' : RootN) (h1 : makeR N R m = R') (hne : R' ≠ R) : Live (makeV V m).1 N R' ∧ (makeV V m).2.1 = R.2.1 ∧ (makeV V m).2.2.1 = 0 := by
  have hg := make_goes h.alive m
  rw [h.size, h.root, h1] at hg
  have hl := h.of_goes hg
  refine ⟨hl, ?_⟩
  have hr := hl.root
  have hgo := hl.alive.gone
  unfold makeV at hr hgo ⊢
  split
  · rename_i h0; rw [if_pos h0] at hr; exact absurd (hr.symm.trans h.root) hne
  rename_i h0; rw [if_neg h0] at hr hgo
  split
  · rename_i h0; rw [if_pos h0] at hr; exact absurd (hr.symm.trans h.root) hne
  rename_i h0; rw [if_neg h0] at hr hgo
  split
  · rename_i h0; rw [if_pos h0] at hr; exact absurd (hr.symm.trans h.root) hne
  rename_i h0; rw [if_neg h0] at hr hgo
  split
  · rename_i h0; rw [if_pos h0] at hr; exact absurd (hr.symm.trans h.root) hne
  rename_i h0; rw [if_neg h0] at hr hgo
  simp only at hr hgo ⊢
  split
  · rename_i h5
    rw [if_pos h5] at hr hgo
    rcases lay_code _ _ h5 with h6 | h6
    · exact absurd (hr.symm.trans (h6.trans h.root)) hne
    · simp only at hgo; rw [h6] at hgo; cases hgo
  · simp only; rw [h.root]; exact ⟨rfl, by first | trivial | rfl⟩
theorem Live.drop {V : Vol} {N : Nat} {R : RootN} (h : Live V N R) (ids : List Int) (R' : RootN) (h1 : dropR R ids = R') (hne : R' ≠ R) : Live (dropV V ids).1 N R' ∧ (dropV V ids).2.1 = 0 := by
  have hg := drop_goes h.alive ids
  rw [h.root, h1] at hg
  have hl := h.of_goes hg
  refine ⟨hl, ?_⟩
  have hr := hl.root
  have hgo := hl.alive.gone
  unfold dropV at hr hgo ⊢
  split
  · rename_i h0; rw [if_pos h0] at hr; exact absurd (hr.symm.trans h.root) hne
  rename_i h0; rw [if_neg h0] at hr hgo
  split
  · rename_i h0; rw [if_pos h0] at hr; exact absurd (hr.symm.trans h.root) hne
  rename_i h0; rw [if_neg h0] at hr hgo
  split
  · rename_i h0; rw [if_pos h0] at hr; exact absurd (hr.symm.trans h.root) hne
  rename_i h0; rw [if_neg h0] at hr hgo
  split
  · first | rfl | trivial
  rename_i h0; rw [if_neg h0] at hr hgo
  split
  · rename_i h0; rw [if_pos h0] at hr; exact absurd (hr.symm.trans h.root) hne
  rename_i h0; rw [if_neg h0] at hr hgo
  by_cases h5 : (layV V (V.R.1 + 1, V.R.2.1, V.R.2.2.1, V.R.2.2.2.filter fun f => decide ((f.1 : Int) ∉ ids))).2 = 0
  · exact h5
  · rcases lay_code _ _ h5 with h6 | h6
    · exact absurd (hr.symm.trans (h6.trans h.root)) hne
    · have hgo' : (layV V (V.R.1 + 1, V.R.2.1, V.R.2.2.1, V.R.2.2.2.filter fun f => decide ((f.1 : Int) ∉ ids))).1.gone = false := hgo
      rw [h6] at hgo'; cases hgo'
theorem Live.first {N : Nat} (h18 : 18 ≤ N) (hN : N ≤ 4000) : Live (formatV (Dsk.new N)).1 N (1, 1, 0, []) := by
  obtain ⟨_, b, c, d, e⟩ := format_new h18 hN
  exact ⟨c, e, d, b⟩
theorem Live.small {V : Vol} {N : Nat} {R : RootN} (h : Live V N R) (h1 : V.D.n ≤ 900000) (h2 : V.D.C.length ≤ 900000) : Small V := ⟨h1, h2, fun _ => h.alive.safe.right⟩
theorem format_bound {N : Nat} (h18 : 18 ≤ N) : (formatV (Dsk.new N)).1.D.n ≤ 22 ∧ (formatV (Dsk.new N)).1.D.C.length ≤ 20 := by
  obtain ⟨z0, z1, z2, o1, o2, c3, n3, l3, _⟩ := fmt_codes h18
  rw [fmt_is h18]
  obtain ⟨a, b, _⟩ := lay_bound ⟨fmt3 N, rootZ, false⟩ (1, 1, 0, []) (by simp)
  simp only at a b
  rw [c3] at a
  exact ⟨by omega, by simpa using a⟩

theorem ex_open : openV (Dsk.new 30) = none := by decide +kernel
theorem ex_make1 : makeR 30 (1, 1, 0, []) 5 = (2, 2, 0, [(1, 18, 5)]) := by decide +kernel
theorem ex_full : (fitO ((takenO (30 : Nat) ((0, 18) :: usedF ([(1, 18, 5)].map fileI))).map freeL) 8).2 = 7 := by decide +kernel
theorem ex_make2 : makeR 30 (2, 2, 0, [(1, 18, 5)]) 3 = (3, 3, 0, [(1, 18, 5), (2, 23, 3)]) := by decide +kernel
theorem ex_drop : dropR (3, 3, 0, [(1, 18, 5), (2, 23, 3)]) [1] = (4, 3, 0, [(2, 23, 3)]) := by decide +kernel
theorem ex_make3 : makeR 30 (4, 3, 0, [(2, 23, 3)]) 4 = (5, 4, 0, [(2, 23, 3), (3, 18, 4)]) := by decide +kernel

theorem faultAt_kept {w w' : World} {b : Nat} {l c : Int} {inner : Value} {X : Nat → Prop} (h : FaultAt w b l c inner) (hk : Kept X w w') (hb : b < w.heap.size) (hX : ¬X b) : FaultAt w' b l c inner :=
  ⟨by rw [hk.cell (p := ⟨b, 0, none⟩) hb hX]; exact h.1, by rw [hk.cell (p := ⟨b, 1, none⟩) hb hX]; exact h.2.1, by rw [hk.cell (p := ⟨b, 2, none⟩) hb hX]; exact h.2.2⟩
/-- What goes on in a law: a volume, and all that lay below as it was. -/
structure On (w w' : World) (p pd : Nat) (V : Vol) (vF : Value) (X : Nat → Prop) : Prop where
  vol : VlP w' w.heap.size p pd V vF X
  below : Below w.heap.size w w'
  err : ErrTy w'
  lt : 0 < w.heap.size
theorem On.step {w w1 w2 : World} {p pd : Nat} {V V' : Vol} {vF : Value} {X : Nat → Prop} (h : On w w1 p pd V vF X) (hl : VlLeft w1 w.heap.size p pd V' vF X w2) : ∃ vF' X', On w w2 p pd V' vF' X' ∧ Grows w1 X X' ∧ (∀ b, vF'.ownBlock = some b → vF.ownBlock = some b ∨ w1.heap.size ≤ b) ∧ Kept X w1 w2 := by
  obtain ⟨X', vF', hv, hg, hf, hk⟩ := hl
  have hX : ∀ n, X n → w.heap.size ≤ n := fun n hn => (h.vol.lt n (.inl hn)).1
  exact ⟨vF', X', ⟨hv, h.below.trans (hk.below h.below.size hX), h.err.kept hk (fun hx => by have := hX _ hx; have := h.lt; omega), h.lt⟩, hg, hf, hk⟩
theorem On.still {w w1 w2 : World} {p pd : Nat} {V : Vol} {vF : Value} {X : Nat → Prop} (h : On w w1 p pd V vF X) (hk : Kept (fun _ => False) w1 w2) : On w w2 p pd V vF X :=
  ⟨h.vol.still hk, h.below.trans (hk.below h.below.size (fun _ hf => hf.elim)), h.err.kept hk (fun hf => hf), h.lt⟩

set_option maxHeartbeats 2000000 in
theorem examplesP (w : World) (hg : ErrTy w) : Calls Tryz.prog 6 #[] w fun e w' => e = .returned (.bool true) ∧ Below w.heap.size w w' := by
  have hglt := hg.lt
  have hN := pNw_ok 30 (by omega) (by omega) w
  rw [show ((30 : Nat) : Int) = 30 from rfl] at hN
  have HN := Lib.hid hN
  have HG := Lib.hid hg
  clear hN hg
  go_enter Tryz.func6, Tryz.ntmps6
  go_wp2_with fail
  refine HN.out.mono ?_
  clear HN
  rintro e w1 ⟨pd, Xd, rfl, hd1, hb1⟩
  have hO := openP w1 w.heap.size pd (Dsk.new 30) Xd hd1 (Dsk.new_ok 30 (by omega)) rfl (by simp [Dsk.new]) hb1.size
  have HO := Lib.hid hO
  have H1 := Lib.hid (And.intro hd1 hb1)
  clear hO hd1 hb1
  go_wp2_with fail
  refine HO.out.mono ?_
  clear HO
  rintro e w2 ⟨hk2, hcase⟩
  rcases hcase with ⟨R, _, _, _, hR, _⟩ | ⟨_, v8, rfl, he8, hfr8⟩
  · rw [ex_open] at hR; cases hR
  rcases he8 with ⟨h0, _⟩ | ⟨_, b8, hb8, rfl, hf8⟩
  · cases h0
  have hb8l := hfr8 b8 rfl
  have hd2 := H1.out.1.kept hk2 (fun _ _ hf => hf)
  have hX8 : ¬Xd b8 := fun hx => by have := (H1.out.1.lt b8 hx).2; omega
  have hbw2 := H1.out.2.trans (hk2.below H1.out.2.size (fun _ hf => hf.elim))
  have hF := formatP w2 w.heap.size pd 30 Xd hd2 (by omega) (by omega) hbw2.size (HG.out.kept (Kept.of_below (fun _ => False) hbw2) (fun hf => hf)) hglt
  have HF := Lib.hid hF
  have H2 := Lib.hid (And.intro hbw2 (And.intro hf8 (And.intro hb8 (And.intro hX8 hd2))))
  clear hF hd2 hbw2 hf8 hb8 hX8 hk2 hfr8 hb8l
  go_wp2_with fail
  refine HF.out.mono ?_
  clear HF
  rintro e w3 ⟨p, vF3, X3, rfl, hv3, hg3, hf3, hk3⟩
  have hXd : ∀ n, Xd n → w.heap.size ≤ n := fun n hn => (H1.out.1.lt n hn).1
  have hbw3 := H2.out.1.trans (hk3.below H2.out.1.size hXd)
  have hOn3 : On w w3 p pd (formatV (Dsk.new 30)).1 vF3 X3 := ⟨hv3, hbw3, HG.out.kept (Kept.of_below (fun _ => False) hbw3) (fun hf => hf), hglt⟩
  have HI := Lib.hid (law_is_yes b8 8 .nilIface false w3 (by decide) (faultAt_kept H2.out.2.1 hk3 H2.out.2.2.1 H2.out.2.2.2.1) (.inl ⟨rfl, rfl⟩))
  have HOn3 := Lib.hid hOn3
  clear hv3 hg3 hf3 hk3 hXd hbw3 hOn3
  go_wp2_with fail
  refine HI.out.mono ?_
  clear HI
  rintro e w4 ⟨rfl, m4, rfl⟩
  have hOn4 := HOn3.out.still ((Kept.refl (fun _ => False) w3).drewN m4)
  have hL0 := Live.first (N := 30) (by omega) (by omega)
  obtain ⟨hn0, hc0⟩ := format_bound (N := 30) (by omega)
  obtain ⟨hL1, hid1, hcode1⟩ := hL0.make 5 _ ex_make1 (by decide)
  have hM1 := makeP (w3.drewN m4) w.heap.size p pd _ vF3 X3 hOn4.vol hOn4.err hglt (by omega) (by omega) (fun _ => hL0.alive.safe.right) 5 (by unfold Fit; omega)
  rw [hid1, hcode1] at hM1
  have HM1 := Lib.hid hM1
  have HOn4 := Lib.hid hOn4
  clear HOn3 hM1 hOn4
  obtain ⟨hb1c, hb1n, _⟩ := make_bound (formatV (Dsk.new 30)).1 5
  obtain ⟨V1, hV1⟩ : ∃ V1, V1 = (makeV (formatV (Dsk.new 30)).1 5).1 := ⟨_, rfl⟩
  rw [← hV1] at hL1 hb1c hb1n HM1
  clear hV1
  go_wp2_with fail
  refine HM1.out.mono ?_
  clear HM1
  rintro e w5 ⟨v, rfl, he, hl⟩
  rcases he with ⟨_, rfl⟩ | ⟨h0, _⟩
  rotate_left
  · exact absurd rfl h0
  obtain ⟨vF5, X5, hOn5, -, -, -⟩ := HOn4.out.step hl
  have hfc : (fitV V1 8).2 ≠ 0 := by
    unfold fitV
    rw [hL1.size, hL1.root, ex_full]; decide
  have HM2 := Lib.hid (makeFullP w5 w.heap.size p pd V1 vF5 X5 hOn5.vol hOn5.err hL1.alive.gone 8 (by unfold Fit; omega) (by omega) hfc)
  have HOn5 := Lib.hid hOn5
  clear hOn5 hl HOn4 hfc
  go_wp2_with fail
  refine HM2.out.mono ?_
  clear HM2
  rintro e w6 ⟨v7, rfl, he7, hfr7, hk6⟩
  rcases he7 with ⟨h0, _⟩ | ⟨_, b7, hb7, rfl, hf7⟩
  · cases h0
  have hb7l := hfr7 b7 rfl
  have hX7 : ¬X5 b7 := fun hx => by have := (HOn5.out.vol.lt b7 (.inl hx)).2; omega
  have hOn6 := HOn5.out.still hk6
  obtain ⟨hL2, hid2, hcode2⟩ := hL1.make 3 _ ex_make2 (by decide)
  have hM3 := makeP w6 w.heap.size p pd V1 vF5 X5 hOn6.vol hOn6.err hglt (by omega) (by omega) (fun _ => hL1.alive.safe.right) 3 (by unfold Fit; omega)
  rw [hid2, hcode2] at hM3
  have HM3 := Lib.hid hM3
  obtain ⟨hb2c, hb2n, _⟩ := make_bound V1 3
  obtain ⟨V2, hV2⟩ : ∃ V2, V2 = (makeV V1 3).1 := ⟨_, rfl⟩
  rw [← hV2] at hL2 hb2c hb2n HM3
  have H6 := Lib.hid (And.intro hOn6 (And.intro hf7 (And.intro hb7 hX7)))
  clear hV2 hM3 hOn6 hf7 hb7 hX7 hk6 hfr7 hb7l HOn5
  go_wp2_with fail
  refine HM3.out.mono ?_
  clear HM3
  rintro e w7 ⟨v, rfl, he, hl⟩
  rcases he with ⟨_, rfl⟩ | ⟨h0, _⟩
  rotate_left
  · exact absurd rfl h0
  obtain ⟨vF7, X7, hOn7, hg7, -, hk7⟩ := H6.out.1.step hl
  have hf7' := faultAt_kept H6.out.2.1 hk7 H6.out.2.2.1 H6.out.2.2.2
  have hX7' : ¬X7 b7 := fun hx => (hg7 b7 hx).elim H6.out.2.2.2 (fun h => by have := H6.out.2.2.1; omega)
  have hb7' : b7 < w7.heap.size := Nat.lt_of_lt_of_le H6.out.2.2.1 hk7.size
  have hN8 := Holds.new w7 [.int .i64 1] 3
  change Holds (w7.alloc (.cells #[.int .i64 1] 3)) _ _ _ at hN8
  have hk78 : Kept (fun _ => False) w7 (w7.alloc (.cells #[.int .i64 1] 3)) := (Kept.refl _ _).alloc _
  have hOn8 := hOn7.still hk78
  obtain ⟨hL3, hcode3⟩ := hL2.drop [1] _ ex_drop (by decide)
  have hD := dropP (w7.alloc (.cells #[.int .i64 1] 3)) w.heap.size p pd V2 vF7 X7 hOn8.vol hOn8.err hglt (by omega) (by omega) (fun _ => hL2.alive.safe.right) w7.heap.size 1 hN8 (fun hx => by have := (hOn7.vol.lt _ (.inl hx)).2; omega)
  rw [hcode3] at hD
  have HD := Lib.hid hD
  obtain ⟨hb3c, hb3n, _⟩ := drop_bound V2 (by rw [hL2.root]; decide) [1]
  obtain ⟨V3, hV3⟩ : ∃ V3, V3 = (dropV V2 [1]).1 := ⟨_, rfl⟩
  rw [← hV3] at hL3 hb3c hb3n HD
  have H8 := Lib.hid (And.intro hOn8 (And.intro (faultAt_kept hf7' hk78 hb7' (fun hf => hf)) (And.intro (Nat.lt_of_lt_of_le hb7' hk78.size) hX7')))
  clear hV3 hD hN8 hk78 hOn8 hf7' hX7' hb7' hOn7 hg7 hk7 hl H6
  go_wp2_with fail
  refine HD.out.mono ?_
  clear HD
  rintro e w9 ⟨v, rfl, he, hl⟩
  rcases he with ⟨_, rfl⟩ | ⟨h0, _⟩
  rotate_left
  · exact absurd rfl h0
  obtain ⟨vF9, X9, hOn9, hg9, -, hk9⟩ := H8.out.1.step hl
  have hf9 := faultAt_kept H8.out.2.1 hk9 H8.out.2.2.1 H8.out.2.2.2
  have hX9 : ¬X9 b7 := fun hx => (hg9 b7 hx).elim H8.out.2.2.2 (fun h => by have := H8.out.2.2.1; omega)
  have hb9 : b7 < w9.heap.size := Nat.lt_of_lt_of_le H8.out.2.2.1 hk9.size
  obtain ⟨hL4, hid4, hcode4⟩ := hL3.make 4 _ ex_make3 (by decide)
  have hM4 := makeP w9 w.heap.size p pd V3 vF9 X9 hOn9.vol hOn9.err hglt (by omega) (by omega) (fun _ => hL3.alive.safe.right) 4 (by unfold Fit; omega)
  rw [hid4, hcode4] at hM4
  have HM4 := Lib.hid hM4
  obtain ⟨V4, hV4⟩ : ∃ V4, V4 = (makeV V3 4).1 := ⟨_, rfl⟩
  rw [← hV4] at hL4 HM4
  have H9 := Lib.hid (And.intro hOn9 (And.intro hf9 (And.intro hb9 hX9)))
  clear hV4 hM4 hOn9 hf9 hX9 hb9 hg9 hk9 hl H8
  go_wp2_with fail
  refine HM4.out.mono ?_
  clear HM4
  rintro e w10 ⟨v, rfl, he, hl⟩
  rcases he with ⟨_, rfl⟩ | ⟨h0, _⟩
  rotate_left
  · exact absurd rfl h0
  obtain ⟨vF10, X10, hOn10, hg10, -, hk10⟩ := H9.out.1.step hl
  have hf10 := faultAt_kept H9.out.2.1 hk10 H9.out.2.2.1 H9.out.2.2.2
  have hb10 : b7 < w10.heap.size := Nat.lt_of_lt_of_le H9.out.2.2.1 hk10.size
  have hR := rootP w10 w.heap.size p pd V4 vF10 X10 hOn10.vol
  rw [hL4.root] at hR
  have HR := Lib.hid hR
  have H10 := Lib.hid (And.intro hOn10 (And.intro hf10 hb10))
  clear hR hOn10 hf10 hb10 hg10 hk10 hl H9
  go_wp2_with fail
  refine HR.out.mono ?_
  clear HR
  rintro e w11 ⟨hk11, vR, rfl, ho11⟩
  simp only at ho11 ⊢
  have hfl := root_files
  obtain ⟨g, cap, rfl⟩ : ∃ g cap, vR = .slice (some ⟨g, 0, none⟩) 2 cap := by
    rcases ho11.2 with ⟨_, h0⟩ | ⟨g, c', cur, rfl, _⟩
    · cases h0
    · exact ⟨g, c', rfl⟩
  have d3 : w11.cell? ⟨g, 3, none⟩ = some (.int .i64 3) := ho11.cellAt 3 (by decide)
  have d4 : w11.cell? ⟨g, 4, none⟩ = some (.int .i64 18) := ho11.cellAt 4 (by decide)
  have d5 : w11.cell? ⟨g, 5, none⟩ = some (.int .i64 4) := ho11.cellAt 5 (by decide)
  have HI := Lib.hid (law_is_yes b7 7 .nilIface false w11 (by decide) (faultAt_kept H10.out.2.1 hk11 H10.out.2.2 (fun hf => hf)) (.inl ⟨rfl, rfl⟩))
  have HK11 := Lib.hid (H10.out.1.still hk11)
  clear ho11 hk11
  go_wp2_with fail
  refine HI.out.mono ?_
  clear HI
  rintro e w12 ⟨rfl, m12, rfl⟩
  go_wp2
  go_ret
  exact ⟨rfl, belowN HK11.out.below m12⟩

end Go.Proofs.YtlgdfalbhpgllaaGreatDoor

/- A slice of numbers among a law's arguments, opened: it reads as a list of numbers. -/
namespace Go.Proofs.YtlgdfalbhpgllaaGreatDoor
open Go.ChangeShapes Go.WideShapes Go.ChangeAt Go.RowKit Go.Proofs.Pk
set_option maxRecDepth 10000

/-- Each number is one of int64. -/
def Fit64 (l : List Int) : Prop := ∀ n ∈ l, -9223372036854775808 ≤ n ∧ n ≤ 9223372036854775807

theorem openInts {H : Type} {enc : TypeId × Value → H} {W : World} {base : Nat} {spare : Nat → Bool} {held : Bool} {fuel : Nat} {ad : Option Addr} {len cap : Nat} {d : DataW H} {p : List MemPlace}
    (hf : DataW.trod enc Tryz.prog W base spare held fuel 23 (Value.slice ad len cap).cells.toList = some (d, p)) : ∃ l, Ints W ad len l ∧ Fit64 l := by
  rcases open_ints Tryz.underlying23 Tryz.underlying3 (by kernel_rfl) hf with ⟨hcs, _⟩ | ⟨a, len', cap', zs, hcs, _, hl, hm, hz, hx, hcell, hws⟩
  · simp [Value.cells] at hcs
    obtain ⟨rfl, rfl, rfl⟩ := hcs
    exact ⟨[], ⟨rfl, .inl rfl⟩, fun n hn => by cases hn⟩
  · simp [Value.cells] at hcs
    obtain ⟨rfl, rfl, rfl⟩ := hcs
    have hlen : len ≤ zs.length := by
      rw [hz]; split <;> omega
    refine ⟨zs.take len, ⟨by simp; omega, ?_⟩, fun n hn => by simpa [Lit.wf, IntKind.min, IntKind.max, IntKind.signed, IntKind.bits] using hws n (List.mem_of_mem_take hn)⟩
    by_cases h0 : len = 0
    · subst h0; exact .inl (by simp)
    · right
      obtain ⟨b, off, spot⟩ := a
      have hc := hcell 0 (by omega)
      have hspot : spot = none := by simpa [Addr.add] using World.cell?_spot hc
      subst hspot
      have hblk := World.block_lt_of_cell? W _ hc
      refine ⟨b, off, rfl, by simpa [Addr.add] using hblk, fun i hi => ?_⟩
      have hi' : i < len := by simp at hi; omega
      have hci := hcell i (by omega)
      have hi2 : i < zs.length := by omega
      have e : zs.getD i 0 = (zs.take len)[i]'hi := by simp [List.getD, hi2]
      rw [e] at hci
      have hadd : (⟨b, off, none⟩ : Addr).add i = ⟨b, off + i, none⟩ := by unfold Addr.add; split <;> simp_all
      rw [hadd] at hci
      exact hci
end Go.Proofs.YtlgdfalbhpgllaaGreatDoor

/- A slice of deeds among a law's arguments, opened: it reads as a list of deeds. -/
namespace Go.Proofs.YtlgdfalbhpgllaaGreatDoor
open Go.ChangeShapes Go.WideShapes Go.ChangeAt Go.RowKit Go.Proofs.Pk
set_option maxRecDepth 10000

theorem fit_of {n : Int} (h : (Lit.int .i64 n).wf = true) : FitI n := by simpa [FitI, Lit.wf, IntKind.min, IntKind.max, IntKind.signed, IntKind.bits] using h

theorem openDeedW {H : Type} {enc : TypeId × Value → H} {W : World} {base : Nat} {spare : Nat → Bool} {held : Bool} {n : Nat} {b o : Nat} {cs : List Value} {x : DataW H × List MemPlace}
    (h1 : W.cells? base ⟨b, o, none⟩ 5 = some cs) (h2 : DataW.trod enc Tryz.prog W base spare held n 35 cs = some x) : ∃ u, DeedWAt W b o u := by
  obtain ⟨_, hlen, hcell⟩ := World.cells?_some h1
  obtain ⟨xs, m, _, _, _, hxl, hf⟩ := DataW.trod_struct Tryz.underlying35 h2
  have c1 : Tryz.prog.cellsOf 3 = 1 := by kernel_rfl
  have c2 : Tryz.prog.cellsOf 9 = 1 := by kernel_rfl
  have c3 : Tryz.prog.cellsOf 23 = 1 := by kernel_rfl
  match xs, hxl, cs, hlen with
  | [y0, y1, y2, y3, y4], _, [v0, v1, v2, v3, v4], _ =>
    have g0 := hf 0 _ rfl
    have g1 := hf 1 _ rfl
    have g2 := hf 2 _ rfl
    have g3 := hf 3 _ rfl
    have g4 := hf 4 _ rfl
    simp [c1, c2, c3] at g0 g1 g2 g3 g4
    obtain ⟨n0, e0, _, w0⟩ := DataW.trod_int Tryz.underlying3 g0
    obtain ⟨n1, e1, _, w1⟩ := DataW.trod_int Tryz.underlying3 g1
    obtain ⟨n2, e2, _, w2⟩ := DataW.trod_int Tryz.underlying3 g2
    obtain ⟨⟨⟨s⟩⟩, e3, _, w3⟩ := DataW.trod_string Tryz.underlying9 g3
    have hsl : ∃ ad len cap, v4 = .slice ad len cap := by
      rcases open_ints Tryz.underlying23 Tryz.underlying3 c3 g4 with ⟨hcs, _⟩ | ⟨a, len', cap', zs, hcs, _⟩
      · exact ⟨none, 0, 0, by simpa using hcs⟩
      · exact ⟨_, _, _, by simpa using hcs⟩
    obtain ⟨ad, len, cap, rfl⟩ := hsl
    obtain ⟨l, hl, _⟩ := openInts (by simpa [Value.cells] using g4)
    simp at e0 e1 e2 e3
    subst e0 e1 e2 e3
    refine ⟨⟨n0, n1, n2, s, ad, len, cap, l⟩, ?_, hl, fit_of w0, fit_of w1, fit_of w2, ?_⟩
    rotate_left
    · have h3 : s.length ≤ maxLen := by simpa [Lit.wf, ByteArray.size] using w3
      unfold maxLen at h3
      show (s.length : Int) ≤ _
      omega
    intro j v hv
    have hj : j < 5 := by have := (List.getElem?_eq_some_iff.1 hv).1; simpa [dcW] using this
    have := hcell j hj
    rw [Addr.add_mid] at this
    rw [this]
    simpa [dcW] using hv

theorem openDeedsW {H : Type} {enc : TypeId × Value → H} {W : World} {base : Nat} {spare : Nat → Bool} {held : Bool} {fuel : Nat} {ad : Option Addr} {len cap : Nat} {d : DataW H} {p : List MemPlace}
    (hf : DataW.trod enc Tryz.prog W base spare held fuel 22 (Value.slice ad len cap).cells.toList = some (d, p)) : ∃ l, DeedsW W ad len l ∧ True := by
  have c6 : Tryz.prog.cellsOf 35 = 5 := by kernel_rfl
  rcases Go.Deep.open_slice Tryz.underlying22 hf with ⟨hcs, _⟩ | ⟨a, len', cap', m, n, D, Pl, hcs, _, hl, hm, hmm, hx, hel⟩
  · simp [Value.cells] at hcs
    obtain ⟨rfl, rfl, rfl⟩ := hcs
    exact ⟨[], ⟨rfl, .inl rfl⟩, trivial⟩
  · simp [Value.cells] at hcs
    obtain ⟨rfl, rfl, rfl⟩ := hcs
    have hlen : len ≤ m := by rw [hmm]; split <;> omega
    by_cases h0 : len = 0
    · subst h0; exact ⟨[], ⟨rfl, .inl rfl⟩, trivial⟩
    · rw [c6] at hel
      obtain ⟨b, off, spot⟩ := a
      have hspot : spot = none := by
        obtain ⟨cs', g1, _⟩ := hel 0 (by omega)
        obtain ⟨_, hl5, hc⟩ := World.cells?_some g1
        have hc0 := hc 0 (by omega)
        have : ∃ v, cs'[0]? = some v := ⟨cs'[0]'(by omega), by rw [List.getElem?_eq_getElem (by omega)]⟩
        obtain ⟨v, hv⟩ := this
        rw [hv] at hc0
        simpa [Addr.add] using World.cell?_spot hc0
      subst hspot
      have each : ∀ i, i < len → ∃ u, DeedWAt W b (off + i * 5) u := fun i hi => by
        obtain ⟨cs', g1, g2⟩ := hel i (by omega)
        rw [Addr.add_mid] at g1
        exact openDeedW g1 g2
      obtain ⟨f, hff⟩ : ∃ f : Nat → DeedW, ∀ i, i < len → DeedWAt W b (off + i * 5) (f i) := by
        refine ⟨fun i => if h : i < len then (each i h).choose else ⟨0, 0, 0, [], none, 0, 0, []⟩, fun i hi => ?_⟩
        simp only [hi, dif_pos]
        exact (each i hi).choose_spec
      have hblk : b < W.heap.size := by
        have := (hff 0 (by omega)).row 0 _ rfl
        exact World.block_lt_of_cell? W _ this
      refine ⟨(List.range len).map f, ⟨by simp, .inr ⟨b, off, rfl, hblk, fun i hi => ?_⟩⟩, trivial⟩
      have hi' : i < len := by simpa using hi
      have e : ((List.range len).map f)[i]'hi = f i := by simp
      rw [e]; exact hff i hi'

end Go.Proofs.YtlgdfalbhpgllaaGreatDoor
