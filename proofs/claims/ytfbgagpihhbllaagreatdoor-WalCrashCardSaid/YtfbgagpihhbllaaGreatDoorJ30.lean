/- WlB, WlC, VolE. -/
import Derived.Test.YtfbgagpihhbllaaGreatDoorJ29
import Derived.BigQuiet
import Derived.Test.YtfbgagpihhbllaaGreatDoorJ27

/- Package wal: below, Room, Len, count: the program's small calls. -/
namespace Go.Proofs.YtfbgagpihhbllaaGreatDoor
open Go.RowKit Go.Proofs Go.Proofs.Pk
set_option maxRecDepth 10000
attribute [local simp] mk_get wrap64_u8 mk_extract ByteArray.mk_append_mk get_1k

/-- A log's object. -/
def LgAt (w : World) (pl p id many e n : Nat) : Prop := Holds w pl [.pointer (some ⟨p, 0, none⟩), .int .i64 (id : Int), .int .i64 (many : Int), .int .i64 (e : Int), .int .i64 (n : Int)] 86
theorem LgAt.kept {w w' : World} {pl p id many e n : Nat} {Y : Nat → Prop} (h : LgAt w pl p id many e n) (hk : Kept Y w w') (hY : ¬Y pl) : LgAt w' pl p id many e n := Holds.of_block h (hk.block pl (Holds.lt h) hY)

theorem belowZ (w : World) : Calls Tryz.prog 54 #[.nilIface] w fun e w' => e = .returned .nilIface ∧ w' = w := by
  go_enter Tryz.func54, Tryz.ntmps54
  go_wp2
  go_ret
  exact ⟨rfl, rfl⟩

set_option maxHeartbeats 1000000 in
theorem belowN8 (c q : Nat) (inner : Value) (w : World) (hg : ErrTy w) (hq : q < w.heap.size) (hf : FaultAt w q 7 c inner) (hc : c ≠ 0) :
    Calls Tryz.prog 54 #[.iface 81 (.pointer (some ⟨q, 0, none⟩))] w fun e w' => ∃ v, e = .returned v ∧ Er8 w' v c true ∧ FreshV w v ∧ Kept (fun _ => False) w w' := by
  obtain ⟨W1, hW1⟩ : ∃ W1, W1 = w.alloc (.cells #[.int .i64 8, .int .i64 0, .iface 81 (.pointer (some ⟨q, 0, none⟩))] 83) := ⟨_, rfl⟩
  have HN1 : Holds W1 w.heap.size [.int .i64 8, .int .i64 0, .iface 81 (.pointer (some ⟨q, 0, none⟩))] 83 := by rw [hW1]; exact Holds.new w _ _
  have k1 : Kept (fun _ => False) w W1 := by rw [hW1]; exact (Kept.refl _ w).alloc _
  have s1 : W1.heap.size = w.heap.size + 1 := by rw [hW1]; simp
  have HN2 := Holds.new W1 [.pointer none] 81
  have HN1' := HN1.alloc (.cells #[.pointer none] 81)
  have k2 := k1.alloc (.cells #[.pointer none] 81)
  have hg2 := hg.kept k2 (fun h => h)
  have HC := Lib.hid hc
  obtain ⟨p1, hp1⟩ : ∃ p1, Hid (p1 = w.heap.size) := ⟨_, rfl⟩
  obtain ⟨t, ht⟩ : ∃ t, Hid (t = w.heap.size + 1) := ⟨_, rfl⟩
  have hs1 := Lib.hid s1
  rw [s1] at HN2
  clear hc s1
  go_enter Tryz.func54, Tryz.ntmps54
  go_wp2_with fail
  rw [← hW1, ← ht.out, ← hp1.out]
  rw [← hp1.out] at HN1'
  rw [← ht.out] at HN2
  change Holds (W1.alloc (.cells #[.pointer none] 81)) _ _ _ at HN2
  generalize W1.alloc (.cells #[.pointer none] 81) = w2 at HN1' HN2 k2 hg2 ⊢
  refine (af_var ⟨q, 0, none⟩ t _ w2 hg2 HN2).mono ?_
  rintro e w3 ⟨rfl, HN3, hk3⟩
  have hqt : q ≠ t := by have := ht.out; have := hs1.out; omega
  have hq2 : q < w2.heap.size := Nat.lt_of_lt_of_le hq k2.size
  have hf2 : w3.cell? ⟨q, 1, none⟩ = some (.int .i64 (c : Int)) := by
    rw [hk3.cell (p := ⟨q, 1, none⟩) hq2 hqt, k2.cell (p := ⟨q, 1, none⟩) hq (fun h => h)]; exact hf.2.1
  have hpt : p1 ≠ t := by have := ht.out; have := hs1.out; have := hp1.out; omega
  have HP := HN1'.of_block (hk3.block p1 HN1'.lt hpt)
  have t0 := HN3.cell 0 _ rfl
  have d1 := HP.cell 1 _ rfl
  have f1 := HP.free 1
  have HS := Lib.hid (HP.set 1 (.int .i64 (c : Int)))
  have K3 : Hid (Kept (fun _ => False) w (w3.setCell ⟨p1, 1, none⟩ (.int .i64 (c : Int)))) := by
    have h3 : Kept (fun _ => False) w w3 := k2.trans hk3 (fun n hn => .inr (by have := ht.out; have := hs1.out; omega))
    exact h3.setNew (p := ⟨p1, 1, none⟩) (by have := hp1.out; show w.heap.size ≤ p1; omega) _
  clear HN1 HN1' HN2 HN3 HP k1 k2 hk3 hg hg2 hf hq2 hqt hpt hW1
  go_wp2
  go_ret
  exact ⟨_, rfl, .inr ⟨HC.out, p1, _, HS.out.lt, rfl, fault_holds HS.out, .inr ⟨rfl, q, rfl⟩⟩, (fun b hb => by injection hb with _ hb; injection hb with hb; injection hb with hb; injection hb with hb; have := hp1.out; omega), K3.out⟩

/-- An error of the volume's becomes one of the log's. -/
theorem belowE (w : World) (v : Value) (c : Nat) (f : Bool) (hg : ErrTy w) (he : ErF w v c f) :
    Calls Tryz.prog 54 #[v] w fun e w' => ∃ u, e = .returned u ∧ Er8 w' u c true ∧ FreshV w u ∧ Kept (fun _ => False) w w' := by
  rcases he with ⟨rfl, rfl⟩ | ⟨hc, q, hq, rfl, hf⟩
  · refine (belowZ w).mono ?_
    rintro e w' ⟨rfl, rfl⟩
    exact ⟨_, rfl, .inl ⟨rfl, rfl⟩, (fun b hb => by cases hb), Kept.refl _ _⟩
  · exact belowN8 c q _ w hg hq hf hc

set_option maxHeartbeats 400000 in
theorem lenP8 (w : World) (pl p id many e n : Nat) (h : LgAt w pl p id many e n) :
    Calls Tryz.prog 23 #[.pointer (some ⟨pl, 0, none⟩)] w fun r w' => r = .returned (.int .i64 (n : Int)) ∧ w' = w := by
  have c4 := Holds.cell h 4 _ rfl
  clear h
  go_enter Tryz.func23, Tryz.ntmps23
  go_wp2
  go_ret
  exact ⟨rfl, rfl⟩

set_option maxHeartbeats 400000 in
theorem roomP8 (w : World) (pl p id many e n : Nat) (h : LgAt w pl p id many e n) (he : e ≤ many) (hm : many ≤ 4000) :
    Calls Tryz.prog 24 #[.pointer (some ⟨pl, 0, none⟩)] w fun r w' => r = .returned (.int .i64 (roomW many e)) ∧ Kept (fun _ => False) w w' := by
  have c2 := Holds.cell h 2 _ rfl
  have c3 := Holds.cell h 3 _ rfl
  have HR : Hid (∀ d : Nat, d = many - e → roomW many e = if d = 0 then -1 else ((d : Int) - 1) * 64) := fun d hd => by
    unfold roomW
    by_cases h0 : e = many
    · rw [if_pos h0, if_pos (by omega)]
    · rw [if_neg h0, if_neg (by omega)]; omega
  have hw1 : IntKind.i64.wrap ((many : Int) - (e : Int)) = ((many - e : Nat) : Int) := by rw [IntWalk.i64_in _ (by omega)]; omega
  have HD := Lib.hid (And.intro he hm)
  obtain ⟨d, hd⟩ : ∃ d, Hid (d = many - e) := ⟨_, rfl⟩
  rw [← hd.out] at hw1
  have hR := Lib.hid (HR.out d hd.out)
  clear HR h he hm
  go_enter Tryz.func24, Tryz.ntmps24
  go_wp2_with fail
  go_quiet (fail)
  by_cases h0 : d = 0
  · have hR2 := Lib.hid (hR.out.trans (if_pos h0))
    clear hR hd
    subst h0
    go_wp2
    go_ret
    exact ⟨by rw [hR2.out]; rfl, (Kept.refl _ _).drewN _⟩
  · have hR2 := Lib.hid (hR.out.trans (if_neg h0))
    have h0' : ((d : Int) == 0) = false := by simp; omega
    have hwd : IntKind.i64.wrap ((d : Int) - 1) = (d : Int) - 1 := IntWalk.i64_in _ (by have := hd.out; have := HD.out; omega)
    have hwm : IntKind.i64.wrap (((d : Int) - 1) * 64) = ((d : Int) - 1) * 64 := IntWalk.i64_in _ (by have := hd.out; have := HD.out; omega)
    clear hR h0
    go_wp2
    go_ret
    exact ⟨by rw [hR2.out]; rfl, (Kept.refl _ _).drewN _⟩

set_option maxHeartbeats 400000 in
theorem countP8 (w : World) (pl p id many e n size : Nat) (h : LgAt w pl p id many e n) (he : e ≤ 8000) (hn : n ≤ 8000) (hs : size ≤ 1000000) :
    Calls Tryz.prog 35 #[.pointer (some ⟨pl, 0, none⟩), .int .i64 (size : Int)] w fun r w' => r = .returned (.tuple #[]) ∧ LgAt w' pl p id many (e + (1 + nch size)) (n + 1) ∧ Kept (fun k => k = pl) w w' := by
  have c3 := Holds.cell h 3 _ rfl
  have c4 := Holds.cell h 4 _ rfl
  have f3 := Holds.free h 3
  have f4 := Holds.free h 4
  have hq : nch size ≤ 20000 := by unfold nch; omega
  have hw1 : IntKind.i64.wrap ((size : Int) + 64) = (size : Int) + 64 := IntWalk.i64_in _ (by omega)
  have hw2 : IntKind.i64.wrap ((size : Int) + 64 - 1) = (size : Int) + 64 - 1 := IntWalk.i64_in _ (by omega)
  have ht : ((size : Int) + 64 - 1).tdiv 64 = ((nch size : Nat) : Int) := by
    rw [Int.tdiv_eq_ediv_of_nonneg (by omega)]; unfold nch; omega
  have hw3 : IntKind.i64.wrap ((nch size : Nat) : Int) = ((nch size : Nat) : Int) := IntWalk.i64_in _ (by omega)
  have hw4 : IntKind.i64.wrap (1 + ((nch size : Nat) : Int)) = 1 + ((nch size : Nat) : Int) := IntWalk.i64_in _ (by omega)
  have hw5 : IntKind.i64.wrap ((e : Int) + (1 + ((nch size : Nat) : Int))) = ((e + (1 + nch size) : Nat) : Int) := by rw [IntWalk.i64_in _ (by omega)]; omega
  have hw6 : IntKind.i64.wrap ((n : Int) + 1) = ((n + 1 : Nat) : Int) := by rw [IntWalk.i64_in _ (by omega)]; omega
  have HE : Hid (LgAt ((w.setCell ⟨pl, 3, none⟩ (.int .i64 ((e + (1 + nch size) : Nat) : Int))).setCell ⟨pl, 4, none⟩ (.int .i64 ((n + 1 : Nat) : Int))) pl p id many (e + (1 + nch size)) (n + 1)) := (Holds.set (Holds.set h 3 _) 4 _)
  have HK : Hid (Kept (fun k => k = pl) w ((w.setCell ⟨pl, 3, none⟩ (.int .i64 ((e + (1 + nch size) : Nat) : Int))).setCell ⟨pl, 4, none⟩ (.int .i64 ((n + 1 : Nat) : Int)))) := Kept.setCell (X := fun k => k = pl) (p := ⟨pl, 4, none⟩) (Kept.setCell (X := fun k => k = pl) (p := ⟨pl, 3, none⟩) (Kept.refl _ w) rfl _) rfl _
  generalize nch size = q at *
  generalize e + (1 + q) = E at *
  generalize n + 1 = M at *
  clear h he hn hs hq
  go_enter Tryz.func35, Tryz.ntmps35
  go_wp2
  go_end0
  exact ⟨rfl, HE.out, HK.out⟩

end Go.Proofs.YtfbgagpihhbllaaGreatDoor

/- Package wal: within, the log in a file of which nothing has been read yet. -/
namespace Go.Proofs.YtfbgagpihhbllaaGreatDoor
open Go.RowKit Go.Proofs Go.Proofs.Pk
set_option maxRecDepth 10000
attribute [local simp] mk_get wrap64_u8 mk_extract ByteArray.mk_append_mk get_1k

/-- The sectors of the file of this number, the last one of them; one if there is none. -/
def manyF (id : Int) (fs : List FileN) : Nat := fs.foldl (fun m f => if (f.1 : Int) = id then f.2.2 else m) 1
theorem manyF_snoc (id : Int) (fs : List FileN) (f : FileN) : manyF id (fs ++ [f]) = if (f.1 : Int) = id then f.2.2 else manyF id fs := by unfold manyF; rw [List.foldl_append]; rfl
theorem manyF_none {id : Int} : ∀ {fs : List FileN}, (∀ f ∈ fs, (f.1 : Int) ≠ id) → manyF id fs = 1 := by
  intro fs
  unfold manyF
  generalize 1 = m
  induction fs with
  | nil => intro _; rfl
  | cons f l ih =>
    intro h
    rw [List.foldl_cons, if_neg (h f (by simp))]
    exact ih (fun g hg => h g (by simp [hg]))
theorem manyF_one {fs : List FileN} (hup : fs.Pairwise fun a b => a.1 < b.1) (g : FileN) (hg : g ∈ fs) : manyF (g.1 : Int) fs = g.2.2 := by
  obtain ⟨A, R, rfl⟩ := List.append_of_mem hg
  rw [List.pairwise_append] at hup
  have hR := List.pairwise_cons.1 hup.2.1
  unfold manyF
  rw [List.foldl_append, List.foldl_cons, if_pos rfl]
  generalize g.2.2 = m
  have hne : ∀ f ∈ R, (f.1 : Int) ≠ (g.1 : Int) := fun f hf => by have := hR.1 f hf; omega
  clear hup hg
  generalize A.foldl _ _ = z
  clear hR z
  induction R with
  | nil => rfl
  | cons f l ih =>
    rw [List.foldl_cons, if_neg (hne f (by simp))]
    exact ih (fun x hx => hne x (by simp [hx]))

theorem root_files8 (x y z : Int) (ad : Option Addr) (len cap : Nat) (w : World) : (Instr.field 78 (.agg #[.int .i64 x, .int .i64 y, .int .i64 z, .slice ad len cap]) 3).run Tryz.prog w = .ok (.slice ad len cap) w := by kernel_rfl

set_option maxHeartbeats 1000000 in
theorem withinP (w : World) (B p pd : Nat) (V : Vol) (vF : Value) (X : Nat → Prop) (h : VlP w B p pd V vF X) (id : Int) :
    Calls Tryz.prog 32 #[.pointer (some ⟨p, 0, none⟩), .int .i64 id] w fun r w' => ∃ pl, r = .returned (.pointer (some ⟨pl, 0, none⟩)) ∧ w.heap.size ≤ pl ∧
      Holds w' pl [.pointer (some ⟨p, 0, none⟩), .int .i64 id, .int .i64 (manyF id V.R.2.2.2 : Int), .int .i64 0, .int .i64 0] 86 ∧ Kept (fun _ => False) w w' := by
  have HN := Holds.new w [.pointer (some ⟨p, 0, none⟩), .int .i64 id, .int .i64 1, .int .i64 0, .int .i64 0] 86
  have hk1 : Kept (fun _ => False) w (w.alloc (.cells #[.pointer (some ⟨p, 0, none⟩), .int .i64 id, .int .i64 1, .int .i64 0, .int .i64 0] 86)) := (Kept.refl _ _).alloc _
  have s1 : (w.alloc (.cells #[.pointer (some ⟨p, 0, none⟩), .int .i64 id, .int .i64 1, .int .i64 0, .int .i64 0] 86)).heap.size = w.heap.size + 1 := by simp
  have hfew := h.few
  have hv1 := h.still hk1
  obtain ⟨pl, hpl⟩ : ∃ pl, Hid (pl = w.heap.size) := ⟨_, rfl⟩
  change Holds (w.alloc (.cells #[.pointer (some ⟨p, 0, none⟩), .int .i64 id, .int .i64 1, .int .i64 0, .int .i64 0] 86)) _ _ _ at HN
  have HF := Lib.hid hfew
  clear h hfew
  go_enter Tryz.func32, Tryz.ntmps32
  go_wp2_with fail
  rw [← hpl.out] at HN ⊢
  generalize w.alloc (.cells #[.pointer (some ⟨p, 0, none⟩), .int .i64 id, .int .i64 1, .int .i64 0, .int .i64 0] 86) = w1 at HN hk1 s1 hv1 ⊢
  have HR := Lib.hid (rootP w1 B p pd V vF X hv1)
  have H1 := Lib.hid (And.intro HN (And.intro hk1 s1))
  clear HN hk1 s1 hv1
  refine HR.out.mono ?_
  clear HR
  rintro e w2 ⟨hk2, vR, rfl, ho2⟩
  obtain ⟨fs, hfs⟩ : ∃ fs, Hid (fs = V.R.2.2.2) := ⟨_, rfl⟩
  rw [← hfs.out] at ho2 HF
  obtain ⟨ad, cap, rfl, hF2⟩ := own_files ho2 rfl (fun f hf => (HF.out.2.2.2.2 f hf).1)
  have HO2 := Lib.hid ho2
  have hpl1 : pl < w1.heap.size := by have := H1.out.2.2; have := hpl.out; omega
  have HPL := Lib.hid hpl1
  have HFL : Hid (∀ wr, Kept (fun k => k = pl) w2 wr → Files wr ad fs.length (fs.map fileI)) := fun wr hk => by
    have ho := owns_of_block HO2.out (w' := wr) fun g hg => hk.block g (HO2.out.lt g hg).2 (fun e => by have := (HO2.out.lt g hg).1; omega)
    obtain ⟨ad', cap', he, hf⟩ := own_files ho rfl (fun f hf => (HF.out.2.2.2.2 f hf).1)
    injection he with h1 h2 h3
    subst h1
    exact hf
  have HI : Hid (Kept (fun k => k = pl) w2 w2 ∧ Holds w2 pl [.pointer (some ⟨p, 0, none⟩), .int .i64 id, .int .i64 (manyF id (fs.take 0) : Int), .int .i64 0, .int .i64 0] 86) :=
    ⟨Kept.refl _ _, by rw [List.take_zero]; exact H1.out.1.of_block (hk2.block pl hpl1 (fun hf => hf))⟩
  have HK2 := Lib.hid (H1.out.2.1.trans hk2 (fun _ hf => hf.elim))
  have hn24 : fs.length ≤ 24 := HF.out.1
  obtain ⟨nf, hnf⟩ : ∃ nf, Hid (nf = fs.length) := ⟨_, rfl⟩
  have hplr : Hid (w.heap.size ≤ pl) := by have := hpl.out; show _ ≤ _; omega
  rw [← hnf.out] at hn24 HFL ⊢
  clear hk2 ho2 HO2 hF2 hpl1 H1
  have hfl := root_files8
  have HX1 := Lib.hid HI.out.1
  go_wp2
  clear hfl
  obtain ⟨wq, hwq⟩ : ∃ wq, wq = w2 := ⟨_, rfl⟩
  have HI2 : Hid (Kept (fun k => k = pl) w2 wq ∧ Holds wq pl [.pointer (some ⟨p, 0, none⟩), .int .i64 id, .int .i64 (manyF id (fs.take 0) : Int), .int .i64 0, .int .i64 0] 86) := by rw [hwq]; exact HI
  rw [← hwq]
  clear hwq HI HX1
  go_loopw [16] (fun i wr => ∃ j : Nat, j ≤ nf ∧ i = .int .i64 (j : Int) ∧ Hid (Kept (fun k => k = pl) w2 wr ∧ Holds wr pl [.pointer (some ⟨p, 0, none⟩), .int .i64 id, .int .i64 (manyF id (fs.take j) : Int), .int .i64 0, .int .i64 0] 86)) (fun i _ => nf - (intOf i).toNat)
  case atStart => exact ⟨0, Nat.zero_le _, rfl, HI2⟩
  case round =>
    obtain ⟨j, hj, rfl, hI⟩ := hrel
    by_cases hlt : (j : Int) < nf
    · have hjl : j < nf := by omega
      obtain ⟨b, off, rfl, hbl, hrow, hfx⟩ := files_at (HFL.out wr hI.out.1) j hjl
      clear hfx
      have hjf : j < fs.length := by have := hnf.out; omega
      have hlj : (fs.map fileI)[j]'(by rw [List.length_map]; exact hjf) = fileI fs[j] := by simp only [List.getElem_map]
      rw [hlj] at hrow
      have HTK : Hid (manyF id (fs.take (j + 1)) = if ((fs[j]).1 : Int) = id then (fs[j]).2.2 else manyF id (fs.take j)) := by show _ = _; rw [List.take_succ_eq_append_getElem hjf, manyF_snoc]
      generalize fs[j] = f at hrow HTK
      obtain ⟨f0, f1, f2⟩ := f
      simp only at HTK
      have d0 : wr.cell? ⟨b, off + j * 3, none⟩ = some (.int .i64 (f0 : Int)) := hrow 0 _ rfl
      have d1 : wr.cell? ⟨b, off + j * 3 + 1, none⟩ = some (.int .i64 (f1 : Int)) := hrow 1 _ rfl
      have d2 : wr.cell? ⟨b, off + j * 3 + 2, none⟩ = some (.int .i64 (f2 : Int)) := hrow 2 _ rfl
      have hj0 : (0 : Int) ≤ (j : Int) := Int.natCast_nonneg _
      have hwj : IntKind.i64.wrap ((j : Int) + 1) = ((j + 1 : Nat) : Int) := by rw [IntWalk.i64_in _ (by omega)]; omega
      clear hrow hlj hjf hbl
      have HNF := Holds.new wr [.int .i64 (f0 : Int), .int .i64 (f1 : Int), .int .i64 (f2 : Int)] 102
      have hk3 := hI.out.1.alloc (.cells #[.int .i64 (f0 : Int), .int .i64 (f1 : Int), .int .i64 (f2 : Int)] 102)
      have hO3 := hI.out.2.alloc (.cells #[.int .i64 (f0 : Int), .int .i64 (f1 : Int), .int .i64 (f2 : Int)] 102)
      obtain ⟨gq, hgq⟩ : ∃ gq, Hid (gq = wr.heap.size) := ⟨_, rfl⟩
      go_upto_region 5 with (fail)
      rw [← hgq.out] at HNF ⊢
      change Holds (wr.alloc (.cells #[.int .i64 (f0 : Int), .int .i64 (f1 : Int), .int .i64 (f2 : Int)] 102)) _ _ _ at HNF
      generalize wr.alloc (.cells #[.int .i64 (f0 : Int), .int .i64 (f1 : Int), .int .i64 (f2 : Int)] 102) = wf at HNF hk3 hO3 ⊢
      have n0 := HNF.cell 0 _ rfl
      have n2 := HNF.cell 2 _ rfl
      have o2 := hO3.cell 2 _ rfl
      have g2 := hO3.free 2
      have HS := Lib.hid (hO3.set 2 (.int .i64 (f2 : Int)))
      have HK4 : Hid (Kept (fun k => k = pl) w2 (wf.setCell ⟨pl, 2, none⟩ (.int .i64 (f2 : Int)))) := Kept.setCell (X := fun k => k = pl) (p := ⟨pl, 2, none⟩) hk3 rfl _
      have HH := Lib.hid (And.intro hk3 hO3)
      clear HNF hk3 hO3 hI d0 d1 d2
      by_cases hid : (f0 : Int) = id
      · have HT2 := Lib.hid (HTK.out.trans (if_pos hid))
        have hb : ((f0 : Int) == id) = true := by simpa using hid
        clear hid HTK HH
        go_wp2
        go_roundw
        case rel => exact ⟨j + 1, by omega, by first | rfl | go_num, HK4.out, by rw [HT2.out]; exact HS.out⟩
        case measure => simp [intOf]; omega
      · have HT2 := Lib.hid (HTK.out.trans (if_neg hid))
        have hb : ((f0 : Int) == id) = false := by simpa using hid
        clear hid HTK HS HK4 o2 g2
        go_wp2
        go_roundw
        case rel => exact ⟨j + 1, by omega, by first | rfl | go_num, HH.out.1, by rw [HT2.out]; exact HH.out.2⟩
        case measure => simp [intOf]; omega
    · have hall : fs.take j = fs := List.take_of_length_le (by have := hnf.out; omega)
      have hO := hI.out.2
      rw [hall] at hO
      have HO := Lib.hid (And.intro hI.out.1 hO)
      clear hO hall hI
      go_wp2
      go_ret
      refine ⟨pl, rfl, hplr.out, by rw [← hfs.out]; exact HO.out.2, HK2.out.trans HO.out.1 (fun n hn => .inr (by rw [hn]; exact hplr.out))⟩

end Go.Proofs.YtfbgagpihhbllaaGreatDoor

/- Package volume: change, Point, used: the program's calls over store. -/
namespace Go.Proofs.YtfbgagpihhbllaaGreatDoor
open Go.RowKit Go.Proofs Go.Proofs.Pk
set_option maxRecDepth 10000
attribute [local simp] mk_get wrap64_u8 mk_extract ByteArray.mk_append_mk get_1k

/-- What a call leaves that was handed a row of files of the caller's own. -/
def VlLeftR (w : World) (B p pd : Nat) (V' : Vol) (vF vR : Value) (X : Nat → Prop) (w' : World) : Prop :=
  ∃ X' vF', VlP w' B p pd V' vF' X' ∧ Grows w X X' ∧ (∀ b, vF'.ownBlock = some b → vF.ownBlock = some b ∨ vR.ownBlock = some b ∨ w.heap.size ≤ b) ∧ Kept X w w'
theorem VlLeftR.behind {w w1 w' : World} {B p pd : Nat} {V' : Vol} {vF vR : Value} {X : Nat → Prop} (hk : Kept (fun _ => False) w w1) (hR : ∀ b, vR.ownBlock = some b → w.heap.size ≤ b) (h : VlLeftR w1 B p pd V' vF vR X w') : VlLeft w B p pd V' vF X w' := by
  obtain ⟨X', vF', ha, hg, hf, hk'⟩ := h
  refine ⟨X', vF', ha, fun n hn => (hg n hn).elim .inl (fun h => .inr (Nat.le_trans hk.size h)), fun b hb => ?_, (hk.mono (fun _ hf => hf.elim)).trans hk' (fun n hn => .inl hn)⟩
  rcases hf b hb with h | h | h
  · exact .inl h
  · exact .inr (hR b h)
  · exact .inr (Nat.le_trans hk.size h)
theorem VlLeft.behind {w w1 w' : World} {B p pd : Nat} {V' : Vol} {vF : Value} {X : Nat → Prop} (hk : Kept (fun _ => False) w w1) (h : VlLeft w1 B p pd V' vF X w') : VlLeft w B p pd V' vF X w' := by
  obtain ⟨X', vF', ha, hg, hf, hk'⟩ := h
  exact ⟨X', vF', ha, fun n hn => (hg n hn).elim .inl (fun h => .inr (Nat.le_trans hk.size h)), fun b hb => (hf b hb).elim .inl (fun h => .inr (Nat.le_trans hk.size h)), (hk.mono (fun _ hf => hf.elim)).trans hk' (fun n hn => .inl hn)⟩
theorem VlLeft.same {w w' : World} {B p pd : Nat} {V : Vol} {vF : Value} {X : Nat → Prop} (h : VlP w B p pd V vF X) (hk : Kept (fun _ => False) w w') : VlLeft w B p pd V vF X w' :=
  ⟨X, vF, h.still hk, Grows.refl _ _, fun _ hb => .inl hb, hk.mono (fun _ hf => hf.elim)⟩
theorem ErF.laid {w : World} {v : Value} {c : Nat} (h : ErF w v c true) : ErF w v c (decide (c ≠ 0)) := by
  rcases h with h | ⟨h0, h⟩
  · exact .inl h
  · exact .inr ⟨h0, by rw [decide_eq_true h0]; exact h⟩

def chgV (V : Vol) (R : RootN) : Vol × Nat × Bool := if R.1 = MaxN then (V, 5, false) else laidV (layV V (R.1 + 1, R.2.1, R.2.2.1, R.2.2.2))

set_option maxHeartbeats 1000000 in
theorem changeP (w : World) (B p pd : Nat) (V : Vol) (vF : Value) (X : Nat → Prop) (h : VlP w B p pd V vF X) (hg : ErrTy w) (hB : 0 < B) (hl : V.gone = false) (R : RootN) (vR : Value)
    (ho : w.ownsRow B 102 3 vR R.2.2.2.length (cellsF R.2.2.2)) (hno : ∀ b, vR.ownBlock = some b → ¬X b) (hM : R.1 ≤ MaxN) (hr : R.1 < MaxN → rightN V.D.L.length (R.1 + 1, R.2.1, R.2.2.1, R.2.2.2) = true) (hC : V.D.C.length ≤ 900000) (hN : V.D.n ≤ 900000) :
    Calls Tryz.prog 45 #[.pointer (some ⟨p, 0, none⟩), .agg #[.int .i64 (R.1 : Int), .int .i64 (R.2.1 : Int), .int .i64 (R.2.2.1 : Int), vR]] w fun e w' => ∃ v, e = .returned v ∧ ErF w' v (chgV V R).2.1 (chgV V R).2.2 ∧ VlLeftR w B p pd (chgV V R).1 vF vR X w' := by
  obtain ⟨ad, cap, rfl⟩ : ∃ ad cap, vR = .slice ad R.2.2.2.length cap := by
    rcases ho.2 with ⟨rfl, h0⟩ | ⟨g, c', cur, rfl, _⟩
    · exact ⟨none, 0, by rw [h0]⟩
    · exact ⟨_, c', rfl⟩
  obtain ⟨s, n, c, fs⟩ := R
  simp only at hM hr ho hno ⊢
  have hlto := ho.lt
  obtain ⟨nf, hnf⟩ : ∃ nf, Hid (nf = fs.length) := ⟨_, rfl⟩
  by_cases hs : s = MaxN
  · have hch : Hid (chgV V (s, n, c, fs) = (V, 5, false)) := by show _ = _; unfold chgV; rw [if_pos hs]
    have hk1 : Kept (fun _ => False) w (w.alloc (.cells #[.int .i64 (s : Int), .int .i64 (n : Int), .int .i64 (c : Int), .slice ad nf cap] 78)) := (Kept.refl _ _).alloc _
    have HF := Lib.hid (faultP 5 (by decide) (w.alloc (.cells #[.int .i64 (s : Int), .int .i64 (n : Int), .int .i64 (c : Int), .slice ad nf cap] 78)))
    have H := Lib.hid (And.intro h hk1)
    have hge : (9007199254740991 : Int) ≤ (s : Int) := by unfold MaxN at hs; omega
    rw [hch.out, ← hnf.out]
    clear hs hr ho hno hM h hk1 hg hlto hl hC hN
    go_enter Tryz.func45, Tryz.ntmps45
    go_wp2_with fail
    refine HF.out.mono ?_
    clear HF
    rintro e w2 ⟨v, rfl, he, hk2⟩
    go_wp2
    go_ret
    have hk := H.out.2.trans hk2 (fun _ hf => hf.elim)
    exact ⟨_, rfl, he, X, vF, H.out.1.still hk, Grows.refl _ _, fun _ hb => .inl hb, hk.mono (fun _ hf => hf.elim)⟩
  · have hslt : s < MaxN := by omega
    have hch : Hid (chgV V (s, n, c, fs) = laidV (layV V (s + 1, n, c, fs))) := by show _ = _; unfold chgV; rw [if_neg hs]
    have hk2 : Kept (fun _ => False) w (w.alloc (.cells #[.int .i64 ((s : Int) + 1), .int .i64 (n : Int), .int .i64 (c : Int), .slice ad nf cap] 78)) := (Kept.refl _ _).alloc _
    have hge : ¬(9007199254740991 : Int) ≤ (s : Int) := by unfold MaxN at hslt; omega
    have hws : IntKind.i64.wrap ((s : Int) + 1) = (s : Int) + 1 := IntWalk.i64_in _ (by unfold MaxN at hslt; omega)
    have hS := storeP (w.alloc (.cells #[.int .i64 ((s : Int) + 1), .int .i64 (n : Int), .int .i64 (c : Int), .slice ad nf cap] 78)) B p pd V vF X (h.still hk2) (hg.kept hk2 (fun hf => hf)) hB hl (s + 1, n, c, fs) (.slice ad fs.length cap)
      (owns_of_block ho fun g hgb => hk2.block g (hlto g hgb).2 (fun hf => hf)) hno (hr hslt) hC hN
    simp only at hS
    rw [show ((s + 1 : Nat) : Int) = (s : Int) + 1 from by omega] at hS
    have HS := Lib.hid hS
    have H := Lib.hid (And.intro h hk2)
    rw [hch.out]
    rw [← hnf.out] at HS ⊢
    clear hs hr ho hno hM h hk2 hg hlto hl hC hN hS hslt
    go_enter Tryz.func45, Tryz.ntmps45
    go_wp2_with fail
    refine HS.out.mono ?_
    clear HS
    rintro e w2 ⟨v, rfl, he, X', vF', hv, hgr, hf, hk⟩
    have HE := Lib.hid (And.intro he.laid (And.intro hv (And.intro hgr (And.intro hf hk))))
    clear he hv hgr hf hk
    go_wp2
    go_ret
    obtain ⟨he, hv, hgr, hf, hk⟩ := HE.out
    have hsz := H.out.2.size
    exact ⟨_, rfl, he, X', vF', hv, fun k hk => (hgr k hk).elim .inl (fun h => .inr (Nat.le_trans hsz h)), fun b hb => (hf b hb).elim .inl (fun h => h.elim (fun h => .inr (.inl h)) (fun h => .inr (.inr (Nat.le_trans hsz h)))), (H.out.2.mono (fun _ hf => hf.elim)).trans hk (fun k hk => .inl hk)⟩

theorem findI_lt (l : List FileV) (id : Int) (h : ¬∃ f ∈ l, f.1 = id) : findI l id = -1 := findI_miss l id fun j hj e => h ⟨_, List.getElem_mem hj, e⟩
theorem findI_ge (l : List FileV) (id : Int) (h : ∃ f ∈ l, f.1 = id) : ∃ k, ∃ hk : k < l.length, findI l id = (k : Int) ∧ (l[k]).1 = id ∧ ∀ j (hj : j < k), (l[j]'(by omega)).1 ≠ id := by
  unfold findI
  cases hf : l.findIdx? (fun f => f.1 == id) with
  | none =>
    obtain ⟨f, hfm, he⟩ := h
    have := List.findIdx?_eq_none_iff.1 hf f hfm
    simp [he] at this
  | some k =>
    obtain ⟨hk, h1, h2⟩ := List.findIdx?_eq_some_iff_getElem.1 hf
    exact ⟨k, hk, rfl, by simpa using h1, fun j hj => by simpa using h2 j hj⟩

end Go.Proofs.YtfbgagpihhbllaaGreatDoor
