/- VolB, ReadP, RtI. -/
import Derived.Test.YtfbgagpihhbllaaGreatDoorJ19
import Derived.Test.YtfbgagpihhbllaaGreatDoorJ06
import Derived.Laws.ResultCell
import Derived.Test.YtfbgagpihhbllaaGreatDoorProg
import Derived.Test.YtfbgagpihhbllaaGreatDoorJ03
import Derived.Test.YtfbgagpihhbllaaGreatDoorJ04

/- Package volume: fault, below, Dead, Root, Sync: the program's small calls. -/
namespace Go.Proofs.YtfbgagpihhbllaaGreatDoor
open Go.RowKit Go.Proofs Go.Proofs.Pk
set_option maxRecDepth 10000
attribute [local simp] mk_get wrap64_u8 mk_extract ByteArray.mk_append_mk get_1k

theorem fault_holds {w : World} {b : Nat} {l c : Int} {inner : Value} {e : TypeId} (h : Holds w b [.int .i64 l, .int .i64 c, inner] e) : FaultAt w b l c inner := ⟨h.cell 0 _ rfl, h.cell 1 _ rfl, h.cell 2 _ rfl⟩

/-- An error's block is a new one. -/
def FreshV (w : World) (v : Value) : Prop := ∀ b, v = .iface 81 (.pointer (some ⟨b, 0, none⟩)) → w.heap.size ≤ b
set_option maxHeartbeats 400000 in
theorem faultPN (c : Nat) (hc : c ≠ 0) (w : World) : Calls Tryz.prog 37 #[.int .i64 (c : Int)] w fun e w' => ∃ v, e = .returned v ∧ ErF w' v c false ∧ FreshV w v ∧ Kept (fun _ => False) w w' := by
  have HN := Lib.hid (Holds.new w [.int .i64 7, .int .i64 (c : Int), .nilIface] 83)
  have HC := Lib.hid hc
  clear hc
  go_enter Tryz.func37, Tryz.ntmps37
  go_wp2
  go_ret
  exact ⟨_, rfl, .inr ⟨HC.out, _, HN.out.lt, rfl, fault_holds HN.out⟩, fun b hb => by injection hb with _ hb; injection hb with hb; injection hb with hb; injection hb with hb; omega, (Kept.refl _ w).alloc _⟩

set_option maxHeartbeats 400000 in
/-- An error of the layer's own. -/
theorem faultP (c : Nat) (hc : c ≠ 0) (w : World) : Calls Tryz.prog 37 #[.int .i64 (c : Int)] w fun e w' => ∃ v, e = .returned v ∧ ErF w' v c false ∧ Kept (fun _ => False) w w' := by
  have HN := Lib.hid (Holds.new w [.int .i64 7, .int .i64 (c : Int), .nilIface] 83)
  have HC := Lib.hid hc
  clear hc
  go_enter Tryz.func37, Tryz.ntmps37
  go_wp2
  go_ret
  exact ⟨_, rfl, .inr ⟨HC.out, _, HN.out.lt, rfl, fault_holds HN.out⟩, (Kept.refl _ w).alloc _⟩

theorem ErrTy.kept {w w' : World} {Y : Nat → Prop} (h : ErrTy w) (hk : Kept Y w w') (hY : ¬Y 0) : ErrTy w' := by
  have hlt : 0 < w.heap.size := by
    rcases Nat.lt_or_ge 0 w.heap.size with h' | h'
    · exact h'
    · unfold ErrTy at h; simp [World.cell?, Array.getElem?_eq_none h'] at h
  unfold ErrTy; rw [hk.cell (p := ⟨0, 0, none⟩) hlt hY]; exact h
theorem ErrTy.lt {w : World} (h : ErrTy w) : 0 < w.heap.size := by
  rcases Nat.lt_or_ge 0 w.heap.size with h' | h'
  · exact h'
  · unfold ErrTy at h; simp [World.cell?, Array.getElem?_eq_none h'] at h

/-- errors.As(the disk's number, the fault's). -/
theorem as_fault (c : Int) (b : Nat) (inner : Value) (w : World) (hg : ErrTy w) (h : Holds w b [.int .i64 7, .int .i64 0, inner] 83) :
    Calls Tryz.prog 70 #[.iface 33 (.int .i64 c), .iface 134 (.pointer (some ⟨b, 1, none⟩))] w fun e w' => e = .returned (.bool true) ∧ Holds w' b [.int .i64 7, .int .i64 c, inner] 83 ∧ Kept (fun k => k = b) w w' := by
  refine (as_num c ⟨b, 1, none⟩ _ w hg (h.cell 1 _ rfl) (h.free 1)).mono ?_
  rintro e w' ⟨rfl, rfl⟩
  refine ⟨rfl, ?_, ?_⟩
  · exact ((((h.alloc _).alloc _).alloc _).alloc _).set 1 (.int .i64 c)
  · exact Kept.setCell (X := fun k => k = b) (p := ⟨b, 1, none⟩) (((((Kept.refl _ w).alloc _).alloc _).alloc _).alloc _) rfl _

def downV (V : Vol) (c : Nat) : Vol := if c = 6 then ⟨V.D, rootZ, true⟩ else V
def downF (vF : Value) (c : Nat) : Value := if c = 6 then .slice none 0 0 else vF

set_option maxHeartbeats 1000000 in
/-- An error of the disk's becomes one of the volume's; behind a power cut it is dead. -/
theorem belowP (w : World) (B p pd : Nat) (V : Vol) (vF : Value) (X : Nat → Prop) (h : VlP w B p pd V vF X) (hg : ErrTy w) (hB : 0 < B) (c : Nat) :
    Calls Tryz.prog 49 #[.pointer (some ⟨p, 0, none⟩), erV c] w fun e w' => ∃ v, e = .returned v ∧ ErF w' v c true ∧ VlP w' B p pd (downV V c) (downF vF c) X ∧ Kept X w w' := by
  by_cases hc : c = 0
  · subst hc
    have H := Lib.hid h
    rw [show erV 0 = .nilIface from rfl]
    clear h hg
    go_enter Tryz.func49, Tryz.ntmps49
    go_wp2
    go_ret
    exact ⟨_, rfl, ErF.none _ _, H.out, Kept.refl _ _⟩
  rw [show erV c = .iface 33 (.int .i64 (c : Int)) from by unfold erV; rw [if_neg hc]]
  have HN := Holds.new w [.int .i64 7, .int .i64 0, .iface 33 (.int .i64 (c : Int))] 83
  have hk1 : Kept X w (w.alloc (.cells #[.int .i64 7, .int .i64 0, .iface 33 (.int .i64 (c : Int))] 83)) := (Kept.refl _ _).alloc _
  have hlt := h.lt
  have hXg : ∀ k, X k → k ≠ 0 := fun k hk e => by have := (hlt k (.inl hk)).1; omega
  have hg1 := hg.kept hk1 (fun hx => hXg _ hx rfl)
  have hv1 := h.still (w' := w.alloc (.cells #[.int .i64 7, .int .i64 0, .iface 33 (.int .i64 (c : Int))] 83)) ((Kept.refl _ _).alloc _)
  obtain ⟨b, hb⟩ : ∃ b, Hid (b = w.heap.size) := ⟨_, rfl⟩
  change Holds (w.alloc (.cells #[.int .i64 7, .int .i64 0, .iface 33 (.int .i64 (c : Int))] 83)) _ _ _ at HN
  go_enter Tryz.func49, Tryz.ntmps49
  go_wp2_with fail
  rw [← hb.out] at HN ⊢
  generalize w.alloc (.cells #[.int .i64 7, .int .i64 0, .iface 33 (.int .i64 (c : Int))] 83) = w1 at HN hk1 hg1 hv1 ⊢
  refine (as_fault c b _ w1 hg1 HN).mono ?_
  rintro e w2 ⟨rfl, HN2, hk2⟩
  have hv2 := hv1.kept hk2 (fun k hk e => by have := (hlt k hk).2; have := hb.out; omega)
  have hk12 : Kept X w w2 := hk1.trans hk2 (fun n e => .inr (by have := hb.out; omega))
  have HE : Hid (FaultAt w2 b 7 c (.iface 33 (.int .i64 (c : Int))) ∧ b < w2.heap.size) := ⟨fault_holds HN2, HN2.lt⟩
  have d1 := HN2.cell 1 _ rfl
  have HV := Lib.hid hv2
  have HK := Lib.hid hk12
  have HC := Lib.hid hc
  have ho := hv2.obj
  have c0 := ho.cell 0 _ rfl
  have c1 := ho.cell 1 _ rfl
  have c2 := ho.cell 2 _ rfl
  have c3 := ho.cell 3 _ rfl
  have c4 := ho.cell 4 _ rfl
  have c5 := ho.cell 5 _ rfl
  have f1 := ho.free 1
  have f2 := ho.free 2
  have f3 := ho.free 3
  have f4 := ho.free 4
  have f5 := ho.free 5
  have HO := Lib.hid ho
  have hbp : Hid (b ≠ p) := fun e => by have := (hlt p (.inl h.mine)).2; have := hb.out; omega
  clear HN hk1 hg1 hv1 hk2 hv2 hk12 HN2 ho hc hXg hlt h hg
  by_cases h6 : c = 6
  · subst h6
    go_wp2
    go_ret
    have HM := HV.out.mine
    have ho2 := HO.out.set 5 (.bool true)
    have ho3 := obj_rooted (R' := rootZ) (vF' := .slice none 0 0) (R := V.R) (vF := vF) (g := true) ho2
    refine ⟨_, rfl, .inr ⟨by decide, b, ?_, rfl, ?_⟩, ?_, ?_⟩
    · show b < _; simp [World.setCell]; exact HE.out.2
    · have := HE.out.1
      refine ⟨?_, ?_, ?_⟩
      · exact (World.cell?_of_block (a := ⟨b, 0, none⟩) ((heap_rooted b hbp.out).trans (Below.heap_setCell _ _ _ _ hbp.out))).trans this.1
      · exact (World.cell?_of_block (a := ⟨b, 1, none⟩) ((heap_rooted b hbp.out).trans (Below.heap_setCell _ _ _ _ hbp.out))).trans this.2.1
      · exact (World.cell?_of_block (a := ⟨b, 2, none⟩) ((heap_rooted b hbp.out).trans (Below.heap_setCell _ _ _ _ hbp.out))).trans this.2.2
    · exact HV.out.reroot rootZ true (World.ownsRow_nil _ _ _ _) (fun b hb => by simp [Value.ownBlock] at hb) (.inr rfl) _ (fun k hk => (heap_rooted k hk).trans (Below.heap_setCell _ _ _ _ hk)) ho3
    · exact ((((HK.out.setCell (p := ⟨p, 5, none⟩) HM _).setCell (p := ⟨p, 1, none⟩) HM _).setCell (p := ⟨p, 2, none⟩) HM _).setCell (p := ⟨p, 3, none⟩) HM _).setCell (p := ⟨p, 4, none⟩) HM _
  · have h6' : ((c : Int) == 6) = false := by simp; omega
    have hdv : Hid (downV V c = V ∧ downF vF c = vF) := by unfold downV downF Hid; rw [if_neg h6, if_neg h6]; exact ⟨rfl, rfl⟩
    clear h6
    go_wp2
    go_ret
    rw [hdv.out.1, hdv.out.2]
    exact ⟨_, rfl, .inr ⟨HC.out, b, HE.out.2, rfl, HE.out.1⟩, HV.out, HK.out⟩

set_option maxHeartbeats 400000 in
theorem deadP (w : World) (B p pd : Nat) (V : Vol) (vF : Value) (X : Nat → Prop) (h : VlP w B p pd V vF X) :
    Calls Tryz.prog 17 #[.pointer (some ⟨p, 0, none⟩)] w fun e w' => e = .returned (.bool V.gone) ∧ w' = w := by
  have c5 := h.obj.cell 5 _ rfl
  clear h
  go_enter Tryz.func17, Tryz.ntmps17
  go_wp2
  go_ret
  exact ⟨rfl, rfl⟩

theorem cloneFiles (B : Nat) (v : Value) (n : Nat) (fs : List FileN) (w : World) (h : w.ownsRow B 102 3 v n (cellsF fs)) (hn : n ≤ 1000000) :
    Calls Tryz.prog 65 #[v] w fun e w' => ∃ v', e = .returned v' ∧ w'.ownsRow w.heap.size 102 3 v' n (cellsF fs) ∧ Below w.heap.size w w' := by
  obtain ⟨iF, hiF, hzF, hsF, hbF⟩ := info_parts file_info
  rcases h.2 with ⟨rfl, rfl⟩ | ⟨g, cap, cur, rfl, h1, h2, h3, h4, h5, h6⟩
  · refine Calls.mono (AnyE.slices_Clone_nil Tryz.cloneFile 0 0 w) ?_
    rintro e w' ⟨rfl, rfl⟩
    have : cellsF fs = [] := List.length_eq_zero_iff.1 (by have := h.1; omega)
    rw [this]
    exact ⟨_, rfl, World.ownsRow_nil _ _ _ _, Below.refl _ _⟩
  · refine Calls.mono (AnyE.slices_Clone Tryz.cloneFile iF _ 3 24 hiF hzF hsF hbF rfl (by omega) Tryz.sizeOf102 g 0 n cap (cellsF fs) w h.1 (by unfold maxLen; omega) (by omega) ?_ ?_) ?_
    · intro j u hj
      have hjl : j < n * 3 := by rw [← h.1]; exact (List.getElem?_eq_some_iff.1 hj).1
      rw [Nat.zero_add, h.cellAt j hjl]; exact hj
    · intro u hu
      obtain ⟨x, _, hx⟩ := List.mem_flatMap.1 hu
      simp only [fileV, List.mem_cons, List.not_mem_nil, or_false] at hx
      rcases hx with rfl | rfl | rfl <;> rfl
    · rintro e w' ⟨v', rfl, ho, _, hb⟩
      exact ⟨v', rfl, ho, hb⟩

theorem results_cell_one {fn : Func} {p : Tmp} {ty : TypeId} (h : fn.results = #[.cell p ty]) (tmps : Array Value) (P : Program) (w : World) :
    (results fn tmps).run P w = ((asAddr (tmps.getD p undef)).run P w).andThen fun a w₁ => (loadVar ty a).run P w₁ := by
  simp only [results, h]
  simp [Sem.run_bind, Result.andThen]

set_option maxHeartbeats 1000000 in
/-- Root: the root, in a row of the caller's own. -/
theorem rootP (w : World) (B p pd : Nat) (V : Vol) (vF : Value) (X : Nat → Prop) (h : VlP w B p pd V vF X) :
    Calls Tryz.prog 41 #[.pointer (some ⟨p, 0, none⟩)] w fun e w' => Kept (fun _ => False) w w' ∧
      ∃ vR, e = .returned (.agg #[.int .i64 (V.R.1 : Int), .int .i64 (V.R.2.1 : Int), .int .i64 (V.R.2.2.1 : Int), vR]) ∧ w'.ownsRow w.heap.size 102 3 vR V.R.2.2.2.length (cellsF V.R.2.2.2) := by
  obtain ⟨ad, cap, rfl, _⟩ := h.files
  have ho := h.obj
  have hn := h.few.1
  have hfil := h.fil
  have hlt := h.lt
  clear h
  obtain ⟨D, ⟨s, n, c, fs⟩, gone⟩ := V
  simp only at hn hfil ho hlt ⊢
  obtain ⟨nf, hnf⟩ : ∃ nf, nf = fs.length := ⟨_, rfl⟩
  rw [← hnf] at hn hfil ho ⊢
  simp only [← hnf] at hlt
  clear hnf
  have HA := (Holds.new w [.int .i64 0, .int .i64 0, .int .i64 0, .slice none 0 0] 78).alloc (.cells #[.int .i64 (s : Int), .int .i64 (n : Int), .int .i64 (c : Int), .slice ad nf cap] 78)
  have s1 : (w.alloc (.cells #[.int .i64 0, .int .i64 0, .int .i64 0, .slice none 0 0] 78)).heap.size = w.heap.size + 1 := by simp
  have HB := Holds.new (w.alloc (.cells #[.int .i64 0, .int .i64 0, .int .i64 0, .slice none 0 0] 78)) [.int .i64 (s : Int), .int .i64 (n : Int), .int .i64 (c : Int), .slice ad nf cap] 78
  rw [s1] at HB
  have k2 : Kept (fun _ => False) w ((w.alloc (.cells #[.int .i64 0, .int .i64 0, .int .i64 0, .slice none 0 0] 78)).alloc (.cells #[.int .i64 (s : Int), .int .i64 (n : Int), .int .i64 (c : Int), .slice ad nf cap] 78)) := ((Kept.refl _ w).alloc _).alloc _
  change Holds ((w.alloc (.cells #[.int .i64 0, .int .i64 0, .int .i64 0, .slice none 0 0] 78)).alloc (.cells #[.int .i64 (s : Int), .int .i64 (n : Int), .int .i64 (c : Int), .slice ad nf cap] 78)) _ _ _ at HA
  change Holds ((w.alloc (.cells #[.int .i64 0, .int .i64 0, .int .i64 0, .slice none 0 0] 78)).alloc (.cells #[.int .i64 (s : Int), .int .i64 (n : Int), .int .i64 (c : Int), .slice ad nf cap] 78)) _ _ _ at HB
  have c1 := ho.cell 1 _ rfl
  have c2 := ho.cell 2 _ rfl
  have c3 := ho.cell 3 _ rfl
  have c4 := ho.cell 4 _ rfl
  go_enter Tryz.func41, Tryz.ntmps41
  have hpl := ho.lt
  go_upto_region 2 with (fail)
  obtain ⟨q1, hq1⟩ : ∃ q1, Hid (q1 = w.heap.size) := ⟨_, rfl⟩
  obtain ⟨q2, hq2⟩ : ∃ q2, Hid (q2 = w.heap.size + 1) := ⟨_, rfl⟩
  rw [← hq2.out] at HB ⊢
  rw [← hq1.out] at HA ⊢
  generalize (w.alloc (.cells #[.int .i64 0, .int .i64 0, .int .i64 0, .slice none 0 0] 78)).alloc (.cells #[.int .i64 (s : Int), .int .i64 (n : Int), .int .i64 (c : Int), .slice ad nf cap] 78) = w2 at HA HB k2 ⊢
  have own2 := owns_of_block hfil fun g hg => k2.block g (hlt g (.inr hg)).2 (fun hf => hf)
  have HC := Lib.hid (cloneFiles B (.slice ad nf cap) nf fs w2 own2 (by omega))
  have b0 := HB.cell 0 _ rfl
  have b1 := HB.cell 1 _ rfl
  have b2 := HB.cell 2 _ rfl
  have b3 := HB.cell 3 _ rfl
  have H2 := Lib.hid (And.intro HA (And.intro HB k2))
  clear HA HB k2 own2 hfil ho c1 c2 c3 c4 s1 hlt
  go_wp2_with fail
  refine HC.out.mono ?_
  rintro e w3 ⟨vR, rfl, ho3, hb3⟩
  obtain ⟨ad3, cap3, rfl⟩ : ∃ ad3 cap3, vR = .slice ad3 nf cap3 := by
    rcases ho3.2 with ⟨rfl, h0⟩ | ⟨g, c', cur, rfl, _⟩
    · exact ⟨none, 0, by rw [h0]⟩
    · exact ⟨_, c', rfl⟩
  have HB3 := H2.out.2.1.of_block (hb3.block q2 H2.out.2.1.lt)
  have HA3 := H2.out.1.of_block (hb3.block q1 H2.out.1.lt)
  have b0 := HB3.cell 0 _ rfl
  have b1 := HB3.cell 1 _ rfl
  have b2 := HB3.cell 2 _ rfl
  have b3 := HB3.cell 3 _ rfl
  have g3 := HB3.free 3
  have hne : q1 ≠ q2 := by have := hq1.out; have := hq2.out; omega
  have hHB4 := HB3.set 3 (.slice ad3 nf cap3)
  have hHA4 := HA3.ne hne 3 (.slice ad3 nf cap3)
  have hk4 : Kept (fun _ => False) w (w3.setCell ⟨q2, 3, none⟩ (.slice ad3 nf cap3)) := by
    have := H2.out.2.2.trans (Kept.of_below (fun _ => False) hb3) (fun _ hf => hf.elim)
    exact this.setNew (p := ⟨q2, 3, none⟩) (by have := hq2.out; show w.heap.size ≤ q2; omega) _
  have hq2s : q2 < w2.heap.size := H2.out.2.1.lt
  have hsz : w.heap.size ≤ w2.heap.size := H2.out.2.2.size
  have ho4 : (w3.setCell ⟨q2, 3, none⟩ (.slice ad3 nf cap3)).ownsRow w.heap.size 102 3 (.slice ad3 nf cap3) nf (cellsF fs) := by
    refine owns_base (owns_setCell ho3 (fun hx => ?_)) hsz
    have := (ho3.lt q2 hx).1
    omega
  have hown : Hid ((Value.slice ad3 nf cap3).ownBlock ≠ some q1) := fun hx => by
    have h1 := (ho3.lt q1 hx).1
    have h2 := H2.out.1.lt
    omega
  clear HB3 HA3 ho3 hb3 hsz hq2s
  go_upto_region 3 with (fail)
  clear b0 b1 b2 b3 g3
  generalize w3.setCell ⟨q2, 3, none⟩ (.slice ad3 nf cap3) = w4 at hHB4 hHA4 hk4 ho4 ⊢
  have b0 := hHB4.cell 0 _ rfl
  have b1 := hHB4.cell 1 _ rfl
  have b2 := hHB4.cell 2 _ rfl
  have b3 := hHB4.cell 3 _ rfl
  have a0 := hHA4.cell 0 _ rfl
  have a1 := hHA4.cell 1 _ rfl
  have a2 := hHA4.cell 2 _ rfl
  have a3 := hHA4.cell 3 _ rfl
  have f0 := hHA4.free 0
  have f1 := hHA4.free 1
  have f2 := hHA4.free 2
  have f3 := hHA4.free 3
  have HX3 := Lib.hid (root_stored (a' := .int .i64 (s : Int)) (b' := .int .i64 (n : Int)) (c' := .int .i64 (c : Int)) (d' := .slice ad3 nf cap3) hHA4)
  have HK5 : Hid (Kept (fun _ => False) w ((((w4.setCell ⟨q1, 0, none⟩ (.int .i64 (s : Int))).setCell ⟨q1, 1, none⟩ (.int .i64 (n : Int))).setCell ⟨q1, 2, none⟩ (.int .i64 (c : Int))).setCell ⟨q1, 3, none⟩ (.slice ad3 nf cap3))) := by
    have hq : w.heap.size ≤ q1 := by have := hq1.out; omega
    exact (((hk4.setNew (p := ⟨q1, 0, none⟩) hq _).setNew (p := ⟨q1, 1, none⟩) hq _).setNew (p := ⟨q1, 2, none⟩) hq _).setNew (p := ⟨q1, 3, none⟩) hq _
  have HO5 : Hid ((((((w4.setCell ⟨q1, 0, none⟩ (.int .i64 (s : Int))).setCell ⟨q1, 1, none⟩ (.int .i64 (n : Int))).setCell ⟨q1, 2, none⟩ (.int .i64 (c : Int))).setCell ⟨q1, 3, none⟩ (.slice ad3 nf cap3))).ownsRow w.heap.size 102 3 (.slice ad3 nf cap3) nf (cellsF fs)) :=
    owns_setCell (owns_setCell (owns_setCell (owns_setCell ho4 hown.out) hown.out) hown.out) hown.out
  clear hHB4 hHA4 hk4 ho4
  go_wp2
  refine bodyPost_ret (v := .agg #[.int .i64 (s : Int), .int .i64 (n : Int), .int .i64 (c : Int), .slice ad3 nf cap3]) ?_ rfl ?_
  · have e0 := HX3.out.cell 0 _ rfl
    have e1 := HX3.out.cell 1 _ rfl
    have e2 := HX3.out.cell 2 _ rfl
    have e3 := HX3.out.cell 3 _ rfl
    rw [results_cell_one rfl]; go_simp
  · exact ⟨HK5.out, _, rfl, HO5.out⟩

/-- What a call leaves: a volume of the blocks that were or of new ones. -/
def VlLeft (w : World) (B p pd : Nat) (V' : Vol) (vF : Value) (X : Nat → Prop) (w' : World) : Prop :=
  ∃ X' vF', VlP w' B p pd V' vF' X' ∧ Grows w X X' ∧ (∀ b, vF'.ownBlock = some b → vF.ownBlock = some b ∨ w.heap.size ≤ b) ∧ Kept X w w'
theorem downV_zero (V : Vol) : downV V 0 = V := rfl
theorem downF_sub {vF : Value} {c b : Nat} (h : (downF vF c).ownBlock = some b) : vF.ownBlock = some b := by
  unfold downF at h
  split at h
  · simp [Value.ownBlock] at h
  · exact h

set_option maxHeartbeats 1000000 in
/-- Sync of a living volume. -/
theorem syncP (w : World) (B p pd : Nat) (V : Vol) (vF : Value) (X : Nat → Prop) (h : VlP w B p pd V vF X) (hg : ErrTy w) (hB : 0 < B) (hl : V.gone = false) :
    Calls Tryz.prog 51 #[.pointer (some ⟨p, 0, none⟩)] w fun e w' => ∃ v, e = .returned v ∧ ErF w' v V.D.sync.2 true ∧ VlLeft w B p pd (downV ⟨V.D.sync.1, V.R, V.gone⟩ V.D.sync.2) vF X w' := by
  obtain ⟨Xd, hA, hX⟩ := h
  have c0 := hA.obj.cell 0 _ rfl
  have c5 := hA.obj.cell 5 _ rfl
  rw [hl] at c5
  have HS := Lib.hid (pSy w B pd V.D Xd hA.dsk hA.ok)
  have HA := Lib.hid hA
  have HX := Lib.hid hX
  have hlt := (show VlP w B p pd V vF X from ⟨Xd, hA, hX⟩).lt
  have HG := Lib.hid hg
  have HL := Lib.hid hlt
  have HL0 := Lib.hid hl
  clear hA hX hg hlt hl
  go_enter Tryz.func51, Tryz.ntmps51
  go_wp2_with fail
  refine HS.out.mono ?_
  rintro e w1 ⟨rfl, Xd', hd, hgr, hk⟩
  obtain ⟨hv, hgX, hkX⟩ := VlP.disk HA.out HX.out hd hgr hk (Dsk.sync_ok HA.out.ok) (by
    unfold Dsk.sync
    split
    · rfl
    · simp only; rw [syncL_length])
  have HE := HG.out.kept hkX (fun hx => by have := (HL.out _ (.inl hx)).1; omega)
  have HW := Lib.hid (belowP w1 B p pd _ vF _ hv HE hB V.D.sync.2)
  have HK := Lib.hid (And.intro hgX hkX)
  clear hd hgr hk hv hgX hkX HE
  go_wp2_with fail
  refine HW.out.mono ?_
  rintro e w2 ⟨v, rfl, he, hv2, hk2⟩
  go_wp2
  go_ret
  refine ⟨_, rfl, he, _, _, hv2, HK.out.1, fun b hb => .inl (downF_sub hb), HK.out.2.trans hk2 HK.out.1⟩

end Go.Proofs.YtfbgagpihhbllaaGreatDoor

/- pack.ReadNum: what it returns. -/
namespace Go.Proofs.YtfbgagpihhbllaaGreatDoor
open Go.RowKit Go.Proofs Go.Proofs.Pk
set_option maxRecDepth 10000
attribute [local simp] mk_get wrap64_u8 mk_extract ByteArray.mk_append_mk get_1k

set_option maxHeartbeats 400000 in
theorem pRead_nil (w : World) :
    Calls Tryz.prog 89 #[.string ⟨([] : List UInt8).toArray⟩] w (R3 w (.int .i64 0) (.string ⟨#[]⟩) (errV 33 2)) := by
  go_enter Tryz.func89, Tryz.ntmps89
  go_wp2
  go_ret3
  exact R3.mk rfl rfl rfl (Below.refl _ _)

set_option maxHeartbeats 400000 in
theorem pRead_big (c : UInt8) (r : List UInt8) (w : World) (hb : r.length + 1 ≤ maxLen) (h : 7 < (c.toNat : Int)) :
    Calls Tryz.prog 89 #[.string ⟨(c :: r).toArray⟩] w (R3 w (.int .i64 0) (.string ⟨#[]⟩) (errV 33 3)) := by
  unfold maxLen at hb
  go_enter Tryz.func89, Tryz.ntmps89
  go_wp2
  go_quiet (fail)
  go_wp2
  go_ret3
  exact R3.mk rfl rfl rfl (belowN (Below.refl _ _) _)

set_option maxHeartbeats 400000 in
theorem pRead_short (c : UInt8) (r : List UInt8) (w : World) (hb : r.length + 1 ≤ maxLen) (h : (c.toNat : Int) ≤ 7) (h1 : (r.length : Int) < c.toNat) :
    Calls Tryz.prog 89 #[.string ⟨(c :: r).toArray⟩] w (R3 w (.int .i64 0) (.string ⟨#[]⟩) (errV 33 2)) := by
  unfold maxLen at hb
  go_enter Tryz.func89, Tryz.ntmps89
  go_wp2
  go_quiet (fail)
  go_wp2
  go_ret3
  exact R3.mk rfl rfl rfl (belowN (Below.refl _ _) _)

set_option maxHeartbeats 400000 in
theorem pRead_lead (c : UInt8) (t : List UInt8) (w : World) (hb : t.length + 1 ≤ maxLen) (h : (c.toNat : Int) ≤ 7) (h1 : (c.toNat : Int) ≤ t.length) (hc : 0 < (c.toNat : Int)) (ht : 0 < t.length) (hd : (((t[0]'ht).toNat : Int) == 0) = true) :
    Calls Tryz.prog 89 #[.string ⟨(c :: t).toArray⟩] w (R3 w (.int .i64 0) (.string ⟨#[]⟩) (errV 33 3)) := by
  unfold maxLen at hb
  go_enter Tryz.func89, Tryz.ntmps89
  go_wp2
  go_quiet (fail)
  go_wp2
  go_ret3
  exact R3.mk rfl rfl rfl (belowN (Below.refl _ _) _)

set_option maxHeartbeats 400000 in
theorem pRead_0 (r : List UInt8) (w : World) (_hb : r.length + 1 ≤ maxLen) :
    Calls Tryz.prog 89 #[.string ⟨((0 : UInt8) :: r).toArray⟩] w (R3 w (.int .i64 0) (.string ⟨r.toArray⟩) (errV 33 0)) := by
  unfold maxLen at _hb
  go_enter Tryz.func89, Tryz.ntmps89
  go_wp2
  go_quiet (fail)
  go_wp2
  go_loop [2, 6, 32] (fun n j i => n = .int .i64 0 ∧ i = .int .i64 0) (fun _ _ _ => 0)
  case atStart => exact ⟨rfl, rfl⟩
  case round =>
    obtain ⟨rfl, rfl⟩ := hrel
    go_wp2
    go_quiet (fail)
    go_wp2
    go_ret3
    exact R3.mk rfl (by simp) rfl (belowN (belowN (Below.refl _ _) _) _)

set_option maxHeartbeats 400000 in
theorem pRead_go (c : UInt8) (t : List UInt8) (w : World) (hb : t.length + 1 ≤ maxLen) (h : (c.toNat : Int) ≤ 7) (h1 : (c.toNat : Int) ≤ t.length) (hc : 0 < (c.toNat : Int)) (ht : 0 < t.length) (hd : (((t[0]'ht).toNat : Int) == 0) = false)
    (hM : (val (t.take c.toNat) : Int) ≤ 9007199254740991) :
    Calls Tryz.prog 89 #[.string ⟨(c :: t).toArray⟩] w (R3 w (.int .i64 (val (t.take c.toNat))) (.string ⟨(t.drop c.toNat).toArray⟩) (errV 33 0)) := by
  unfold maxLen at hb
  have HM := Lib.hid hM
  clear hM
  go_enter Tryz.func89, Tryz.ntmps89
  go_wp2
  go_quiet (fail)
  go_wp2
  go_loop [2, 6, 32] (fun n j i => ∃ k : Nat, (k : Int) ≤ c.toNat ∧ n = .int .i64 (val (t.take k)) ∧ i = .int .i64 k) (fun _ _ i => c.toNat - (intOf i).toNat)
  case atStart => exact ⟨0, by omega, rfl, rfl⟩
  case round =>
    obtain ⟨k, hk, rfl, rfl⟩ := hrel
    by_cases hlt : (k : Int) < c.toNat
    · have hkl : k < t.length := by omega
      have hkk : (k : Int) < t.length := by omega
      go_wp2
      go_round
      case rel => exact ⟨k + 1, by omega, by rw [val_take t k hkl]; exact congrArg _ (or_byte _ _ (val6 t k (by omega))), by go_num⟩
      case measure => simp [intOf]; omega
    · have hkc : k = c.toNat := by omega
      subst hkc
      have hM := HM.out
      go_wp2
      go_quiet (fail)
      go_wp2
      go_ret3
      refine R3.mk rfl ?_ rfl ?_
      · exact str_drop0 t c.toNat
      · exact belowN (belowN (Below.refl _ _) _) _

set_option maxHeartbeats 400000 in
theorem pRead_much (c : UInt8) (t : List UInt8) (w : World) (hb : t.length + 1 ≤ maxLen) (h : (c.toNat : Int) ≤ 7) (h1 : (c.toNat : Int) ≤ t.length) (hc : 0 < (c.toNat : Int)) (ht : 0 < t.length) (hd : (((t[0]'ht).toNat : Int) == 0) = false)
    (hM : 9007199254740991 < (val (t.take c.toNat) : Int)) :
    Calls Tryz.prog 89 #[.string ⟨(c :: t).toArray⟩] w (R3 w (.int .i64 0) (.string ⟨#[]⟩) (errV 33 3)) := by
  unfold maxLen at hb
  have HM := Lib.hid hM
  clear hM
  go_enter Tryz.func89, Tryz.ntmps89
  go_wp2
  go_quiet (fail)
  go_wp2
  go_loop [2, 6, 32] (fun n j i => ∃ k : Nat, (k : Int) ≤ c.toNat ∧ n = .int .i64 (val (t.take k)) ∧ i = .int .i64 k) (fun _ _ i => c.toNat - (intOf i).toNat)
  case atStart => exact ⟨0, by omega, rfl, rfl⟩
  case round =>
    obtain ⟨k, hk, rfl, rfl⟩ := hrel
    by_cases hlt : (k : Int) < c.toNat
    · have hkl : k < t.length := by omega
      have hkk : (k : Int) < t.length := by omega
      go_wp2
      go_round
      case rel => exact ⟨k + 1, by omega, by rw [val_take t k hkl]; exact congrArg _ (or_byte _ _ (val6 t k (by omega))), by go_num⟩
      case measure => simp [intOf]; omega
    · have hkc : k = c.toNat := by omega
      subst hkc
      have hM := HM.out
      go_wp2
      go_ret3
      exact R3.mk rfl rfl rfl (belowN (Below.refl _ _) _)

/-- The program reads a number as the chapter says. -/
theorem pRead (b : List UInt8) (w : World) (hb : b.length ≤ maxLen) :
    Calls Tryz.prog 89 #[.string ⟨b.toArray⟩] w (R3 w (.int .i64 (rdNum b).1) (.string ⟨(rdNum b).2.1.toArray⟩) (errV 33 (rdNum b).2.2)) := by
  cases b with
  | nil => exact pRead_nil w
  | cons c t =>
    simp only [List.length_cons] at hb
    rw [rdNum_cons]
    by_cases h7 : 7 < c.toNat
    · rw [if_pos h7]; exact pRead_big c t w hb (by omega)
    rw [if_neg h7]
    by_cases hs : t.length < c.toNat
    · rw [if_pos hs]; exact pRead_short c t w hb (by omega) (by omega)
    rw [if_neg hs]
    by_cases h0 : c.toNat = 0
    · obtain rfl : c = 0 := UInt8.toNat_inj.1 (by simpa using h0)
      rw [if_neg (by simp), if_neg (by simp [val])]
      exact pRead_0 t w hb
    · have ht : 0 < t.length := by omega
      have hh := head_beq t ht
      by_cases hz : t.head? = some 0
      · rw [if_pos ⟨by omega, hz⟩]
        exact pRead_lead c t w hb (by omega) (by omega) (by omega) ht (by rw [hh]; simpa using hz)
      · rw [if_neg (fun h => hz h.2)]
        have hd : (((t[0]'ht).toNat : Int) == 0) = false := by rw [hh]; simpa using hz
        by_cases hM : MaxN < val (t.take c.toNat)
        · rw [if_pos hM]
          exact pRead_much c t w hb (by omega) (by omega) (by omega) ht hd (by unfold MaxN at hM; omega)
        · rw [if_neg hM]
          exact pRead_go c t w hb (by omega) (by omega) (by omega) ht hd (by unfold MaxN at hM; omega)

end Go.Proofs.YtfbgagpihhbllaaGreatDoor

/- Package root: read. -/
namespace Go.Proofs.YtfbgagpihhbllaaGreatDoor
open Go.RowKit Go.Proofs Go.Proofs.Pk
set_option maxRecDepth 10000
attribute [local simp] mk_get wrap64_u8 mk_extract ByteArray.mk_append_mk get_1k

theorem ints_set (P : List Nat) (C : List Value) (k n : Nat) (hP : P.length = k) (hk : k < C.length) : (intsN P ++ C.drop k).set k (.int .i64 (n : Int)) = intsN (P ++ [n]) ++ C.drop (k + 1) := by
  have hl : (intsN P).length = k := by simp [intsN, hP]
  rw [List.set_append_right _ _ (by omega), hl, Nat.sub_self, List.drop_eq_getElem_cons hk, List.set_cons_zero]
  simp [intsN]

set_option maxHeartbeats 1000000 in
theorem pReadL (b : List UInt8) (K g cap : Nat) (C : List Value) (et : TypeId) (w : World) (h : Holds w g C et) (hC : C.length = K) (hb : b.length ≤ 4096) (hK : K ≤ 4) :
    Calls Tryz.prog 78 #[.string ⟨b.toArray⟩, .slice (some ⟨g, 0, none⟩) K cap] w fun e w' => e = .returned (.tuple #[.string ⟨(rdNums K b).2.1.toArray⟩, errV 33 (rdNums K b).2.2]) ∧ Kept (fun k => k = g) w w' ∧ ((rdNums K b).2.2 = 0 → Holds w' g (intsN (rdNums K b).1) et) := by
  obtain ⟨R, hR⟩ : ∃ R, Hid (R = rdNums K b) := ⟨_, rfl⟩
  rw [← hR.out]
  have H0 : Hid (R = addN [] (rdNums (K - 0) b)) := by show _ = _; rw [hR.out, Nat.sub_zero]; exact addN_nil K b
  have HW0 : Hid (Holds w g (intsN [] ++ C.drop 0) et) := h
  have HC := Lib.hid hC
  have hKi : (K : Int) ≤ 4 := by omega
  clear hR h hC
  go_enter Tryz.func78, Tryz.ntmps78
  go_wp2
  obtain ⟨wq, hwq⟩ : ∃ wq, wq = w := ⟨_, rfl⟩
  have HS : Hid (Kept (fun k => k = g) w wq) := by rw [hwq]; exact Kept.refl _ _
  rw [← hwq] at HW0 ⊢
  clear hwq
  go_loopw [0, 9] (fun s i wr => ∃ (j : Nat) (c : List UInt8) (P : List Nat), j ≤ K ∧ s = .string ⟨c.toArray⟩ ∧ i = .int .i64 j ∧ c.length ≤ 4096 ∧ P.length = j ∧ Hid (R = addN P (rdNums (K - j) c)) ∧ Hid (Holds wr g (intsN P ++ C.drop j) et) ∧ Hid (Kept (fun k => k = g) w wr)) (fun _ i _ => K - (intOf i).toNat)
  case atStart => exact ⟨0, b, [], Nat.zero_le _, rfl, rfl, hb, rfl, H0, HW0, HS⟩
  case round =>
    obtain ⟨j, c, P, hj, rfl, rfl, hc, hP, hr, hh, hkp⟩ := hrel
    by_cases hlt : (j : Int) < K
    · have hjK : j < K := by omega
      have hwj : IntKind.i64.wrap ((j : Int) + 1) = ((j + 1 : Nat) : Int) := by rw [IntWalk.i64_in _ (by omega)]; omega
      have HCC := Lib.hid (pRead c wr (by unfold maxLen; omega))
      have hr2 := hr.out
      rw [show K - j = (K - (j + 1)) + 1 from by omega] at hr2
      have hrest := rdNum_rest c
      have hj0 : (0 : Int) ≤ (j : Int) := Int.natCast_nonneg _
      have hjC : j < C.length := by have := HC.out; omega
      obtain ⟨n, hn⟩ : ∃ n, n = (rdNum c).1 := ⟨_, rfl⟩
      have HSET : Hid ((intsN P ++ C.drop j).set j (.int .i64 (n : Int)) = intsN (P ++ [n]) ++ C.drop (j + 1)) := ints_set P C j n hP hjC
      obtain ⟨zz, hzz⟩ : ∃ zz, C[j]'hjC = zz := ⟨_, rfl⟩
      have HZ : Hid ((intsN P ++ C.drop j)[j]? = some zz) := by
        show _ = _
        have hl : (intsN P).length = j := by simp [intsN, hP]
        rw [List.getElem?_append_right (by omega), hl, Nat.sub_self, List.drop_eq_getElem_cons hjC, hzz]; rfl
      by_cases hz : (rdNum c).2.2 = 0
      · rw [addN_step P _ c hz, ← hn] at hr2
        have HR := Lib.hid hr2
        rw [hz, ← hn] at HCC
        generalize (rdNum c).2.1 = r at *
        clear hr hr2 hz hn hjC hzz
        go_wp2_with fail
        refine HCC.out.mono ?_
        rintro e w2 ⟨rfl, hb2⟩
        have h2 : Holds w2 g _ _ := hh.out.of_block (hb2.block g hh.out.lt)
        have k2 := hkp.out.trans (Kept.of_below (fun _ => False) hb2) (fun _ hf => hf.elim)
        have c0 := h2.cell j zz HZ.out
        have f0 := h2.free j
        have H3 : Hid (Holds (w2.setCell ⟨g, j, none⟩ (.int .i64 (n : Int))) g (intsN (P ++ [n]) ++ C.drop (j + 1)) et) := by
          show Holds _ _ _ _
          rw [← HSET.out]; exact h2.set j _
        have K3 : Hid (Kept (fun k => k = g) w (w2.setCell ⟨g, j, none⟩ (.int .i64 (n : Int)))) := k2.setCell rfl _
        have hr4096 : r.length ≤ 4096 := by omega
        simp only [errV, if_pos]
        clear HCC hb2 h2 k2 hh hkp HSET HZ
        go_wp2
        go_roundw
        case rel => exact ⟨j + 1, r, P ++ [n], by omega, rfl, by go_num, hr4096, by simp; omega, HR, H3, K3⟩
        case measure => simp [intOf]; omega
      · rw [addN_err P _ c hz] at hr2
        have HR := Lib.hid hr2
        rw [← hn] at HCC
        have hzne : (rdNum c).2.2 ≠ 0 := hz
        generalize (rdNum c).2.2 = z at *
        generalize (rdNum c).2.1 = r at *
        clear hr hr2 hn hjC hzz
        go_wp2_with fail
        refine HCC.out.mono ?_
        rintro e w2 ⟨rfl, hb2⟩
        have h2 : Holds w2 g _ _ := hh.out.of_block (hb2.block g hh.out.lt)
        have k2 := hkp.out.trans (Kept.of_below (fun _ => False) hb2) (fun _ hf => hf.elim)
        have c0 := h2.cell j zz HZ.out
        have f0 := h2.free j
        have K3 : Hid (Kept (fun k => k = g) w (w2.setCell ⟨g, j, none⟩ (.int .i64 (n : Int)))) := k2.setCell rfl _
        have HZN : Hid (¬z = 0) := hzne
        rw [errV, if_neg hzne]
        clear HCC hb2 h2 k2 hh hkp HSET HZ hz hzne
        go_wp2
        go_ret2
        rw [HR.out]
        refine ⟨?_, K3.out, fun h => absurd h HZN.out⟩
        rw [errV, if_neg HZN.out]; rfl
    · have hjK : j = K := by omega
      subst hjK
      have HR : Hid (R = (P, c, 0)) := by
        show _ = _
        rw [hr.out, Nat.sub_self]; simp [rdNums, addN]
      have H3 : Hid (Holds wr g (intsN P) et) := by
        have := hh.out
        rw [List.drop_eq_nil_of_le (by have := HC.out; omega), List.append_nil] at this
        exact this
      clear hr hh
      go_wp2
      go_ret2
      rw [HR.out]
      exact ⟨rfl, hkp.out, fun _ => H3.out⟩

end Go.Proofs.YtfbgagpihhbllaaGreatDoor
