/- VolB, Pick7, VolK. -/
import Derived.Test.YtlgdfalbhpgllaaGreatDoorJ17
import Derived.Test.YtlgdfalbhpgllaaGreatDoorJ06
import Derived.Laws.ResultCell
import Derived.Test.YtlgdfalbhpgllaaGreatDoorPDk
import Derived.Test.YtlgdfalbhpgllaaGreatDoorJ13
import Derived.Test.YtlgdfalbhpgllaaGreatDoorJ16
import Derived.Test.YtlgdfalbhpgllaaGreatDoorJ12
import Derived.Deep.Cut
import Derived.BigQuiet

/- Package volume: fault, below, Dead, Root, Sync: the program's small calls. -/
namespace Go.Proofs.YtlgdfalbhpgllaaGreatDoor
open Go.RowKit Go.Proofs Go.Proofs.Pk
set_option maxRecDepth 10000
attribute [local simp] mk_get wrap64_u8 mk_extract ByteArray.mk_append_mk get_1k

theorem fault_holds {w : World} {b : Nat} {l c : Int} {inner : Value} {e : TypeId} (h : Holds w b [.int .i64 l, .int .i64 c, inner] e) : FaultAt w b l c inner := ⟨h.cell 0 _ rfl, h.cell 1 _ rfl, h.cell 2 _ rfl⟩

/-- An error's block is a new one. -/
def FreshV (w : World) (v : Value) : Prop := ∀ b, v = .iface 84 (.pointer (some ⟨b, 0, none⟩)) → w.heap.size ≤ b
set_option maxHeartbeats 400000 in
theorem faultPN (c : Nat) (hc : c ≠ 0) (w : World) : Calls Tryz.prog 23 #[.int .i64 (c : Int)] w fun e w' => ∃ v, e = .returned v ∧ ErF w' v c false ∧ FreshV w v ∧ Kept (fun _ => False) w w' := by
  have HN := Lib.hid (Holds.new w [.int .i64 7, .int .i64 (c : Int), .nilIface] 87)
  have HC := Lib.hid hc
  clear hc
  go_enter Tryz.func23, Tryz.ntmps23
  go_wp2
  go_ret
  exact ⟨_, rfl, .inr ⟨HC.out, _, HN.out.lt, rfl, fault_holds HN.out⟩, fun b hb => by injection hb with _ hb; injection hb with hb; injection hb with hb; injection hb with hb; omega, (Kept.refl _ w).alloc _⟩

set_option maxHeartbeats 400000 in
/-- An error of the layer's own. -/
theorem faultP (c : Nat) (hc : c ≠ 0) (w : World) : Calls Tryz.prog 23 #[.int .i64 (c : Int)] w fun e w' => ∃ v, e = .returned v ∧ ErF w' v c false ∧ Kept (fun _ => False) w w' := by
  have HN := Lib.hid (Holds.new w [.int .i64 7, .int .i64 (c : Int), .nilIface] 87)
  have HC := Lib.hid hc
  clear hc
  go_enter Tryz.func23, Tryz.ntmps23
  go_wp2
  go_ret
  exact ⟨_, rfl, .inr ⟨HC.out, _, HN.out.lt, rfl, fault_holds HN.out⟩, (Kept.refl _ w).alloc _⟩

theorem ErrTy.kept {w w' : World} {Y : Nat → Prop} (h : ErrTy w) (hk : Kept Y w w') (hY : ¬Y 0) : ErrTy w' := by
  have hlt : 0 < w.heap.size := by
    rcases Nat.lt_or_ge 0 w.heap.size with h' | h'
    · exact h'
    · unfold ErrTy at h; simp [World.cell?, Array.getElem?_eq_none h'] at h
  unfold ErrTy; rw [hk.cell (p := ⟨0, 0, none⟩) hlt hY]; exact h
theorem ErrTy.lt {w : World} (h : ErrTy w) : 0 < w.heap.size := by
  rcases Nat.lt_or_ge 0 w.heap.size with h' | h'
  · exact h'
  · unfold ErrTy at h; simp [World.cell?, Array.getElem?_eq_none h'] at h

/-- errors.As(the disk's number, the fault's). -/
theorem as_fault (c : Int) (b : Nat) (inner : Value) (w : World) (hg : ErrTy w) (h : Holds w b [.int .i64 7, .int .i64 0, inner] 87) :
    Calls Tryz.prog 40 #[.iface 57 (.int .i64 c), .iface 93 (.pointer (some ⟨b, 1, none⟩))] w fun e w' => e = .returned (.bool true) ∧ Holds w' b [.int .i64 7, .int .i64 c, inner] 87 ∧ Kept (fun k => k = b) w w' := by
  refine (as_num c ⟨b, 1, none⟩ _ w hg (h.cell 1 _ rfl) (h.free 1)).mono ?_
  rintro e w' ⟨rfl, rfl⟩
  refine ⟨rfl, ?_, ?_⟩
  · exact ((((h.alloc _).alloc _).alloc _).alloc _).set 1 (.int .i64 c)
  · exact Kept.setCell (X := fun k => k = b) (p := ⟨b, 1, none⟩) (((((Kept.refl _ w).alloc _).alloc _).alloc _).alloc _) rfl _

def downV (V : Vol) (c : Nat) : Vol := if c = 6 then ⟨V.D, rootZ, true⟩ else V
def downF (vF : Value) (c : Nat) : Value := if c = 6 then .slice none 0 0 else vF

set_option maxHeartbeats 1000000 in
/-- An error of the disk's becomes one of the volume's; behind a power cut it is dead. -/
theorem belowP (w : World) (B p pd : Nat) (V : Vol) (vF : Value) (X : Nat → Prop) (h : VlP w B p pd V vF X) (hg : ErrTy w) (hB : 0 < B) (c : Nat) :
    Calls Tryz.prog 24 #[.pointer (some ⟨p, 0, none⟩), erV c] w fun e w' => ∃ v, e = .returned v ∧ ErF w' v c true ∧ VlP w' B p pd (downV V c) (downF vF c) X ∧ Kept X w w' := by
  by_cases hc : c = 0
  · subst hc
    have H := Lib.hid h
    rw [show erV 0 = .nilIface from rfl]
    clear h hg
    go_enter Tryz.func24, Tryz.ntmps24
    go_wp2
    go_ret
    exact ⟨_, rfl, ErF.none _ _, H.out, Kept.refl _ _⟩
  rw [show erV c = .iface 57 (.int .i64 (c : Int)) from by unfold erV; rw [if_neg hc]]
  have HN := Holds.new w [.int .i64 7, .int .i64 0, .iface 57 (.int .i64 (c : Int))] 87
  have hk1 : Kept X w (w.alloc (.cells #[.int .i64 7, .int .i64 0, .iface 57 (.int .i64 (c : Int))] 87)) := (Kept.refl _ _).alloc _
  have hlt := h.lt
  have hXg : ∀ k, X k → k ≠ 0 := fun k hk e => by have := (hlt k (.inl hk)).1; omega
  have hg1 := hg.kept hk1 (fun hx => hXg _ hx rfl)
  have hv1 := h.still (w' := w.alloc (.cells #[.int .i64 7, .int .i64 0, .iface 57 (.int .i64 (c : Int))] 87)) ((Kept.refl _ _).alloc _)
  obtain ⟨b, hb⟩ : ∃ b, Hid (b = w.heap.size) := ⟨_, rfl⟩
  change Holds (w.alloc (.cells #[.int .i64 7, .int .i64 0, .iface 57 (.int .i64 (c : Int))] 87)) _ _ _ at HN
  go_enter Tryz.func24, Tryz.ntmps24
  go_wp2_with fail
  rw [← hb.out] at HN ⊢
  generalize w.alloc (.cells #[.int .i64 7, .int .i64 0, .iface 57 (.int .i64 (c : Int))] 87) = w1 at HN hk1 hg1 hv1 ⊢
  refine (as_fault c b _ w1 hg1 HN).mono ?_
  rintro e w2 ⟨rfl, HN2, hk2⟩
  have hv2 := hv1.kept hk2 (fun k hk e => by have := (hlt k hk).2; have := hb.out; omega)
  have hk12 : Kept X w w2 := hk1.trans hk2 (fun n e => .inr (by have := hb.out; omega))
  have HE : Hid (FaultAt w2 b 7 c (.iface 57 (.int .i64 (c : Int))) ∧ b < w2.heap.size) := ⟨fault_holds HN2, HN2.lt⟩
  have d1 := HN2.cell 1 _ rfl
  have HV := Lib.hid hv2
  have HK := Lib.hid hk12
  have HC := Lib.hid hc
  have ho := hv2.obj
  have c0 := ho.cell 0 _ rfl
  have c1 := ho.cell 1 _ rfl
  have c2 := ho.cell 2 _ rfl
  have c3 := ho.cell 3 _ rfl
  have c4 := ho.cell 4 _ rfl
  have c5 := ho.cell 5 _ rfl
  have f1 := ho.free 1
  have f2 := ho.free 2
  have f3 := ho.free 3
  have f4 := ho.free 4
  have f5 := ho.free 5
  have HO := Lib.hid ho
  have hbp : Hid (b ≠ p) := fun e => by have := (hlt p (.inl h.mine)).2; have := hb.out; omega
  clear HN hk1 hg1 hv1 hk2 hv2 hk12 HN2 ho hc hXg hlt h hg
  by_cases h6 : c = 6
  · subst h6
    go_wp2
    go_ret
    have HM := HV.out.mine
    have ho2 := HO.out.set 5 (.bool true)
    have ho3 := obj_rooted (R' := rootZ) (vF' := .slice none 0 0) (R := V.R) (vF := vF) (g := true) ho2
    refine ⟨_, rfl, .inr ⟨by decide, b, ?_, rfl, ?_⟩, ?_, ?_⟩
    · show b < _; simp [World.setCell]; exact HE.out.2
    · have := HE.out.1
      refine ⟨?_, ?_, ?_⟩
      · exact (World.cell?_of_block (a := ⟨b, 0, none⟩) ((heap_rooted b hbp.out).trans (Below.heap_setCell _ _ _ _ hbp.out))).trans this.1
      · exact (World.cell?_of_block (a := ⟨b, 1, none⟩) ((heap_rooted b hbp.out).trans (Below.heap_setCell _ _ _ _ hbp.out))).trans this.2.1
      · exact (World.cell?_of_block (a := ⟨b, 2, none⟩) ((heap_rooted b hbp.out).trans (Below.heap_setCell _ _ _ _ hbp.out))).trans this.2.2
    · exact HV.out.reroot rootZ true (World.ownsRow_nil _ _ _ _) (fun b hb => by simp [Value.ownBlock] at hb) (.inr rfl) _ (fun k hk => (heap_rooted k hk).trans (Below.heap_setCell _ _ _ _ hk)) ho3
    · exact ((((HK.out.setCell (p := ⟨p, 5, none⟩) HM _).setCell (p := ⟨p, 1, none⟩) HM _).setCell (p := ⟨p, 2, none⟩) HM _).setCell (p := ⟨p, 3, none⟩) HM _).setCell (p := ⟨p, 4, none⟩) HM _
  · have h6' : ((c : Int) == 6) = false := by simp; omega
    have hdv : Hid (downV V c = V ∧ downF vF c = vF) := by unfold downV downF Hid; rw [if_neg h6, if_neg h6]; exact ⟨rfl, rfl⟩
    clear h6
    go_wp2
    go_ret
    rw [hdv.out.1, hdv.out.2]
    exact ⟨_, rfl, .inr ⟨HC.out, b, HE.out.2, rfl, HE.out.1⟩, HV.out, HK.out⟩

set_option maxHeartbeats 400000 in
theorem deadP (w : World) (B p pd : Nat) (V : Vol) (vF : Value) (X : Nat → Prop) (h : VlP w B p pd V vF X) :
    Calls Tryz.prog 13 #[.pointer (some ⟨p, 0, none⟩)] w fun e w' => e = .returned (.bool V.gone) ∧ w' = w := by
  have c5 := h.obj.cell 5 _ rfl
  clear h
  go_enter Tryz.func13, Tryz.ntmps13
  go_wp2
  go_ret
  exact ⟨rfl, rfl⟩

theorem cloneFiles (B : Nat) (v : Value) (n : Nat) (fs : List FileN) (w : World) (h : w.ownsRow B 49 3 v n (cellsF fs)) (hn : n ≤ 1000000) :
    Calls Tryz.prog 29 #[v] w fun e w' => ∃ v', e = .returned v' ∧ w'.ownsRow w.heap.size 49 3 v' n (cellsF fs) ∧ Below w.heap.size w w' := by
  obtain ⟨iF, hiF, hzF, hsF, hbF⟩ := info_parts file_info
  rcases h.2 with ⟨rfl, rfl⟩ | ⟨g, cap, cur, rfl, h1, h2, h3, h4, h5, h6⟩
  · refine Calls.mono (AnyE.slices_Clone_nil Tryz.cloneFile 0 0 w) ?_
    rintro e w' ⟨rfl, rfl⟩
    have : cellsF fs = [] := List.length_eq_zero_iff.1 (by have := h.1; omega)
    rw [this]
    exact ⟨_, rfl, World.ownsRow_nil _ _ _ _, Below.refl _ _⟩
  · refine Calls.mono (AnyE.slices_Clone Tryz.cloneFile iF _ 3 24 hiF hzF hsF hbF rfl (by omega) Tryz.sizeOf49 g 0 n cap (cellsF fs) w h.1 (by unfold maxLen; omega) (by omega) ?_ ?_) ?_
    · intro j u hj
      have hjl : j < n * 3 := by rw [← h.1]; exact (List.getElem?_eq_some_iff.1 hj).1
      rw [Nat.zero_add, h.cellAt j hjl]; exact hj
    · intro u hu
      obtain ⟨x, _, hx⟩ := List.mem_flatMap.1 hu
      simp only [fileV, List.mem_cons, List.not_mem_nil, or_false] at hx
      rcases hx with rfl | rfl | rfl <;> rfl
    · rintro e w' ⟨v', rfl, ho, _, hb⟩
      exact ⟨v', rfl, ho, hb⟩

theorem results_cell_one {fn : Func} {p : Tmp} {ty : TypeId} (h : fn.results = #[.cell p ty]) (tmps : Array Value) (P : Program) (w : World) :
    (results fn tmps).run P w = ((asAddr (tmps.getD p undef)).run P w).andThen fun a w₁ => (loadVar ty a).run P w₁ := by
  simp only [results, h]
  simp [Sem.run_bind, Result.andThen]

set_option maxHeartbeats 1000000 in
/-- Root: the root, in a row of the caller's own. -/
theorem rootP (w : World) (B p pd : Nat) (V : Vol) (vF : Value) (X : Nat → Prop) (h : VlP w B p pd V vF X) :
    Calls Tryz.prog 12 #[.pointer (some ⟨p, 0, none⟩)] w fun e w' => Kept (fun _ => False) w w' ∧
      ∃ vR, e = .returned (.agg #[.int .i64 (V.R.1 : Int), .int .i64 (V.R.2.1 : Int), .int .i64 (V.R.2.2.1 : Int), vR]) ∧ w'.ownsRow w.heap.size 49 3 vR V.R.2.2.2.length (cellsF V.R.2.2.2) := by
  obtain ⟨ad, cap, rfl, _⟩ := h.files
  have ho := h.obj
  have hn := h.few.1
  have hfil := h.fil
  have hlt := h.lt
  clear h
  obtain ⟨D, ⟨s, n, c, fs⟩, gone⟩ := V
  simp only at hn hfil ho hlt ⊢
  obtain ⟨nf, hnf⟩ : ∃ nf, nf = fs.length := ⟨_, rfl⟩
  rw [← hnf] at hn hfil ho ⊢
  simp only [← hnf] at hlt
  clear hnf
  have HA := (Holds.new w [.int .i64 0, .int .i64 0, .int .i64 0, .slice none 0 0] 40).alloc (.cells #[.int .i64 (s : Int), .int .i64 (n : Int), .int .i64 (c : Int), .slice ad nf cap] 40)
  have s1 : (w.alloc (.cells #[.int .i64 0, .int .i64 0, .int .i64 0, .slice none 0 0] 40)).heap.size = w.heap.size + 1 := by simp
  have HB := Holds.new (w.alloc (.cells #[.int .i64 0, .int .i64 0, .int .i64 0, .slice none 0 0] 40)) [.int .i64 (s : Int), .int .i64 (n : Int), .int .i64 (c : Int), .slice ad nf cap] 40
  rw [s1] at HB
  have k2 : Kept (fun _ => False) w ((w.alloc (.cells #[.int .i64 0, .int .i64 0, .int .i64 0, .slice none 0 0] 40)).alloc (.cells #[.int .i64 (s : Int), .int .i64 (n : Int), .int .i64 (c : Int), .slice ad nf cap] 40)) := ((Kept.refl _ w).alloc _).alloc _
  change Holds ((w.alloc (.cells #[.int .i64 0, .int .i64 0, .int .i64 0, .slice none 0 0] 40)).alloc (.cells #[.int .i64 (s : Int), .int .i64 (n : Int), .int .i64 (c : Int), .slice ad nf cap] 40)) _ _ _ at HA
  change Holds ((w.alloc (.cells #[.int .i64 0, .int .i64 0, .int .i64 0, .slice none 0 0] 40)).alloc (.cells #[.int .i64 (s : Int), .int .i64 (n : Int), .int .i64 (c : Int), .slice ad nf cap] 40)) _ _ _ at HB
  have c1 := ho.cell 1 _ rfl
  have c2 := ho.cell 2 _ rfl
  have c3 := ho.cell 3 _ rfl
  have c4 := ho.cell 4 _ rfl
  go_enter Tryz.func12, Tryz.ntmps12
  have hpl := ho.lt
  go_upto_region 2 with (fail)
  obtain ⟨q1, hq1⟩ : ∃ q1, Hid (q1 = w.heap.size) := ⟨_, rfl⟩
  obtain ⟨q2, hq2⟩ : ∃ q2, Hid (q2 = w.heap.size + 1) := ⟨_, rfl⟩
  rw [← hq2.out] at HB ⊢
  rw [← hq1.out] at HA ⊢
  generalize (w.alloc (.cells #[.int .i64 0, .int .i64 0, .int .i64 0, .slice none 0 0] 40)).alloc (.cells #[.int .i64 (s : Int), .int .i64 (n : Int), .int .i64 (c : Int), .slice ad nf cap] 40) = w2 at HA HB k2 ⊢
  have own2 := owns_of_block hfil fun g hg => k2.block g (hlt g (.inr hg)).2 (fun hf => hf)
  have HC := Lib.hid (cloneFiles B (.slice ad nf cap) nf fs w2 own2 (by omega))
  have b0 := HB.cell 0 _ rfl
  have b1 := HB.cell 1 _ rfl
  have b2 := HB.cell 2 _ rfl
  have b3 := HB.cell 3 _ rfl
  have H2 := Lib.hid (And.intro HA (And.intro HB k2))
  clear HA HB k2 own2 hfil ho c1 c2 c3 c4 s1 hlt
  go_wp2_with fail
  refine HC.out.mono ?_
  rintro e w3 ⟨vR, rfl, ho3, hb3⟩
  obtain ⟨ad3, cap3, rfl⟩ : ∃ ad3 cap3, vR = .slice ad3 nf cap3 := by
    rcases ho3.2 with ⟨rfl, h0⟩ | ⟨g, c', cur, rfl, _⟩
    · exact ⟨none, 0, by rw [h0]⟩
    · exact ⟨_, c', rfl⟩
  have HB3 := H2.out.2.1.of_block (hb3.block q2 H2.out.2.1.lt)
  have HA3 := H2.out.1.of_block (hb3.block q1 H2.out.1.lt)
  have b0 := HB3.cell 0 _ rfl
  have b1 := HB3.cell 1 _ rfl
  have b2 := HB3.cell 2 _ rfl
  have b3 := HB3.cell 3 _ rfl
  have g3 := HB3.free 3
  have hne : q1 ≠ q2 := by have := hq1.out; have := hq2.out; omega
  have hHB4 := HB3.set 3 (.slice ad3 nf cap3)
  have hHA4 := HA3.ne hne 3 (.slice ad3 nf cap3)
  have hk4 : Kept (fun _ => False) w (w3.setCell ⟨q2, 3, none⟩ (.slice ad3 nf cap3)) := by
    have := H2.out.2.2.trans (Kept.of_below (fun _ => False) hb3) (fun _ hf => hf.elim)
    exact this.setNew (p := ⟨q2, 3, none⟩) (by have := hq2.out; show w.heap.size ≤ q2; omega) _
  have hq2s : q2 < w2.heap.size := H2.out.2.1.lt
  have hsz : w.heap.size ≤ w2.heap.size := H2.out.2.2.size
  have ho4 : (w3.setCell ⟨q2, 3, none⟩ (.slice ad3 nf cap3)).ownsRow w.heap.size 49 3 (.slice ad3 nf cap3) nf (cellsF fs) := by
    refine owns_base (owns_setCell ho3 (fun hx => ?_)) hsz
    have := (ho3.lt q2 hx).1
    omega
  have hown : Hid ((Value.slice ad3 nf cap3).ownBlock ≠ some q1) := fun hx => by
    have h1 := (ho3.lt q1 hx).1
    have h2 := H2.out.1.lt
    omega
  clear HB3 HA3 ho3 hb3 hsz hq2s
  go_upto_region 3 with (fail)
  clear b0 b1 b2 b3 g3
  generalize w3.setCell ⟨q2, 3, none⟩ (.slice ad3 nf cap3) = w4 at hHB4 hHA4 hk4 ho4 ⊢
  have b0 := hHB4.cell 0 _ rfl
  have b1 := hHB4.cell 1 _ rfl
  have b2 := hHB4.cell 2 _ rfl
  have b3 := hHB4.cell 3 _ rfl
  have a0 := hHA4.cell 0 _ rfl
  have a1 := hHA4.cell 1 _ rfl
  have a2 := hHA4.cell 2 _ rfl
  have a3 := hHA4.cell 3 _ rfl
  have f0 := hHA4.free 0
  have f1 := hHA4.free 1
  have f2 := hHA4.free 2
  have f3 := hHA4.free 3
  have HX3 := Lib.hid (root_stored (a' := .int .i64 (s : Int)) (b' := .int .i64 (n : Int)) (c' := .int .i64 (c : Int)) (d' := .slice ad3 nf cap3) hHA4)
  have HK5 : Hid (Kept (fun _ => False) w ((((w4.setCell ⟨q1, 0, none⟩ (.int .i64 (s : Int))).setCell ⟨q1, 1, none⟩ (.int .i64 (n : Int))).setCell ⟨q1, 2, none⟩ (.int .i64 (c : Int))).setCell ⟨q1, 3, none⟩ (.slice ad3 nf cap3))) := by
    have hq : w.heap.size ≤ q1 := by have := hq1.out; omega
    exact (((hk4.setNew (p := ⟨q1, 0, none⟩) hq _).setNew (p := ⟨q1, 1, none⟩) hq _).setNew (p := ⟨q1, 2, none⟩) hq _).setNew (p := ⟨q1, 3, none⟩) hq _
  have HO5 : Hid ((((((w4.setCell ⟨q1, 0, none⟩ (.int .i64 (s : Int))).setCell ⟨q1, 1, none⟩ (.int .i64 (n : Int))).setCell ⟨q1, 2, none⟩ (.int .i64 (c : Int))).setCell ⟨q1, 3, none⟩ (.slice ad3 nf cap3))).ownsRow w.heap.size 49 3 (.slice ad3 nf cap3) nf (cellsF fs)) :=
    owns_setCell (owns_setCell (owns_setCell (owns_setCell ho4 hown.out) hown.out) hown.out) hown.out
  clear hHB4 hHA4 hk4 ho4
  go_wp2
  refine bodyPost_ret (v := .agg #[.int .i64 (s : Int), .int .i64 (n : Int), .int .i64 (c : Int), .slice ad3 nf cap3]) ?_ rfl ?_
  · have e0 := HX3.out.cell 0 _ rfl
    have e1 := HX3.out.cell 1 _ rfl
    have e2 := HX3.out.cell 2 _ rfl
    have e3 := HX3.out.cell 3 _ rfl
    rw [results_cell_one rfl]; go_simp
  · exact ⟨HK5.out, _, rfl, HO5.out⟩

/-- What a call leaves: a volume of the blocks that were or of new ones. -/
def VlLeft (w : World) (B p pd : Nat) (V' : Vol) (vF : Value) (X : Nat → Prop) (w' : World) : Prop :=
  ∃ X' vF', VlP w' B p pd V' vF' X' ∧ Grows w X X' ∧ (∀ b, vF'.ownBlock = some b → vF.ownBlock = some b ∨ w.heap.size ≤ b) ∧ Kept X w w'
theorem downV_zero (V : Vol) : downV V 0 = V := rfl
theorem downF_sub {vF : Value} {c b : Nat} (h : (downF vF c).ownBlock = some b) : vF.ownBlock = some b := by
  unfold downF at h
  split at h
  · simp [Value.ownBlock] at h
  · exact h

set_option maxHeartbeats 1000000 in
/-- Sync of a living volume. -/
theorem syncP (w : World) (B p pd : Nat) (V : Vol) (vF : Value) (X : Nat → Prop) (h : VlP w B p pd V vF X) (hg : ErrTy w) (hB : 0 < B) (hl : V.gone = false) :
    Calls Tryz.prog 26 #[.pointer (some ⟨p, 0, none⟩)] w fun e w' => ∃ v, e = .returned v ∧ ErF w' v V.D.sync.2 true ∧ VlLeft w B p pd (downV ⟨V.D.sync.1, V.R, V.gone⟩ V.D.sync.2) vF X w' := by
  obtain ⟨Xd, hA, hX⟩ := h
  have c0 := hA.obj.cell 0 _ rfl
  have c5 := hA.obj.cell 5 _ rfl
  rw [hl] at c5
  have HS := Lib.hid (pSy w B pd V.D Xd hA.dsk hA.ok)
  have HA := Lib.hid hA
  have HX := Lib.hid hX
  have hlt := (show VlP w B p pd V vF X from ⟨Xd, hA, hX⟩).lt
  have HG := Lib.hid hg
  have HL := Lib.hid hlt
  have HL0 := Lib.hid hl
  clear hA hX hg hlt hl
  go_enter Tryz.func26, Tryz.ntmps26
  go_wp2_with fail
  refine HS.out.mono ?_
  rintro e w1 ⟨rfl, Xd', hd, hgr, hk⟩
  obtain ⟨hv, hgX, hkX⟩ := VlP.disk HA.out HX.out hd hgr hk (Dsk.sync_ok HA.out.ok) (by
    unfold Dsk.sync
    split
    · rfl
    · simp only; rw [syncL_length])
  have HE := HG.out.kept hkX (fun hx => by have := (HL.out _ (.inl hx)).1; omega)
  have HW := Lib.hid (belowP w1 B p pd _ vF _ hv HE hB V.D.sync.2)
  have HK := Lib.hid (And.intro hgX hkX)
  clear hd hgr hk hv hgX hkX HE
  go_wp2_with fail
  refine HW.out.mono ?_
  rintro e w2 ⟨v, rfl, he, hv2, hk2⟩
  go_wp2
  go_ret
  refine ⟨_, rfl, he, _, _, hv2, HK.out.1, fun b hb => .inl (downF_sub hb), HK.out.2.trans hk2 HK.out.1⟩

end Go.Proofs.YtlgdfalbhpgllaaGreatDoor

/- The law's own pick (layer 7). -/
namespace Go.Proofs.YtlgdfalbhpgllaaGreatDoor
open Go.RowKit Go.Proofs Go.Proofs.Pk
set_option maxRecDepth 10000
attribute [local simp] mk_get wrap64_u8 mk_extract ByteArray.mk_append_mk get_1k

set_option maxHeartbeats 400000 in
theorem pick_any (c : Int) (n : Nat) (w : World) (hc : -9223372036854775808 ≤ c ∧ c ≤ 9223372036854775807) (h0 : 0 < n) (h1 : n ≤ 5000) :
    Calls Tryz.prog 11 #[.int .i64 c, .int .i64 (n : Int)] w fun e w' => e = .returned (.int .i64 (pickN c n : Int)) ∧ w = w' := by
  have hn0 : ¬n = 0 := by omega
  by_cases hneg : c < 0
  · obtain ⟨m, hm⟩ : ∃ m : Nat, m = (-(c + 1)).toNat := ⟨_, rfl⟩
    have hm' : -(c + 1) = (m : Int) := by omega
    have hp : pickN c n = m % n := by unfold pickN; rw [if_pos hneg, ← hm]
    have hw1 : IntKind.i64.wrap (c + 1) = c + 1 := IntWalk.i64_in _ (by omega)
    have hw2 : IntKind.i64.wrap (m : Int) = (m : Int) := IntWalk.i64_in _ (by omega)
    have ht : (m : Int).tmod (n : Int) = ((m % n : Nat) : Int) := by rw [Int.tmod_eq_emod_of_nonneg (by omega)]; rfl
    have hlt := Nat.mod_lt m h0
    have hw3 : IntKind.i64.wrap ((m % n : Nat) : Int) = ((m % n : Nat) : Int) := IntWalk.i64_in _ (by omega)
    rw [hp]
    obtain ⟨r, hr⟩ : ∃ r, r = m % n := ⟨_, rfl⟩
    rw [← hr] at ht hw3 ⊢
    clear hlt hp hr hm hc h0 h1
    go_enter Tryz.func11, Tryz.ntmps11
    go_wp2
    go_ret
    exact ⟨rfl, rfl⟩
  · obtain ⟨m, rfl⟩ := Int.eq_ofNat_of_zero_le (show 0 ≤ c by omega)
    have hp : pickN (m : Int) n = m % n := by unfold pickN; rw [if_neg hneg]; simp
    have ht : (m : Int).tmod (n : Int) = ((m % n : Nat) : Int) := by rw [Int.tmod_eq_emod_of_nonneg (by omega)]; rfl
    have hlt := Nat.mod_lt m h0
    have hw3 : IntKind.i64.wrap ((m % n : Nat) : Int) = ((m % n : Nat) : Int) := IntWalk.i64_in _ (by omega)
    have hd : decide ((m : Int) < 0) = false := by rw [decide_eq_false_iff_not]; omega
    rw [hp]
    obtain ⟨r, hr⟩ : ∃ r, r = m % n := ⟨_, rfl⟩
    rw [← hr] at ht hw3 ⊢
    clear hlt hp hr hc h0 h1 hneg
    go_enter Tryz.func11, Tryz.ntmps11
    go_wp2
    go_ret
    exact ⟨rfl, rfl⟩

end Go.Proofs.YtlgdfalbhpgllaaGreatDoor

/- What the laws of layer 7 want of the program's volume (a contract, whatever its fields are), and a deed walked over it. -/
namespace Go.Proofs.YtlgdfalbhpgllaaGreatDoor
open Go.RowKit Go.Proofs Go.Proofs.Pk
set_option maxRecDepth 10000
attribute [local simp] mk_get wrap64_u8 mk_extract ByteArray.mk_append_mk get_1k

/-- The volume V at the block p, whose blocks lie from B on: X are those that a call may write; F is the block of its root's files, if there is one (never written). -/
abbrev VolAt := World → Nat → Nat → Vol → (Nat → Prop) → Option Nat → Prop
/-- What a call leaves behind: a volume, of the blocks that were or of new ones; all others as they were. -/
def Left (At : VolAt) (w : World) (B p : Nat) (V' : Vol) (X : Nat → Prop) (F : Option Nat) (w' : World) : Prop :=
  ∃ X' F', At w' B p V' X' F' ∧ Grows w X X' ∧ (∀ b, F' = some b → F = some b ∨ w.heap.size ≤ b) ∧ Kept X w w'
/-- A disk that has not been written too often; a living volume's root is right. -/
def Small (V : Vol) : Prop := V.D.n ≤ 900000 ∧ V.D.C.length ≤ 900000 ∧ (V.gone = false → rightN V.D.L.length V.R = true)
structure VolK (At : VolAt) : Prop where
  lt : ∀ {w B p V X F}, At w B p V X F → ∀ k, X k ∨ F = some k → B ≤ k ∧ k < w.heap.size
  off : ∀ {w B p V X F}, At w B p V X F → ∀ k, F = some k → ¬X k
  kept : ∀ {w w' B p V X F} {Y : Nat → Prop}, At w B p V X F → Kept Y w w' → (∀ k, X k ∨ F = some k → ¬Y k) → At w' B p V X F
  wide : ∀ {w B p V X F}, At w B p V X F → ∀ f ∈ V.R.2.2.2, f.2.2 ≤ 4000
  few : ∀ {w B p V X F}, At w B p V X F → V.R.2.2.2.length ≤ 24
  root : ∀ {w B p V X F}, At w B p V X F → Calls Tryz.prog 12 #[.pointer (some ⟨p, 0, none⟩)] w fun e w' =>
    Kept (fun _ => False) w w' ∧ ∃ ad cap, e = .returned (.agg #[.int .i64 V.R.1, .int .i64 V.R.2.1, .int .i64 V.R.2.2.1, .slice ad V.R.2.2.2.length cap]) ∧ Files w' ad V.R.2.2.2.length (V.R.2.2.2.map fileI) ∧ (∀ a, ad = some a → w.heap.size ≤ a.block)
  make : ∀ {w B p V X F}, At w B p V X F → Small V → ErrTy w → ∀ m : Nat, 1 ≤ m → m ≤ 4000 → Calls Tryz.prog 17 #[.pointer (some ⟨p, 0, none⟩), .int .i64 (m : Int)] w fun e w' =>
    (∃ v, e = .returned (.tuple #[.int .i64 ((makeV V (m : Int)).2.1 : Nat), v])) ∧ Left At w B p (makeV V (m : Int)).1 X F w'
  drop : ∀ {w B p V X F}, At w B p V X F → Small V → ErrTy w → ∀ (b : Nat) (id : Nat), Holds w b [.int .i64 (id : Int)] 3 → ¬X b → F ≠ some b → Calls Tryz.prog 21 #[.pointer (some ⟨p, 0, none⟩), .slice (some ⟨b, 0, none⟩) 1 1] w fun e w' =>
    (∃ v, e = .returned v) ∧ Left At w B p (dropV V [(id : Int)]).1 X F w'
  point : ∀ {w B p V X F}, At w B p V X F → Small V → ErrTy w → ∀ id : Nat, Calls Tryz.prog 28 #[.pointer (some ⟨p, 0, none⟩), .int .i64 (id : Int)] w fun e w' =>
    (∃ v, e = .returned v) ∧ Left At w B p (pointV V (id : Int)).1 X F w'
  write : ∀ {w B p V X F}, At w B p V X F → Small V → ErrTy w → ∀ (id k : Nat) (s : List UInt8), k ≤ 5000 → s.length ≤ 64 → Calls Tryz.prog 18 #[.pointer (some ⟨p, 0, none⟩), .int .i64 (id : Int), .int .i64 (k : Int), .string ⟨s.toArray⟩] w fun e w' =>
    (∃ v, e = .returned v) ∧ Left At w B p (writeV V (id : Int) (k : Int) s).1 X F w'

/-- First others (nothing of ours), then a call. -/
theorem Left.behind {At : VolAt} {w w1 w' : World} {B p : Nat} {V' : Vol} {X : Nat → Prop} {F : Option Nat} (hk : Kept (fun _ => False) w w1) (h : Left At w1 B p V' X F w') : Left At w B p V' X F w' := by
  obtain ⟨X', F', ha, hg, hf, hk'⟩ := h
  refine ⟨X', F', ha, fun n hn => (hg n hn).elim .inl (fun h => .inr (Nat.le_trans hk.size h)), fun b hb => (hf b hb).elim .inl (fun h => .inr (Nat.le_trans hk.size h)), ?_⟩
  exact (hk.mono (fun _ hf => hf.elim)).trans hk' (fun n hn => .inl hn)
theorem Left.none {At : VolAt} {w w' : World} {B p : Nat} {V : Vol} {X : Nat → Prop} {F : Option Nat} (K : VolK At) (h : At w B p V X F) (hk : Kept (fun _ => False) w w') : Left At w B p V X F w' :=
  ⟨X, F, K.kept h hk (fun _ _ hf => hf), Grows.refl _ _, fun _ hb => .inl hb, hk.mono (fun _ hf => hf.elim)⟩

set_option maxHeartbeats 1000000 in
theorem act_make {At : VolAt} (K : VolK At) {w : World} {B p : Nat} {V : Vol} {X : Nat → Prop} {F : Option Nat} (h : At w B p V X F) (hs : Small V) (hg : ErrTy w) (u : DeedW) (hf : FitI u.kind) (hfa : FitI u.a) (hX : B > 0) (h0 : pickN u.kind 4 = 0) :
    Calls Tryz.prog 9 #[.pointer (some ⟨p, 0, none⟩), .agg (dcW u).toArray] w fun e w' => (∃ v, e = .returned v) ∧ Left At w B p (actV V u) X F w' := by
  have eV : actV V u = (makeV V (1 + (pickN u.a 9 : Nat))).1 := by unfold actV; rw [if_pos h0]
  rw [eV]
  obtain ⟨kind, a, b, s, kad, klen, kcap, ks⟩ := u
  simp only at h0 hf hfa eV ⊢
  have hlt := pickN_lt a (n := 9) (by decide)
  obtain ⟨j, hj⟩ : ∃ j, j = pickN a 9 := ⟨_, rfl⟩
  obtain ⟨f, hP, f4, f9⟩ : ∃ f : Int → Int, (∀ (c n : Int) (w0 : World), (c = kind ∧ n = 4 ∨ c = a ∧ n = 9) → Calls Tryz.prog 11 #[.int .i64 c, .int .i64 n] w0 fun e w' => e = .returned (.int .i64 (f n)) ∧ w0 = w') ∧ f 4 = 0 ∧ f 9 = (j : Int) := by
    refine ⟨fun n => if n = 4 then 0 else j, ?_, by simp, by simp⟩
    rintro c n w0 (⟨rfl, rfl⟩ | ⟨rfl, rfl⟩)
    · have := pick_any c 4 w0 hf (by decide) (by decide); rw [h0] at this; exact this
    · have := pick_any c 9 w0 hfa (by decide) (by decide); rw [← hj] at this; exact this
  have P1 := Lib.hid hP
  clear hP
  rw [← hj] at hlt ⊢
  have e1 : (1 : Int) + (j : Nat) = ((1 + j : Nat) : Int) := by omega
  rw [e1]
  obtain ⟨w1, hw1⟩ : ∃ w1, w1 = w.alloc (.cells (dcW ⟨kind, a, b, s, kad, klen, kcap, ks⟩).toArray 35) := ⟨_, rfl⟩
  have hk1 : Kept (fun _ => False) w w1 := by rw [hw1]; exact (Kept.refl _ _).alloc _
  have h1 := K.kept h hk1 (fun _ _ hf => hf)
  have HM := Lib.hid (K.make h1 hs (hg.kept hk1 (fun hf => hf)) (1 + j) (by omega) (by omega))
  have HK := Lib.hid hk1
  have HW := Lib.hid hw1
  have hwj : IntKind.i64.wrap ((1 : Int) + (j : Int)) = ((1 + j : Nat) : Int) := by rw [IntWalk.i64_in _ (by omega)]; omega
  have hd0 : (dcW ⟨kind, a, b, s, kad, klen, kcap, ks⟩).toArray = #[.int .i64 kind, .int .i64 a, .int .i64 b, .string ⟨s.toArray⟩, .slice kad klen kcap] := rfl
  rw [hd0] at HW ⊢
  clear h0 hf hfa eV hj e1 hk1 h1 h hs hg hX hw1 hd0 hlt
  go_enter Tryz.func9, Tryz.ntmps9
  go_wp2_with (first | (go_at_call 11; refine (P1.out _ _ _ (by first | exact .inl ⟨rfl, rfl⟩ | exact .inr ⟨rfl, rfl⟩)).mono ?_; rintro e wn ⟨rfl, rfl⟩) | (go_at_call 17; rw [← HW.out]; refine HM.out.mono ?_; rintro e wn ⟨⟨v, rfl⟩, hl⟩))
  go_wp2
  go_ret
  exact ⟨⟨_, rfl⟩, Left.behind HK.out hl⟩

end Go.Proofs.YtlgdfalbhpgllaaGreatDoor
