/- Layer 18's landed program: Decode. Printed by genpd18.py. -/
import Derived.Test.YtgjblcjoglaldaaPc18
import Derived.Laws.MakeOwn
namespace Go.Proofs.Ytgjblcjoglaldaa
open Go.RowKit Go.Proofs Go.Proofs.Pk
set_option maxRecDepth 10000
attribute [local simp] mk_get wrap64_u8 mk_extract ByteArray.mk_append_mk get_1k

theorem stepP_info : (Try.prog.info? 43).map (fun i => (i.zero, i.size, i.bytes)) = some (some (.agg #[.int .i64 0, .int .i64 0]), 2, 16) := by kernel_rfl
theorem zero_steps : ∀ n : Nat, (List.replicate n ((0 : Int), (0 : Int))).flatMap stC = List.replicate (n * 2) (.int .i64 0)
  | 0 => rfl
  | n + 1 => by
    rw [List.replicate_succ, List.flatMap_cons, zero_steps n, show (n + 1) * 2 = n * 2 + 1 + 1 by omega, List.replicate_succ, List.replicate_succ]
    rfl
theorem made_steps (n : Nat) : madeCells (Value.agg #[.int .i64 0, .int .i64 0]).cells (n * 2) = ((rowZ [] n).flatMap stC).toArray := by
  have e : rowZ [] n = List.replicate n (0, 0) := by unfold rowZ; simp
  rw [e, zero_steps]
  apply Array.ext
  · rw [size_madeCells]; simp
  · intro i h1 h2
    have hm : (madeCells (Value.agg #[.int .i64 0, .int .i64 0]).cells (n * 2))[i]'h1 = (Value.agg #[.int .i64 0, .int .i64 0]).cells[i % 2]! := by simp [madeCells, Value.cells]
    rw [hm]
    have hr : (List.replicate (n * 2) (Value.int .i64 0)).toArray[i]'h2 = .int .i64 0 := by simp
    rw [hr]
    rcases Nat.mod_two_eq_zero_or_one i with h | h <;> rw [h] <;> rfl
theorem run_make_steps (n : Nat) (hn : n ≤ 6) (w : World) : (Instr.makeSlice 22 (.int .i64 (n : Int)) (.int .i64 (n : Int))).run Try.prog w =
    .ok (.slice (some ⟨w.heap.size, 0, none⟩) n n) (w.alloc (.cells ((rowZ [] n).flatMap stC).toArray 43)) := by
  obtain ⟨i, hi, hp⟩ : ∃ i, Try.prog.info? 43 = some i ∧ (i.zero, i.size, i.bytes) = (some (.agg #[.int .i64 0, .int .i64 0]), 2, 16) := by
    have h := stepP_info
    cases hq : Try.prog.info? 43 with
    | none => rw [hq] at h; cases h
    | some i => rw [hq] at h; exact ⟨i, rfl, Option.some.inj h⟩
  obtain ⟨hz, hp2⟩ := Prod.mk.inj hp
  obtain ⟨hs, hb⟩ := Prod.mk.inj hp2
  have := run_make (P := Try.prog) w 22 43 i _ Try.underlying22 hi hz .i64 .i64 n n (by omega) (Int.le_refl _) (by rw [hb]; omega) (by omega)
  rw [this, hs]
  simp only [Int.toNat_natCast]
  rw [made_steps n]
theorem steps_set : ∀ (l : List StV) (k : Nat) (s : StV), k < l.length → (l.set k s).flatMap stC = ((l.flatMap stC).set (k * 2) (.int .i64 s.1)).set (k * 2 + 1) (.int .i64 s.2)
  | [], k, s, h => by simp at h
  | u :: r, 0, s, h => by simp [stC]
  | u :: r, k + 1, s, h => by
    have ih := steps_set r k s (by simpa using h)
    rw [List.set_cons_succ, List.flatMap_cons, List.flatMap_cons, ih, show (k + 1) * 2 = (k * 2 + 1) + 1 by omega]
    rfl
theorem stepsC_len (l : List StV) : (l.flatMap stC).length = l.length * 2 := by
  induction l with
  | nil => rfl
  | cons a r ih => rw [List.flatMap_cons, List.length_append, ih, List.length_cons]; show 2 + _ = _; omega
/-- The row of a definition's steps, owned. -/
theorem row_owns {w : World} {g base n : Nat} {T : List StV} (h : Holds w g (T.flatMap stC) 43) (hT : T.length = n) (hb : base ≤ g) (hn : n ≤ 6) : w.ownsRow base 43 2 (.slice (some ⟨g, 0, none⟩) n n) n (T.flatMap stC) := by
  have hl := stepsC_len T
  refine ⟨by rw [hl, hT], .inr ⟨g, n, (T.flatMap stC).toArray, rfl, hb, h, Nat.le_refl _, by unfold maxLen; omega, by rw [List.size_toArray, hl, hT], ?_⟩⟩
  rw [List.take_of_length_le (by rw [hl, hT]; exact Nat.le_refl _)]
theorem row_steps {w : World} {g n : Nat} {T : List StV} (h : Holds w g (T.flatMap stC) 43) (hT : T.length = n) (hf : ∀ s ∈ T, FitSt s) : StepsW w (some ⟨g, 0, none⟩) n T :=
  ⟨hT, .inr ⟨g, 0, rfl, h.lt, fun i hi => ⟨fun j v hv => by rw [Nat.zero_add]; exact h.cell _ _ (stepsC_get T i hi j v hv), hf _ (List.getElem_mem hi)⟩⟩⟩
theorem stO_fit (o : Option DTxt) : FitSt (stO o).1 := by
  have a := nuO_le o
  have b := nuO_le (nuO o).2
  unfold MaxN at a b
  unfold FitSt FitI stO
  simp only
  omega
theorem manyO_fit : ∀ (n : Nat) (o : Option DTxt), ∀ s ∈ (manyO n o).1, FitSt s
  | 0, _, s, h => by cases h
  | n + 1, o, s, h => by
    rw [manyO] at h
    rcases List.mem_cons.1 h with rfl | h
    · exact stO_fit o
    · exact manyO_fit n _ s h
/-- Decode on its way: what is left, the result's box, the definition's box. -/
structure DS (w W : World) (nm : DTxt) (gr gd : Nat) (v : Value) (o : Option DTxt) : Prop where
  rd : RB W gr (gr + 1) o
  res : Holds W w.heap.size [.string ⟨#[]⟩, .slice none 0 0] 24
  box : Holds W gd [.string ⟨nm.toArray⟩, v] 24
  kept : Kept (fun _ => False) w W
  lt : w.heap.size < gr ∧ gr + 1 < gd
theorem DS.read {w W W' : World} {nm : DTxt} {gr gd : Nat} {v : Value} {o o' : Option DTxt} (h : DS w W nm gr gd v o) (hr : RB W' gr (gr + 1) o') (hk : Kept (fun k => k = gr ∨ k = gr + 1) W W') : DS w W' nm gr gd v o' :=
  ⟨hr, h.res.of_block (hk.block _ h.res.lt (fun e => by have := h.lt; omega)), h.box.of_block (hk.block _ h.box.lt (fun e => by have := h.lt; omega)), h.kept.trans hk (fun z hz => .inr (by have := h.lt; omega)), h.lt⟩
theorem DS.past {w W W' : World} {nm : DTxt} {gr gd : Nat} {v : Value} {o : Option DTxt} {X : Nat → Prop} (h : DS w W nm gr gd v o) (hk : Kept X W W') (hx : ∀ z, X z → gd < z) : DS w W' nm gr gd v o :=
  ⟨h.rd.kept hk (fun f => by have := hx _ f; have := h.lt; omega) (fun f => by have := hx _ f; have := h.lt; omega), h.res.of_block (hk.block _ h.res.lt (fun e => by have := hx _ e; have := h.lt; omega)), h.box.of_block (hk.block _ h.box.lt (fun e => by have := hx _ e; omega)), h.kept.trans hk (fun z hz => .inr (by have := hx _ hz; have := h.lt; omega)), h.lt⟩
theorem DS.put {w W : World} {nm : DTxt} {gr gd : Nat} {v : Value} {o : Option DTxt} (h : DS w W nm gr gd v o) (u : Value) : DS w (W.setCell ⟨gd, 1, none⟩ u) nm gr gd u o ∧ Kept (fun k => k = gd) W (W.setCell ⟨gd, 1, none⟩ u) := by
  have hk : Kept (fun k => k = gd) W (W.setCell ⟨gd, 1, none⟩ u) := (Kept.refl (fun k => k = gd) W).setCell (p := ⟨gd, 1, none⟩) rfl _
  exact ⟨⟨h.rd.kept hk (fun e => by have := h.lt; omega) (fun e => by have := h.lt; omega), h.res.of_block (hk.block _ h.res.lt (fun e => by have := h.lt; omega)), h.box.set 1 u, h.kept.trans hk (fun z hz => .inr (by have := h.lt; omega)), h.lt⟩, hk⟩

/-- What stands at each goto to the end. -/
def JD (w : World) (Z : DefV × Bool) (a' : Act) (W : World) : Prop :=
  ∃ (u0 u1 u3 u4 u5 u6 u7 u8 u9 u10 u11 u12 u13 u14 u15 u16 u17 u18 u19 u20 u21 u22 u23 u24 u25 u26 u27 u28 u29 u30 u31 u32 u33 u34 u35 u36 u37 u38 u39 u40 u41 u42 u43 u44 u45 u46 u47 u48 u49 u50 u51 u52 u53 u54 u55 u56 u57 u58 u59 u60 u61 : Value), a' = { tmps := #[u0, u1, .pointer (some ⟨w.heap.size, 0, none⟩), u3, u4, u5, u6, u7, u8, u9, u10, u11, u12, u13, u14, u15, u16, u17, u18, u19, u20, u21, u22, u23, u24, u25, u26, u27, u28, u29, u30, u31, u32, u33, u34, u35, u36, u37, u38, u39, u40, u41, u42, u43, u44, u45, u46, u47, u48, u49, u50, u51, u52, u53, u54, u55, u56, u57, u58, u59, u60, u61], defers := [] } ∧ Z = (zeroD, false) ∧ Holds W w.heap.size [.string ⟨#[]⟩, .slice none 0 0] 24 ∧ Kept (fun _ => False) w W
set_option maxHeartbeats 2000000 in
/-- Decode returns what its result's box holds, and the error in slot 3. -/
theorem pd_door {R : Ending → World → Prop} {W : World} {g : Nat} {nm : DTxt} {ad : Option Addr} {n p : Nat} {ev : Value} (l : List Value) (hP : Holds W g [.string ⟨nm.toArray⟩, .slice ad n p] 24)
    (h2 : l[2]? = some (.pointer (some ⟨g, 0, none⟩))) (h3 : l[3]? = some ev) (hR : R (.returned (.tuple #[defC nm ad n p, ev])) W) : bodyPost Try.prog Try.f18 R Exit.ret { tmps := l.toArray, defers := [] } W := by
  have d0 := Holds.cell hP 0 _ rfl
  have d1 := Holds.cell hP 1 _ rfl
  refine bodyPost_ret (v := .tuple #[defC nm ad n p, ev]) ?_ rfl hR
  rw [results_cell_tmp rfl]
  have e2 : l.toArray.getD 2 undef = .pointer (some ⟨g, 0, none⟩) := by simp [Array.getD_eq_getD_getElem?, h2]
  have e3 : l.toArray.getD 3 undef = ev := by simp [Array.getD_eq_getD_getElem?, h3]
  show ((asAddr (l.toArray.getD 2 undef)).run _ _).andThen _ = _
  rw [e2, e3]
  go_simp
  rfl
theorem pd_none {w W : World} {Z : DefV × Bool} (hZ : Z = (zeroD, false)) (hk : Kept (fun _ => False) w W) : DecK18 w Z (.returned (.tuple #[defC [] none 0 0, .iface 49 (.int .i64 3)])) W := by
  subst hZ
  exact ⟨none, 0, by simp [zeroD, errV], World.ownsRow_nil _ _ _ _, (by intro s hs; cases hs), hk⟩

set_option maxHeartbeats 8000000 in
theorem pDecode18 (b : DTxt) (w : World) (hb : b.length ≤ 140737489000000) : Calls Try.prog 18 #[.string ⟨b.toArray⟩] w (DecK18 w (decD b)) := by
  obtain ⟨Z, hZ⟩ : ∃ Z, Hid (Z = decD b) := ⟨_, Lib.hid rfl⟩
  rw [← hZ.out]
  have HZ := Lib.hid (hZ.out.trans (decD_is b))
  clear hZ
  have HT := Lib.hid (fun W => pReadText b W (by unfold maxLen; omega))
  have hlT := rdTxt_len b
  have hnm := rdTxt_fstP b
  unfold txO at HZ
  generalize rdTxt b = z at HT HZ hlT hnm
  obtain ⟨nm, rest, c⟩ := z
  simp only at HT HZ hlT hnm
  have HG : Hid (Holds (w.alloc (.cells #[.string ⟨#[]⟩, .slice none 0 0] 24)) w.heap.size [.string ⟨#[]⟩, .slice none 0 0] 24 ∧ Kept (fun _ => False) w (w.alloc (.cells #[.string ⟨#[]⟩, .slice none 0 0] 24))) := Lib.hid ⟨Holds.new w _ _, (Kept.refl _ w).alloc _⟩
  go_enter Try.func18, Try.ntmps18
  go_wp2
  refine wp_scope_jumps 0 (JD w Z) (fun _ _ => 0) rfl ?_ ?_
  rotate_left
  · rintro a' W ⟨u0, u1, u3, u4, u5, u6, u7, u8, u9, u10, u11, u12, u13, u14, u15, u16, u17, u18, u19, u20, u21, u22, u23, u24, u25, u26, u27, u28, u29, u30, u31, u32, u33, u34, u35, u36, u37, u38, u39, u40, u41, u42, u43, u44, u45, u46, u47, u48, u49, u50, u51, u52, u53, u54, u55, u56, u57, u58, u59, u60, u61, rfl, hz, hB, hK⟩
    have d0 := Holds.cell hB 0 _ rfl
    have d1 := Holds.cell hB 1 _ rfl
    have f0 := Holds.free hB 0
    have f1 := Holds.free hB 1
    have HN : Hid (Holds ((W.setCell ⟨w.heap.size, 0, none⟩ (.string ⟨#[]⟩)).setCell ⟨w.heap.size, 1, none⟩ (.slice none 0 0)) w.heap.size [.string ⟨#[]⟩, .slice none 0 0] 24 ∧ Kept (fun _ => False) w ((W.setCell ⟨w.heap.size, 0, none⟩ (.string ⟨#[]⟩)).setCell ⟨w.heap.size, 1, none⟩ (.slice none 0 0))) :=
      Lib.hid ⟨(hB.set 0 (.string ⟨#[]⟩)).set 1 (.slice none 0 0), (hK.setNew (p := ⟨w.heap.size, 0, none⟩) (Nat.le_refl _) _).setNew (p := ⟨w.heap.size, 1, none⟩) (Nat.le_refl _) _⟩
    have HZ0 := Lib.hid hz
    clear hz hB hK HZ HT HG hlT
    go_wp2
    exact pd_door (nm := []) _ HN.out.1 rfl rfl (pd_none HZ0.out HN.out.2)
  · obtain ⟨o0, ho0⟩ : ∃ o0, Hid (o0 = if c = 0 then some rest else none) := ⟨_, Lib.hid rfl⟩
    rw [← ho0.out] at HZ
    have hl0 : lenO o0 ≤ b.length := by rw [ho0.out]; split; exact hlT; exact Nat.zero_le _
    go_upto_region 1 with (fail)
    go_cut [4, 5, 6] from 11 to 16 (fun s4 s5 s6 wx => ∃ gr : Nat, s4 = .string ⟨nm.toArray⟩ ∧ s5 = .pointer (some ⟨gr, 0, none⟩) ∧ s6 = .pointer (some ⟨gr + 1, 0, none⟩) ∧ w.heap.size < gr ∧ Hid (RB wx gr (gr + 1) o0 ∧ Holds wx w.heap.size [.string ⟨#[]⟩, .slice none 0 0] 24 ∧ Kept (fun _ => False) w wx))
    case first =>
      go_wp2_with fail
      refine (HT.out _).mono ?_
      clear HT HZ
      rintro e w1 ⟨rfl, hb1⟩
      have hk1 : Kept (fun _ => False) w w1 := HG.out.2.trans (Kept.of_below (fun _ => False) hb1) (fun _ f => f.elim)
      have hg1 : Holds w1 w.heap.size [.string ⟨#[]⟩, .slice none 0 0] 24 := HG.out.1.of_block ((Kept.of_below (fun _ => False) hb1).block _ HG.out.1.lt (fun f => f))
      have hlt : w.heap.size < w1.heap.size := hg1.lt
      have key : ∀ ev, Hid (Holds ((w1.alloc (.cells #[.string ⟨rest.toArray⟩] 9)).alloc (.cells #[ev] 31)) w1.heap.size [.string ⟨rest.toArray⟩] 9 ∧ Holds ((w1.alloc (.cells #[.string ⟨rest.toArray⟩] 9)).alloc (.cells #[ev] 31)) (w1.heap.size + 1) [ev] 31 ∧
          Holds ((w1.alloc (.cells #[.string ⟨rest.toArray⟩] 9)).alloc (.cells #[ev] 31)) w.heap.size [.string ⟨#[]⟩, .slice none 0 0] 24 ∧ Kept (fun _ => False) w ((w1.alloc (.cells #[.string ⟨rest.toArray⟩] 9)).alloc (.cells #[ev] 31))) := fun ev => Lib.hid (by
        have a1 := Holds.new w1 [.string ⟨rest.toArray⟩] 9
        have e1 : (w1.alloc (.cells #[.string ⟨rest.toArray⟩] 9)).heap.size = w1.heap.size + 1 := Array.size_push _
        have a2 := Holds.new (w1.alloc (.cells #[.string ⟨rest.toArray⟩] 9)) [ev] 31
        rw [e1] at a2
        exact ⟨a1.alloc _, a2, (hg1.alloc _).alloc _, (hk1.alloc _).alloc _⟩)
      clear hb1 hk1 hg1 HG
      by_cases hc : c = 0
      · subst hc
        rw [errV_zero]
        have HN := key .nilIface
        rw [if_pos rfl] at ho0
        clear key
        go_wp2
        go_meet
        case rel => exact ⟨_, rfl, rfl, rfl, hlt, by show _ ∧ _ ∧ _; rw [ho0.out]; exact ⟨⟨HN.out.1, HN.out.2.1⟩, HN.out.2.2⟩⟩
      · obtain ⟨c, rfl⟩ : ∃ c', c = c' + 1 := ⟨c - 1, by omega⟩
        rw [errV_succ]
        have HN := key (.iface 49 (.int .i64 ((c : Int) + 1)))
        rw [if_neg hc] at ho0
        clear key hc
        go_wp2
        go_meet
        case rel => exact ⟨_, rfl, rfl, rfl, hlt, by show _ ∧ _ ∧ _; rw [ho0.out]; exact ⟨⟨rest, _, HN.out.1, HN.out.2.1⟩, HN.out.2.2⟩⟩
    case rest =>
    obtain ⟨gr, rfl, rfl, rfl, hgr, HS⟩ := hcut
    clear HT HG ho0
    have HC := Lib.hid (fun W => num18 gr (gr + 1) o0 W (by unfold maxLen; omega) (by omega))
    have hl1 := nuO_len o0
    have hn1 := nuO_le o0
    generalize nuO o0 = z at HC HZ hl1 hn1
    obtain ⟨n, o1⟩ := z
    simp only at HC HZ hl1 hn1
    unfold MaxN at hn1
    go_wp2_with fail
    refine (HC.out _ HS.out.1).mono ?_
    clear HC
    rintro e w2 ⟨rfl, hr2, hk2⟩
    have H2 : Hid (DS w (w2.alloc (.cells #[.string ⟨nm.toArray⟩, .slice none 0 0] 24)) nm gr w2.heap.size (.slice none 0 0) o1) := Lib.hid (by
      have hk := (Kept.refl (fun _ => False) w2).alloc (.cells #[.string ⟨nm.toArray⟩, .slice none 0 0] 24)
      have hkk : Kept (fun _ => False) w w2 := HS.out.2.2.trans hk2 (fun z hz => .inr (by omega))
      exact ⟨hr2.kept hk (fun f => f) (fun f => f), (HS.out.2.1.of_block (hk2.block _ HS.out.2.1.lt (fun e => by omega))).alloc _, Holds.new w2 _ _, hkk.alloc _, hgr, by have := hr2.lt; omega⟩)
    clear hr2 hk2 HS
    go_upto_region 4 with (fail)
    change Code.wp _ _ _ _ (w2.alloc (.cells #[.string ⟨nm.toArray⟩, .slice none 0 0] 24))
    generalize w2.heap.size = gd at H2 ⊢
    generalize w2.alloc (.cells #[.string ⟨nm.toArray⟩, .slice none 0 0] 24) = w3 at H2 ⊢
    by_cases hn6 : n ≤ 6
    case neg =>
      have nN : (6 : Int) < (n : Int) := by omega
      have HZ0 : Hid (Z = (zeroD, false)) := Lib.hid (by
        rw [HZ.out, if_neg]
        rintro ⟨_, h⟩
        have := (right_ofD h).2.1.2
        rw [manyO_len] at this
        omega)
      clear HZ
      go_wp2
      try go_step3
      exact ⟨rfl, ⟨_, _, _, _, _, _, _, _, _, _, _, _, _, _, _, _, _, _, _, _, _, _, _, _, _, _, _, _, _, _, _, _, _, _, _, _, _, _, _, _, _, _, _, _, _, _, _, _, _, _, _, _, _, _, _, _, _, _, _, _, _, rfl, HZ0.out, H2.out.res, H2.out.kept⟩⟩
    have nN : ¬(6 : Int) < (n : Int) := by omega
    have hmk := run_make_steps n hn6 w3
    go_upto_region 5 with (fail)
    have HR0 : Hid (DS w (w3.alloc (.cells ((rowZ [] n).flatMap stC).toArray 43)) nm gr gd (.slice none 0 0) o1 ∧ Holds (w3.alloc (.cells ((rowZ [] n).flatMap stC).toArray 43)) w3.heap.size ((rowZ [] n).flatMap stC) 43 ∧ gd < w3.heap.size) :=
      Lib.hid ⟨H2.out.past ((Kept.refl (fun _ => False) w3).alloc _) (fun _ f => f.elim), Holds.new w3 _ _, H2.out.box.lt⟩
    clear H2
    refine wp_region_lit ?_
    refine wpList_plain rfl fun K hK => ?_
    go_simp
    refine hK _ _ ?_; clear hK K
    refine wpList_plain rfl fun K hK => ?_
    go_simp
    refine hK _ _ ?_; clear hK K
    generalize w3.alloc (.cells ((rowZ [] n).flatMap stC).toArray 43) = w4 at HR0 ⊢
    clear hmk
    generalize w3.heap.size = rb at HR0 ⊢
    have d1 := Holds.cell HR0.out.1.box 1 _ rfl
    have f1 := Holds.free HR0.out.1.box 1
    refine wpList_plain rfl fun K hK => ?_
    go_simp
    refine hK _ _ ?_; clear hK K
    refine wpList_plain rfl fun K hK => ?_
    go_simp
    refine hK _ _ ?_; clear hK K
    refine wpList_nil ?_
    clear d1 f1
    have HI : Hid (DS w (w4.setCell ⟨gd, 1, none⟩ (.slice (some ⟨rb, 0, none⟩) n n)) nm gr gd (.slice (some ⟨rb, 0, none⟩) n n) (manyO 0 o1).2 ∧ Holds (w4.setCell ⟨gd, 1, none⟩ (.slice (some ⟨rb, 0, none⟩) n n)) rb ((rowZ (manyO 0 o1).1 n).flatMap stC) 43 ∧ gd < rb) := Lib.hid (by
      obtain ⟨h1, h2⟩ := HR0.out.1.put (.slice (some ⟨rb, 0, none⟩) n n)
      exact ⟨h1, HR0.out.2.1.of_block (h2.block _ HR0.out.2.1.lt (fun e => by have := HR0.out.2.2; omega)), HR0.out.2.2⟩)
    clear HR0
    change Exit.then _ _ _ _ (w4.setCell ⟨gd, 1, none⟩ (.slice (some ⟨rb, 0, none⟩) n n))
    generalize w4.setCell ⟨gd, 1, none⟩ (.slice (some ⟨rb, 0, none⟩) n n) = w5 at HI ⊢
    have d1 := Holds.cell HI.out.1.box 1 _ rfl
    go_wp2
    clear d1
    obtain ⟨wq, hwq⟩ : ∃ wq, wq = w5 := ⟨_, rfl⟩
    rw [← hwq] at HI ⊢
    clear hwq
    have HLe : Hid (∀ k, lenO (manyO k o1).2 ≤ b.length) := Lib.hid fun k => Nat.le_trans (manyO_left k o1) (Nat.le_trans hl1 hl0)
    go_loopw [30] (fun i wr => ∃ k : Nat, i = .int .i64 (k : Int) ∧ k ≤ n ∧ Hid (DS w wr nm gr gd (.slice (some ⟨rb, 0, none⟩) n n) (manyO k o1).2 ∧ Holds wr rb ((rowZ (manyO k o1).1 n).flatMap stC) 43 ∧ gd < rb)) (fun i _ => n - (intOf i).toNat)
    case atStart => exact ⟨0, rfl, Nat.zero_le _, HI⟩
    case round =>
      obtain ⟨k, rfl, hk, hI⟩ := hrel
      clear HI
      have k0 : (0 : Int) ≤ (k : Int) := by omega
      have hwk : IntKind.i64.wrap ((k : Int) + 1) = (k : Int) + 1 := IntWalk.i64_in _ (by omega)
      by_cases hlt : k < n
      · have kN : (k : Int) < (n : Int) := by omega
        have hkT : (manyO k o1).1.length < n := by rw [manyO_len]; exact hlt
        have HSt : Hid (manyO (k + 1) o1 = ((manyO k o1).1 ++ [(stO (manyO k o1).2).1], (stO (manyO k o1).2).2)) := Lib.hid (manyO_snoc k o1)
        have HL1 := Lib.hid (HLe.out k)
        have HTl := Lib.hid (manyO_len k o1)
        obtain ⟨⟨T, ok⟩, hTo⟩ : ∃ z, z = manyO k o1 := ⟨_, rfl⟩
        rw [← hTo] at hI HSt HL1 HTl hkT
        simp only at hI HSt HL1 HTl hkT
        clear hTo
        obtain ⟨C, hC⟩ : ∃ C, Hid (C = (rowZ T n).flatMap stC) := ⟨_, Lib.hid rfl⟩
        rw [← hC.out] at hI
        have HCl : Hid (C.length = n * 2) := Lib.hid (by rw [hC.out, stepsC_len, rowZ_len T n (by omega)])
        have hrb : gd < rb := hI.out.2.2
        have HI0 : Hid (DS w wr nm gr gd (.slice (some ⟨rb, 0, none⟩) n n) ok ∧ Holds wr rb C 43) := Lib.hid ⟨hI.out.1, hI.out.2.1⟩
        clear hI
        go_upto_region 9 with (fail)
        have hD0 : DS w wr.drew nm gr gd (.slice (some ⟨rb, 0, none⟩) n n) (ok) := HI0.out.1.past ((Kept.refl (fun _ => False) wr).drewN 1) (fun _ f => f.elim)
        have hR0 : Holds wr.drew rb (C) 43 := HI0.out.2.of_block rfl
        have hS : (fun W : World => W.cell? ⟨gd, 1, none⟩ = some (.slice (some ⟨rb, 0, none⟩) n n)) wr.drew := Holds.cell hD0.box 1 _ rfl
        refine wp_region_until (fun W : World => W.cell? ⟨gd, 1, none⟩ = some (.slice (some ⟨rb, 0, none⟩) n n)) 7 (by kernel_rfl) ?_
        generalize wr.drew = wd at hS hD0 hR0 ⊢
        refine wpAnyU_take (i := 0) (v := (.pointer (some ⟨gd, 1, none⟩))) (some 33) rfl rfl (by kernel_rfl) (by kernel_rfl) (by kernel_rfl) (by kernel_rfl) (fun _ _ _ h => h) hS (yields_of (by kernel_rfl) (fun w hw => by kernel_rfl)) ?_
        refine wpAnyU_take (i := 1) (v := (.slice (some ⟨rb, 0, none⟩) n n)) (some 34) rfl rfl (by kernel_rfl) (by kernel_rfl) (by kernel_rfl) (by kernel_rfl) (fun _ _ _ h => h) hS (yields_of (by kernel_rfl) (fun w hw => by have h0 := hw; go_simp)) ?_
        refine wpAnyU_take (i := 2) (v := (.int .i64 (k : Int))) (some 35) rfl rfl (by kernel_rfl) (by kernel_rfl) (by kernel_rfl) (by kernel_rfl) (fun _ _ _ h => h) hS (yields_mv (by kernel_rfl) rfl rfl) ?_
        refine wpAnyU_take (i := 3) (v := (.func (.func 33) #[] #[.pointer (some ⟨gr + 1, 0, none⟩), .pointer (some ⟨gr, 0, none⟩)])) (some 36) rfl rfl (by kernel_rfl) (by kernel_rfl) (by kernel_rfl) (by kernel_rfl) (fun _ _ _ h => h) hS (yields_mv (by kernel_rfl) rfl rfl) ?_
        refine wpAnyU_call (i := 4) (f := 33) (args := #[.pointer (some ⟨gr + 1, 0, none⟩), .pointer (some ⟨gr, 0, none⟩)]) (some 37) rfl rfl (by kernel_rfl) (by kernel_rfl) (by kernel_rfl) ?_
        refine (num18 gr (gr + 1) (ok) wd (by unfold maxLen; have := HL1.out; omega) (by omega) hD0.rd).mono ?_
        rintro e wx ⟨rfl, hr1, hk1⟩
        have hD1 := hD0.read hr1 hk1
        have hR1 : Holds wx rb (C) 43 := hR0.of_block (hk1.block _ hR0.lt (fun e => by have := hD0.lt; omega))
        refine ⟨_, rfl, fun _ => Holds.cell hD1.box 1 _ rfl, ?_⟩
        clear hS hD0 hR0 hr1 hk1
        refine wpAnyU_run (i := 5) (v := (.pointer (some ⟨rb, k * 2, none⟩))) (w' := wx) (some 38) rfl rfl (by kernel_rfl) (by kernel_rfl) (by simp only [put_lit, List.set_cons_succ, List.set_cons_zero]; go_simp) (fun _ => Holds.cell hD1.box 1 _ rfl) ?_
        refine wpAnyU_run (i := 6) (v := (.pointer (some ⟨rb, k * 2, none⟩))) (w' := wx) (some 39) rfl rfl (by kernel_rfl) (by kernel_rfl) (by kernel_rfl) (fun _ => Holds.cell hD1.box 1 _ rfl) ?_
        obtain ⟨vo, hvo⟩ : ∃ vo, (C)[k * 2]? = some vo := ⟨_, List.getElem?_eq_getElem (by have := HCl.out; skip; omega)⟩
        have c0 : wx.cell? ⟨rb, k * 2, none⟩ = some vo := Holds.cell hR1 (k * 2) _ hvo
        have f0 := Holds.free hR1 (k * 2)
        refine wpAnyU_skip (i := 7) (w' := wx.setCell ⟨rb, k * 2, none⟩ (.int .i64 (((nuO ok).1 : Int)))) none rfl rfl (by kernel_rfl) (by kernel_rfl) (by simp only [put_lit, List.set_cons_succ, List.set_cons_zero]; go_simp) (fun h => absurd h (by decide)) ?_
        refine wpAnyU_done (by kernel_rfl) ?_ _
        simp only [put_none, put_lit, List.set_cons_succ, List.set_cons_zero]
        have hkS : Kept (fun z => z = rb) wx (wx.setCell ⟨rb, k * 2, none⟩ (.int .i64 (((nuO ok).1 : Int)))) := (Kept.refl (fun z => z = rb) wx).setCell (p := ⟨rb, k * 2, none⟩) rfl _
        have HI1 : Hid (DS w (wx.setCell ⟨rb, k * 2, none⟩ (.int .i64 (((nuO ok).1 : Int)))) nm gr gd (.slice (some ⟨rb, 0, none⟩) n n) (nuO (ok)).2 ∧ Holds (wx.setCell ⟨rb, k * 2, none⟩ (.int .i64 (((nuO ok).1 : Int)))) rb ((C).set (k * 2) (.int .i64 (((nuO ok).1 : Int)))) 43) :=
          Lib.hid ⟨hD1.past hkS (fun z hz => by omega), hR1.set (k * 2) _⟩
        clear hD1 hR1 c0 f0 hvo hkS HI0
        generalize wx.setCell ⟨rb, k * 2, none⟩ (.int .i64 (((nuO ok).1 : Int))) = wn1 at HI1 ⊢
        go_upto_region 10 with (fail)
        have hD0 : DS w wn1.drew nm gr gd (.slice (some ⟨rb, 0, none⟩) n n) ((nuO ok).2) := HI1.out.1.past ((Kept.refl (fun _ => False) wn1).drewN 1) (fun _ f => f.elim)
        have hR0 : Holds wn1.drew rb (C.set (k * 2) (.int .i64 ((nuO ok).1 : Int))) 43 := HI1.out.2.of_block rfl
        have hS : (fun W : World => W.cell? ⟨gd, 1, none⟩ = some (.slice (some ⟨rb, 0, none⟩) n n)) wn1.drew := Holds.cell hD0.box 1 _ rfl
        refine wp_region_until (fun W : World => W.cell? ⟨gd, 1, none⟩ = some (.slice (some ⟨rb, 0, none⟩) n n)) 7 (by kernel_rfl) ?_
        generalize wn1.drew = wd at hS hD0 hR0 ⊢
        refine wpAnyU_take (i := 0) (v := (.pointer (some ⟨gd, 1, none⟩))) (some 40) rfl rfl (by kernel_rfl) (by kernel_rfl) (by kernel_rfl) (by kernel_rfl) (fun _ _ _ h => h) hS (yields_of (by kernel_rfl) (fun w hw => by kernel_rfl)) ?_
        refine wpAnyU_take (i := 1) (v := (.slice (some ⟨rb, 0, none⟩) n n)) (some 41) rfl rfl (by kernel_rfl) (by kernel_rfl) (by kernel_rfl) (by kernel_rfl) (fun _ _ _ h => h) hS (yields_of (by kernel_rfl) (fun w hw => by have h0 := hw; go_simp)) ?_
        refine wpAnyU_take (i := 2) (v := (.int .i64 (k : Int))) (some 42) rfl rfl (by kernel_rfl) (by kernel_rfl) (by kernel_rfl) (by kernel_rfl) (fun _ _ _ h => h) hS (yields_mv (by kernel_rfl) rfl rfl) ?_
        refine wpAnyU_take (i := 3) (v := (.func (.func 33) #[] #[.pointer (some ⟨gr + 1, 0, none⟩), .pointer (some ⟨gr, 0, none⟩)])) (some 43) rfl rfl (by kernel_rfl) (by kernel_rfl) (by kernel_rfl) (by kernel_rfl) (fun _ _ _ h => h) hS (yields_mv (by kernel_rfl) rfl rfl) ?_
        refine wpAnyU_call (i := 4) (f := 33) (args := #[.pointer (some ⟨gr + 1, 0, none⟩), .pointer (some ⟨gr, 0, none⟩)]) (some 44) rfl rfl (by kernel_rfl) (by kernel_rfl) (by kernel_rfl) ?_
        refine (num18 gr (gr + 1) ((nuO ok).2) wd (by unfold maxLen; have := Nat.le_trans (nuO_len ok) HL1.out; omega) (by omega) hD0.rd).mono ?_
        rintro e wx ⟨rfl, hr1, hk1⟩
        have hD1 := hD0.read hr1 hk1
        have hR1 : Holds wx rb (C.set (k * 2) (.int .i64 ((nuO ok).1 : Int))) 43 := hR0.of_block (hk1.block _ hR0.lt (fun e => by have := hD0.lt; omega))
        refine ⟨_, rfl, fun _ => Holds.cell hD1.box 1 _ rfl, ?_⟩
        clear hS hD0 hR0 hr1 hk1
        refine wpAnyU_run (i := 5) (v := (.pointer (some ⟨rb, k * 2, none⟩))) (w' := wx) (some 45) rfl rfl (by kernel_rfl) (by kernel_rfl) (by simp only [put_lit, List.set_cons_succ, List.set_cons_zero]; go_simp) (fun _ => Holds.cell hD1.box 1 _ rfl) ?_
        refine wpAnyU_run (i := 6) (v := (.pointer (some ⟨rb, k * 2 + 1, none⟩))) (w' := wx) (some 46) rfl rfl (by kernel_rfl) (by kernel_rfl) (by kernel_rfl) (fun _ => Holds.cell hD1.box 1 _ rfl) ?_
        obtain ⟨vo, hvo⟩ : ∃ vo, (C.set (k * 2) (.int .i64 ((nuO ok).1 : Int)))[k * 2 + 1]? = some vo := ⟨_, List.getElem?_eq_getElem (by have := HCl.out; rw [List.length_set]; omega)⟩
        have c0 : wx.cell? ⟨rb, k * 2 + 1, none⟩ = some vo := Holds.cell hR1 (k * 2 + 1) _ hvo
        have f0 := Holds.free hR1 (k * 2 + 1)
        refine wpAnyU_skip (i := 7) (w' := wx.setCell ⟨rb, k * 2 + 1, none⟩ (.int .i64 (((nuO (nuO ok).2).1 : Int)))) none rfl rfl (by kernel_rfl) (by kernel_rfl) (by simp only [put_lit, List.set_cons_succ, List.set_cons_zero]; go_simp) (fun h => absurd h (by decide)) ?_
        refine wpAnyU_done (by kernel_rfl) ?_ _
        simp only [put_none, put_lit, List.set_cons_succ, List.set_cons_zero]
        have hkS : Kept (fun z => z = rb) wx (wx.setCell ⟨rb, k * 2 + 1, none⟩ (.int .i64 (((nuO (nuO ok).2).1 : Int)))) := (Kept.refl (fun z => z = rb) wx).setCell (p := ⟨rb, k * 2 + 1, none⟩) rfl _
        have HI2 : Hid (DS w (wx.setCell ⟨rb, k * 2 + 1, none⟩ (.int .i64 (((nuO (nuO ok).2).1 : Int)))) nm gr gd (.slice (some ⟨rb, 0, none⟩) n n) (nuO ((nuO ok).2)).2 ∧ Holds (wx.setCell ⟨rb, k * 2 + 1, none⟩ (.int .i64 (((nuO (nuO ok).2).1 : Int)))) rb ((C.set (k * 2) (.int .i64 ((nuO ok).1 : Int))).set (k * 2 + 1) (.int .i64 (((nuO (nuO ok).2).1 : Int)))) 43) :=
          Lib.hid ⟨hD1.past hkS (fun z hz => by omega), hR1.set (k * 2 + 1) _⟩
        clear hD1 hR1 c0 f0 hvo hkS HI1
        generalize wx.setCell ⟨rb, k * 2 + 1, none⟩ (.int .i64 (((nuO (nuO ok).2).1 : Int))) = wn2 at HI2 ⊢
        have HN : Hid (DS w wn2 nm gr gd (.slice (some ⟨rb, 0, none⟩) n n) (manyO (k + 1) o1).2 ∧ Holds wn2 rb ((rowZ (manyO (k + 1) o1).1 n).flatMap stC) 43 ∧ gd < rb) := Lib.hid (by
          rw [HSt.out]
          simp only
          refine ⟨HI2.out.1, ?_, hrb⟩
          rw [rowZ_set T n hkT, HTl.out, steps_set _ _ _ (by rw [rowZ_len T n (by omega)]; exact hlt), ← hC.out]
          exact HI2.out.2)
        clear HI2 hC HCl HSt
        go_wp2
        go_roundw
        case rel => exact ⟨k + 1, by first | rfl | go_num, by omega, HN⟩
        case measure => simp [intOf]; omega
      · have kN : ¬(k : Int) < (n : Int) := by omega
        obtain rfl : k = n := by omega
        have hTl := manyO_len k o1
        have hTf := manyO_fit k o1
        have HZ1 := HZ.out
        clear HZ HLe
        generalize manyO k o1 = z at hI hTl hTf HZ1
        obtain ⟨T, oe⟩ := z
        simp only at hI hTl hTf HZ1
        rw [rowZ_full T k hTl] at hI
        have HZ := Lib.hid HZ1
        have HTf := Lib.hid hTf
        have HTl := Lib.hid hTl
        clear HZ1 hTf hTl
        cases oe with
        | none =>
          obtain ⟨r, c2, hr1, hr2⟩ := hI.out.1.rd
          have c0 := Holds.cell hr1 0 _ rfl
          have c1 := Holds.cell hr2 0 _ rfl
          have HZ0 : Hid (Z = (zeroD, false)) := Lib.hid (by rw [HZ.out, if_neg (by simp)])
          clear HZ hr1 hr2
          go_wp2
          try go_step3
          exact ⟨rfl, ⟨_, _, _, _, _, _, _, _, _, _, _, _, _, _, _, _, _, _, _, _, _, _, _, _, _, _, _, _, _, _, _, _, _, _, _, _, _, _, _, _, _, _, _, _, _, _, _, _, _, _, _, _, _, _, _, _, _, _, _, _, _, rfl, HZ0.out, hI.out.1.res, hI.out.1.kept⟩⟩
        | some r =>
          have c0 := Holds.cell hI.out.1.rd.1 0 _ rfl
          have c1 := Holds.cell hI.out.1.rd.2 0 _ rfl
          by_cases hrn : r = []
          case neg =>
            have HZ0 : Hid (Z = (zeroD, false)) := Lib.hid (by rw [HZ.out, if_neg (by simp [hrn])])
            have hrb : (r == []) = false := by simpa using hrn
            clear HZ
            go_wp2
            try go_step3
            exact ⟨rfl, ⟨_, _, _, _, _, _, _, _, _, _, _, _, _, _, _, _, _, _, _, _, _, _, _, _, _, _, _, _, _, _, _, _, _, _, _, _, _, _, _, _, _, _, _, _, _, _, _, _, _, _, _, _, _, _, _, _, _, _, _, _, _, rfl, HZ0.out, hI.out.1.res, hI.out.1.kept⟩⟩
          case pos =>
            subst hrn
            have b0 := Holds.cell hI.out.1.box 0 _ rfl
            have b1 := Holds.cell hI.out.1.box 1 _ rfl
            have HDf : Hid (DefW wr (some ⟨rb, 0, none⟩) k k (nm, T)) := Lib.hid ⟨row_steps hI.out.2.1 HTl.out HTf.out, ⟨.inr (.inr ⟨rb, 0, rfl⟩), Nat.le_refl _, by omega, fun h => by cases h⟩, by simp only; have := hnm; omega⟩
            have HRt := Lib.hid (pRight18 wr (some ⟨rb, 0, none⟩) k k (nm, T) HDf.out)
            unfold defC at HRt
            simp only at HRt
            go_wp2_with fail
            refine HRt.out.mono ?_
            clear HRt
            rintro e w7 ⟨rfl, hk7⟩
            have H7 : Hid (DS w w7 nm gr gd (.slice (some ⟨rb, 0, none⟩) k k) (some []) ∧ Holds w7 rb (T.flatMap stC) 43) := Lib.hid ⟨hI.out.1.past hk7 (fun _ f => f.elim), hI.out.2.1.of_block (hk7.block _ hI.out.2.1.lt (fun f => f))⟩
            have hrb := hI.out.2.2
            clear hI HDf hk7 c0 c1 b0 b1
            cases hok : rightD (nm, T) with
            | false =>
              have HZ0 : Hid (Z = (zeroD, false)) := Lib.hid (by rw [HZ.out, if_neg (by rw [hok]; simp)])
              clear HZ hok
              go_wp2
              try go_step3
              exact ⟨rfl, ⟨_, _, _, _, _, _, _, _, _, _, _, _, _, _, _, _, _, _, _, _, _, _, _, _, _, _, _, _, _, _, _, _, _, _, _, _, _, _, _, _, _, _, _, _, _, _, _, _, _, _, _, _, _, _, _, _, _, _, _, _, _, rfl, HZ0.out, H7.out.1.res, H7.out.1.kept⟩⟩
            | true =>
              have HZ0 : Hid (Z = ((nm, T), true)) := Lib.hid (by rw [HZ.out, if_pos (by rw [hok]; simp)])
              clear HZ hok
              have b0 := Holds.cell H7.out.1.box 0 _ rfl
              have b1 := Holds.cell H7.out.1.box 1 _ rfl
              have r0 := Holds.cell H7.out.1.res 0 _ rfl
              have r1 := Holds.cell H7.out.1.res 1 _ rfl
              have q0 := Holds.free H7.out.1.res 0
              have q1 := Holds.free H7.out.1.res 1
              have HN : Hid (Holds ((w7.setCell ⟨w.heap.size, 0, none⟩ (.string ⟨nm.toArray⟩)).setCell ⟨w.heap.size, 1, none⟩ (.slice (some ⟨rb, 0, none⟩) k k)) w.heap.size [.string ⟨nm.toArray⟩, .slice (some ⟨rb, 0, none⟩) k k] 24 ∧ Holds ((w7.setCell ⟨w.heap.size, 0, none⟩ (.string ⟨nm.toArray⟩)).setCell ⟨w.heap.size, 1, none⟩ (.slice (some ⟨rb, 0, none⟩) k k)) rb (T.flatMap stC) 43 ∧ Kept (fun _ => False) w ((w7.setCell ⟨w.heap.size, 0, none⟩ (.string ⟨nm.toArray⟩)).setCell ⟨w.heap.size, 1, none⟩ (.slice (some ⟨rb, 0, none⟩) k k))) :=
                Lib.hid (by
                  have hlt := H7.out.1.lt
                  exact ⟨(H7.out.1.res.set 0 _).set 1 _, ((H7.out.2.ne (by omega) _ _).ne (by omega) _ _), (H7.out.1.kept.setNew (p := ⟨w.heap.size, 0, none⟩) (Nat.le_refl _) _).setNew (p := ⟨w.heap.size, 1, none⟩) (Nat.le_refl _) _⟩)
              have HLt : Hid (w.heap.size ≤ rb) := Lib.hid (by have := H7.out.1.lt; omega)
              clear H7
              go_wp2
              refine pd_door (nm := nm) _ HN.out.1 rfl rfl ?_
              refine ⟨some ⟨rb, 0, none⟩, k, ?_, ?_, ?_, HN.out.2.2⟩
              · rw [HZ0.out]; simp [errV, HTl.out]
              · rw [HZ0.out]; simp only [HTl.out]; exact row_owns HN.out.2.1 HTl.out HLt.out hn6
              · rw [HZ0.out]; exact HTf.out

end Go.Proofs.Ytgjblcjoglaldaa
