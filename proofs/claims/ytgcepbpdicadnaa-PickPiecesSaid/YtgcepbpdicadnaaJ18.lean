/- Ye16, Yg16, Vw14. -/
import Derived.Test.YtgcepbpdicadnaaJ17
import Derived.Test.YtgcepbpdicadnaaJ14
import Derived.Test.YtgcepbpdicadnaaShelfV
import Derived.Shelf.SlicesE.DeleteFunc
import Derived.Test.YtgcepbpdicadnaaJ06
import Derived.Test.YtgcepbpdicadnaaProg
import Derived.Sort.Walk0
import Derived.BigQuiet

/- The program of layer 16: slices.DeleteFunc of tables; those of some that may have one of the keys. -/
namespace Go.Proofs.Ytgcepbpdicadnaa
open Go.RowKit Go.Proofs Go.Proofs.Pk
set_option maxRecDepth 10000
attribute [local simp] mk_get wrap64_u8 mk_extract ByteArray.mk_append_mk get_1k

theorem run_clear_metas (w : World) (ty : TypeId) (g o n c : Nat) (hn : 0 < n) (ht : w.there g o (n * 5)) :
    ∃ Z : List Value, Z.length = n * 5 ∧ (Builtin.clear_ #[22] ty #[.slice (some ⟨g, o, none⟩) n c]).run Try.prog w = .ok (.tuple #[]) (w.setCells g o Z) := by
  obtain ⟨Z, hZ⟩ : ∃ Z, Z = (Builtin.zeroCells (Value.agg (metaC (0, 0, [], [], 0)).toArray).cells n).toList := ⟨_, rfl⟩
  have hl : Z.length = n * 5 := by rw [hZ]; unfold Builtin.zeroCells; simp [Value.cells, metaC]
  have h1 : ∀ v ∈ Z, v.oneCell' = true := by
    intro v hv
    rw [hZ] at hv
    unfold Builtin.zeroCells at hv
    simp only [Array.toList_map, List.mem_map] at hv
    obtain ⟨k, _, rfl⟩ := hv
    have h5 : (Value.agg (metaC (0, 0, [], [], 0)).toArray).cells = (metaC (0, 0, [], [], 0)).toArray := rfl
    rw [h5]
    have hk : k % 5 < 5 := Nat.mod_lt _ (by decide)
    have : (metaC (0, 0, [], [], 0)).toArray.size = 5 := rfl
    rw [this]
    generalize k % 5 = q at hk
    match q, hk with
    | 0, _ => rfl
    | 1, _ => rfl
    | 2, _ => rfl
    | 3, _ => rfl
    | 4, _ => rfl
  have hst := run_storeCells_cells (P := Try.prog) g o Z 0 w (fun j hj => by rw [Nat.add_zero]; exact (ht j (by omega)).1) (fun j hj => by rw [Nat.add_zero]; exact (ht j (by omega)).2) h1
  obtain ⟨m, rfl⟩ : ∃ m, n = m + 1 := ⟨n - 1, by omega⟩
  refine ⟨Z, hl, ?_⟩
  have hv : ∀ w, (zeroValue 49).run Try.prog w = .ok (.agg (metaC (0, 0, [], [], 0)).toArray) w := fun w => by kernel_rfl
  have hu : Try.prog.underlying 22 = some (.slice 49) := by kernel_rfl
  simp [Builtin.clear_, run_underlying hu, hv, ← hZ, hst]
theorem slice_fromM (g i n c : Nat) (h1 : i < n) (h2 : n ≤ c) (w : World) : (Instr.slice 22 (.slice (some ⟨g, 0, none⟩) n c) (some (.int .i64 (i : Int))) none none).run Try.prog w = .ok (.slice (some ⟨g, i * 5, none⟩) (n - i) (c - i)) w := by
  have hu : Try.prog.underlying 22 = some (.slice 49) := by kernel_rfl
  have hz : (Go.sizeOf 49).run Try.prog w = .ok 5 w := by kernel_rfl
  have h3 : i ≤ n := by omega
  have h4 : ¬c = i := by omega
  simp only [Instr.slice, Instr.sliceBounds, Instr.sliceBound, asIntOf, run_underlying hu, go_sem]
  simp [hz, Result.andThen, h3, h4, addM]
theorem slice_toM (g i n c : Nat) (h1 : i ≤ n) (h2 : n ≤ c) (w : World) : (Instr.slice 22 (.slice (some ⟨g, 0, none⟩) n c) none (some (.int .i64 (i : Int))) none).run Try.prog w = .ok (.slice (some ⟨g, 0, none⟩) i c) w := by
  have hu : Try.prog.underlying 22 = some (.slice 49) := by kernel_rfl
  have hz : (Go.sizeOf 49).run Try.prog w = .ok 5 w := by kernel_rfl
  have h3 : i ≤ c := by omega
  simp only [Instr.slice, Instr.sliceBounds, Instr.sliceBound, asIntOf, run_underlying hu, go_sem]
  simp [hz, Result.andThen, h3, addM]

/-- A row of tables that is written over: kept ones ahead, those not yet looked at behind. -/
structure DelS (kp : MetaV → Bool) (W0 W : World) (g n : Nat) (T K : List MetaV) (i j : Nat) : Prop where
  kl : K.length = i
  lo : ∀ t (h : t < K.length), W.rangeAt g (t * 5) (metaC K[t])
  hi : ∀ t (h : t < T.length), j ≤ t → W.rangeAt g (t * 5) (metaC T[t])
  th : W.there g 0 (n * 5)
  kept : Kept (fun k => k = g) W0 W
  isK : K = (T.take j).filter kp
theorem DelS.quiet {kp : MetaV → Bool} {W0 W W' : World} {g n : Nat} {T K : List MetaV} {i j : Nat} (h : DelS kp W0 W g n T K i j) (hg : g < W.heap.size) (hk : Kept (fun _ => False) W W') : DelS kp W0 W' g n T K i j where
  kl := h.kl
  lo t ht := fun j v hv => (hk.cell (p := ⟨g, t * 5 + j, none⟩) hg (fun f => f)).trans (h.lo t ht j v hv)
  hi t ht htj := fun j v hv => (hk.cell (p := ⟨g, t * 5 + j, none⟩) hg (fun f => f)).trans (h.hi t ht htj j v hv)
  th j hj := ⟨by rw [hk.cell (p := ⟨g, 0 + j, none⟩) hg (fun f => f)]; exact (h.th j hj).1, by rw [hk.frozen (p := ⟨g, 0 + j, none⟩) hg (fun f => f)]; exact (h.th j hj).2⟩
  kept := h.kept.trans hk (fun _ f => f.elim)
  isK := h.isK
theorem DelS.skip {kp : MetaV → Bool} {W0 W : World} {g n : Nat} {T K : List MetaV} {i j : Nat} (h : DelS kp W0 W g n T K i j) (hj : j < T.length) (hx : kp T[j] = false) : DelS kp W0 W g n T K i (j + 1) :=
  ⟨h.kl, h.lo, fun t ht hjt => h.hi t ht (by omega), h.th, h.kept, by rw [List.take_succ_eq_append_getElem hj, List.filter_append, ← h.isK]; simp [hx]⟩
theorem DelS.put {kp : MetaV → Bool} {W0 W : World} {g n : Nat} {T K : List MetaV} {i j : Nat} (h : DelS kp W0 W g n T K i j) (hj : j < T.length) (hij : i < j) (hn : T.length = n) (hx : kp T[j] = true) :
    DelS kp W0 (W.setCells g (i * 5) (metaC T[j])) g n T (K ++ [T[j]]) (i + 1) (j + 1) where
  kl := by rw [List.length_append, h.kl]; rfl
  lo t ht := by
    rw [List.length_append, List.length_singleton, h.kl] at ht
    by_cases hti : t < i
    · rw [List.getElem_append_left (by rw [h.kl]; exact hti)]
      exact World.rangeAt_setCells_apart (h.lo t (by rw [h.kl]; exact hti)) _ _ _ (.inr (.inl (by show t * 5 + 5 ≤ _; omega)))
    · obtain rfl : t = i := by omega
      rw [List.getElem_append_right (by rw [h.kl]; exact Nat.le_refl _)]
      simp only [h.kl, Nat.sub_self, List.getElem_singleton]
      exact World.rangeAt_setCells_same W _ _ _ (fun q hq => by
        have h5 : (metaC T[j]).length = 5 := rfl
        have := h.th (t * 5 + q) (by omega)
        rwa [Nat.zero_add] at this)
  hi t ht hjt := World.rangeAt_setCells_apart (h.hi t ht (by omega)) _ _ _ (.inr (.inr (by show i * 5 + 5 ≤ _; omega)))
  th := World.there_setCells h.th _ _ _
  kept := Kept.setCells (X := fun k => k = g) rfl _ _ W h.kept
  isK := by rw [List.take_succ_eq_append_getElem hj, List.filter_append, ← h.isK]; simp [hx]

set_option maxHeartbeats 8000000 in
theorem pDelete (w : World) (B g5 : Nat) (v : Value) (n : Nat) (T : List MetaV) (lo hi : VTxt) (hown : w.ownsRow B 49 5 v n (T.flatMap metaC)) (hlT : T.length = n) (hf : ∀ m ∈ T, FitMV m) (hn : n ≤ 1000)
    (hb : Holds w g5 (keysC lo hi) 56) (hne : v.ownBlock ≠ some g5) :
    Calls Try.prog 38 #[v, .func (.func 39) #[] #[.pointer (some ⟨g5, 0, none⟩)]] w fun e w' =>
      ∃ ad k cap, e = .returned (.slice ad k cap) ∧ MetasW w' ad k (T.filter (kmeet lo hi)) ∧ k ≤ n ∧ k ≤ cap ∧ Kept (fun q => B ≤ q) w w' := by
  obtain ⟨ad, cap, rfl, hM, hnc, hfl, hnn⟩ := owns_metas hown hlT hf
  by_cases h0 : n = 0
  · subst h0
    have hT : T = [] := List.length_eq_zero_iff.1 hlT
    subst hT
    have HI := Lib.hid (noneIdx ad cap (.func (.func 39) #[] #[.pointer (some ⟨g5, 0, none⟩)]))
    go_enter Try.func38, Try.ntmps38
    go_wp2_with (go_at_call 51; refine (HI.out _).mono ?_; rintro e w' ⟨rfl, rfl⟩)
    go_ret
    exact ⟨ad, 0, cap, rfl, hM, Nat.le_refl _, Nat.zero_le _, Kept.refl _ _⟩
  obtain ⟨g, hBg, rfl⟩ : ∃ g, B ≤ g ∧ ad = some ⟨g, 0, none⟩ := by
    rcases hown.2 with ⟨_, h⟩ | ⟨g, c, cur, h, h2, _⟩
    · omega
    · cases h; exact ⟨g, h2, rfl⟩
  have hgl : g < w.heap.size := (hown.lt g rfl).2
  have hne5 : g5 ≠ g := fun e => hne (by rw [e]; rfl)
  have hlen := hM.1
  have hth : w.there g 0 (n * 5) := fun j hj => by
    have hj' : j < (T.flatMap metaC).length := by rw [metasC_length]; omega
    have h9 := World.ownsRow.cells hown (g := g) rfl j _ (List.getElem?_eq_getElem hj')
    rw [Addr.add_mid] at h9
    exact ⟨by rw [h9]; rfl, by have := hown.frozenAt (0 + j); simpa using this⟩
  have hat : ∀ t (h : t < T.length), w.rangeAt g (t * 5) (metaC T[t]) := fun t h => by
    rcases hM.2 with h0 | ⟨b, off, h1, h2, h3⟩
    · rw [h0] at h; simp at h
    · cases h1
      have := (h3 t h).row
      rwa [Nat.zero_add] at this
  have eg : ∀ args w, (callFunc 39 args).run Try.prog w = .ok (.enter 39 args) w := enters_of Try.func39 (by kernel_rfl) rfl
  have hkb : ∀ W, Below w.heap.size w W → Holds W g5 (keysC lo hi) 56 := fun W h => hb.of_block (h.block g5 hb.lt)
  have hp : PredBelow Try.prog 39 #[.pointer (some ⟨g5, 0, none⟩)] (fun x : MetaV => .agg (metaC x).toArray) (fun x => !kmeet lo hi x) w := fun W x h =>
    (pMeet1 W g5 lo hi x (hkb W h)).mono fun e w' he => ⟨he.1, h.trans (he.2.below h.size (fun _ f => f.elim))⟩
  have HIF := AnyQ.slices_IndexFunc { Try.hasMeta with } 5 Try.isAgg49 Try.sizeOf49 metaC (fun _ => rfl) (fun x => !kmeet lo hi x) 39 #[.pointer (some ⟨g5, 0, none⟩)] eg g 0 n cap T w hp (by omega) (by omega) hgl (fun j hj i v hv => by
    rw [getElem!_pos T j hj] at hv
    rw [Nat.zero_add]
    exact hat j hj i v hv)
  rw [List.take_of_length_le (by omega)] at HIF
  obtain ⟨kp, HK⟩ : ∃ kp, Hid (kp = kmeet lo hi) := ⟨kmeet lo hi, rfl⟩
  have HP : Hid (∀ (W : World) (x : MetaV), Kept (fun k => k = g) w W → Calls Try.prog 39 #[metaV x, .pointer (some ⟨g5, 0, none⟩)] W fun e w' => e = .returned (.bool (!kp x)) ∧ Kept (fun _ => False) W w') := fun W x hk => by
    rw [HK.out]
    exact pMeet1 W g5 lo hi x (hb.of_block (hk.block g5 hb.lt hne5))
  have HI := Lib.hid HIF
  have hM0 := Lib.hid hM
  rw [← HK.out]
  clear hp hkb HIF hb hown hM hfl hnn hne
  rcases idxByFrom_spec (fun _ y => !kp y) default T 0 with ⟨e1, hall⟩ | ⟨k0, hk0, e1, ht, hall⟩
  · have hF : T.filter kp = T := List.filter_eq_self.2 (fun x hx => by
      obtain ⟨j, hj, rfl⟩ := List.mem_iff_getElem.1 hx
      have := hall j hj
      rw [getElem!_pos T j hj] at this
      simpa using this)
    rw [hF]
    have HJ : Hid (Calls Try.prog 51 #[.slice (some ⟨g, 0, none⟩) n cap, .func (.func 39) #[] #[.pointer (some ⟨g5, 0, none⟩)]] w fun e w' => e = .returned (.int .i64 (-1)) ∧ Below w.heap.size w w') := HI.out.mono fun e w' h => ⟨by
      rw [h.1, ← HK.out]; exact ret_int e1, h.2⟩
    clear HI HP hth hat hall hF e1
    go_enter Try.func38, Try.ntmps38
    go_wp2_with (go_at_call 51; refine HJ.out.mono ?_; rintro e w' ⟨rfl, hb2⟩)
    go_ret
    have hk2 := Kept.of_below (fun _ => False) hb2
    exact ⟨some ⟨g, 0, none⟩, n, cap, rfl, metas_kept hM0.out hk2, Nat.le_refl _, hnc, hk2.mono (fun _ f => f.elim)⟩
  · have hdrop : kp T[k0] = false := by
      rw [getElem!_pos T k0 hk0] at ht
      simpa using ht
    have hhead : (T.take k0).filter kp = T.take k0 := List.filter_eq_self.2 (fun x hx => by
      obtain ⟨j, hj, rfl⟩ := List.mem_iff_getElem.1 hx
      rw [List.length_take] at hj
      have := hall j (by omega)
      rw [getElem!_pos T j (by omega)] at this
      rw [List.getElem_take]
      simpa using this)
    have HJ : Hid (Calls Try.prog 51 #[.slice (some ⟨g, 0, none⟩) n cap, .func (.func 39) #[] #[.pointer (some ⟨g5, 0, none⟩)]] w fun e w' => e = .returned (.int .i64 (k0 : Int)) ∧ Below w.heap.size w w') := HI.out.mono fun e w' h => ⟨by
      rw [h.1, ← HK.out]; refine ret_int (e1.trans ?_); omega, h.2⟩
    have H0 : Hid (DelS kp w w g n T (T.take k0) k0 (k0 + 1)) := by
      refine ⟨by rw [List.length_take]; omega, fun t ht => ?_, fun t ht _ => hat t ht, hth, Kept.refl _ _, ?_⟩
      · rw [List.length_take] at ht
        rw [List.getElem_take]
        exact hat t (by omega)
      · rw [List.take_succ_eq_append_getElem hk0, List.filter_append, hhead]; simp [hdrop]
    have hk0n : k0 < n := by omega
    have hkne : ((k0 : Int) == -1) = false := beq_eq_false_iff_ne.2 (by omega)
    have hwk : IntKind.i64.wrap ((k0 : Int) + 1) = ((k0 + 1 : Nat) : Int) := by rw [IntWalk.i64_in _ (by omega)]; omega
    clear HI hth hat hall hdrop hhead e1 ht hM0
    go_enter Try.func38, Try.ntmps38
    go_wp2_with (go_at_call 51; refine HJ.out.mono ?_; rintro e w1 ⟨rfl, hb2⟩)
    have H1 := Lib.hid (H0.out.quiet hgl (Kept.of_below (fun _ => False) hb2))
    have hgl1 : g < w1.heap.size := Nat.lt_of_lt_of_le hgl hb2.size
    clear H0 HJ hb2 hk0
    go_loopw [5, 6, 7] (fun s5 s6 _ wr => ∃ (i j : Nat) (K : List MetaV), s5 = .int .i64 (i : Int) ∧ s6 = .int .i64 (j : Int) ∧ i < j ∧ j ≤ n ∧ Hid (DelS kp w wr g n T K i j)) (fun _ j _ _ => n - (intOf j).toNat)
    case atStart => exact ⟨k0, k0 + 1, _, rfl, by first | rfl | go_num, by omega, by omega, H1⟩
    case round =>
      clear H1 hkne hwk
      obtain ⟨i, j, K, rfl, rfl, hij, hj, hD⟩ := hrel
      have j0 : (0 : Int) ≤ (j : Int) := by omega
      have hwj : IntKind.i64.wrap ((j : Int) + 1) = (j : Int) + 1 := IntWalk.i64_in _ (by omega)
      have hgr : g < wr.heap.size := Nat.lt_of_lt_of_le hgl hD.out.kept.size
      by_cases hlt : j < n
      case neg =>
        obtain rfl : j = n := by omega
        have jN : ¬(j : Int) < (j : Int) := by omega
        have i0 : (0 : Int) ≤ (i : Int) := by omega
        have hs1 := fun W => slice_fromM g i j cap hij hnc W
        have hs2 := fun W => slice_toM g i j cap (by omega) hnc W
        obtain ⟨Z, hZ, hcl⟩ := run_clear_metas wr 0 g (i * 5) (j - i) (cap - i) (by omega) (fun q hq => by
          have := hD.out.th (i * 5 + q) (by omega)
          rwa [Nat.zero_add] at this)
        have HE : Hid (MetasW (wr.setCells g (i * 5) Z) (some ⟨g, 0, none⟩) i (T.filter kp) ∧ Kept (fun q => B ≤ q) w (wr.setCells g (i * 5) Z)) := by
          have hK := hD.out.isK
          rw [List.take_of_length_le (by omega)] at hK
          rw [← hK]
          refine ⟨⟨hD.out.kl, .inr ⟨g, 0, rfl, by rw [setCells_size]; exact hgr, fun t ht => ⟨?_, ?_⟩⟩⟩, Kept.setCells (X := fun q => B ≤ q) hBg _ _ wr (hD.out.kept.mono (fun q hq => by subst hq; exact hBg))⟩
          · rw [Nat.zero_add]
            have := hD.out.kl
            exact World.rangeAt_setCells_apart (hD.out.lo t ht) _ _ _ (.inr (.inl (by show t * 5 + 5 ≤ _; omega)))
          · have hm := List.getElem_mem ht
            generalize K[t] = y at hm ⊢
            rw [hK] at hm
            exact hf _ (List.mem_filter.1 hm).1
        clear hD HP
        go_wp2
        go_ret
        exact ⟨some ⟨g, 0, none⟩, i, cap, rfl, HE.out.1, by omega, by omega, HE.out.2⟩
      have jN : (j : Int) < (n : Int) := by omega
      have hjT : j < T.length := by omega
      have hr := hD.out.hi j hjT (Nat.le_refl _)
      obtain ⟨x, hx⟩ : ∃ x, Hid (x = T[j]) := ⟨T[j], rfl⟩
      have HPx : Hid (∀ (W : World), Kept (fun k => k = g) w W → Calls Try.prog 39 #[.agg #[.int .i64 x.1, .int .i64 x.2.1, .string ⟨x.2.2.1.toArray⟩, .string ⟨x.2.2.2.1.toArray⟩, .int .i64 x.2.2.2.2], .pointer (some ⟨g5, 0, none⟩)] W fun e w' => e = .returned (.bool (!kp x)) ∧ Kept (fun _ => False) W w') := fun W h => HP.out W x h
      rw [← hx.out] at hr
      have e0 : wr.cell? ⟨g, j * 5, none⟩ = some (.int .i64 x.1) := hr 0 _ rfl
      have e1 : wr.cell? ⟨g, j * 5 + 1, none⟩ = some (.int .i64 x.2.1) := hr 1 _ rfl
      have e2 : wr.cell? ⟨g, j * 5 + 2, none⟩ = some (.string ⟨x.2.2.1.toArray⟩) := hr 2 _ rfl
      have e3 : wr.cell? ⟨g, j * 5 + 3, none⟩ = some (.string ⟨x.2.2.2.1.toArray⟩) := hr 3 _ rfl
      have e4 : wr.cell? ⟨g, j * 5 + 4, none⟩ = some (.int .i64 x.2.2.2.2) := hr 4 _ rfl
      clear hr
      go_upto_region 8 with fail
      obtain ⟨gx, hgx⟩ : ∃ gx, gx = wr.heap.size := ⟨_, rfl⟩
      have HI8 : Hid (DelS kp w (wr.alloc (.cells #[.int .i64 x.1, .int .i64 x.2.1, .string ⟨x.2.2.1.toArray⟩, .string ⟨x.2.2.2.1.toArray⟩, .int .i64 x.2.2.2.2] 49)) g n T K i j ∧
          Holds (wr.alloc (.cells #[.int .i64 x.1, .int .i64 x.2.1, .string ⟨x.2.2.1.toArray⟩, .string ⟨x.2.2.2.1.toArray⟩, .int .i64 x.2.2.2.2] 49)) gx (metaC x) 49 ∧ g < gx) := by
        rw [hgx]; exact ⟨hD.out.quiet hgr ((Kept.refl _ _).alloc _), Holds.new wr (metaC x) _, hgr⟩
      rw [← hgx]
      generalize wr.alloc (.cells #[.int .i64 x.1, .int .i64 x.2.1, .string ⟨x.2.2.1.toArray⟩, .string ⟨x.2.2.2.1.toArray⟩, .int .i64 x.2.2.2.2] 49) = w8 at HI8 ⊢
      clear hgx hD e0 e1 e2 e3 e4 hgr
      have x0 : w8.cell? ⟨gx, 0, none⟩ = some (.int .i64 x.1) := HI8.out.2.1.cell 0 _ rfl
      have x1 : w8.cell? ⟨gx, 1, none⟩ = some (.int .i64 x.2.1) := HI8.out.2.1.cell 1 _ rfl
      have x2 : w8.cell? ⟨gx, 2, none⟩ = some (.string ⟨x.2.2.1.toArray⟩) := HI8.out.2.1.cell 2 _ rfl
      have x3 : w8.cell? ⟨gx, 3, none⟩ = some (.string ⟨x.2.2.2.1.toArray⟩) := HI8.out.2.1.cell 3 _ rfl
      have x4 : w8.cell? ⟨gx, 4, none⟩ = some (.int .i64 x.2.2.2.2) := HI8.out.2.1.cell 4 _ rfl
      have HC := Lib.hid (HPx.out w8 HI8.out.1.kept)
      obtain ⟨q, hq⟩ : ∃ q, Hid (q = kp x) := ⟨kp x, rfl⟩
      rw [← hq.out] at HC
      clear HPx
      cases q with
      | false =>
        go_wp2_with (go_at_fn 39; refine HC.out.mono ?_; rintro e w9 ⟨rfl, hk9⟩)
        have HN : Hid (DelS kp w w9 g n T K i (j + 1)) := (HI8.out.1.quiet (by have := HI8.out.2.1.lt; have := HI8.out.2.2; omega) hk9).skip hjT (by rw [← hx.out]; exact hq.out.symm)
        clear HC hk9 HI8 x0 x1 x2 x3 x4
        go_wp2
        go_roundw
        case rel => exact ⟨i, j + 1, K, rfl, by first | rfl | go_num, by omega, by omega, HN⟩
        case measure => simp [intOf]; omega
      | true =>
        go_upto_region 9 with (go_at_fn 39; refine HC.out.mono ?_; rintro e w9 ⟨rfl, hk9⟩)
        have HI9 : Hid (DelS kp w w9 g n T K i j ∧ Holds w9 gx (metaC x) 49) := ⟨HI8.out.1.quiet (by have := HI8.out.2.1.lt; have := HI8.out.2.2; omega) hk9, HI8.out.2.1.of_block (hk9.block gx HI8.out.2.1.lt (fun f => f))⟩
        clear HC hk9 HI8 x0 x1 x2 x3 x4
        have x0 : w9.cell? ⟨gx, 0, none⟩ = some (.int .i64 x.1) := HI9.out.2.cell 0 _ rfl
        have x1 : w9.cell? ⟨gx, 1, none⟩ = some (.int .i64 x.2.1) := HI9.out.2.cell 1 _ rfl
        have x2 : w9.cell? ⟨gx, 2, none⟩ = some (.string ⟨x.2.2.1.toArray⟩) := HI9.out.2.cell 2 _ rfl
        have x3 : w9.cell? ⟨gx, 3, none⟩ = some (.string ⟨x.2.2.2.1.toArray⟩) := HI9.out.2.cell 3 _ rfl
        have x4 : w9.cell? ⟨gx, 4, none⟩ = some (.int .i64 x.2.2.2.2) := HI9.out.2.cell 4 _ rfl
        have hth9 : w9.there g (i * 5) 5 := fun q hq => by
          have := HI9.out.1.th (i * 5 + q) (by omega)
          rwa [Nat.zero_add] at this
        have HN : Hid (DelS kp w (w9.setCells g (i * 5) (metaC x)) g n T (K ++ [x]) (i + 1) (j + 1)) := by
          have := HI9.out.1.put hjT hij hlT (by rw [← hx.out]; exact hq.out.symm)
          rw [← hx.out] at this
          exact this
        have i0 : (0 : Int) ≤ (i : Int) := by omega
        have iN : (i : Int) < (n : Int) := by omega
        have hwi : IntKind.i64.wrap ((i : Int) + 1) = (i : Int) + 1 := IntWalk.i64_in _ (by omega)
        clear HI9
        refine wp_region_lit ?_
        iterate 4
          refine wpList_plain rfl fun K hK => ?_
          go_simp
          refine hK _ _ ?_
          clear hK K
        refine wpList_store_mid rfl 49 (.tmp 33) (.tmp 32) rfl g (i * 5) (metaC x).toArray rfl rfl hth9 (by kernel_rfl) (all_oneCell_toArray (meta_one x)) ?_
        refine wpList_nil ?_
        change Exit.then _ _ _ _ (w9.setCells g (i * 5) (metaC x))
        generalize w9.setCells g (i * 5) (metaC x) = w10 at HN ⊢
        clear x0 x1 x2 x3 x4 hth9
        go_wp2
        go_roundw
        case rel => exact ⟨i + 1, j + 1, K ++ [x], by first | rfl | go_num, by first | rfl | go_num, by omega, by omega, HN⟩
        case measure => simp [intOf]; omega

end Go.Proofs.Ytgcepbpdicadnaa

/- The program of layer 16: meeting and bottom. -/
namespace Go.Proofs.Ytgcepbpdicadnaa
open Go.RowKit Go.Proofs Go.Proofs.Pk
set_option maxRecDepth 10000
attribute [local simp] mk_get wrap64_u8 mk_extract ByteArray.mk_append_mk get_1k

set_option maxHeartbeats 2000000 in
theorem pMeeting (w : World) (B : Nat) (ad : Option Addr) (n cap : Nat) (T : List MetaV) (lo hi : VTxt) (hown : w.ownsRow B 49 5 (.slice ad n cap) n (T.flatMap metaC)) (hlT : T.length = n) (hf : ∀ m ∈ T, FitMV m) (hn : n ≤ 1000) :
    Calls Try.prog 23 #[.slice ad n cap, .agg #[.string ⟨lo.toArray⟩, .string ⟨hi.toArray⟩]] w fun e w' =>
      ∃ ad k cap, e = .returned (.slice ad k cap) ∧ MetasW w' ad k (T.filter (kmeet lo hi)) ∧ k ≤ n ∧ k ≤ cap ∧ Kept (fun q => B ≤ q) w w' := by
  have hk : Kept (fun _ => False) w (w.alloc (.cells #[.string ⟨lo.toArray⟩, .string ⟨hi.toArray⟩] 56)) := (Kept.refl _ w).alloc _
  have hb : Holds (w.alloc (.cells #[.string ⟨lo.toArray⟩, .string ⟨hi.toArray⟩] 56)) w.heap.size (keysC lo hi) 56 := Holds.new w _ _
  have HD := Lib.hid (pDelete _ B w.heap.size (.slice ad n cap) n T lo hi (hown.alloc (.cells #[.string ⟨lo.toArray⟩, .string ⟨hi.toArray⟩] 56)) hlT hf hn hb (fun e => by have := (hown.lt _ e).2; omega))
  clear hb hown
  go_enter Try.func23, Try.ntmps23
  go_wp2_with (go_at_call 38; refine HD.out.mono ?_; rintro e w' ⟨a2, k2, c2, rfl, h2, h3, h4, h5⟩)
  go_ret
  exact ⟨a2, k2, c2, rfl, h2, h3, h4, (hk.mono (fun _ f => f.elim)).trans h5 (fun _ h => .inl h)⟩

theorem anyBot (w : World) (ad : Option Addr) (len cap : Nat) (T : List MetaV) (g4 g5 : Nat) (n : Int) (lo hi : VTxt) (h : MetasW w ad len T) (hlen : len ≤ 9223372036854775807) (h4 : Holds w g4 [.int .i64 n] 3) (h5 : Holds w g5 (keysC lo hi) 56) :
    Calls Try.prog 42 #[.slice ad len cap, .func (.func 43) #[] #[.pointer (some ⟨g4, 0, none⟩), .pointer (some ⟨g5, 0, none⟩)]] w fun e w' =>
      e = .returned (.bool (T.any fun m => decide (n < m.2.1) && kmeet lo hi m)) ∧ Kept (fun _ => False) w w' := by
  have hl := h.1
  rcases h.2 with h0 | ⟨b, off, h1, h2, h3⟩
  · subst h0
    obtain rfl : len = 0 := by simpa using hl.symm
    refine (noneBad ad cap _ w).mono ?_
    rintro e w' ⟨rfl, rfl⟩
    exact ⟨rfl, Kept.refl _ _⟩
  · subst h1
    have eg : ∀ args w, (callFunc 43 args).run Try.prog w = .ok (.enter 43 args) w := enters_of Try.func43 (by kernel_rfl) rfl
    have hp : PredBelow Try.prog 43 #[.pointer (some ⟨g4, 0, none⟩), .pointer (some ⟨g5, 0, none⟩)] (fun x : MetaV => .agg (metaC x).toArray) (fun m => decide (n < m.2.1) && kmeet lo hi m) w := fun W x hb =>
      (pBot1 W g4 g5 n lo hi x (h4.of_block (hb.block g4 h4.lt)) (h5.of_block (hb.block g5 h5.lt))).mono fun e w' he => ⟨he.1, hb.trans (he.2.below hb.size (fun _ f => f.elim))⟩
    have HC := AnyQ.slices_ContainsFunc Try.hasMeta 5 Try.isAgg49 Try.sizeOf49 metaC (fun _ => rfl) (fun m => decide (n < m.2.1) && kmeet lo hi m) 43 #[.pointer (some ⟨g4, 0, none⟩), .pointer (some ⟨g5, 0, none⟩)] eg b off len cap T w hp (by omega) hlen h2 (fun j hj i v hv => by
      have := (h3 j hj).row i v (by rw [getElem!_pos T j hj] at hv; exact hv)
      exact this)
    rw [List.take_of_length_le (by omega)] at HC
    exact HC.mono fun e w' h => ⟨h.1, Kept.of_below _ h.2⟩

set_option maxHeartbeats 2000000 in
theorem pBottom (w : World) (ad : Option Addr) (len cap : Nat) (ad2 : Option Addr) (len2 cap2 : Nat) (s : Int) (T : List MetaV) (n : Int) (lo hi : VTxt) (h : MetasW w ad len T) (hlen : len ≤ 9223372036854775807) :
    Calls Try.prog 27 #[.agg #[.slice ad len cap, .slice ad2 len2 cap2, .int .i64 s], .int .i64 n, .agg #[.string ⟨lo.toArray⟩, .string ⟨hi.toArray⟩]] w fun e w' =>
      e = .returned (.bool (!(T.any fun m => decide (n < m.2.1) && kmeet lo hi m))) ∧ Kept (fun _ => False) w w' := by
  obtain ⟨wa, hwa⟩ : ∃ wa, Hid (wa = w.alloc (.cells #[.slice ad len cap, .slice ad2 len2 cap2, .int .i64 s] 25)) := ⟨_, Lib.hid rfl⟩
  have hka : Kept (fun _ => False) w wa := by rw [hwa.out]; exact (Kept.refl _ w).alloc _
  have hA : Holds wa w.heap.size [.slice ad len cap, .slice ad2 len2 cap2, .int .i64 s] 25 := by rw [hwa.out]; exact Holds.new w _ _
  obtain ⟨wb, hwb⟩ : ∃ wb, Hid (wb = wa.alloc (.cells #[.int .i64 n] 3)) := ⟨_, Lib.hid rfl⟩
  have hkb : Kept (fun _ => False) w wb := by rw [hwb.out]; exact hka.alloc _
  have hB4 : Holds wb wa.heap.size [.int .i64 n] 3 := by rw [hwb.out]; exact Holds.new wa _ _
  have hAb : Holds wb w.heap.size [.slice ad len cap, .slice ad2 len2 cap2, .int .i64 s] 25 := by rw [hwb.out]; exact hA.alloc _
  obtain ⟨wc, hwc⟩ : ∃ wc, Hid (wc = wb.alloc (.cells #[.string ⟨lo.toArray⟩, .string ⟨hi.toArray⟩] 56)) := ⟨_, Lib.hid rfl⟩
  have hkc : Kept (fun _ => False) w wc := by rw [hwc.out]; exact hkb.alloc _
  have hB5 : Holds wc wb.heap.size (keysC lo hi) 56 := by rw [hwc.out]; exact Holds.new wb _ _
  have hB4c : Holds wc wa.heap.size [.int .i64 n] 3 := by rw [hwc.out]; exact hB4.alloc _
  have hAc : Holds wc w.heap.size [.slice ad len cap, .slice ad2 len2 cap2, .int .i64 s] 25 := by rw [hwc.out]; exact hAb.alloc _
  have ea : wa.heap.size = w.heap.size + 1 := by rw [hwa.out]; unfold World.alloc; exact Array.size_push _
  have eb : wb.heap.size = w.heap.size + 1 + 1 := by rw [hwb.out, ← ea]; unfold World.alloc; exact Array.size_push _
  rw [ea] at hB4c
  rw [eb] at hB5
  have HC := Lib.hid (anyBot wc ad len cap T (w.heap.size + 1) (w.heap.size + 1 + 1) n lo hi (metas_kept h hkc) hlen hB4c hB5)
  generalize (T.any fun m => decide (n < m.2.1) && kmeet lo hi m) = r at HC ⊢
  have c0 : wc.cell? ⟨w.heap.size, 0, none⟩ = some (.slice ad len cap) := hAc.cell 0 _ rfl
  have HW : Hid (wc = ((w.alloc (.cells #[.slice ad len cap, .slice ad2 len2 cap2, .int .i64 s] 25)).alloc (.cells #[.int .i64 n] 3)).alloc (.cells #[.string ⟨lo.toArray⟩, .string ⟨hi.toArray⟩] 56)) := by
    show _ = _
    rw [hwc.out, hwb.out, hwa.out]
  clear hka hA hkb hB4 hAb hB5 hB4c hAc h ea eb hwa hwb hwc
  go_enter Try.func27, Try.ntmps27
  go_upto_region 1 with fail
  rw [← HW.out]
  clear HW
  go_wp2_with (go_at_call 42; refine HC.out.mono ?_; rintro e w' ⟨rfl, hk2⟩)
  go_ret
  exact ⟨rfl, hkc.trans hk2 (fun _ f => f.elim)⟩

end Go.Proofs.Ytgcepbpdicadnaa

/- Layer 14's landed program: within, rightTable, follows. -/
namespace Go.Proofs.Ytgcepbpdicadnaa
open Go.RowKit Go.Proofs Go.Proofs.Pk
set_option maxRecDepth 10000

theorem within14 (n least most : Int) (w : World) : Calls Try.prog 32 #[.int .i64 n, .int .i64 least, .int .i64 most] w fun e w' => e = .returned (.bool (decide (least ≤ n ∧ n ≤ most))) ∧ w' = w := by
  by_cases h : least ≤ n
  · go_enter Try.func32, Try.ntmps32
    go_wp2
    go_ret
    simp [h]
  · have hb : decide (least ≤ n) = false := decide_eq_false h
    go_enter Try.func32, Try.ntmps32
    go_wp2
    go_ret
    simp [h]

theorem leqV_is (x y : VTxt) : (Op.bytesLess x y || x == y) = decide (¬y < x) := by
  rw [bytesLess_eq]
  by_cases h : y < x
  · have h1 : ¬x < y := vlt_asymm h
    have h2 : x ≠ y := fun e => List.lt_irrefl x (by rw [e] at h; rw [e]; exact h)
    simp [h, h1, h2]
  · by_cases h1 : x < y
    · simp [h, h1]
    · have : x = y := by
        by_cases e : x = y
        · exact e
        · exact absurd (vlt_tri e h1) h
      simp [this, List.lt_irrefl]
theorem metaOk_parts (id lv : Int) (x y : VTxt) (c : Int) : metaOk (id, lv, x, y, c) =
    (decide (1 ≤ id ∧ id ≤ 9007199254740991) && decide (0 ≤ lv ∧ lv ≤ 3) && decide (1 ≤ (x.length : Int) ∧ (x.length : Int) ≤ 80) && decide (1 ≤ (y.length : Int) ∧ (y.length : Int) ≤ 80) && (Op.bytesLess x y || x == y) && decide (1 ≤ c ∧ c ≤ 1048576)) := by
  have e1 : (x ≠ []) ↔ 1 ≤ (x.length : Int) := by cases x <;> simp; omega
  have e2 : (y ≠ []) ↔ 1 ≤ (y.length : Int) := by cases y <;> simp; omega
  rw [leqV_is, Bool.eq_iff_iff]
  unfold metaOk
  simp only [decide_eq_true_eq, Bool.and_eq_true, e1, e2]
  constructor
  · rintro ⟨h1, h2, h3, h4, h5, h6, h7, h8, h9, h10, h11⟩
    exact ⟨⟨⟨⟨⟨⟨h1, h2⟩, h3, by omega⟩, h5, by omega⟩, h7, by omega⟩, h9⟩, h10, h11⟩
  · rintro ⟨⟨⟨⟨⟨⟨h1, h2⟩, h3, h4⟩, h5, h6⟩, h7, h8⟩, h9⟩, h10, h11⟩
    exact ⟨h1, h2, h3, by omega, h5, by omega, h7, by omega, h9, h10, h11⟩

set_option maxHeartbeats 4000000 in
theorem table14 (m : MetaV) (w : World) : Calls Try.prog 33 #[.agg (metaC m).toArray] w fun e w' => e = .returned (.bool (metaOk m)) ∧ Kept (fun _ => False) w w' := by
  obtain ⟨id, lv, x, y, c⟩ := m
  show Calls Try.prog 33 #[.agg #[.int .i64 id, .int .i64 lv, .string ⟨x.toArray⟩, .string ⟨y.toArray⟩, .int .i64 c]] w _
  rw [metaOk_parts]
  go_enter Try.func33, Try.ntmps33
  go_wp2_with (go_at_call 32; refine (within14 _ _ _ _).mono ?_; rintro e w' ⟨rfl, rfl⟩)
  all_goals (go_ret; refine ⟨ret_bool ?_, (Kept.refl _ _).alloc _⟩; simp_all; try (intros; omega))

set_option maxHeartbeats 4000000 in
theorem follows14 (a b : MetaV) (w : World) : Calls Try.prog 34 #[.agg (metaC a).toArray, .agg (metaC b).toArray] w fun e w' => e = .returned (.bool (okM a b)) ∧ Kept (fun _ => False) w w' := by
  obtain ⟨id, lv, x, y, c⟩ := a
  obtain ⟨id2, lv2, x2, y2, c2⟩ := b
  show Calls Try.prog 34 #[.agg #[.int .i64 id, .int .i64 lv, .string ⟨x.toArray⟩, .string ⟨y.toArray⟩, .int .i64 c], .agg #[.int .i64 id2, .int .i64 lv2, .string ⟨x2.toArray⟩, .string ⟨y2.toArray⟩, .int .i64 c2]] w _
  have hk : ∀ w : World, ∀ o o2 : Obj, Kept (fun _ => False) w ((w.alloc o).alloc o2) := fun w o o2 => ((Kept.refl _ _).alloc _).alloc _
  by_cases h : lv = lv2
  · subst h
    by_cases h0 : lv = 0
    · subst h0
      go_enter Try.func34, Try.ntmps34
      go_wp2
      go_ret
      exact ⟨ret_bool (by simp [okM]), hk _ _ _⟩
    · have hb : (lv == 0) = false := by simpa using h0
      go_enter Try.func34, Try.ntmps34
      go_wp2
      go_ret
      exact ⟨ret_bool (by rw [bytesLess_eq]; simp [okM, h0]), hk _ _ _⟩
  · have hb : (lv == lv2) = false := by simpa using h
    go_enter Try.func34, Try.ntmps34
    go_wp2
    go_ret
    exact ⟨ret_bool (by simp [okM, h]), hk _ _ _⟩

end Go.Proofs.Ytgcepbpdicadnaa
