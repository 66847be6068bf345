/- Layer 14's landed program: Decode. -/
import Derived.Test.YtjdolimeibpacaaGreatVm14
import Derived.Test.YtjdolimeibpacaaGreatVi14
import Derived.Test.YtjdolimeibpacaaGreatVh14
import Derived.Test.YtjdolimeibpacaaGreatVnB
import Derived.Test.YtjdolimeibpacaaGreatOrd2
namespace Go.Proofs.YtjdolimeibpacaaGreat
open Go.RowKit Go.Proofs Go.Proofs.Pk
set_option maxRecDepth 10000

theorem metaP_fit (o : Option VTxt) : FitMV (metaP o).1 := by
  unfold metaP FitMV FitV
  have a := numP_range MaxN o
  have b := numP_range MaxN (numP MaxN o).2
  have c := numP_range MaxN (txtP (txtP (numP MaxN (numP MaxN o).2).2).2).2
  simp only
  omega
theorem metaP_len (o : Option VTxt) : (restO (metaP o).2).length ≤ (restO o).length := by
  unfold metaP
  simp only
  have a := numP_len MaxN o
  have b := numP_len MaxN (numP MaxN o).2
  have c := txtP_len (numP MaxN (numP MaxN o).2).2
  have d := txtP_len (txtP (numP MaxN (numP MaxN o).2).2).2
  have e := numP_len MaxN (txtP (txtP (numP MaxN (numP MaxN o).2).2).2).2
  omega

theorem numsP_len (most : Nat) (o : Option VTxt) : (restO (numsP most o).2).length ≤ (restO o).length := by
  unfold numsP
  generalize (numP most o).1.toNat = n
  have h := numP_len most o
  generalize (numP most o).2 = o1 at h ⊢
  induction n with
  | zero => exact h
  | succ k ih =>
    rw [manyP_snoc]
    exact Nat.le_trans (numP_len MaxN _) ih

/-- Decode on its way: the result's box, the reader, the edit's box. -/
structure DcP (w W : World) (o : Option VTxt) (C : List Value) : Prop where
  res : Holds W w.heap.size [.slice none 0 0, .slice none 0 0, .slice none 0 0, .slice none 0 0, .int .i64 0] 25
  rd : RdP W (w.heap.size + 1) o
  box : Holds W (w.heap.size + 2) C 25
  kept : Kept (fun _ => False) w W
theorem DcP.keptX {w W W' : World} {o : Option VTxt} {C : List Value} {X : Nat → Prop} (h : DcP w W o C) (hk : Kept X W W') (hx : ∀ k, X k → w.heap.size + 3 ≤ k) : DcP w W' o C :=
  ⟨Holds.of_block h.res (hk.block _ (Holds.lt h.res) (fun f => by have := hx _ f; omega)), h.rd.kept hk (fun f => by have := hx _ f; omega), Holds.of_block h.box (hk.block _ (Holds.lt h.box) (fun f => by have := hx _ f; omega)), h.kept.trans hk (fun k f => .inr (by have := hx _ f; omega))⟩
theorem DcP.read {w W W' : World} {o o' : Option VTxt} {C : List Value} (h : DcP w W o C) (hr : RdP W' (w.heap.size + 1) o') (hk : Kept (fun k => k = w.heap.size + 1) W W') : DcP w W' o' C :=
  ⟨Holds.of_block h.res (hk.block _ (Holds.lt h.res) (fun f => by omega)), hr, Holds.of_block h.box (hk.block _ (Holds.lt h.box) (fun f => by omega)), h.kept.trans hk (fun k f => .inr (by omega))⟩
theorem DcP.set {w W : World} {o : Option VTxt} {C : List Value} (h : DcP w W o C) (k : Nat) (v : Value) : DcP w (W.setCell ⟨w.heap.size + 2, k, none⟩ v) o (C.set k v) ∧ Kept (fun k => k = w.heap.size + 2) W (W.setCell ⟨w.heap.size + 2, k, none⟩ v) := by
  have hk : Kept (fun k => k = w.heap.size + 2) W (W.setCell ⟨w.heap.size + 2, k, none⟩ v) := (Kept.refl (fun k => k = w.heap.size + 2) W).setCell (p := ⟨w.heap.size + 2, k, none⟩) rfl _
  exact ⟨⟨Holds.of_block h.res (hk.block _ (Holds.lt h.res) (fun f => by omega)), h.rd.kept hk (fun f => by omega), Holds.set h.box k v, h.kept.trans hk (fun k f => .inr (by omega))⟩, hk⟩
theorem own_up {w W W' : World} {k n sz : Nat} {e : TypeId} {v : Value} {X : List Value} (h : W.ownsRow (w.heap.size + 3) e sz v n X) (hk : Kept (fun q => q = w.heap.size + k) W W') (hk3 : k < 3) : W'.ownsRow (w.heap.size + 3) e sz v n X :=
  owns_of_block h fun g hg => hk.block g (h.lt g hg).2 (by have := (h.lt g hg).1; omega)

set_option maxHeartbeats 2000000 in
/-- Decode returns what its result's box holds, and the error in slot 3. -/
theorem dc_door {R : Ending → World → Prop} {W : World} {g : Nat} {a : Option Addr} {n p : Nat} {a2 : Option Addr} {n2 p2 : Nat} {a3 : Option Addr} {n3 p3 : Nat} {a4 : Option Addr} {n4 p4 : Nat} {s : Int} {ev : Value} (l : List Value) (hP : Holds W g [.slice a n p, .slice a2 n2 p2, .slice a3 n3 p3, .slice a4 n4 p4, .int .i64 s] 25)
    (h2 : l[2]? = some (.pointer (some ⟨g, 0, none⟩))) (h3 : l[3]? = some ev) (hR : R (.returned (.tuple #[edC a n p a2 n2 p2 a3 n3 p3 a4 n4 p4 s, ev])) W) : bodyPost Tryz.prog Tryz.f7 R Exit.ret { tmps := l.toArray, defers := [] } W := by
  have d0 := Holds.cell hP 0 _ rfl
  have d1 := Holds.cell hP 1 _ rfl
  have d2 := Holds.cell hP 2 _ rfl
  have d3 := Holds.cell hP 3 _ rfl
  have d4 := Holds.cell hP 4 _ rfl
  refine bodyPost_ret (v := .tuple #[edC a n p a2 n2 p2 a3 n3 p3 a4 n4 p4 s, ev]) ?_ rfl hR
  rw [results_cell_tmp rfl]
  have e2 : l.toArray.getD 2 undef = .pointer (some ⟨g, 0, none⟩) := by simp [Array.getD_eq_getD_getElem?, h2]
  have e3 : l.toArray.getD 3 undef = ev := by simp [Array.getD_eq_getD_getElem?, h3]
  show ((asAddr (l.toArray.getD 2 undef)).run _ _).andThen _ = _
  rw [e2, e3]
  go_simp
  rfl
theorem dc_fail {w W : World} {Z : EdV × Bool} (l : List Value) (hZ : Z = (zeroE, false)) (hP : Holds W w.heap.size [.slice none 0 0, .slice none 0 0, .slice none 0 0, .slice none 0 0, .int .i64 0] 25) (hk : Kept (fun _ => False) w W)
    (h2 : l[2]? = some (.pointer (some ⟨w.heap.size, 0, none⟩))) (h3 : l[3]? = some (.iface 49 (.int .i64 3))) :
    bodyPost Tryz.prog Tryz.f7 (DcK w Z) Exit.ret { tmps := l.toArray, defers := [] } W := by
  subst hZ
  refine dc_door l hP h2 h3 ⟨none, 0, 0, none, 0, 0, none, 0, 0, none, 0, 0, ?_, ⟨(metas_none W).1, (metas_none W).2, (ints_none W).1, (ints_none W).2, (ints_none W).1, (ints_none W).2, (ints_none W).1, (ints_none W).2, by unfold FitV zeroE; simp only; omega⟩, hk⟩
  simp [errV, zeroE]
theorem DcP.zeroed {w W : World} {o : Option VTxt} {C : List Value} (h : DcP w W o C) :
    Holds (((((W.setCell ⟨w.heap.size, 0, none⟩ (.slice none 0 0)).setCell ⟨w.heap.size, 1, none⟩ (.slice none 0 0)).setCell ⟨w.heap.size, 2, none⟩ (.slice none 0 0)).setCell ⟨w.heap.size, 3, none⟩ (.slice none 0 0)).setCell ⟨w.heap.size, 4, none⟩ (.int .i64 0)) w.heap.size [.slice none 0 0, .slice none 0 0, .slice none 0 0, .slice none 0 0, .int .i64 0] 25 ∧
      Kept (fun _ => False) w (((((W.setCell ⟨w.heap.size, 0, none⟩ (.slice none 0 0)).setCell ⟨w.heap.size, 1, none⟩ (.slice none 0 0)).setCell ⟨w.heap.size, 2, none⟩ (.slice none 0 0)).setCell ⟨w.heap.size, 3, none⟩ (.slice none 0 0)).setCell ⟨w.heap.size, 4, none⟩ (.int .i64 0)) :=
  ⟨((((Holds.set h.res 0 (.slice none 0 0)).set 1 (.slice none 0 0)).set 2 (.slice none 0 0)).set 3 (.slice none 0 0)).set 4 (.int .i64 0), ((((h.kept.setNew (p := ⟨w.heap.size, 0, none⟩) (Nat.le_refl _) _).setNew (p := ⟨w.heap.size, 1, none⟩) (Nat.le_refl _) _).setNew (p := ⟨w.heap.size, 2, none⟩) (Nat.le_refl _) _).setNew (p := ⟨w.heap.size, 3, none⟩) (Nat.le_refl _) _).setNew (p := ⟨w.heap.size, 4, none⟩) (Nat.le_refl _) _⟩

set_option maxHeartbeats 8000000 in
theorem decode14 (b : VTxt) (w : World) (hb : (b.length : Int) ≤ 140737488355328) : Calls Tryz.prog 7 #[.string ⟨b.toArray⟩] w (DcK w (decE b)) := by
  obtain ⟨i0, hi, hz0, hz1, hz2⟩ := parts_of meta_info
  obtain ⟨Z, hZ⟩ : ∃ Z, Hid (Z = decE b) := ⟨_, Lib.hid rfl⟩
  rw [← hZ.out]
  obtain ⟨EO, hEO⟩ : ∃ EO, Hid (EO = edP b) := ⟨_, Lib.hid rfl⟩
  have HZ : Hid (Z = if EO.2 = some [] ∧ edOk EO.1 = true then (EO.1, true) else (zeroE, false)) := Lib.hid (by rw [hZ.out, hEO.out]; exact decE_edP b)
  have hEO2 := hEO.out
  unfold edP at hEO2
  have hEO3 := Lib.hid hEO2
  clear hZ hEO hEO2
  have H0 : Hid (DcP w (((w.alloc (.cells #[.slice none 0 0, .slice none 0 0, .slice none 0 0, .slice none 0 0, .int .i64 0] 25)).alloc (.cells #[.string ⟨b.toArray⟩, .bool false] 66)).alloc (.cells #[.slice none 0 0, .slice none 0 0, .slice none 0 0, .slice none 0 0, .int .i64 0] 25)) (some b) [.slice none 0 0, .slice none 0 0, .slice none 0 0, .slice none 0 0, .int .i64 0]) := Lib.hid (by
    have h1 := Holds.new w [.slice none 0 0, .slice none 0 0, .slice none 0 0, .slice none 0 0, .int .i64 0] 25
    have k1 := (Kept.refl (fun _ => False) w).alloc (.cells #[.slice none 0 0, .slice none 0 0, .slice none 0 0, .slice none 0 0, .int .i64 0] 25)
    have e1 : (w.alloc (.cells #[.slice none 0 0, .slice none 0 0, .slice none 0 0, .slice none 0 0, .int .i64 0] 25)).heap.size = w.heap.size + 1 := Array.size_push _
    change Holds (w.alloc (.cells #[.slice none 0 0, .slice none 0 0, .slice none 0 0, .slice none 0 0, .int .i64 0] 25)) _ _ _ at h1
    generalize w.alloc (.cells #[.slice none 0 0, .slice none 0 0, .slice none 0 0, .slice none 0 0, .int .i64 0] 25) = w1 at h1 k1 e1 ⊢
    have h2 := Holds.new w1 [.string ⟨b.toArray⟩, .bool false] 66
    have k2 := (Kept.refl (fun _ => False) w1).alloc (.cells #[.string ⟨b.toArray⟩, .bool false] 66)
    have e2 : (w1.alloc (.cells #[.string ⟨b.toArray⟩, .bool false] 66)).heap.size = w1.heap.size + 1 := Array.size_push _
    change Holds (w1.alloc (.cells #[.string ⟨b.toArray⟩, .bool false] 66)) _ _ _ at h2
    generalize w1.alloc (.cells #[.string ⟨b.toArray⟩, .bool false] 66) = w2 at h2 k2 e2 ⊢
    have h3 := Holds.new w2 [.slice none 0 0, .slice none 0 0, .slice none 0 0, .slice none 0 0, .int .i64 0] 25
    have k3 := (Kept.refl (fun _ => False) w2).alloc (.cells #[.slice none 0 0, .slice none 0 0, .slice none 0 0, .slice none 0 0, .int .i64 0] 25)
    change Holds (w2.alloc (.cells #[.slice none 0 0, .slice none 0 0, .slice none 0 0, .slice none 0 0, .int .i64 0] 25)) _ _ _ at h3
    rw [e1] at h2
    rw [e2, e1] at h3
    have h1' : Holds w2 w.heap.size _ _ := Holds.of_block h1 (k2.block _ (Holds.lt h1) (fun f => f))
    exact ⟨Holds.of_block h1' (k3.block _ (Holds.lt h1') (fun f => f)), Holds.of_block h2 (k3.block _ (Holds.lt h2) (fun f => f)), h3, (k1.trans k2 (fun _ f => f.elim)).trans k3 (fun _ f => f.elim)⟩)
  have HC0 : Hid (∀ W C, DcP w W (some b) C → Calls Tryz.prog 24 #[.pointer (some ⟨w.heap.size + 1, 0, none⟩), .int .i64 200] W fun e w' => e = .returned (.int .i64 (numP 200 (some b)).1) ∧ DcP w w' (numP 200 (some b)).2 C) :=
    Lib.hid fun W C hW => (num14 (w.heap.size + 1) (some b) 200 W (by show b.length ≤ _; unfold maxLen; omega) hW.rd).mono fun e w' h => ⟨h.1, hW.read h.2.1 h.2.2⟩
  have hr0 := numP_range 200 (some b)
  have hl0 := numP_len 200 (some b)
  have htb : tabsP (some b) = manyP metaP (numP 200 (some b)).1.toNat (numP 200 (some b)).2 := rfl
  generalize numP 200 (some b) = z at HC0 hr0 hl0 htb
  obtain ⟨nI, o1⟩ := z
  simp only at HC0 hr0 hl0 htb
  obtain ⟨n, rfl⟩ := Int.eq_ofNat_of_zero_le hr0.1
  rw [Int.toNat_natCast] at htb
  have hn200 : n ≤ 200 := by have := hr0.2.1; omega
  have HTB := Lib.hid htb
  have HLb : Hid ((restO o1).length ≤ b.length) := Lib.hid hl0
  have HLe : Hid (∀ k, (restO (manyP metaP k o1).2).length ≤ b.length) := Lib.hid (by
    intro k
    induction k with
    | zero => exact hl0
    | succ k ih =>
      rw [manyP_snoc]
      exact Nat.le_trans (metaP_len _) ih)
  have HFt : Hid (∀ k, ∀ m ∈ (manyP metaP k o1).1, FitMV m) := Lib.hid (by
    intro k
    induction k with
    | zero => intro x hx; cases hx
    | succ k ih =>
      rw [manyP_snoc]
      intro x hx
      rcases List.mem_append.1 hx with h | h
      · exact ih x h
      · rw [List.mem_singleton] at h
        subst h
        exact metaP_fit _)
  have HMax : Hid (b.length ≤ maxLen) := Lib.hid (by unfold maxLen; omega)
  clear hr0 hl0 htb hb
  go_enter Tryz.func7, Tryz.ntmps7
  go_upto_region 3 with (fail)
  change Code.wp _ _ _ _ (((w.alloc (.cells #[.slice none 0 0, .slice none 0 0, .slice none 0 0, .slice none 0 0, .int .i64 0] 25)).alloc (.cells #[.string ⟨b.toArray⟩, .bool false] 66)).alloc (.cells #[.slice none 0 0, .slice none 0 0, .slice none 0 0, .slice none 0 0, .int .i64 0] 25))
  generalize ((w.alloc (.cells #[.slice none 0 0, .slice none 0 0, .slice none 0 0, .slice none 0 0, .int .i64 0] 25)).alloc (.cells #[.string ⟨b.toArray⟩, .bool false] 66)).alloc (.cells #[.slice none 0 0, .slice none 0 0, .slice none 0 0, .slice none 0 0, .int .i64 0] 25) = w0 at H0 ⊢
  go_wp2_with fail
  refine (HC0.out _ _ H0.out).mono ?_
  clear HC0
  rintro e w1 ⟨rfl, hd⟩
  have HI : Hid (DcP w w1 (manyP metaP 0 o1).2 [.slice none 0 0, .slice none 0 0, .slice none 0 0, .slice none 0 0, .int .i64 0] ∧ w1.ownsRow (w.heap.size + 3) 45 5 (.slice none 0 0) 0 ((manyP metaP 0 o1).1.flatMap metaC)) := Lib.hid ⟨hd, World.ownsRow_nil _ _ _ _⟩
  clear hd H0
  go_wp2
  obtain ⟨wq, hwq⟩ : ∃ wq, wq = w1 := ⟨_, rfl⟩
  rw [← hwq] at HI ⊢
  clear hwq
  go_loopw [9] (fun i wr => ∃ (k : Nat) (ad : Option Addr) (cap : Nat), i = .int .i64 (k : Int) ∧ k ≤ n ∧ Hid (DcP w wr (manyP metaP k o1).2 [.slice ad k cap, .slice none 0 0, .slice none 0 0, .slice none 0 0, .int .i64 0] ∧ wr.ownsRow (w.heap.size + 3) 45 5 (.slice ad k cap) k ((manyP metaP k o1).1.flatMap metaC))) (fun i _ => n - (intOf i).toNat)
  case atStart => exact ⟨0, none, 0, rfl, Nat.zero_le _, HI⟩
  case round =>
    obtain ⟨k, ad, cap, rfl, hk, hI⟩ := hrel
    clear HI
    have k0 : (0 : Int) ≤ (k : Int) := by omega
    have hwk : IntKind.i64.wrap ((k : Int) + 1) = (k : Int) + 1 := IntWalk.i64_in _ (by omega)
    by_cases hlt : k < n
    · have kN : (k : Int) < (n : Int) := by omega
      have HC : Hid (∀ W C, DcP w W (manyP metaP k o1).2 C → Calls Tryz.prog 25 #[.pointer (some ⟨w.heap.size + 1, 0, none⟩)] W fun e w' => e = .returned (.agg (metaC (metaP (manyP metaP k o1).2).1).toArray) ∧ DcP w w' (metaP (manyP metaP k o1).2).2 C ∧ Kept (fun q => q = w.heap.size + 1) W w') :=
        Lib.hid fun W C hW => (tab14 (w.heap.size + 1) _ W (Nat.le_trans (HLe.out k) HMax.out) hW.rd).mono fun e w' h => ⟨h.1, hW.read h.2.1 h.2.2, h.2.2⟩
      have hst : Hid (manyP metaP (k + 1) o1 = ((manyP metaP k o1).1 ++ [(metaP (manyP metaP k o1).2).1], (metaP (manyP metaP k o1).2).2)) := Lib.hid (manyP_snoc _ _ _)
      generalize metaP (manyP metaP k o1).2 = z at HC hst
      obtain ⟨m, o2⟩ := z
      simp only at HC hst
      go_upto_region 5 with (fail)
      have hS0 : DcP w wr.drew (manyP metaP k o1).2 [.slice ad k cap, .slice none 0 0, .slice none 0 0, .slice none 0 0, .int .i64 0] := hI.out.1.keptX ((Kept.refl (fun _ => False) wr).drewN 1) (fun _ f => f.elim)
      have ho0 : wr.drew.ownsRow (w.heap.size + 3) 45 5 (.slice ad k cap) k ((manyP metaP k o1).1.flatMap metaC) := owns_of_block hI.out.2 fun g hg => rfl
      have hS : (fun W : World => W.cell? ⟨w.heap.size + 2, 0, none⟩ = some (.slice ad k cap)) wr.drew := Holds.cell hS0.box 0 _ rfl
      refine wp_region_until (fun W : World => W.cell? ⟨w.heap.size + 2, 0, none⟩ = some (.slice ad k cap)) 6 (by kernel_rfl) ?_
      generalize wr.drew = wd at hS hS0 ho0 ⊢
      clear hI
      refine wpAnyU_take (i := 0) (v := (.pointer (some ⟨w.heap.size + 2, 0, none⟩))) (some 11) rfl rfl (by kernel_rfl) (by kernel_rfl) (by kernel_rfl) (by kernel_rfl) (fun _ _ _ h => h) hS (yields_of (by kernel_rfl) (fun w hw => by kernel_rfl)) ?_
      refine wpAnyU_take (i := 1) (v := (.slice ad k cap)) (some 12) rfl rfl (by kernel_rfl) (by kernel_rfl) (by kernel_rfl) (by kernel_rfl) (fun _ _ _ h => h) hS (yields_of (by kernel_rfl) (fun w hw => by have h0 := hw; go_simp)) ?_
      refine wpAnyU_call (i := 2) (f := 25) (args := #[.pointer (some ⟨w.heap.size + 1, 0, none⟩)]) (some 13) rfl rfl (by kernel_rfl) (by kernel_rfl) (by kernel_rfl) ?_
      refine (HC.out _ _ hS0).mono ?_
      clear HC
      rintro e wx ⟨rfl, hd1, hk1⟩
      refine ⟨_, rfl, fun _ => Holds.cell hd1.box 0 _ rfl, ?_⟩
      have ho1 := own_up ho0 hk1 (by omega)
      clear hS hS0 ho0 hk1
      have hka := (Kept.refl (fun _ => False) wx).alloc (.cells (metaC m).toArray 45)
      have hd2 := hd1.keptX hka (fun _ f => f.elim)
      have ho2 := ho1.alloc (.cells (metaC m).toArray 45)
      have hNb := Holds.new wx (metaC m) 45
      change Holds (wx.alloc (.cells (metaC m).toArray 45)) _ _ _ at hNb
      refine wpAnyU_run (i := 3) (v := .slice (some ⟨wx.heap.size, 0, none⟩) 1 1) (w' := wx.alloc (.cells (metaC m).toArray 45)) (some 14) rfl rfl (by kernel_rfl) (by kernel_rfl) (by kernel_rfl) (fun _ => Holds.cell hd2.box 0 _ rfl) ?_
      generalize wx.alloc (.cells (metaC m).toArray 45) = wy at hd2 ho2 hNb ⊢
      obtain ⟨v2, wz, happ, ho3, hgr, _⟩ := run_append_own (P := Tryz.prog) wy (w.heap.size + 3) 22 22 45 i0 _ 5 56 Tryz.underlying22 hi hz0 hz1 hz2 rfl (by decide) (.slice ad k cap) k _ ho2 ⟨wx.heap.size, 0, none⟩ 1 1 (metaC m) rfl (by
        intro q u hq
        rw [add0]
        exact hNb.cell q u hq) (meta_one m) (by unfold maxLen; omega) (by omega) (by have := Holds.lt hd2.box; omega)
      have hx : ∃ a p, v2 = .slice a (k + 1) p := by
        rcases ho3.2 with ⟨k1, k2⟩ | ⟨g, cap, cur, k1, _⟩
        · exact absurd k2 (by omega)
        · exact ⟨_, _, k1⟩
      obtain ⟨a2, p2, rfl⟩ := hx
      have hkB := kept_grown (Kept.refl (fun q => (Value.slice ad k cap).ownBlock = some q) wy) hgr (fun b hb => .inl hb)
      have hd3 := hd2.keptX hkB (fun q hq => (ho2.lt q hq).1)
      refine wpAnyU_run (i := 4) (v := .slice a2 (k + 1) p2) (w' := wz) (some 15) rfl rfl (by kernel_rfl) (by kernel_rfl) (exec_append (s := .tmp 12) (x := .tmp 14) happ (by rfl) (by rfl) (by kernel_rfl) (by kernel_rfl)) (fun _ => Holds.cell hd3.box 0 _ rfl) ?_
      refine wpAnyU_run (i := 5) (v := .pointer (some ⟨w.heap.size + 2, 0, none⟩)) (w' := wz) (some 16) rfl rfl (by kernel_rfl) (by kernel_rfl) (by kernel_rfl) (fun _ => Holds.cell hd3.box 0 _ rfl) ?_
      obtain ⟨hd4, hk4⟩ := hd3.set 0 (.slice a2 (k + 1) p2)
      have ho4 := own_up ho3 hk4 (by omega)
      have c0 := Holds.cell hd3.box 0 _ rfl
      have f0 := Holds.free hd3.box 0
      refine wpAnyU_skip (i := 6) (w' := wz.setCell ⟨w.heap.size + 2, 0, none⟩ (.slice a2 (k + 1) p2)) none rfl rfl (by kernel_rfl) (by kernel_rfl) (by simp only [put_lit, List.set_cons_succ, List.set_cons_zero]; go_simp) (fun h => absurd h (by decide)) ?_
      refine wpAnyU_done (by kernel_rfl) ?_ _
      simp only [put_none, put_lit, List.set_cons_succ, List.set_cons_zero]
      have HN : Hid (DcP w (wz.setCell ⟨w.heap.size + 2, 0, none⟩ (.slice a2 (k + 1) p2)) (manyP metaP (k + 1) o1).2 [.slice a2 (k + 1) p2, .slice none 0 0, .slice none 0 0, .slice none 0 0, .int .i64 0] ∧ (wz.setCell ⟨w.heap.size + 2, 0, none⟩ (.slice a2 (k + 1) p2)).ownsRow (w.heap.size + 3) 45 5 (.slice a2 (k + 1) p2) (k + 1) ((manyP metaP (k + 1) o1).1.flatMap metaC)) := Lib.hid (by
        rw [hst.out]
        exact ⟨hd4, by rw [List.flatMap_append]; simpa using ho4⟩)
      generalize wz.setCell ⟨w.heap.size + 2, 0, none⟩ (.slice a2 (k + 1) p2) = wf at HN ⊢
      clear hd1 ho1 hka hd2 ho2 hNb happ ho3 hgr hkB hd3 hd4 hk4 ho4 c0 f0 hst
      go_wp2
      go_roundw
      case rel => exact ⟨k + 1, a2, p2, by first | rfl | go_num, by omega, HN⟩
      case measure => simp [intOf]; omega
    · have kN : ¬(k : Int) < (n : Int) := by omega
      have hke : k = n := by omega
      subst hke
      have HA : Hid ((tabsP (some b)).1.length = k ∧ (∀ m ∈ (tabsP (some b)).1, FitMV m) ∧ (restO (tabsP (some b)).2).length ≤ b.length) := Lib.hid (by rw [HTB.out]; exact ⟨manyP_len _ _ _, HFt.out k, HLe.out k⟩)
      have H1 : Hid (DcP w wr (tabsP (some b)).2 [.slice ad k cap, .slice none 0 0, .slice none 0 0, .slice none 0 0, .int .i64 0] ∧ wr.ownsRow (w.heap.size + 3) 45 5 (.slice ad k cap) k ((tabsP (some b)).1.flatMap metaC)) := Lib.hid (by rw [HTB.out]; exact hI.out)
      clear hI HLe HFt HTB
      have hEO4 := hEO3.out
      clear hEO3
      generalize tabsP (some b) = z at HA H1 hEO4
      obtain ⟨A, o2⟩ := z
      simp only at HA H1 hEO4
      have hEO3 := Lib.hid hEO4
      clear hEO4
      have HC0 : Hid (∀ W C, DcP w W o2 C → Calls Tryz.prog 26 #[.pointer (some ⟨w.heap.size + 1, 0, none⟩), .int .i64 200] W fun e w' => ∃ ad m cap, e = .returned (.slice ad m cap) ∧ w'.ownsRow (w.heap.size + 3) 3 1 (.slice ad m cap) m ((numsP 200 o2).1.map intC) ∧ (numsP 200 o2).1.length = m ∧ m ≤ 200 ∧ Fit64 (numsP 200 o2).1 ∧ DcP w w' (numsP 200 o2).2 C ∧ Kept (fun q => q = w.heap.size + 1) W w') :=
        Lib.hid fun W C hW => (nums14 (w.heap.size + 1) o2 200 W (by omega) (Nat.le_trans HA.out.2.2 HMax.out) hW.rd).mono (by
          rintro e w' ⟨ad, m, cap, h1, h2, h3, h4, h5, h6, h7, h8⟩
          exact ⟨ad, m, cap, h1, owns_base h2 (by have := Holds.lt hW.box; omega), h3, h4, h5, hW.read h6 h8, h8⟩)
      have HL0 : Hid ((restO (numsP 200 o2).2).length ≤ b.length) := Lib.hid (Nat.le_trans (numsP_len _ _) HA.out.2.2)
      have hEO4 := hEO3.out
      clear hEO3
      generalize numsP 200 o2 = z at HC0 HL0 hEO4
      obtain ⟨D, o3⟩ := z
      simp only at HC0 HL0 hEO4
      have hEO3 := Lib.hid hEO4
      clear hEO4
      go_wp2_with fail
      refine (HC0.out _ _ H1.out.1).mono ?_
      clear HC0
      rintro e wn0 ⟨ad2, k2, cap2, rfl, ho, hl0, hm0, hf0, hd, hkr⟩
      obtain ⟨hds, hks⟩ := hd.set 1 (.slice ad2 k2 cap2)
      have c1 := Holds.cell hd.box 1 _ rfl
      have f1 := Holds.free hd.box 1
      have G0 : Hid (DcP w (wn0.setCell ⟨w.heap.size + 2, 1, none⟩ (.slice ad2 k2 cap2)) o3 [.slice ad k cap, .slice ad2 k2 cap2, .slice none 0 0, .slice none 0 0, .int .i64 0] ∧ (wn0.setCell ⟨w.heap.size + 2, 1, none⟩ (.slice ad2 k2 cap2)).ownsRow (w.heap.size + 3) 45 5 (.slice ad k cap) k (A.flatMap metaC) ∧ (wn0.setCell ⟨w.heap.size + 2, 1, none⟩ (.slice ad2 k2 cap2)).ownsRow (w.heap.size + 3) 3 1 (.slice ad2 k2 cap2) k2 (D.map intC)) := Lib.hid ⟨hds, own_up (own_up H1.out.2 hkr (by omega)) hks (by omega), own_up ho hks (by omega)⟩
      have HI0 := Lib.hid (And.intro hl0 (And.intro hm0 hf0))
      clear ho hl0 hm0 hf0 hd hkr hds hks H1
      go_upto_region 8 with (fail)
      clear c1 f1
      change Code.wp _ _ _ _ (wn0.setCell ⟨w.heap.size + 2, 1, none⟩ (.slice ad2 k2 cap2))
      generalize wn0.setCell ⟨w.heap.size + 2, 1, none⟩ (.slice ad2 k2 cap2) = ws0 at G0 ⊢
      have HC1 : Hid (∀ W C, DcP w W o3 C → Calls Tryz.prog 26 #[.pointer (some ⟨w.heap.size + 1, 0, none⟩), .int .i64 20] W fun e w' => ∃ ad m cap, e = .returned (.slice ad m cap) ∧ w'.ownsRow (w.heap.size + 3) 3 1 (.slice ad m cap) m ((numsP 20 o3).1.map intC) ∧ (numsP 20 o3).1.length = m ∧ m ≤ 20 ∧ Fit64 (numsP 20 o3).1 ∧ DcP w w' (numsP 20 o3).2 C ∧ Kept (fun q => q = w.heap.size + 1) W w') :=
        Lib.hid fun W C hW => (nums14 (w.heap.size + 1) o3 20 W (by omega) (Nat.le_trans HL0.out HMax.out) hW.rd).mono (by
          rintro e w' ⟨ad, m, cap, h1, h2, h3, h4, h5, h6, h7, h8⟩
          exact ⟨ad, m, cap, h1, owns_base h2 (by have := Holds.lt hW.box; omega), h3, h4, h5, hW.read h6 h8, h8⟩)
      have HL1 : Hid ((restO (numsP 20 o3).2).length ≤ b.length) := Lib.hid (Nat.le_trans (numsP_len _ _) HL0.out)
      have hEO4 := hEO3.out
      clear hEO3
      generalize numsP 20 o3 = z at HC1 HL1 hEO4
      obtain ⟨E, o4⟩ := z
      simp only at HC1 HL1 hEO4
      have hEO3 := Lib.hid hEO4
      clear hEO4
      go_wp2_with fail
      refine (HC1.out _ _ G0.out.1).mono ?_
      clear HC1
      rintro e wn1 ⟨ad3, k3, cap3, rfl, ho, hl1, hm1, hf1, hd, hkr⟩
      obtain ⟨hds, hks⟩ := hd.set 2 (.slice ad3 k3 cap3)
      have c2 := Holds.cell hd.box 2 _ rfl
      have f2 := Holds.free hd.box 2
      have G1 : Hid (DcP w (wn1.setCell ⟨w.heap.size + 2, 2, none⟩ (.slice ad3 k3 cap3)) o4 [.slice ad k cap, .slice ad2 k2 cap2, .slice ad3 k3 cap3, .slice none 0 0, .int .i64 0] ∧ (wn1.setCell ⟨w.heap.size + 2, 2, none⟩ (.slice ad3 k3 cap3)).ownsRow (w.heap.size + 3) 45 5 (.slice ad k cap) k (A.flatMap metaC) ∧ (wn1.setCell ⟨w.heap.size + 2, 2, none⟩ (.slice ad3 k3 cap3)).ownsRow (w.heap.size + 3) 3 1 (.slice ad2 k2 cap2) k2 (D.map intC) ∧ (wn1.setCell ⟨w.heap.size + 2, 2, none⟩ (.slice ad3 k3 cap3)).ownsRow (w.heap.size + 3) 3 1 (.slice ad3 k3 cap3) k3 (E.map intC)) := Lib.hid ⟨hds, own_up (own_up G0.out.2.1 hkr (by omega)) hks (by omega), own_up (own_up G0.out.2.2 hkr (by omega)) hks (by omega), own_up ho hks (by omega)⟩
      have HI1 := Lib.hid (And.intro hl1 (And.intro hm1 hf1))
      clear ho hl1 hm1 hf1 hd hkr hds hks G0
      go_upto_region 9 with (fail)
      clear c2 f2
      change Code.wp _ _ _ _ (wn1.setCell ⟨w.heap.size + 2, 2, none⟩ (.slice ad3 k3 cap3))
      generalize wn1.setCell ⟨w.heap.size + 2, 2, none⟩ (.slice ad3 k3 cap3) = ws1 at G1 ⊢
      have HC2 : Hid (∀ W C, DcP w W o4 C → Calls Tryz.prog 26 #[.pointer (some ⟨w.heap.size + 1, 0, none⟩), .int .i64 20] W fun e w' => ∃ ad m cap, e = .returned (.slice ad m cap) ∧ w'.ownsRow (w.heap.size + 3) 3 1 (.slice ad m cap) m ((numsP 20 o4).1.map intC) ∧ (numsP 20 o4).1.length = m ∧ m ≤ 20 ∧ Fit64 (numsP 20 o4).1 ∧ DcP w w' (numsP 20 o4).2 C ∧ Kept (fun q => q = w.heap.size + 1) W w') :=
        Lib.hid fun W C hW => (nums14 (w.heap.size + 1) o4 20 W (by omega) (Nat.le_trans HL1.out HMax.out) hW.rd).mono (by
          rintro e w' ⟨ad, m, cap, h1, h2, h3, h4, h5, h6, h7, h8⟩
          exact ⟨ad, m, cap, h1, owns_base h2 (by have := Holds.lt hW.box; omega), h3, h4, h5, hW.read h6 h8, h8⟩)
      have HL2 : Hid ((restO (numsP 20 o4).2).length ≤ b.length) := Lib.hid (Nat.le_trans (numsP_len _ _) HL1.out)
      have hEO4 := hEO3.out
      clear hEO3
      generalize numsP 20 o4 = z at HC2 HL2 hEO4
      obtain ⟨F, o5⟩ := z
      simp only at HC2 HL2 hEO4
      have hEO3 := Lib.hid hEO4
      clear hEO4
      go_wp2_with fail
      refine (HC2.out _ _ G1.out.1).mono ?_
      clear HC2
      rintro e wn2 ⟨ad4, k4, cap4, rfl, ho, hl2, hm2, hf2, hd, hkr⟩
      obtain ⟨hds, hks⟩ := hd.set 3 (.slice ad4 k4 cap4)
      have c3 := Holds.cell hd.box 3 _ rfl
      have f3 := Holds.free hd.box 3
      have G2 : Hid (DcP w (wn2.setCell ⟨w.heap.size + 2, 3, none⟩ (.slice ad4 k4 cap4)) o5 [.slice ad k cap, .slice ad2 k2 cap2, .slice ad3 k3 cap3, .slice ad4 k4 cap4, .int .i64 0] ∧ (wn2.setCell ⟨w.heap.size + 2, 3, none⟩ (.slice ad4 k4 cap4)).ownsRow (w.heap.size + 3) 45 5 (.slice ad k cap) k (A.flatMap metaC) ∧ (wn2.setCell ⟨w.heap.size + 2, 3, none⟩ (.slice ad4 k4 cap4)).ownsRow (w.heap.size + 3) 3 1 (.slice ad2 k2 cap2) k2 (D.map intC) ∧ (wn2.setCell ⟨w.heap.size + 2, 3, none⟩ (.slice ad4 k4 cap4)).ownsRow (w.heap.size + 3) 3 1 (.slice ad3 k3 cap3) k3 (E.map intC) ∧ (wn2.setCell ⟨w.heap.size + 2, 3, none⟩ (.slice ad4 k4 cap4)).ownsRow (w.heap.size + 3) 3 1 (.slice ad4 k4 cap4) k4 (F.map intC)) := Lib.hid ⟨hds, own_up (own_up G1.out.2.1 hkr (by omega)) hks (by omega), own_up (own_up G1.out.2.2.1 hkr (by omega)) hks (by omega), own_up (own_up G1.out.2.2.2 hkr (by omega)) hks (by omega), own_up ho hks (by omega)⟩
      have HI2 := Lib.hid (And.intro hl2 (And.intro hm2 hf2))
      clear ho hl2 hm2 hf2 hd hkr hds hks G1
      go_upto_region 10 with (fail)
      clear c3 f3
      change Code.wp _ _ _ _ (wn2.setCell ⟨w.heap.size + 2, 3, none⟩ (.slice ad4 k4 cap4))
      generalize wn2.setCell ⟨w.heap.size + 2, 3, none⟩ (.slice ad4 k4 cap4) = ws2 at G2 ⊢
      have HC9 : Hid (∀ W C, DcP w W o5 C → Calls Tryz.prog 24 #[.pointer (some ⟨w.heap.size + 1, 0, none⟩), .int .i64 9007199254740991] W fun e w' => e = .returned (.int .i64 (numP MaxN o5).1) ∧ DcP w w' (numP MaxN o5).2 C ∧ Kept (fun q => q = w.heap.size + 1) W w') :=
        Lib.hid fun W C hW => (numMax14 (w.heap.size + 1) o5 W (Nat.le_trans HL2.out HMax.out) hW.rd).mono fun e w' h => ⟨h.1, hW.read h.2.1 h.2.2, h.2.2⟩
      have hrng := Lib.hid (numP_range MaxN o5)
      have hEO4 := hEO3.out
      clear hEO3
      generalize numP MaxN o5 = z at HC9 hrng hEO4
      obtain ⟨s, o6⟩ := z
      simp only at HC9 hrng hEO4
      have hEO3 := Lib.hid hEO4
      clear hEO4
      go_wp2_with fail
      refine (HC9.out _ _ G2.out.1).mono ?_
      clear HC9
      rintro e wn3 ⟨rfl, hd, hkr⟩
      obtain ⟨hds, hks⟩ := hd.set 4 (.int .i64 s)
      have c4 := Holds.cell hd.box 4 _ rfl
      have f4 := Holds.free hd.box 4
      have G3 : Hid (DcP w (wn3.setCell ⟨w.heap.size + 2, 4, none⟩ (.int .i64 s)) o6 [.slice ad k cap, .slice ad2 k2 cap2, .slice ad3 k3 cap3, .slice ad4 k4 cap4, .int .i64 s] ∧ (wn3.setCell ⟨w.heap.size + 2, 4, none⟩ (.int .i64 s)).ownsRow (w.heap.size + 3) 45 5 (.slice ad k cap) k (A.flatMap metaC) ∧ (wn3.setCell ⟨w.heap.size + 2, 4, none⟩ (.int .i64 s)).ownsRow (w.heap.size + 3) 3 1 (.slice ad2 k2 cap2) k2 (D.map intC) ∧ (wn3.setCell ⟨w.heap.size + 2, 4, none⟩ (.int .i64 s)).ownsRow (w.heap.size + 3) 3 1 (.slice ad3 k3 cap3) k3 (E.map intC) ∧ (wn3.setCell ⟨w.heap.size + 2, 4, none⟩ (.int .i64 s)).ownsRow (w.heap.size + 3) 3 1 (.slice ad4 k4 cap4) k4 (F.map intC)) := Lib.hid ⟨hds, own_up (own_up G2.out.2.1 hkr (by omega)) hks (by omega), own_up (own_up G2.out.2.2.1 hkr (by omega)) hks (by omega), own_up (own_up G2.out.2.2.2.1 hkr (by omega)) hks (by omega), own_up (own_up G2.out.2.2.2.2 hkr (by omega)) hks (by omega)⟩
      clear hd hkr hds hks G2
      go_upto_region 11 with (fail)
      clear c4 f4
      change Code.wp _ _ _ _ (wn3.setCell ⟨w.heap.size + 2, 4, none⟩ (.int .i64 s))
      generalize wn3.setCell ⟨w.heap.size + 2, 4, none⟩ (.int .i64 s) = w9 at G3 ⊢
      have hEO4 := hEO3.out
      clear hEO3
      have HR : Hid (Z = if o6 = some [] ∧ edOk (A, D, E, F, s) = true then ((A, D, E, F, s), true) else (zeroE, false)) := Lib.hid (by have := HZ.out; rwa [hEO4] at this)
      clear hEO4 HZ
      have HEd : Hid (EdW w9 ad k cap ad2 k2 cap2 ad3 k3 cap3 ad4 k4 cap4 (A, D, E, F, s)) := Lib.hid (by
        obtain ⟨_, _, e1, m1, m2, m3, m4⟩ := owns_metas G3.out.2.1 HA.out.1 HA.out.2.1
        cases e1
        obtain ⟨_, _, e2, d1, d2, d3⟩ := owns_ints G3.out.2.2.1 HI0.out.1
        cases e2
        obtain ⟨_, _, e3, g1, g2, g3⟩ := owns_ints G3.out.2.2.2.1 HI1.out.1
        cases e3
        obtain ⟨_, _, e4, j1, j2, j3⟩ := owns_ints G3.out.2.2.2.2 HI2.out.1
        cases e4
        have h0 := HI0.out.2.1
        have h1 := HI1.out.2.1
        have h2 := HI2.out.2.1
        have h3 := hrng.out
        exact ⟨m1, ⟨m3, m2, by omega, m4⟩, d1, ⟨HI0.out.2.2, d2, by omega, d3⟩, g1, ⟨HI1.out.2.2, g2, by omega, g3⟩, j1, ⟨HI2.out.2.2, j2, by omega, j3⟩, by unfold FitV; simp only; omega⟩)
      have HOff : Hid ((∀ b off sp, ad = some ⟨b, off, sp⟩ → w.heap.size + 3 ≤ b) ∧ (∀ b off sp, ad2 = some ⟨b, off, sp⟩ → w.heap.size + 3 ≤ b) ∧ (∀ b off sp, ad3 = some ⟨b, off, sp⟩ → w.heap.size + 3 ≤ b) ∧ (∀ b off sp, ad4 = some ⟨b, off, sp⟩ → w.heap.size + 3 ≤ b)) :=
        Lib.hid ⟨own_off G3.out.2.1, own_off G3.out.2.2.1, own_off G3.out.2.2.2.1, own_off G3.out.2.2.2.2⟩
      have HD : Hid (DcP w w9 o6 [.slice ad k cap, .slice ad2 k2 cap2, .slice ad3 k3 cap3, .slice ad4 k4 cap4, .int .i64 s]) := Lib.hid G3.out.1
      clear G3
      have t0 := Holds.cell HD.out.rd 0 _ rfl
      have t1 := Holds.cell HD.out.rd 1 _ rfl
      have r0 := Holds.cell HD.out.res 0 _ rfl
      have r1 := Holds.cell HD.out.res 1 _ rfl
      have r2 := Holds.cell HD.out.res 2 _ rfl
      have r3 := Holds.cell HD.out.res 3 _ rfl
      have r4 := Holds.cell HD.out.res 4 _ rfl
      have q0 := Holds.free HD.out.res 0
      have q1 := Holds.free HD.out.res 1
      have q2 := Holds.free HD.out.res 2
      have q3 := Holds.free HD.out.res 3
      have q4 := Holds.free HD.out.res 4
      cases o6 with
      | none =>
        have HZ1 : Hid (Z = (zeroE, false)) := Lib.hid (by rw [HR.out, if_neg (by simp)])
        clear HR
        go_wp2
        obtain ⟨hz1, hz2⟩ := HD.out.zeroed
        exact dc_fail _ HZ1.out hz1 hz2 rfl rfl
      | some r =>
      by_cases hrn : r = []
      case neg =>
        have HZ1 : Hid (Z = (zeroE, false)) := Lib.hid (by rw [HR.out, if_neg (by simp [hrn])])
        have hrb : (r == []) = false := by simpa using hrn
        clear HR
        go_wp2
        obtain ⟨hz1, hz2⟩ := HD.out.zeroed
        exact dc_fail _ HZ1.out hz1 hz2 rfl rfl
      case pos =>
        subst hrn
        have HRe : Hid (Calls Tryz.prog 14 #[.agg #[.slice ad k cap, .slice ad2 k2 cap2, .slice ad3 k3 cap3, .slice ad4 k4 cap4, .int .i64 s]] w9 fun r w' => r = .returned (.bool (edOk (A, D, E, F, s))) ∧ Kept (fun _ => False) w9 w') :=
          Lib.hid (edit14 ad k cap ad2 k2 cap2 ad3 k3 cap3 ad4 k4 cap4 (A, D, E, F, s) w9 HEd.out.1 HEd.out.2.2.1 HEd.out.2.2.2.2.1 HEd.out.2.2.2.2.2.2.1 (by omega) (by have := HI0.out.2.1; omega) (by have := HI1.out.2.1; omega) (by have := HI2.out.2.1; omega))
        have b0 := Holds.cell HD.out.box 0 _ rfl
        have b1 := Holds.cell HD.out.box 1 _ rfl
        have b2 := Holds.cell HD.out.box 2 _ rfl
        have b3 := Holds.cell HD.out.box 3 _ rfl
        have b4 := Holds.cell HD.out.box 4 _ rfl
        cases hok : edOk (A, D, E, F, s) with
        | false =>
          rw [hok] at HRe
          have HZ1 : Hid (Z = (zeroE, false)) := Lib.hid (by rw [HR.out, if_neg (by simp [hok])])
          clear HR r0 r1 r2 r3 r4 q0 q1 q2 q3 q4
          go_wp2_with fail
          refine HRe.out.mono ?_
          clear HRe
          rintro r w10 ⟨rfl, hk⟩
          have HD1 := Lib.hid (HD.out.keptX hk (fun _ f => f.elim))
          clear hk t0 t1 b0 b1 b2 b3 b4 HD
          have r0 := Holds.cell HD1.out.res 0 _ rfl
          have r1 := Holds.cell HD1.out.res 1 _ rfl
          have r2 := Holds.cell HD1.out.res 2 _ rfl
          have r3 := Holds.cell HD1.out.res 3 _ rfl
          have r4 := Holds.cell HD1.out.res 4 _ rfl
          have q0 := Holds.free HD1.out.res 0
          have q1 := Holds.free HD1.out.res 1
          have q2 := Holds.free HD1.out.res 2
          have q3 := Holds.free HD1.out.res 3
          have q4 := Holds.free HD1.out.res 4
          go_wp2
          obtain ⟨hz1, hz2⟩ := HD1.out.zeroed
          exact dc_fail _ HZ1.out hz1 hz2 rfl rfl
        | true =>
          rw [hok] at HRe
          have HZ1 : Hid (Z = ((A, D, E, F, s), true)) := Lib.hid (by rw [HR.out, if_pos ⟨rfl, hok⟩])
          clear HR r0 r1 r2 r3 r4 q0 q1 q2 q3 q4
          go_wp2_with fail
          refine HRe.out.mono ?_
          clear HRe
          rintro r w10 ⟨rfl, hk⟩
          have HD1 := Lib.hid (HD.out.keptX hk (fun _ f => f.elim))
          have HE1 := Lib.hid (HEd.out.kept hk)
          clear hk t0 t1 b0 b1 b2 b3 b4 HD HEd
          have r0 := Holds.cell HD1.out.res 0 _ rfl
          have r1 := Holds.cell HD1.out.res 1 _ rfl
          have r2 := Holds.cell HD1.out.res 2 _ rfl
          have r3 := Holds.cell HD1.out.res 3 _ rfl
          have r4 := Holds.cell HD1.out.res 4 _ rfl
          have q0 := Holds.free HD1.out.res 0
          have q1 := Holds.free HD1.out.res 1
          have q2 := Holds.free HD1.out.res 2
          have q3 := Holds.free HD1.out.res 3
          have q4 := Holds.free HD1.out.res 4
          have b0 := Holds.cell HD1.out.box 0 _ rfl
          have b1 := Holds.cell HD1.out.box 1 _ rfl
          have b2 := Holds.cell HD1.out.box 2 _ rfl
          have b3 := Holds.cell HD1.out.box 3 _ rfl
          have b4 := Holds.cell HD1.out.box 4 _ rfl
          go_wp2
          have hP := ((((Holds.set HD1.out.res 0 (.slice ad k cap)).set 1 (.slice ad2 k2 cap2)).set 2 (.slice ad3 k3 cap3)).set 3 (.slice ad4 k4 cap4)).set 4 (.int .i64 s)
          have hkr : Kept (fun q => q = w.heap.size) w10 (((((w10.setCell ⟨w.heap.size, 0, none⟩ (.slice ad k cap)).setCell ⟨w.heap.size, 1, none⟩ (.slice ad2 k2 cap2)).setCell ⟨w.heap.size, 2, none⟩ (.slice ad3 k3 cap3)).setCell ⟨w.heap.size, 3, none⟩ (.slice ad4 k4 cap4)).setCell ⟨w.heap.size, 4, none⟩ (.int .i64 s)) :=
            (((((Kept.refl (fun q => q = w.heap.size) w10).setCell (p := ⟨w.heap.size, 0, none⟩) rfl _).setCell (p := ⟨w.heap.size, 1, none⟩) rfl _).setCell (p := ⟨w.heap.size, 2, none⟩) rfl _).setCell (p := ⟨w.heap.size, 3, none⟩) rfl _).setCell (p := ⟨w.heap.size, 4, none⟩) rfl _
          have hkw := HD1.out.kept.trans hkr (fun q hq => .inr (Nat.le_of_eq hq.symm))
          refine dc_door _ hP rfl rfl ⟨ad, k, cap, ad2, k2, cap2, ad3, k3, cap3, ad4, k4, cap4, by rw [HZ1.out]; rfl, ?_, hkw⟩
          rw [HZ1.out]
          obtain ⟨x1, x2, x3, x4, x5, x6, x7, x8, x9⟩ := HE1.out
          exact ⟨metas_keptX x1 hkr (fun b off sp hb => by have := HOff.out.1 b off sp hb; omega), x2, x3.kept hkr (.inr fun b off hb => by have := HOff.out.2.1 b off none hb; omega), x4, x5.kept hkr (.inr fun b off hb => by have := HOff.out.2.2.1 b off none hb; omega), x6, x7.kept hkr (.inr fun b off hb => by have := HOff.out.2.2.2 b off none hb; omega), x8, x9⟩

end Go.Proofs.YtjdolimeibpacaaGreat
