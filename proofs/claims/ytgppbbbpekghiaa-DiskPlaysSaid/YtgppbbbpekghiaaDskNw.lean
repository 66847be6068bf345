/- The reference's New: what it gives. -/
import Derived.Test.YtgppbbbpekghiaaDskSy
import Derived.Deep.Cut
namespace Go.Proofs.Ytgppbbbpekghiaa
open Go.RowKit Go.Proofs Go.Proofs.Pk
set_option maxRecDepth 10000
attribute [local simp] mk_get wrap64_u8 mk_extract ByteArray.mk_append_mk get_1k

theorem string_info : (Try.prog.info? 9).map (fun i => (i.zero, i.size, i.bytes)) = some (some (.string ByteArray.empty), 1, 16) := by kernel_rfl

/-- The sectors' blocks alone have turned, and the object says so. -/
theorem RefAt.swapL {w w' : World} {B p : Nat} {S : Dsk} {vL vC vL' : Value} {X : Nat → Prop} {L' : List (List UInt8)} (h : RefAt w B p S vL vC X) (hb : ∀ k, k < w.heap.size → vL.ownBlock ≠ some k → w'.heap[k]? = w.heap[k]?)
    (hc : w'.ownsRow B 9 1 vL' L'.length (L'.map strV)) (hn : vL'.ownBlock ≠ some p) (ha : vL'.ownBlock = none ∨ vL'.ownBlock ≠ vC.ownBlock) (hC : vC.ownBlock = none ∨ vL.ownBlock ≠ vC.ownBlock) :
    RefAt (w'.setCell ⟨p, 0, none⟩ vL') B p { S with L := L' } vL' vC (fun k => k = p ∨ vL'.ownBlock = some k ∨ vC.ownBlock = some k) := by
  have ho := h.obj.of_block (hb p h.obj.lt h.neL)
  refine ⟨ho.set 0 vL', owns_setCell hc hn, owns_setCell (owns_of_block h.cache fun g hg => hb g (h.lt g ((h.own g).2 (.inr (.inr hg)))).2 (fun e => ?_)) h.neC, h.base, hn, h.neC, ha, fun _ => Iff.rfl⟩
  rcases hC with h0 | h0
  · rw [h0] at hg; cases hg
  · exact h0 (by rw [hg, e])

theorem owns_len {w : World} {B : Nat} {e : TypeId} {size : Nat} {v : Value} {n m : Nat} {xs ys : List Value} (h : w.ownsRow B e size v n xs) (hn : n = m) (hx : xs = ys) : w.ownsRow B e size v m ys := by subst hn hx; exact h

set_option maxHeartbeats 1000000 in
theorem rNw_ok (k : Nat) (h1 : 1 ≤ k) (h2 : k ≤ 4000) (w : World) :
    Calls Try.prog 10 #[.int .i64 (k : Int)] w fun e w' =>
      ∃ p X, e = .returned (.pointer (some ⟨p, 0, none⟩)) ∧ RefD w' w.heap.size p (Dsk.new k) X ∧ Below w.heap.size w w' := by
  obtain ⟨iS, hiS, hzS, hsS, hbS⟩ := info_parts string_info
  have hk1 : decide ((k : Int) < 1) = false := by rw [decide_eq_false_iff_not]; omega
  have hk2 : (k : Int) ≤ 4000 := by omega
  have hmake : ∀ w0 : World, (Instr.makeSlice 61 (.int .i64 64) (.int .i64 64)).run Try.prog w0 = .ok (.slice (some ⟨w0.heap.size, 0, none⟩) 64 64) (w0.alloc (.cells (Lib.byteCells (List.replicate 64 0)).toArray 5)) := run_make_bytes 64 (by omega)
  obtain ⟨z, hz⟩ : ∃ z : List UInt8, z = List.replicate 64 0 := ⟨_, rfl⟩
  rw [← hz] at hmake
  have hz64 : z.length = 64 := by rw [hz]; rfl
  have HZ := Lib.hid hz
  have hconv : ∀ w0 : World, (convert 61 9 (.slice (some ⟨w0.heap.size, 0, none⟩) 64 64)).run Try.prog (w0.alloc (.cells (Lib.byteCells z).toArray 5)) = .ok (.string ⟨z.toArray⟩) (w0.alloc (.cells (Lib.byteCells z).toArray 5)) := fun w0 => by
    have := run_convert_bytes_back (w0.alloc (.cells (Lib.byteCells z).toArray 5)) 61 9 5 ⟨w0.heap.size, 0, none⟩ 64 z Try.underlying61 Try.underlying5 Try.underlying9 (fun j hj => by
      rw [add0]; exact (Holds.new w0 _ _).cell j _ (by rw [List.getElem?_eq_getElem (by rw [bc_length]; exact hj)]; simp [Lib.byteCells]))
    rwa [hz64] at this
  clear hz
  go_enter Try.func10, Try.ntmps10
  go_upto_region 4 with (fail)
  obtain ⟨p, hp⟩ : ∃ p, p = w.heap.size := ⟨_, rfl⟩
  have HR : Hid (RefAt (w.alloc (.cells [.slice none 0 0, .slice none 0 0, .int .i64 (-1), .bool false, .int .i64 0].toArray 49)) w.heap.size p ⟨List.replicate 0 z, [], -1, false, 0⟩ (.slice none 0 0) (.slice none 0 0) (fun b => b = p)) := by
    refine ⟨?_, ⟨rfl, .inl ⟨rfl, rfl⟩⟩, ⟨rfl, .inl ⟨rfl, rfl⟩⟩, by omega, by simp [Value.ownBlock], by simp [Value.ownBlock], .inl rfl, fun b => by simp [Value.ownBlock]⟩
    rw [hp]; exact Holds.new w _ _
  have HB : Hid (Below w.heap.size w (w.alloc (.cells [.slice none 0 0, .slice none 0 0, .int .i64 (-1), .bool false, .int .i64 0].toArray 49))) := (Below.refl _ _).alloc (Nat.le_refl _) _
  rw [← hp] at HR ⊢
  have Hp := Lib.hid hp
  clear hp
  change Code.wp _ _ _ _ (w.alloc (.cells [.slice none 0 0, .slice none 0 0, .int .i64 (-1), .bool false, .int .i64 0].toArray 49))
  generalize w.alloc (.cells [.slice none 0 0, .slice none 0 0, .int .i64 (-1), .bool false, .int .i64 0].toArray 49) = wo at HR HB ⊢
  have hc := hconv wo
  have HR2 : Hid (RefAt (wo.alloc (.cells (Lib.byteCells z).toArray 5)) p p ⟨List.replicate 0 z, [], -1, false, 0⟩ (.slice none 0 0) (.slice none 0 0) (fun b => b = p)) := HR.out.kept (Kept.alloc (Kept.refl (fun _ => False) wo) _) (fun _ _ hf => hf)
  have HB2 : Hid (Below p w (wo.alloc (.cells (Lib.byteCells z).toArray 5))) := by
    have := HB.out
    rw [← Hp.out] at this
    exact this.alloc (by have := HR.out.obj.lt; omega) _
  have hm := hmake wo
  generalize wo.alloc (.cells (Lib.byteCells z).toArray 5) = wq at hc HR2 HB2 hm
  clear hconv hmake HR HB
  go_wp2
  go_loopw [5] (fun i wr => ∃ j : Nat, j ≤ k ∧ i = .int .i64 j ∧ Hid (∃ vL X, RefAt wr p p ⟨List.replicate j z, [], -1, false, 0⟩ vL (.slice none 0 0) X) ∧ Hid (Below p w wr)) (fun i _ => k - (intOf i).toNat)
  case atStart => exact ⟨0, Nat.zero_le _, rfl, ⟨_, _, HR2.out⟩, HB2⟩
  case round =>
    obtain ⟨j, hj, rfl, hr, hb⟩ := hrel
    by_cases hlt : (j : Int) < k
    · have hjk : j < k := by omega
      obtain ⟨vL, X, hr⟩ := hr.out
      have HRr := Lib.hid hr
      have c0 := hr.obj.cell 0 _ rfl
      have hw2 : IntKind.i64.wrap ((j : Int) + 1) = ((j + 1 : Nat) : Int) := by rw [IntWalk.i64_in _ (by omega)]; omega
      clear hr
      go_upto_region 8 with (fail)
      refine wp_region_lit ?_
      iterate 6
        refine wpList_plain rfl fun K hK => ?_
        go_simp
        refine hK _ _ ?_
        clear hK K
      have HQ := Holds.new wr [.string ⟨z.toArray⟩] 9
      have HV := HRr.out.kept ((Kept.refl (fun _ => False) wr).alloc (.cells [.string ⟨z.toArray⟩].toArray 9)) (fun _ _ hf => hf)
      have HBb := hb.out.alloc (B := p) (by have := HRr.out.obj.lt; omega) (.cells [.string ⟨z.toArray⟩].toArray 9)
      obtain ⟨q, hq⟩ : ∃ q, Hid (q = wr.heap.size) := ⟨_, rfl⟩
      refine wpList_buildSlice_row rfl 46 9 (.tmp 26) rfl iS _ [.string ⟨z.toArray⟩] Try.underlying46 hiS hzS (by rw [hsS]; rfl) (by simp) (by simp) (by rfl) ?_
      rw [← hq.out] at HQ ⊢
      generalize wr.alloc (.cells [.string ⟨z.toArray⟩].toArray 9) = wd at HQ HV HBb ⊢
      refine wpList_append_at wd rfl (.tmp 25) (.tmp 27) 46 rfl p 9 iS _ 1 16 Try.underlying46 hiS hzS hsS hbS (by rfl) (by omega) vL j ((List.replicate j z).map strV) (by rfl) (owns_len HV.last (by simp) rfl)
        ⟨q, 0, none⟩ 1 1 [.string ⟨z.toArray⟩] (by rfl) (by rfl) (fun j u hj => by rw [add0]; exact HQ.cell j u hj) (by simp [Value.oneCell']) (by unfold maxLen; omega) (by omega) (by have := HV.obj.lt; omega) (by omega) ?_
      intro v' we ho hgr hpl
      obtain ⟨gq, cq, rfl⟩ : ∃ gq cq, v' = .slice (some ⟨gq, 0, none⟩) (j + 1) cq := by
        rcases ho.2 with ⟨_, h0⟩ | ⟨g', cap, cur, hv, _⟩
        · omega
        · exact ⟨_, _, hv⟩
      have hnv : ∀ b, b < wd.heap.size → vL.ownBlock ≠ some b → (Value.slice (some ⟨gq, 0, none⟩) (j + 1) cq).ownBlock ≠ some b := fun b hb hne e => by
        rcases hpl with h | h
        · exact hne (h ▸ e)
        · rw [h] at e; have := Option.some.inj e; omega
      have ho2 : we.ownsRow p 9 1 (.slice (some ⟨gq, 0, none⟩) (j + 1) cq) (List.replicate (j + 1) z).length ((List.replicate (j + 1) z).map strV) := by
        refine owns_len ho (by simp) ?_
        rw [List.replicate_succ', List.map_append]; rfl
      have HF := HV.swapL (w' := we) (vL' := .slice (some ⟨gq, 0, none⟩) (j + 1) cq) (L' := List.replicate (j + 1) z) (fun b hb hne => hgr.block b hb (fun e => hne e.symm)) ho2 (hnv p HV.obj.lt HV.neL) (.inr (by simp [Value.ownBlock])) (.inl rfl)
      have HBf : Below p w (we.setCell ⟨p, 0, none⟩ (.slice (some ⟨gq, 0, none⟩) (j + 1) cq)) :=
        (HBb.grown hgr (by have := HV.obj.lt; omega) (fun b hb => (HV.lt b ((HV.own b).2 (.inr (.inl hb)))).1)).setCell (p := ⟨p, 0, none⟩) (Nat.le_refl _) _
      have hobj := HV.obj.of_block (hgr.block p HV.obj.lt (fun e => HV.neL e.symm))
      have c0' := hobj.cell 0 _ rfl
      have f0' := hobj.free 0
      have HE := Lib.hid (And.intro HF HBf)
      clear HF HBf hobj ho2 hnv ho hgr hpl HQ HV HBb c0
      go_wp2
      go_roundw
      case rel => exact ⟨j + 1, by omega, by first | rfl | go_num, ⟨_, _, HE.out.1⟩, HE.out.2⟩
      case measure => simp [intOf]; omega
    · obtain rfl : j = k := by omega
      obtain ⟨vL, X, hr⟩ := hr.out
      have HRr := Lib.hid hr
      clear hr
      go_wp2
      go_ret
      refine ⟨p, rfl, ⟨X, vL, .slice none 0 0, ?_⟩, ?_⟩
      · have := HRr.out
        rw [HZ.out] at this
        rw [← Hp.out]
        exact this
      · have := hb.out; rwa [Hp.out] at this

set_option maxHeartbeats 1000000 in
theorem rNw_arg (k : Int) (h : ¬(1 ≤ k ∧ k ≤ 4000)) (w : World) :
    Calls Try.prog 10 #[.int .i64 k] w fun e w' => e = .returned (.pointer none) ∧ Below w.heap.size w w' := by
  by_cases hk : k < 1
  · have hk1 : decide (k < 1) = true := by simpa using hk
    clear h hk
    go_enter Try.func10, Try.ntmps10
    go_wp2
    all_goals
      go_ret
      exact ⟨rfl, Below.refl _ _⟩
  · have hk1 : decide (k < 1) = false := by simpa using hk
    have hk2 : 4000 < k := by omega
    clear h hk
    go_enter Try.func10, Try.ntmps10
    go_wp2
    all_goals
      go_ret
      exact ⟨rfl, Below.refl _ _⟩

/-- A disk, or none. -/
def N1 (w : World) (k : Int) (e : Ending) (w' : World) : Prop :=
  if 1 ≤ k ∧ k ≤ 4000 then ∃ p X, e = .returned (.pointer (some ⟨p, 0, none⟩)) ∧ RefD w' w.heap.size p (Dsk.new k.toNat) X ∧ Below w.heap.size w w'
  else e = .returned (.pointer none) ∧ Below w.heap.size w w'

theorem rNw (k : Int) (w : World) : Calls Try.prog 10 #[.int .i64 k] w (N1 w k) := by
  by_cases h : 1 ≤ k ∧ k ≤ 4000
  · obtain ⟨n, rfl⟩ := Int.eq_ofNat_of_zero_le (show 0 ≤ k by omega)
    refine (rNw_ok n (by omega) (by omega) w).mono fun e w' hq => ?_
    unfold N1; rw [if_pos h]; simpa using hq
  · refine (rNw_arg k h w).mono fun e w' hq => ?_
    unfold N1; rw [if_neg h]; exact hq

end Go.Proofs.Ytgppbbbpekghiaa
