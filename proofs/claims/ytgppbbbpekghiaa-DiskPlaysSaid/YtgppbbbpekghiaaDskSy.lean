/- The reference's Sync: what it does. -/
import Derived.Test.YtgppbbbpekghiaaDskWr
import Derived.Test.YtgppbbbpekghiaaCrM
import Derived.StillTailTactics
namespace Go.Proofs.Ytgppbbbpekghiaa
open Go.RowKit Go.Proofs Go.Proofs.Pk
set_option maxRecDepth 10000
attribute [local simp] mk_get wrap64_u8 mk_extract ByteArray.mk_append_mk get_1k

set_option maxHeartbeats 400000 in
theorem rSy_off (w : World) (B p : Nat) (S : Dsk) (X : Nat → Prop) (h : RefD w B p S X) (ho : S.off = true) :
    Calls Try.prog 17 #[.pointer (some ⟨p, 0, none⟩)] w (W1 w B p X S 6) := by
  have HD := Lib.hid h
  obtain ⟨vL, vC, h⟩ := h
  have c3 := h.obj.cell 3 _ rfl
  rw [ho] at c3
  clear h ho
  go_enter Try.func17, Try.ntmps17
  go_wp2
  go_ret
  exact ⟨rfl, X, HD.out, Grows.refl w X, Kept.refl X w⟩

theorem syncL_takeR (L : List (List UInt8)) (C : List (Nat × List UInt8)) (j : Nat) (h : j < C.length) : syncL L (C.take (j + 1)) = (syncL L (C.take j)).set (C[j]).1 (C[j]).2 := by
  rw [List.take_succ_eq_append_getElem h, syncL_snoc]

/-- What a write's two cells are. -/
theorem cache_cells {w : World} {B gC cap : Nat} {C : List (Nat × List UInt8)} (h : w.ownsRow B 69 2 (.slice (some ⟨gC, 0, none⟩) C.length cap) C.length (flatC C)) (j : Nat) (hj : j < C.length) :
    w.cell? ⟨gC, j * 2, none⟩ = some (.int .i64 ((C[j]).1 : Int)) ∧ w.cell? ⟨gC, j * 2 + 1, none⟩ = some (.string ⟨(C[j]).2.toArray⟩) := by
  constructor
  · rw [Nat.mul_comm, h.cellAt (2 * j) (by omega)]; exact flatC_get0 C j hj
  · rw [Nat.mul_comm, h.cellAt (2 * j + 1) (by omega)]; exact flatC_get1 C j hj

set_option maxHeartbeats 1000000 in
theorem rSy_on (w : World) (B p : Nat) (S : Dsk) (X : Nat → Prop) (h : RefD w B p S X) (hS : S.Ok) (ho : S.off = false) :
    Calls Try.prog 17 #[.pointer (some ⟨p, 0, none⟩)] w (W1 w B p X { S with L := syncL S.L S.C, C := [] } 0) := by
  obtain ⟨vL, vC, h⟩ := h
  obtain ⟨L, C, fu, off, n⟩ := S
  simp only at ho
  subst ho
  have HX : Hid (∀ b, (b = p ∨ vL.ownBlock = some b ∨ vC.ownBlock = some b) → X b) := fun b hb => (h.own b).2 hb
  obtain ⟨ad, cap, hv⟩ : ∃ ad cap, vL = .slice ad L.length cap := by
    rcases h.last.2 with ⟨hv, h0⟩ | ⟨g, cap, cur, hv, _⟩
    · simp only at h0; exact ⟨none, 0, by rw [hv, h0]⟩
    · exact ⟨_, _, hv⟩
  subst hv
  obtain ⟨ac, cac, hv⟩ : ∃ ad cap, vC = .slice ad C.length cap := by
    rcases h.cache.2 with ⟨hv, h0⟩ | ⟨g, cap, cur, hv, _⟩
    · simp only at h0; exact ⟨none, 0, by rw [hv, h0]⟩
    · exact ⟨_, _, hv⟩
  subst hv
  have HR : Hid (RefAt w B p ⟨L, C, fu, false, n⟩ (.slice ad L.length cap) (.slice ac C.length cac) X) := h
  have hsect := hS.sect
  have hcach := hS.cach
  simp only at hsect hcach
  have HOk := Lib.hid (And.intro hsect hcach)
  have hC63 : (C.length : Int) ≤ 9223372036854775807 := by
    rcases h.cache.2 with ⟨_, h0⟩ | ⟨g, cap, cur, _, _, _, h1, h2, _⟩
    · simp only at h0; omega
    · simp only at h1; unfold maxLen at h2; omega
  have c3 := h.obj.cell 3 _ rfl
  clear h hS hsect hcach
  go_enter Try.func17, Try.ntmps17
  go_wp2
  go_loopw [3] (fun i wr => ∃ j : Nat, j ≤ C.length ∧ i = .int .i64 j ∧ Hid (RefAt wr B p ⟨syncL L (C.take j), C, fu, false, n⟩ (.slice ad L.length cap) (.slice ac C.length cac) X) ∧ Hid (Kept X w wr)) (fun i _ => C.length - (intOf i).toNat)
  case atStart => exact ⟨0, Nat.zero_le _, rfl, HR, Kept.refl X w⟩
  case round =>
    obtain ⟨j, hj, rfl, hr, hk⟩ := hrel
    have c1 := hr.out.obj.cell 1 _ rfl
    by_cases hlt : (j : Int) < C.length
    · have hjC : j < C.length := by omega
      obtain ⟨y, hy⟩ : ∃ y, y = C[j] := ⟨_, rfl⟩
      have hy1 : y.1 < L.length := by rw [hy]; exact (HOk.out.2 _ (List.getElem_mem hjC)).1
      have hT := syncL_takeR L C j hjC
      rw [← hy] at hT
      have HT := Lib.hid hT
      obtain ⟨M, hM⟩ : ∃ M, Hid (M = syncL L (C.take j)) := ⟨_, rfl⟩
      rw [← hM.out] at hr hT
      have hML : M.length = L.length := by rw [hM.out, syncL_length]
      obtain ⟨gC, rfl⟩ : ∃ gC, ac = some ⟨gC, 0, none⟩ := by
        rcases hr.out.cache.2 with ⟨_, h0⟩ | ⟨g', cap', cur, hv, _⟩
        · simp only at h0; omega
        · injection hv with e1; exact ⟨_, e1⟩
      obtain ⟨gL, rfl⟩ : ∃ gL, ad = some ⟨gL, 0, none⟩ := by
        rcases hr.out.last.2 with ⟨_, h0⟩ | ⟨g', cap', cur, hv, _⟩
        · simp only at h0; omega
        · injection hv with e1; exact ⟨_, e1⟩
      have hcc := cache_cells hr.out.cache j hjC
      rw [← hy] at hcc
      obtain ⟨d0, d1⟩ := hcc
      have hj0 : (0 : Int) ≤ (j : Int) := Int.natCast_nonneg _
      have hy0 : (0 : Int) ≤ (y.1 : Int) := Int.natCast_nonneg _
      have hy1' : (y.1 : Int) < L.length := by omega
      have hlast := hr.out.last
      simp only [hML] at hlast
      have c0 := hr.out.obj.cell 0 _ rfl
      have e0 : wr.cell? ⟨gL, y.1, none⟩ = some (.string ⟨(M[y.1]'(by omega)).toArray⟩) := by
        rw [hlast.cellAt y.1 (by omega)]; simp [strV, show y.1 < M.length by omega]
      have ef : wr.frozen? ⟨gL, y.1, none⟩ = false := hlast.frozenAt y.1
      obtain ⟨om, hom⟩ : ∃ om, om = M[y.1]'(by omega) := ⟨_, rfl⟩
      rw [← hom] at e0
      have HF := hr.out
      have HN : Hid (RefAt (wr.drew.setCell ⟨gL, y.1, none⟩ (.string ⟨y.2.toArray⟩)) B p ⟨syncL L (C.take (j + 1)), C, fu, false, n⟩ (.slice (some ⟨gL, 0, none⟩) L.length cap) (.slice (some ⟨gC, 0, none⟩) C.length cac) X) := by
        show RefAt _ _ _ _ _ _ _
        have h0 : RefAt wr B p ⟨M, C, fu, false, n⟩ (.slice (some ⟨gL, 0, none⟩) M.length cap) (.slice (some ⟨gC, 0, none⟩) C.length cac) X := by rw [hML]; exact HF
        have h2 := (h0.kept (kept_drewR wr) (fun _ _ hf => hf)).setLast y.1 y.2
        rw [← hT] at h2
        rw [hM.out] at hT
        rw [syncL_length] at h2
        exact h2
      have HK : Hid (Kept X w (wr.drew.setCell ⟨gL, y.1, none⟩ (.string ⟨y.2.toArray⟩))) := (hk.out.drewN 1).setCell (p := ⟨gL, y.1, none⟩) (HX.out gL (.inr (.inl rfl))) _
      have hw2 : IntKind.i64.wrap ((j : Int) + 1) = ((j + 1 : Nat) : Int) := by rw [IntWalk.i64_in _ (by omega)]; omega
      clear hy hT hML hy1 hlast HF hom
      go_wp2_with fail
      go_still_tail 21, (by kernel_rfl)
      change wpList _ _ _ _ _ wr.drew
      go_wp2
      go_roundw
      case rel => exact ⟨j + 1, by omega, by first | rfl | go_num, HN, HK⟩
      case measure => simp [intOf]; omega
    · obtain rfl : j = C.length := by omega
      rw [List.take_length] at hr
      have f1 := hr.out.obj.free 1
      have HF := hr.out.noC
      have HE := Lib.hid HF
      clear HF
      go_wp2
      go_ret
      exact ⟨rfl, _, ⟨_, _, HE.out⟩, fun b hb => .inl (HX.out b (hb.elim .inl (fun h => .inr (.inl h)))), hk.out.setCell (p := ⟨p, 1, none⟩) (HX.out p (.inl rfl)) _⟩

/-- Sync does what the chapter says. -/
theorem rSy (w : World) (B p : Nat) (S : Dsk) (X : Nat → Prop) (h : RefD w B p S X) (hS : S.Ok) :
    Calls Try.prog 17 #[.pointer (some ⟨p, 0, none⟩)] w (W1 w B p X S.sync.1 S.sync.2) := by
  cases ho : S.off with
  | true => rw [show S.sync = (S, 6) from by unfold Dsk.sync; rw [if_pos ho]]; exact rSy_off w B p S X h ho
  | false => rw [show S.sync = ({ S with L := syncL S.L S.C, C := [] }, 0) from by unfold Dsk.sync; rw [if_neg (by simp [ho])]]; exact rSy_on w B p S X h hS ho

end Go.Proofs.Ytgppbbbpekghiaa
