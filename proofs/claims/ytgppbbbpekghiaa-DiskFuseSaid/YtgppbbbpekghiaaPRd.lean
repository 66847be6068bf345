/- The program's Read: what it returns. -/
import Derived.Test.YtgppbbbpekghiaaPDk
import Derived.Deep.RegionHeld3
import Derived.Lib.ConvBytes
import Derived.Laws.IdiomStrings
import Derived.StillTailTactics
namespace Go.Proofs.Ytgppbbbpekghiaa
open Go.RowKit Go.Proofs Go.Proofs.Pk
set_option maxRecDepth 10000
attribute [local simp] mk_get wrap64_u8 mk_extract ByteArray.mk_append_mk get_1k

/-- Two results, and all that lay is as it was. -/
def Q2K (w : World) (x y : Value) (e : Ending) (w' : World) : Prop := e = .returned (.tuple #[x, y]) ∧ Kept (fun _ => False) w w'
theorem Q2K.mk {w w' : World} {x y x' y' : Value} (hx : x' = x) (hy : y' = y) (h : Kept (fun _ => False) w w') : Q2K w x y (.returned (.tuple #[x', y'])) w' := by
  subst hx hy; exact ⟨rfl, h⟩
theorem kept_drewN (X : Nat → Prop) (w : World) (m : Nat) : Kept X w (w.drewN m) := (Kept.refl X w).drewN m

theorem read_c (S : Dsk) (k : Int) : (S.read k).2 = reachC S k := by
  unfold Dsk.read reachC; repeat' split
  all_goals rfl
theorem read_bad {S : Dsk} {k : Int} (h : reachC S k ≠ 0) : (S.read k).1 = [] := by
  unfold reachC at h; unfold Dsk.read; repeat' split
  all_goals simp_all

set_option maxHeartbeats 400000 in
theorem pRd_bad (k : Int) (w : World) (B p : Nat) (S : Dsk) (X : Nat → Prop) (h : DskP w B p S X) (c : Nat) (hc : reachC S k = c + 1) :
    Calls Try.prog 22 #[.pointer (some ⟨p, 0, none⟩), .int .i64 k] w (Q2K w (.string ⟨#[]⟩) (erV (c + 1))) := by
  have HR := Lib.hid (pReach k w B p S X h)
  rw [hc] at HR
  have e0 : erV (c + 1) = .iface 56 (.int .i64 ((c + 1 : Nat) : Int)) := rfl
  rw [e0] at HR ⊢
  clear h hc e0
  go_enter Try.func22, Try.ntmps22
  go_wp2_with (go_at_call 27; refine HR.out.mono ?_; rintro e wn ⟨rfl, m, rfl⟩)
  go_wp2
  go_ret2
  exact Q2K.mk rfl rfl (kept_drewN _ _ _)

def zeros (n : Nat) : List Value := Lib.byteCells (List.replicate n 0)
theorem alloc_zeros (w : World) (t : TypeId) : w.alloc (.cells #[.int .u8 0, .int .u8 0, .int .u8 0, .int .u8 0, .int .u8 0, .int .u8 0, .int .u8 0, .int .u8 0, .int .u8 0, .int .u8 0, .int .u8 0, .int .u8 0, .int .u8 0, .int .u8 0, .int .u8 0, .int .u8 0, .int .u8 0, .int .u8 0, .int .u8 0, .int .u8 0, .int .u8 0, .int .u8 0, .int .u8 0, .int .u8 0, .int .u8 0, .int .u8 0, .int .u8 0, .int .u8 0, .int .u8 0, .int .u8 0, .int .u8 0, .int .u8 0, .int .u8 0, .int .u8 0, .int .u8 0, .int .u8 0, .int .u8 0, .int .u8 0, .int .u8 0, .int .u8 0, .int .u8 0, .int .u8 0, .int .u8 0, .int .u8 0, .int .u8 0, .int .u8 0, .int .u8 0, .int .u8 0, .int .u8 0, .int .u8 0, .int .u8 0, .int .u8 0, .int .u8 0, .int .u8 0, .int .u8 0, .int .u8 0, .int .u8 0, .int .u8 0, .int .u8 0, .int .u8 0, .int .u8 0, .int .u8 0, .int .u8 0, .int .u8 0] t) = w.alloc (.cells (zeros 64).toArray t) := rfl

set_option maxHeartbeats 1000000 in
theorem pRd_ok (k : Nat) (w : World) (B p : Nat) (S : Dsk) (X : Nat → Prop) (h : DskP w B p S X) (hS : S.Ok) (ho : S.off = false) (hk : k < S.L.length) :
    Calls Try.prog 22 #[.pointer (some ⟨p, 0, none⟩), .int .i64 (k : Int)] w (Q2K w (.string ⟨(S.read k).1.toArray⟩) .nilIface) := by
  have HR := Lib.hid (pReach k w B p S X h)
  rw [reachC_ok ho k (by omega)] at HR
  obtain ⟨gD, gS, vC, h⟩ := h
  have H := Lib.hid h
  clear h
  have e0 : erV 0 = .nilIface := rfl
  rw [e0] at HR
  go_enter Try.func22, Try.ntmps22
  go_wp2_with (go_at_call 27; refine HR.out.mono ?_; rintro e wn ⟨rfl, m, rfl⟩)
  obtain ⟨wa, hwa⟩ : ∃ wa, wa = (w.drewN m).alloc (.cells (zeros 64).toArray 65) := ⟨_, rfl⟩
  rw [alloc_zeros, ← hwa]
  have hsz : wa.heap.size = w.heap.size + 1 := by rw [hwa]; simp
  have K0 : Kept (fun _ => False) w wa := by rw [hwa]; exact (kept_drewN _ w m).alloc _
  have HN : Holds wa w.heap.size (zeros 64) 65 := by rw [hwa]; exact Holds.new (w.drewN m) _ _
  have HK := H.out.kept K0 (fun _ _ hf => hf)
  have c1 := HK.obj.cell 1 _ rfl
  have hk0 : (0 : Int) ≤ (k : Int) := Int.natCast_nonneg _
  have hkL : (k : Int) < S.L.length := by omega
  obtain ⟨nL, hnL⟩ : ∃ n, n = S.L.length := ⟨_, rfl⟩
  rw [← hnL] at c1 hkL
  have HnL := Lib.hid hnL
  clear hnL hwa
  go_still_tail 8, (by kernel_rfl)
  change wpList _ _ _ _ _ wa.drew
  obtain ⟨d, hd⟩ : ∃ d, d = (syncL S.L S.C)[k]'(by rw [syncL_length]; exact hk) := ⟨_, rfl⟩
  have hd64 : d.length = 64 := by rw [hd]; exact syncL_64 hS.sect (fun x hx => (hS.cach x hx).2) _ (List.getElem_mem _)
  have hrng : wa.drew.rangeAt gS (k * 64) (Lib.byteCells d) := by
    refine (HK.see.drew).range _ _ ?_
    rw [hd]
    exact cellsL_get _ (syncL_64 hS.sect (fun x hx => (hS.cach x hx).2)) k (by rw [syncL_length]; exact hk)
  have hthere : wa.drew.there w.heap.size 0 (Lib.byteCells d).length := HN.drew.there 0 _ (by rw [bc_length, hd64]; decide)
  refine wpList_copy_mid rfl (.tmp 14) (.tmp 21) _ _ rfl 5 Try.underlying61 (by kernel_rfl) w.heap.size 0 64 64 gS (k * 64) 64 64 rfl rfl (Lib.byteCells d) (by rw [bc_length, hd64]; rfl) hrng hthere (bc_one d) ?_
  obtain ⟨wb, hwb⟩ : ∃ wb, wb = wa.drew.setCells w.heap.size 0 (Lib.byteCells d) := ⟨_, rfl⟩
  rw [← hwb]
  have HB : Holds wb w.heap.size (Lib.byteCells d) 65 := by
    rw [hwb]
    have := Holds.setCells (Lib.byteCells d) 0 wa.drew (zeros 64) HN.drew (by rw [bc_length, hd64]; decide)
    rwa [lay_all _ _ (by rw [bc_length, hd64]; rfl)] at this
  have HC : (convert 61 9 (.slice (some ⟨w.heap.size, 0, none⟩) 64 64)).run Try.prog wb = .ok (.string ⟨d.toArray⟩) wb := by
    rw [← hd64]
    exact run_convert_bytes_back wb 61 9 5 ⟨w.heap.size, 0, none⟩ _ d Try.underlying61 Try.underlying5 Try.underlying9 (fun j hj => by rw [add0]; exact HB.cell j _ (by simp [Lib.byteCells, hj]))
  have KB : Kept (fun _ => False) w wb := by
    rw [hwb]
    exact Kept.setCellsN (Nat.le_refl _) _ _ _ (K0.trans (kept_drewN (fun _ => False) wa 1) (fun _ hf => hf.elim))
  have HS2 : Hid ((S.read k).1 = d) := by
    show (S.read k).1 = d
    have e := syncL_get S.L k hk S.C.length S.C rfl
    rw [Dsk.read_ok ho k hk, hd]
    rw [List.getElem?_eq_getElem (by rw [syncL_length]; exact hk)] at e
    exact (Option.some.inj e).symm
  clear hd hd64 hrng hthere HK HN hk hkL hS HB hwb c1 hsz K0
  go_wp2
  go_ret2
  exact Q2K.mk (by rw [HS2.out]; rfl) rfl KB
/-- Read answers as the chapter says, and changes nothing. -/
theorem pRd (k : Int) (w : World) (B p : Nat) (S : Dsk) (X : Nat → Prop) (h : DskP w B p S X) (hS : S.Ok) :
    Calls Try.prog 22 #[.pointer (some ⟨p, 0, none⟩), .int .i64 k] w (Q2K w (.string ⟨(S.read k).1.toArray⟩) (erV (S.read k).2)) := by
  rw [read_c]
  cases hc : reachC S k with
  | succ c => rw [read_bad (by omega)]; exact pRd_bad k w B p S X h c hc
  | zero =>
    have ho : S.off = false := by
      cases e : S.off with
      | false => rfl
      | true => rw [reachC_off e] at hc; cases hc
    by_cases hk : k < 0 ∨ (S.L.length : Int) ≤ k
    · rw [reachC_arg ho k hk] at hc; cases hc
    · obtain ⟨n, rfl⟩ := Int.eq_ofNat_of_zero_le (show 0 ≤ k by omega)
      exact pRd_ok n w B p S X h hS ho (by omega)

end Go.Proofs.Ytgppbbbpekghiaa
