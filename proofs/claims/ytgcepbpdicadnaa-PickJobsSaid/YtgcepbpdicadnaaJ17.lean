/- Yd16, NoB. -/
import Derived.Test.YtgcepbpdicadnaaJ16
import Derived.Test.YtgcepbpdicadnaaJ08
import Derived.Test.YtgcepbpdicadnaaProg
import Derived.Sort.Walk0
import Derived.Deep.LoopGhost

/- The program of layer 16: whether a table may have one of the keys; the two closures that ask it. -/
namespace Go.Proofs.Ytgcepbpdicadnaa
open Go.RowKit Go.Proofs Go.Proofs.Pk
set_option maxRecDepth 10000
attribute [local simp] mk_get wrap64_u8 mk_extract ByteArray.mk_append_mk get_1k

/-- May a table have one of the keys? -/
def kmeet (lo hi : VTxt) (m : MetaV) : Bool := decide (¬hi < m.2.2.1) && decide (¬m.2.2.2.1 < lo)
theorem kmeet_is {l : List MetaV} {lo hi : VTxt} (h : SpanL l l.length lo hi) (m : MetaV) : kmeet lo hi m = meetsM m l := by
  rw [Bool.eq_iff_iff, h.meets m]
  unfold kmeet
  simp only [Bool.and_eq_true, decide_eq_true_eq]
  exact And.comm

set_option maxHeartbeats 2000000 in
theorem pMeets (w : World) (lo hi : VTxt) (m : MetaV) :
    Calls Try.prog 40 #[.agg #[.string ⟨lo.toArray⟩, .string ⟨hi.toArray⟩], metaV m] w fun e w' => e = .returned (.bool (kmeet lo hi m)) ∧ Kept (fun _ => False) w w' := by
  obtain ⟨x, lv, y, z, c⟩ := m
  unfold metaV
  simp only
  obtain ⟨b1, hb1⟩ : ∃ b, (Op.bytesLess y hi || y == hi) = b := ⟨_, rfl⟩
  obtain ⟨b2, hb2⟩ : ∃ b, (Op.bytesLess lo z || lo == z) = b := ⟨_, rfl⟩
  have HR : Hid (kmeet lo hi (x, lv, y, z, c) = (b1 && b2)) := by
    show _ = _
    rw [← hb1, ← hb2, leq16, leq16]; rfl
  have hk : Kept (fun _ => False) w ((w.alloc (.cells #[.string ⟨lo.toArray⟩, .string ⟨hi.toArray⟩] 56)).alloc (.cells #[.int .i64 x, .int .i64 lv, .string ⟨y.toArray⟩, .string ⟨z.toArray⟩, .int .i64 c] 49)) := ((Kept.refl _ w).alloc _).alloc _
  rw [HR.out]
  clear HR
  cases b1 with
  | false =>
    go_enter Try.func40, Try.ntmps40
    go_wp2
    go_ret
    exact ⟨rfl, hk⟩
  | true =>
    go_enter Try.func40, Try.ntmps40
    go_wp2
    go_ret
    exact ⟨rfl, hk⟩

set_option maxHeartbeats 2000000 in
/-- meeting's closure. -/
theorem pMeet1 (w : World) (g : Nat) (lo hi : VTxt) (m : MetaV) (hg : Holds w g (keysC lo hi) 56) :
    Calls Try.prog 39 #[metaV m, .pointer (some ⟨g, 0, none⟩)] w fun e w' => e = .returned (.bool (!kmeet lo hi m)) ∧ Kept (fun _ => False) w w' := by
  have HM := Lib.hid (fun W => pMeets W lo hi m)
  obtain ⟨x, lv, y, z, c⟩ := m
  unfold metaV at HM ⊢
  simp only at HM ⊢
  generalize kmeet lo hi (x, lv, y, z, c) = r at HM ⊢
  have hk : Kept (fun _ => False) w (w.alloc (.cells #[.int .i64 x, .int .i64 lv, .string ⟨y.toArray⟩, .string ⟨z.toArray⟩, .int .i64 c] 49)) := (Kept.refl _ w).alloc _
  have hg2 := hg.of_block (hk.block g hg.lt (fun f => f))
  have c0 : (w.alloc (.cells #[.int .i64 x, .int .i64 lv, .string ⟨y.toArray⟩, .string ⟨z.toArray⟩, .int .i64 c] 49)).cell? ⟨g, 0, none⟩ = some (.string ⟨lo.toArray⟩) := hg2.cell 0 _ rfl
  have c1 : (w.alloc (.cells #[.int .i64 x, .int .i64 lv, .string ⟨y.toArray⟩, .string ⟨z.toArray⟩, .int .i64 c] 49)).cell? ⟨g, 1, none⟩ = some (.string ⟨hi.toArray⟩) := hg2.cell 1 _ rfl
  clear hg hg2
  go_enter Try.func39, Try.ntmps39
  go_wp2_with (go_at_call 40; refine (HM.out _).mono ?_; rintro e w' ⟨rfl, hk2⟩)
  go_ret
  exact ⟨rfl, hk.trans hk2 (fun _ f => f.elim)⟩

set_option maxHeartbeats 2000000 in
/-- bottom's closure. -/
theorem pBot1 (w : World) (g4 g5 : Nat) (n : Int) (lo hi : VTxt) (m : MetaV) (h4 : Holds w g4 [.int .i64 n] 3) (h5 : Holds w g5 (keysC lo hi) 56) :
    Calls Try.prog 43 #[metaV m, .pointer (some ⟨g4, 0, none⟩), .pointer (some ⟨g5, 0, none⟩)] w fun e w' => e = .returned (.bool (decide (n < m.2.1) && kmeet lo hi m)) ∧ Kept (fun _ => False) w w' := by
  have HM := Lib.hid (fun W => pMeets W lo hi m)
  obtain ⟨x, lv, y, z, c⟩ := m
  unfold metaV at HM ⊢
  simp only at HM ⊢
  generalize kmeet lo hi (x, lv, y, z, c) = r at HM ⊢
  have hk : Kept (fun _ => False) w (w.alloc (.cells #[.int .i64 x, .int .i64 lv, .string ⟨y.toArray⟩, .string ⟨z.toArray⟩, .int .i64 c] 49)) := (Kept.refl _ w).alloc _
  have hg4 := h4.of_block (hk.block g4 h4.lt (fun f => f))
  have hg5 := h5.of_block (hk.block g5 h5.lt (fun f => f))
  have c0 : (w.alloc (.cells #[.int .i64 x, .int .i64 lv, .string ⟨y.toArray⟩, .string ⟨z.toArray⟩, .int .i64 c] 49)).cell? ⟨g5, 0, none⟩ = some (.string ⟨lo.toArray⟩) := hg5.cell 0 _ rfl
  have c1 : (w.alloc (.cells #[.int .i64 x, .int .i64 lv, .string ⟨y.toArray⟩, .string ⟨z.toArray⟩, .int .i64 c] 49)).cell? ⟨g5, 1, none⟩ = some (.string ⟨hi.toArray⟩) := hg5.cell 1 _ rfl
  have c2 : (w.alloc (.cells #[.int .i64 x, .int .i64 lv, .string ⟨y.toArray⟩, .string ⟨z.toArray⟩, .int .i64 c] 49)).cell? ⟨g4, 0, none⟩ = some (.int .i64 n) := hg4.cell 0 _ rfl
  clear h4 h5 hg4 hg5
  by_cases hn : n < lv
  · rw [decide_eq_true hn, Bool.true_and]
    go_enter Try.func43, Try.ntmps43
    go_wp2_with (go_at_call 40; refine (HM.out _).mono ?_; rintro e w' ⟨rfl, hk2⟩)
    go_ret
    exact ⟨rfl, hk.trans hk2 (fun _ f => f.elim)⟩
  · rw [decide_eq_false hn, Bool.false_and]
    go_enter Try.func43, Try.ntmps43
    go_wp2
    go_ret
    exact ⟨rfl, hk⟩

end Go.Proofs.Ytgcepbpdicadnaa

/- slices.IndexFunc and ContainsFunc of no tables (layer 14). No condition. -/
namespace Go.Proofs.Ytgcepbpdicadnaa
open Go.RowKit Go.Proofs Go.Proofs.Pk
set_option maxRecDepth 10000

theorem noneIdx (ad : Option Addr) (cap : Nat) (fv : Value) (w : World) : Calls Try.prog 51 #[.slice ad 0 cap, fv] w fun e w' => e = .returned (.int .i64 (-1)) ∧ w' = w := by
  go_enter Try.func51, Try.ntmps51
  go_wp2
  go_loopg [5, 8] 0 (fun _ _ s8 wr => s8 = .int .i64 0 ∧ wr = w)
  case atStart => exact ⟨rfl, rfl⟩
  case round =>
    obtain ⟨rfl, rfl⟩ := hrel
    go_wp2
    go_ret
    exact ⟨rfl, rfl⟩
theorem noneBad (ad : Option Addr) (cap : Nat) (fv : Value) (w : World) : Calls Try.prog 42 #[.slice ad 0 cap, fv] w fun e w' => e = .returned (.bool false) ∧ w' = w := by
  go_enter Try.func42, Try.ntmps42
  go_wp2_with (go_at_call 51; refine (noneIdx ad cap fv _).mono ?_; rintro e w' ⟨rfl, rfl⟩)
  go_ret
  exact ⟨rfl, rfl⟩

end Go.Proofs.Ytgcepbpdicadnaa
