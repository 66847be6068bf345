/- The law's own question whether two roots are the same (layer 6): two that are. -/
import Derived.Test.YtbfdhonmmoikdaaRtM
import Derived.BigQuiet
namespace Go.Proofs.Ytbfdhonmmoikdaa
open Go.RowKit Go.Proofs Go.Proofs.Pk
set_option maxRecDepth 10000
attribute [local simp] mk_get wrap64_u8 mk_extract ByteArray.mk_append_mk get_1k

set_option maxHeartbeats 1000000 in
theorem same_true (s n c : Int) (a1 a2 : Option Addr) (len c1 c2 : Nat) (l : List FileV) (w : World) (h1 : Files w a1 len l) (h2 : Files w a2 len l) (hlen : len ≤ 9223372036854775806) :
    Calls Try.prog 14 #[.agg #[.int .i64 s, .int .i64 n, .int .i64 c, .slice a1 len c1], .agg #[.int .i64 s, .int .i64 n, .int .i64 c, .slice a2 len c2]] w fun e w' => e = .returned (.bool true) ∧ Below w.heap.size w w' := by
  have H1 := Lib.hid h1
  have H2 := Lib.hid h2
  clear h1 h2
  have hb0 := ((Below.refl w.heap.size w).alloc (Nat.le_refl _) (.cells #[.int .i64 s, .int .i64 n, .int .i64 c, .slice a1 len c1] 24)).alloc (by simp) (.cells #[.int .i64 s, .int .i64 n, .int .i64 c, .slice a2 len c2] 24)
  have HX := (Holds.new w [.int .i64 s, .int .i64 n, .int .i64 c, .slice a1 len c1] 24).alloc (.cells #[.int .i64 s, .int .i64 n, .int .i64 c, .slice a2 len c2] 24)
  have HY := Holds.new (w.alloc (.cells #[.int .i64 s, .int .i64 n, .int .i64 c, .slice a1 len c1] 24)) [.int .i64 s, .int .i64 n, .int .i64 c, .slice a2 len c2] 24
  rw [show (w.alloc (.cells #[.int .i64 s, .int .i64 n, .int .i64 c, .slice a1 len c1] 24)).heap.size = w.heap.size + 1 from by simp] at HY
  change Holds ((w.alloc (.cells #[.int .i64 s, .int .i64 n, .int .i64 c, .slice a1 len c1] 24)).alloc (.cells #[.int .i64 s, .int .i64 n, .int .i64 c, .slice a2 len c2] 24)) _ _ _ at HX
  change Holds ((w.alloc (.cells #[.int .i64 s, .int .i64 n, .int .i64 c, .slice a1 len c1] 24)).alloc (.cells #[.int .i64 s, .int .i64 n, .int .i64 c, .slice a2 len c2] 24)) _ _ _ at HY
  go_enter Try.func14, Try.ntmps14
  go_wp2
  obtain ⟨p, hp⟩ : ∃ p, Hid (p = w.heap.size) := ⟨_, rfl⟩
  obtain ⟨q, hq⟩ : ∃ q, Hid (q = w.heap.size + 1) := ⟨_, rfl⟩
  rw [← hq.out] at HY ⊢
  rw [← hp.out] at HX ⊢
  generalize (w.alloc (.cells #[.int .i64 s, .int .i64 n, .int .i64 c, .slice a1 len c1] 24)).alloc (.cells #[.int .i64 s, .int .i64 n, .int .i64 c, .slice a2 len c2] 24) = w1 at hb0 HX HY ⊢
  have HXh := Lib.hid HX
  have HYh := Lib.hid HY
  have HB := Lib.hid hb0
  clear hb0 HX HY
  obtain ⟨wq, hwq⟩ : ∃ wq, wq = w1 := ⟨_, rfl⟩
  have HS : Hid (Below w1.heap.size w1 wq) := by rw [hwq]; exact Below.refl _ _
  rw [← hwq]
  clear hwq
  go_loopw [5] (fun i wr => ∃ k : Nat, k ≤ len ∧ i = .int .i64 k ∧ Hid (Below w1.heap.size w1 wr)) (fun i _ => len - (intOf i).toNat)
  case atStart => exact ⟨0, Nat.zero_le _, rfl, HS⟩
  case round =>
    obtain ⟨k, hk, rfl, hb⟩ := hrel
    have hbw := Lib.hid (HB.out.trans (hb.out.mono HB.out.size))
    have x3 : wr.cell? ⟨p, 3, none⟩ = some (.slice a1 len c1) := (HXh.out.of_block (hb.out.block p HXh.out.lt)).cell 3 _ rfl
    have y3 : wr.cell? ⟨q, 3, none⟩ = some (.slice a2 len c2) := (HYh.out.of_block (hb.out.block q HYh.out.lt)).cell 3 _ rfl
    by_cases hlt : (k : Int) < len
    · have hkl : k < len := by omega
      obtain ⟨g, og, rfl, _, r1, _⟩ := files_at (H1.out.below hbw.out) k hkl
      obtain ⟨h, oh, rfl, _, r2, _⟩ := files_at (H2.out.below hbw.out) k hkl
      generalize l[k]'(by have := H1.out.1; omega) = f at r1 r2
      obtain ⟨f0, f1, f2⟩ := f
      have d0 : wr.cell? ⟨g, og + k * 3, none⟩ = some (.int .i64 f0) := r1 0 _ rfl
      have d1 : wr.cell? ⟨g, og + k * 3 + 1, none⟩ = some (.int .i64 f1) := r1 1 _ rfl
      have d2 : wr.cell? ⟨g, og + k * 3 + 2, none⟩ = some (.int .i64 f2) := r1 2 _ rfl
      have e0 : wr.cell? ⟨h, oh + k * 3, none⟩ = some (.int .i64 f0) := r2 0 _ rfl
      have e1 : wr.cell? ⟨h, oh + k * 3 + 1, none⟩ = some (.int .i64 f1) := r2 1 _ rfl
      have e2 : wr.cell? ⟨h, oh + k * 3 + 2, none⟩ = some (.int .i64 f2) := r2 2 _ rfl
      have hk0 : (0 : Int) ≤ (k : Int) := Int.natCast_nonneg _
      have hwk : IntKind.i64.wrap ((k : Int) + 1) = ((k + 1 : Nat) : Int) := by rw [IntWalk.i64_in _ (by omega)]; omega
      clear r1 r2
      go_upto_region 6 with (fail)
      go_quiet (fail)
      go_wp2
      refine ⟨⟨k + 1, by omega, by go_num, belowN hb.out nq⟩, by simp [intOf]; omega⟩
    · go_wp2
      go_ret
      exact ⟨rfl, hbw.out⟩

end Go.Proofs.Ytbfdhonmmoikdaa
