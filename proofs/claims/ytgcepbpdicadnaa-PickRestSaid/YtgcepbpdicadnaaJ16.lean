/- Rme16, Yc16, Yf16. -/
import Derived.Test.YtgcepbpdicadnaaMe16
import Derived.Test.YtgcepbpdicadnaaJ11
import Derived.Test.YtgcepbpdicadnaaJ03
import Derived.Laws.ResultCell
import Derived.Test.YtgcepbpdicadnaaJ08
import Derived.Test.YtgcepbpdicadnaaJ14
import Derived.Test.YtgcepbpdicadnaaJ07
import Derived.Lib.AppendZeros
import Derived.Laws.AppendOwnNone

/- The reference of layer 16: has a table a key between the least and the greatest one of some? -/
namespace Go.Proofs.Ytgcepbpdicadnaa
open Go.RowKit Go.Proofs Go.Proofs.Pk
set_option maxRecDepth 10000
attribute [local simp] mk_get wrap64_u8 mk_extract ByteArray.mk_append_mk get_1k

theorem min16 (x y : VTxt) : ∃ lo : VTxt, (¬y < x ∧ lo = x ∨ y < x ∧ lo = y) ∧ ∀ w, (Builtin.min_ #[9, 9] 9 #[.string ⟨x.toArray⟩, .string ⟨y.toArray⟩]).run Try.prog w = .ok (.string ⟨lo.toArray⟩) w := by
  by_cases h : y < x
  · refine ⟨y, .inr ⟨h, rfl⟩, fun w => ?_⟩
    have h1 : ¬x < y := vlt_asymm h
    have h2 : ¬x = y := fun e => by subst e; exact List.lt_irrefl _ h
    rw [Lib.run_min_strs]
    simp [Lib.minS, h1, h2]
  · refine ⟨x, .inl ⟨h, rfl⟩, fun w => ?_⟩
    rw [Lib.run_min_strs]
    by_cases h2 : x = y
    · subst h2; simp [Lib.minS]
    · have h1 : x < y := vlt_tri (Ne.symm h2) h
      simp [Lib.minS, h1]
structure SpanL (l : List MetaV) (j : Nat) (lo hi : VTxt) : Prop where
  a : ∃ x ∈ l, x.2.2.1 = lo
  b : ∀ x ∈ l.take j, ¬x.2.2.1 < lo
  c : ∃ y ∈ l, y.2.2.2.1 = hi
  d : ∀ y ∈ l.take j, ¬hi < y.2.2.2.1
theorem SpanL.meets {l : List MetaV} {lo hi : VTxt} (h : SpanL l l.length lo hi) (m : MetaV) : meetsM m l = true ↔ ¬m.2.2.2.1 < lo ∧ ¬hi < m.2.2.1 := by
  rw [meets_iff]
  have hb := h.b
  have hd := h.d
  rw [List.take_length] at hb hd
  constructor
  · rintro ⟨⟨x, hx, kx⟩, y, hy, ky⟩
    exact ⟨vle_trans (hb x hx) kx, vle_trans ky (hd y hy)⟩
  · rintro ⟨h1, h2⟩
    obtain ⟨x, x1, x2⟩ := h.a
    obtain ⟨y, y1, y2⟩ := h.c
    exact ⟨⟨x, x1, x2 ▸ h1⟩, y, y1, y2 ▸ h2⟩
theorem SpanL.step {l : List MetaV} {j : Nat} {lo hi lo2 hi2 : VTxt} (h : SpanL l j lo hi) (hj : j < l.length) (h1 : ¬l[j].2.2.1 < lo ∧ lo2 = lo ∨ l[j].2.2.1 < lo ∧ lo2 = l[j].2.2.1) (h2 : ¬hi < l[j].2.2.2.1 ∧ hi2 = hi ∨ hi < l[j].2.2.2.1 ∧ hi2 = l[j].2.2.2.1) : SpanL l (j + 1) lo2 hi2 := by
  have hm : l[j] ∈ l := List.getElem_mem hj
  refine ⟨?_, fun x hx => ?_, ?_, fun x hx => ?_⟩
  · rcases h1 with ⟨_, rfl⟩ | ⟨_, rfl⟩
    · exact h.a
    · exact ⟨_, hm, rfl⟩
  · rw [List.take_succ_eq_append_getElem hj] at hx
    rcases List.mem_append.1 hx with hx | hx
    · rcases h1 with ⟨_, rfl⟩ | ⟨k, rfl⟩
      · exact h.b x hx
      · exact vle_trans (vlt_asymm k) (h.b x hx)
    · rw [List.mem_singleton.1 hx]
      rcases h1 with ⟨k, rfl⟩ | ⟨_, rfl⟩
      · exact k
      · exact List.lt_irrefl _
  · rcases h2 with ⟨_, rfl⟩ | ⟨_, rfl⟩
    · exact h.c
    · exact ⟨_, hm, rfl⟩
  · rw [List.take_succ_eq_append_getElem hj] at hx
    rcases List.mem_append.1 hx with hx | hx
    · rcases h2 with ⟨_, rfl⟩ | ⟨k, rfl⟩
      · exact h.d x hx
      · exact vle_trans (h.d x hx) (vlt_asymm k)
    · rw [List.mem_singleton.1 hx]
      rcases h2 with ⟨k, rfl⟩ | ⟨_, rfl⟩
      · exact k
      · exact List.lt_irrefl _

set_option maxHeartbeats 8000000 in
theorem rMeets16 (w : World) (m : MetaV) (a : Option Addr) (len cap : Nat) (l : List MetaV) (h0 : MetasW w a len l) (hlm : len ≤ 1000) :
    Calls Try.prog 30 #[metaV m, .slice a len cap] w fun e w' => e = .returned (.bool (meetsM m l)) ∧ Kept (fun _ => False) w w' := by
  have hlen := h0.1
  obtain ⟨y1, hy1⟩ : ∃ y1 : VTxt, Hid (y1 = m.2.2.1) := ⟨m.2.2.1, rfl⟩
  obtain ⟨y2, hy2⟩ : ∃ y2 : VTxt, Hid (y2 = m.2.2.2.1) := ⟨m.2.2.2.1, rfl⟩
  have hB : Holds (w.alloc (.cells #[.int .i64 m.1, .int .i64 m.2.1, .string ⟨y1.toArray⟩, .string ⟨y2.toArray⟩, .int .i64 m.2.2.2.2] 49)) w.heap.size [.int .i64 m.1, .int .i64 m.2.1, .string ⟨y1.toArray⟩, .string ⟨y2.toArray⟩, .int .i64 m.2.2.2.2] 49 := Holds.new w _ _
  have HI : Hid (Kept (fun _ => False) w (w.alloc (.cells #[.int .i64 m.1, .int .i64 m.2.1, .string ⟨y1.toArray⟩, .string ⟨y2.toArray⟩, .int .i64 m.2.2.2.2] 49)) ∧ Holds (w.alloc (.cells #[.int .i64 m.1, .int .i64 m.2.1, .string ⟨y1.toArray⟩, .string ⟨y2.toArray⟩, .int .i64 m.2.2.2.2] 49)) w.heap.size [.int .i64 m.1, .int .i64 m.2.1, .string ⟨y1.toArray⟩, .string ⟨y2.toArray⟩, .int .i64 m.2.2.2.2] 49) := ⟨(Kept.refl _ w).alloc _, hB⟩
  have H0 := Lib.hid h0
  obtain ⟨mr, hmr⟩ : ∃ mr, Hid (mr = meetsM m l) := ⟨_, rfl⟩
  rw [← hmr.out]
  unfold metaV
  rw [← hy1.out, ← hy2.out]
  clear hB h0
  go_enter Try.func30, Try.ntmps30
  go_upto_region 1 with fail
  obtain ⟨g, hg⟩ : ∃ g, g = w.heap.size := ⟨_, rfl⟩
  rw [← hg] at HI ⊢
  generalize w.alloc (.cells #[.int .i64 m.1, .int .i64 m.2.1, .string ⟨y1.toArray⟩, .string ⟨y2.toArray⟩, .int .i64 m.2.2.2.2] 49) = wa at HI ⊢
  clear hg
  by_cases hz : len = 0
  · subst hz
    have hl : l = [] := List.length_eq_zero_iff.1 hlen
    obtain rfl : mr = false := by rw [hmr.out, hl]; rfl
    go_wp2
    go_ret
    exact ⟨rfl, HI.out.1⟩
  have hz2 : ((len : Int) == 0) = false := by simp only [beq_eq_false_iff_ne, ne_eq]; omega
  have hl0 : 0 < l.length := by omega
  have h0n : 0 < len := by omega
  have hMa := metas_kept H0.out HI.out.1
  obtain ⟨b, off, rfl, hbl, -, -, e2, e3, -, -⟩ := hMa.at 0 hl0
  rw [Nat.zero_mul, Nat.add_zero] at e2 e3
  obtain ⟨lo, hlo⟩ : ∃ lo : VTxt, Hid (lo = l[0].2.2.1) := ⟨l[0].2.2.1, rfl⟩
  obtain ⟨hi, hhi⟩ : ∃ hi : VTxt, Hid (hi = l[0].2.2.2.1) := ⟨l[0].2.2.2.1, rfl⟩
  rw [← hlo.out] at e2
  rw [← hhi.out] at e3
  have HS0 : Hid (SpanL l 0 lo hi) := ⟨⟨l[0], List.getElem_mem hl0, hlo.out.symm⟩, by simp, ⟨l[0], List.getElem_mem hl0, hhi.out.symm⟩, by simp⟩
  have HI0 := Lib.hid HI.out
  clear hMa HI hlo hhi hz hl0
  go_wp2
  go_loopw [5, 6, 7] (fun s5 s6 i wr => ∃ (j : Nat) (l1 l2 : VTxt), j ≤ len ∧ s5 = .string ⟨l1.toArray⟩ ∧ s6 = .string ⟨l2.toArray⟩ ∧ i = .int .i64 (j : Int) ∧ Hid (Kept (fun _ => False) w wr ∧ Holds wr g [.int .i64 m.1, .int .i64 m.2.1, .string ⟨y1.toArray⟩, .string ⟨y2.toArray⟩, .int .i64 m.2.2.2.2] 49) ∧ Hid (SpanL l j l1 l2)) (fun _ _ i _ => len - (intOf i).toNat)
  case atStart => exact ⟨0, lo, hi, Nat.zero_le _, rfl, rfl, rfl, HI0, HS0⟩
  case round =>
    clear e2 e3
    obtain ⟨j, l1, l2, hj, rfl, rfl, rfl, hC, hS⟩ := hrel
    clear HI0 HS0
    have j0 : (0 : Int) ≤ (j : Int) := by omega
    have hwj : IntKind.i64.wrap ((j : Int) + 1) = (j : Int) + 1 := IntWalk.i64_in _ (by omega)
    by_cases hlt : j < len
    case neg =>
      obtain rfl : j = len := by omega
      have jN : ¬(j : Int) < (j : Int) := by omega
      have d2 := hC.out.2.cell 2 _ rfl
      have d3 := hC.out.2.cell 3 _ rfl
      obtain ⟨b1, hb1⟩ : ∃ b, (Op.bytesLess y1 l2 || y1 == l2) = b := ⟨_, rfl⟩
      obtain ⟨b2, hb2⟩ : ∃ b, (Op.bytesLess l1 y2 || l1 == y2) = b := ⟨_, rfl⟩
      have HR : Hid (mr = (b1 && b2)) := by
        have hSl : SpanL l l.length l1 l2 := by rw [hlen]; exact hS.out
        have hm := hSl.meets m
        show mr = (b1 && b2)
        rw [← hmr.out, ← hy1.out, ← hy2.out] at hm
        rw [← hb1, ← hb2, leq16, leq16, Bool.eq_iff_iff, hm]
        simp only [Bool.and_eq_true, decide_eq_true_eq]
        exact And.comm
      have HK := Lib.hid hC.out.1
      clear hC hS
      cases b1 with
      | false =>
        obtain rfl : mr = false := HR.out
        go_wp2
        go_ret
        exact ⟨rfl, HK.out⟩
      | true =>
        obtain rfl : mr = b2 := HR.out
        go_wp2
        go_ret
        exact ⟨rfl, HK.out⟩
    have jN : (j : Int) < (len : Int) := by omega
    have hjl : j < l.length := by omega
    obtain ⟨b', off', hbb, -, -, -, e2, e3, -, -⟩ := (metas_kept H0.out hC.out.1).at j hjl
    obtain ⟨rfl, rfl⟩ : b' = b ∧ off' = off := by simp at hbb; exact ⟨hbb.1.symm, hbb.2.symm⟩
    obtain ⟨z1, hz1⟩ : ∃ z1 : VTxt, Hid (z1 = l[j].2.2.1) := ⟨l[j].2.2.1, rfl⟩
    obtain ⟨z2, hz2'⟩ : ∃ z2 : VTxt, Hid (z2 = l[j].2.2.2.1) := ⟨l[j].2.2.2.1, rfl⟩
    rw [← hz1.out] at e2
    rw [← hz2'.out] at e3
    obtain ⟨lo2, hlo2, HMn⟩ := min16 l1 z1
    obtain ⟨hi2, hhi2, HMx⟩ := max16 l2 z2 wr
    have HN : Hid (SpanL l (j + 1) lo2 hi2) := hS.out.step hjl (by rw [← hz1.out]; exact hlo2) (by rw [← hz2'.out]; exact hhi2)
    clear hS hlo2 hhi2 hz1 hz2' hbb hjl
    go_wp2
    go_roundw
    case rel => exact ⟨j + 1, lo2, hi2, hlt, rfl, rfl, by first | rfl | go_num, hC, HN⟩
    case measure => simp [intOf]; omega

end Go.Proofs.Ytgcepbpdicadnaa

/- The program of layer 16: the keys that some tables reach, from the least one to the greatest one. -/
namespace Go.Proofs.Ytgcepbpdicadnaa
open Go.RowKit Go.Proofs Go.Proofs.Pk
set_option maxRecDepth 10000
attribute [local simp] mk_get wrap64_u8 mk_extract ByteArray.mk_append_mk get_1k

/-- Keys as a value. -/
def keysC (lo hi : VTxt) : List Value := [.string ⟨lo.toArray⟩, .string ⟨hi.toArray⟩]
theorem addM (b off m : Nat) : (⟨b, off, none⟩ : Addr).add m = ⟨b, off + m, none⟩ := by unfold Addr.add; split <;> simp_all
/-- Tables without the first one. -/
theorem metas_rest {W : World} {ad : Option Addr} {n cap : Nat} {l : List MetaV} (h : MetasW W ad n l) (h0 : 0 < n) (hc : n ≤ cap) : ∃ ad2, MetasW W ad2 (n - 1) (l.drop 1) ∧ ∀ w : World, (Instr.slice 22 (.slice ad n cap) (some (.int .i64 1)) none none).run Try.prog w = .ok (.slice ad2 (n - 1) (cap - 1)) w := by
  have hlen := h.1
  have hs : ∀ w, (Go.sizeOf 49).run Try.prog w = .ok 5 w := fun w => by kernel_rfl
  have hu : Try.prog.underlying 22 = some (.slice 49) := by kernel_rfl
  refine ⟨if cap = 1 then ad else ad.map (·.add 5), ?_, fun w => ?_⟩
  · by_cases h1 : n = 1
    · exact ⟨by rw [List.length_drop, hlen], .inl (List.length_eq_zero_iff.1 (by rw [List.length_drop]; omega))⟩
    · rw [if_neg (by omega)]
      rcases h.2 with h0 | ⟨b, off, h1, h2, h3⟩
      · rw [h0] at hlen; simp at hlen; omega
      · subst h1
        refine ⟨by rw [List.length_drop, hlen], .inr ⟨b, off + 5, by simp [addM], h2, fun i hi => ?_⟩⟩
        rw [List.length_drop] at hi
        have := h3 (1 + i) (by omega)
        rw [show off + (1 + i) * 5 = off + 5 + i * 5 from by omega] at this
        rw [List.getElem_drop]
        exact this
  · have h1 : (1 : Int) ≤ (n : Int) := by omega
    simp only [Instr.slice, Instr.sliceBounds, Instr.sliceBound, asIntOf, run_underlying hu, go_sem]
    simp [h1, hs, Result.andThen]
    split
    · rfl
    · congr 1

/-- What reach has at hand: its result's box, the keys' box. -/
structure RchS (w W : World) (g2 g3 : Nat) (lo hi : VTxt) : Prop where
  kept : Kept (fun _ => False) w W
  far : w.heap.size ≤ g2 ∧ g2 < g3
  res : Holds W g2 (keysC [] []) 56
  box : Holds W g3 (keysC lo hi) 56
theorem RchS.quiet {w W W' : World} {g2 g3 : Nat} {lo hi : VTxt} (h : RchS w W g2 g3 lo hi) (k : Kept (fun _ => False) W W') : RchS w W' g2 g3 lo hi :=
  ⟨h.kept.trans k (fun _ f => f.elim), h.far, h.res.of_block (k.block g2 h.res.lt (fun f => f)), h.box.of_block (k.block g3 h.box.lt (fun f => f))⟩

set_option maxHeartbeats 8000000 in
theorem pReach (w : World) (a : Option Addr) (len cap : Nat) (l : List MetaV) (h0 : MetasW w a len l) (h1 : 0 < len) (hc : len ≤ cap) (hl : len ≤ 1000) :
    Calls Try.prog 24 #[.slice a len cap] w fun e w' => ∃ lo hi : VTxt, e = .returned (.agg (keysC lo hi).toArray) ∧ SpanL l l.length lo hi ∧ Kept (fun _ => False) w w' := by
  have hlen := h0.1
  have hl0 : 0 < l.length := by omega
  obtain ⟨b, off, rfl, hbl, -, -, c2, c3, -, -⟩ := h0.at 0 hl0
  rw [Nat.zero_mul, Nat.add_zero] at c2 c3
  obtain ⟨lo, hlo⟩ : ∃ lo : VTxt, Hid (lo = l[0].2.2.1) := ⟨l[0].2.2.1, rfl⟩
  obtain ⟨hi, hhi⟩ : ∃ hi : VTxt, Hid (hi = l[0].2.2.2.1) := ⟨l[0].2.2.2.1, rfl⟩
  rw [← hlo.out] at c2
  rw [← hhi.out] at c3
  have HS0 : Hid (SpanL l (0 + 1) lo hi) := by
    have hm : l[0] ∈ l := List.getElem_mem hl0
    have ht : l.take (0 + 1) = [l[0]] := by rw [List.take_succ_eq_append_getElem hl0]; simp
    refine ⟨⟨_, hm, hlo.out.symm⟩, fun x hx => ?_, ⟨_, hm, hhi.out.symm⟩, fun x hx => ?_⟩
    · rw [ht, List.mem_singleton] at hx; subst hx; rw [hlo.out]; exact List.lt_irrefl _
    · rw [ht, List.mem_singleton] at hx; subst hx; rw [hhi.out]; exact List.lt_irrefl _
  obtain ⟨ad2, hM2, hsl⟩ := metas_rest h0 h1 hc
  have HM2 := Lib.hid hM2
  obtain ⟨n, hn⟩ : ∃ n, n = len - 1 := ⟨_, rfl⟩
  rw [← hn] at hsl HM2
  have HN : Hid (n + 1 = l.length) := by show _ = _; omega
  have hnb : n ≤ 1000 := by omega
  have hk0 : Kept (fun _ => False) w (w.alloc (.cells (keysC [] []).toArray 56)) := (Kept.refl _ w).alloc _
  have hR0 : Holds (w.alloc (.cells (keysC [] []).toArray 56)) w.heap.size (keysC [] []) 56 := Holds.new w _ _
  have hcc : (w.alloc (.cells (keysC [] []).toArray 56)).drew.cell? ⟨b, off + 2, none⟩ = some (.string ⟨lo.toArray⟩) ∧ (w.alloc (.cells (keysC [] []).toArray 56)).drew.cell? ⟨b, off + 3, none⟩ = some (.string ⟨hi.toArray⟩) :=
    ⟨((hk0.drewN 1).cell (p := ⟨b, off + 2, none⟩) hbl (fun f => f)).trans c2, ((hk0.drewN 1).cell (p := ⟨b, off + 3, none⟩) hbl (fun f => f)).trans c3⟩
  have hlt0 : (0 : Int) < (len : Int) := by omega
  have HC : Hid (w.cell? ⟨b, off + 2, none⟩ = some (.string ⟨lo.toArray⟩) ∧ w.cell? ⟨b, off + 3, none⟩ = some (.string ⟨hi.toArray⟩)) := ⟨c2, c3⟩
  clear hM2 h0 hlo hhi c2 c3 hn
  unfold keysC at hk0 hR0 hcc
  go_enter Try.func24, Try.ntmps24
  go_upto_region 1 with fail
  obtain ⟨g2, hg2⟩ : ∃ g2, Hid (g2 = w.heap.size) := ⟨w.heap.size, rfl⟩
  rw [← hg2.out] at hR0 ⊢
  obtain ⟨wa, hwa⟩ : ∃ wa, wa = w.alloc (.cells (#[.string ⟨([] : VTxt).toArray⟩, .string ⟨([] : VTxt).toArray⟩] : Array Value) 56) := ⟨_, rfl⟩
  change Kept (fun _ => False) w (w.alloc (.cells (#[.string ⟨([] : VTxt).toArray⟩, .string ⟨([] : VTxt).toArray⟩] : Array Value) 56)) at hk0
  change Holds (w.alloc (.cells (#[.string ⟨([] : VTxt).toArray⟩, .string ⟨([] : VTxt).toArray⟩] : Array Value) 56)) g2 _ _ at hR0
  change (w.alloc (.cells (#[.string ⟨([] : VTxt).toArray⟩, .string ⟨([] : VTxt).toArray⟩] : Array Value) 56)).drew.cell? ⟨b, off + 2, none⟩ = _ ∧ (w.alloc (.cells (#[.string ⟨([] : VTxt).toArray⟩, .string ⟨([] : VTxt).toArray⟩] : Array Value) 56)).drew.cell? ⟨b, off + 3, none⟩ = _ at hcc
  rw [← hwa] at hk0 hR0 hcc
  change Code.wp _ _ _ _ (w.alloc (.cells (#[.string ⟨([] : VTxt).toArray⟩, .string ⟨([] : VTxt).toArray⟩] : Array Value) 56))
  rw [← hwa]
  clear hwa
  have hS : (fun W : World => W.cell? ⟨b, off + 2, none⟩ = some (.string ⟨lo.toArray⟩) ∧ W.cell? ⟨b, off + 3, none⟩ = some (.string ⟨hi.toArray⟩)) wa.drew := hcc
  refine wp_region_until (fun W : World => W.cell? ⟨b, off + 2, none⟩ = some (.string ⟨lo.toArray⟩) ∧ W.cell? ⟨b, off + 3, none⟩ = some (.string ⟨hi.toArray⟩)) 10 (by kernel_rfl) ?_
  refine wpAnyU_take (i := 0) (v := (.slice (some ⟨b, off, none⟩) len cap)) (some 6) rfl rfl (by kernel_rfl) (by kernel_rfl) (by kernel_rfl) (by kernel_rfl) (fun _ _ _ h => h) hS (yields_of (by kernel_rfl) (fun w hw => by obtain ⟨h0, h1⟩ := hw; go_simp)) ?_
  refine wpAnyU_take (i := 1) (v := (.pointer (some ⟨b, off, none⟩))) (some 7) rfl rfl (by kernel_rfl) (by kernel_rfl) (by kernel_rfl) (by kernel_rfl) (fun _ _ _ h => h) hS (yields_of (by kernel_rfl) (fun w hw => by obtain ⟨h0, h1⟩ := hw; go_simp)) ?_
  refine wpAnyU_take (i := 2) (v := (.pointer (some ⟨b, off + 2, none⟩))) (some 8) rfl rfl (by kernel_rfl) (by kernel_rfl) (by kernel_rfl) (by kernel_rfl) (fun _ _ _ h => h) hS (yields_of (by kernel_rfl) (fun w hw => by obtain ⟨h0, h1⟩ := hw; go_simp)) ?_
  refine wpAnyU_take (i := 3) (v := (.string ⟨lo.toArray⟩)) (some 9) rfl rfl (by kernel_rfl) (by kernel_rfl) (by kernel_rfl) (by kernel_rfl) (fun _ _ _ h => h) hS (yields_of (by kernel_rfl) (fun w hw => by obtain ⟨h0, h1⟩ := hw; go_simp)) ?_
  refine wpAnyU_take (i := 4) (v := (.slice (some ⟨b, off, none⟩) len cap)) (some 10) rfl rfl (by kernel_rfl) (by kernel_rfl) (by kernel_rfl) (by kernel_rfl) (fun _ _ _ h => h) hS (yields_of (by kernel_rfl) (fun w hw => by obtain ⟨h0, h1⟩ := hw; go_simp)) ?_
  refine wpAnyU_take (i := 5) (v := (.pointer (some ⟨b, off, none⟩))) (some 11) rfl rfl (by kernel_rfl) (by kernel_rfl) (by kernel_rfl) (by kernel_rfl) (fun _ _ _ h => h) hS (yields_of (by kernel_rfl) (fun w hw => by obtain ⟨h0, h1⟩ := hw; go_simp)) ?_
  refine wpAnyU_take (i := 6) (v := (.pointer (some ⟨b, off + 3, none⟩))) (some 12) rfl rfl (by kernel_rfl) (by kernel_rfl) (by kernel_rfl) (by kernel_rfl) (fun _ _ _ h => h) hS (yields_of (by kernel_rfl) (fun w hw => by obtain ⟨h0, h1⟩ := hw; go_simp)) ?_
  refine wpAnyU_take (i := 7) (v := (.string ⟨hi.toArray⟩)) (some 13) rfl rfl (by kernel_rfl) (by kernel_rfl) (by kernel_rfl) (by kernel_rfl) (fun _ _ _ h => h) hS (yields_of (by kernel_rfl) (fun w hw => by obtain ⟨h0, h1⟩ := hw; go_simp)) ?_
  refine wpAnyU_take (i := 8) (v := (.agg #[.string ⟨lo.toArray⟩, .string ⟨hi.toArray⟩])) (some 14) rfl rfl (by kernel_rfl) (by kernel_rfl) (by kernel_rfl) (by kernel_rfl) (fun _ _ _ h => h) hS (yields_of (by kernel_rfl) (fun w hw => by obtain ⟨h0, h1⟩ := hw; go_simp)) ?_
  obtain ⟨wd, hwd⟩ : ∃ wd, wd = wa.drew := ⟨_, rfl⟩
  have hkd : Kept (fun _ => False) w wd := by rw [hwd]; exact hk0.drewN 1
  have hRd : Holds wd g2 (keysC [] []) 56 := by rw [hwd]; exact hR0
  rw [← hwd]
  clear hwd hk0 hR0 hcc hS
  have hke : Kept (fun _ => False) w (wd.alloc (.cells #[.string ⟨([] : VTxt).toArray⟩, .string ⟨([] : VTxt).toArray⟩] 56)) := hkd.alloc _
  have hRe : Holds (wd.alloc (.cells #[.string ⟨([] : VTxt).toArray⟩, .string ⟨([] : VTxt).toArray⟩] 56)) g2 (keysC [] []) 56 := hRd.alloc _
  have hBe : Holds (wd.alloc (.cells #[.string ⟨([] : VTxt).toArray⟩, .string ⟨([] : VTxt).toArray⟩] 56)) wd.heap.size (keysC [] []) 56 := Holds.new wd _ _
  have hfar : w.heap.size ≤ g2 ∧ g2 < wd.heap.size := ⟨by rw [hg2.out]; exact Nat.le_refl _, hRd.lt⟩
  obtain ⟨g3, hg3⟩ : ∃ g3, g3 = wd.heap.size := ⟨_, rfl⟩
  rw [← hg3] at hBe hfar
  refine wpAnyU_run (i := 9) (v := .pointer (some ⟨g3, 0, none⟩)) (w' := wd.alloc (.cells #[.string ⟨([] : VTxt).toArray⟩, .string ⟨([] : VTxt).toArray⟩] 56)) (some 3) rfl rfl (by kernel_rfl) (by kernel_rfl) (by simp only [put_lit, List.set_cons_succ, List.set_cons_zero]; rw [hg3]; go_simp) (fun _ => ⟨(hke.cell (p := ⟨b, off + 2, none⟩) hbl (fun f => f)).trans HC.out.1, (hke.cell (p := ⟨b, off + 3, none⟩) hbl (fun f => f)).trans HC.out.2⟩) ?_
  generalize wd.alloc (.cells #[.string ⟨([] : VTxt).toArray⟩, .string ⟨([] : VTxt).toArray⟩] 56) = we at hke hRe hBe ⊢
  clear hkd hRd hg3
  have q0 := hBe.free 0
  have q1 := hBe.free 1
  have r0 : we.cell? ⟨g3, 0, none⟩ = some (.string ⟨([] : VTxt).toArray⟩) := hBe.cell 0 _ rfl
  have r1 : we.cell? ⟨g3, 1, none⟩ = some (.string ⟨([] : VTxt).toArray⟩) := hBe.cell 1 _ rfl
  have hPN := hBe.setCells [.string ⟨lo.toArray⟩, .string ⟨hi.toArray⟩] 0 we (keysC [] []) (Nat.le_refl _)
  rw [lay_all (keysC [] []) [.string ⟨lo.toArray⟩, .string ⟨hi.toArray⟩] rfl] at hPN
  have HB : Hid (RchS w (we.setCells g3 0 [.string ⟨lo.toArray⟩, .string ⟨hi.toArray⟩]) g2 g3 lo hi) :=
    ⟨Kept.setCellsN (by omega) _ 0 we hke, hfar, Holds.setOther hRe (by omega), hPN⟩
  refine wpAnyU_skip (i := 10) (w' := we.setCells g3 0 [.string ⟨lo.toArray⟩, .string ⟨hi.toArray⟩]) none rfl rfl (by kernel_rfl) (by kernel_rfl) (by simp only [put_lit, List.set_cons_succ, List.set_cons_zero]; go_simp; rfl) (fun h => absurd h (by decide)) ?_
  refine wpAnyU_done (by kernel_rfl) ?_ _
  simp only [put_lit, List.set_cons_succ, List.set_cons_zero]
  generalize we.setCells g3 0 [.string ⟨lo.toArray⟩, .string ⟨hi.toArray⟩] = w6 at HB ⊢
  clear hke hRe hBe q0 q1 r0 r1 hPN hg2 HC hfar
  go_wp2
  go_loopw [18] (fun i wr => ∃ (j : Nat) (l1 l2 : VTxt), j ≤ n ∧ i = .int .i64 (j : Int) ∧ Hid (RchS w wr g2 g3 l1 l2) ∧ Hid (SpanL l (j + 1) l1 l2)) (fun i _ => n - (intOf i).toNat)
  case atStart => exact ⟨0, lo, hi, Nat.zero_le _, rfl, HB, HS0⟩
  case round =>
    clear HB HS0
    obtain ⟨j, lo, hi, hj, rfl, hB, hP⟩ := hrel
    have j0 : (0 : Int) ≤ (j : Int) := by omega
    have hwj : IntKind.i64.wrap ((j : Int) + 1) = (j : Int) + 1 := IntWalk.i64_in _ (by omega)
    by_cases hlt : j < n
    case neg =>
      obtain rfl : j = n := by omega
      have jN : ¬(j : Int) < (j : Int) := by omega
      have d0 : wr.cell? ⟨g3, 0, none⟩ = some (.string ⟨lo.toArray⟩) := hB.out.box.cell 0 _ rfl
      have d1 : wr.cell? ⟨g3, 1, none⟩ = some (.string ⟨hi.toArray⟩) := hB.out.box.cell 1 _ rfl
      have HE : Hid (SpanL l len lo hi) := by
        have := hP.out
        rw [HN.out, hlen] at this
        exact this
      have HT := Lib.hid (hB.out.res.there 0 2 (by simp [keysC]))
      go_wp2_with (refine wpList_store_mid rfl 56 (.tmp 2) (.tmp 35) rfl g2 0 #[.string ⟨lo.toArray⟩, .string ⟨hi.toArray⟩] rfl rfl HT.out (by kernel_rfl) (by simp [Value.oneCell']) ?_)
      have hPN := hB.out.res.setCells [.string ⟨lo.toArray⟩, .string ⟨hi.toArray⟩] 0 wr (keysC [] []) (Nat.le_refl _)
      rw [lay_all (keysC [] []) [.string ⟨lo.toArray⟩, .string ⟨hi.toArray⟩] rfl] at hPN
      have hkN : Kept (fun _ => False) w (wr.setCells g2 0 [.string ⟨lo.toArray⟩, .string ⟨hi.toArray⟩]) := Kept.setCellsN hB.out.far.1 _ 0 wr hB.out.kept
      refine bodyPost_ret (v := .agg (keysC lo hi).toArray) ?_ rfl ⟨lo, hi, rfl, HE.out, hkN⟩
      exact results_cell_row rfl _ _ g2 56 (keysC lo hi).toArray _ _ rfl hPN Try.underlying56 rfl (by kernel_rfl)
    have jN : (j : Int) < (n : Int) := by omega
    have hjl : j < (l.drop 1).length := by rw [List.length_drop]; have := HN.out; omega
    have hjl2 : j + 1 < l.length := by have := HN.out; omega
    obtain ⟨b2, off2, rfl, hbl2, e0, e1, e2, e3, e4, -⟩ := (metas_kept HM2.out hB.out.kept).at j hjl
    obtain ⟨x, hx⟩ : ∃ x, Hid (x = l[j + 1]) := ⟨l[j + 1], rfl⟩
    have hxe : (l.drop 1)[j] = x := by rw [hx.out, List.getElem_drop]; congr 1; omega
    rw [hxe] at e0 e1 e2 e3 e4
    clear hxe hjl
    go_upto_region 5 with fail
    obtain ⟨gx, hgx⟩ : ∃ gx, gx = wr.heap.size := ⟨_, rfl⟩
    have HI8 : Hid (RchS w (wr.alloc (.cells #[.int .i64 x.1, .int .i64 x.2.1, .string ⟨x.2.2.1.toArray⟩, .string ⟨x.2.2.2.1.toArray⟩, .int .i64 x.2.2.2.2] 49)) g2 g3 lo hi ∧
        Holds (wr.alloc (.cells #[.int .i64 x.1, .int .i64 x.2.1, .string ⟨x.2.2.1.toArray⟩, .string ⟨x.2.2.2.1.toArray⟩, .int .i64 x.2.2.2.2] 49)) gx (metaC x) 49 ∧ g3 < gx) := by
      rw [hgx]; exact ⟨hB.out.quiet ((Kept.refl _ _).alloc _), Holds.new wr (metaC x) _, hB.out.box.lt⟩
    rw [← hgx]
    generalize wr.alloc (.cells #[.int .i64 x.1, .int .i64 x.2.1, .string ⟨x.2.2.1.toArray⟩, .string ⟨x.2.2.2.1.toArray⟩, .int .i64 x.2.2.2.2] 49) = w8 at HI8 ⊢
    clear hgx hB e0 e1 e2 e3 e4 hbl2
    obtain ⟨z1, hz1⟩ : ∃ z1 : VTxt, Hid (z1 = x.2.2.1) := ⟨x.2.2.1, rfl⟩
    obtain ⟨z2, hz2⟩ : ∃ z2 : VTxt, Hid (z2 = x.2.2.2.1) := ⟨x.2.2.2.1, rfl⟩
    obtain ⟨lo2, hlo2, HMn⟩ := min16 lo z1
    obtain ⟨hi2, hhi2, HMx⟩ := max16 hi z2 w8
    have HNx : Hid (SpanL l (j + 1 + 1) lo2 hi2) := hP.out.step hjl2 (by rw [← hx.out, ← hz1.out]; exact hlo2) (by rw [← hx.out, ← hz2.out]; exact hhi2)
    have hS : (fun W : World => W.cell? ⟨g3, 1, none⟩ = some (.string ⟨hi.toArray⟩) ∧ W.cell? ⟨gx, 2, none⟩ = some (.string ⟨z1.toArray⟩) ∧ W.cell? ⟨gx, 3, none⟩ = some (.string ⟨z2.toArray⟩)) w8.drew :=
      ⟨HI8.out.1.box.cell 1 _ rfl, by rw [hz1.out]; exact HI8.out.2.1.cell 2 _ rfl, by rw [hz2.out]; exact HI8.out.2.1.cell 3 _ rfl⟩
    clear hlo2 hhi2 hP
    have s0 : w8.drew.cell? ⟨g3, 0, none⟩ = some (.string ⟨lo.toArray⟩) := HI8.out.1.box.cell 0 _ rfl
    refine wp_region_until (fun W : World => W.cell? ⟨g3, 1, none⟩ = some (.string ⟨hi.toArray⟩) ∧ W.cell? ⟨gx, 2, none⟩ = some (.string ⟨z1.toArray⟩) ∧ W.cell? ⟨gx, 3, none⟩ = some (.string ⟨z2.toArray⟩)) 13 (by kernel_rfl) ?_
    refine wpAnyU_take (i := 2) (v := (.pointer (some ⟨gx, 2, none⟩))) (some 24) rfl rfl (by kernel_rfl) (by kernel_rfl) (by kernel_rfl) (by kernel_rfl) (fun _ _ _ h => h) hS (yields_of (by kernel_rfl) (fun w hw => by obtain ⟨h1, h2, h3⟩ := hw; go_simp)) ?_
    refine wpAnyU_take (i := 3) (v := (.string ⟨z1.toArray⟩)) (some 25) rfl rfl (by kernel_rfl) (by kernel_rfl) (by kernel_rfl) (by kernel_rfl) (fun _ _ _ h => h) hS (yields_of (by kernel_rfl) (fun w hw => by obtain ⟨h1, h2, h3⟩ := hw; go_simp)) ?_
    refine wpAnyU_take (i := 5) (v := (.pointer (some ⟨g3, 1, none⟩))) (some 27) rfl rfl (by kernel_rfl) (by kernel_rfl) (by kernel_rfl) (by kernel_rfl) (fun _ _ _ h => h) hS (yields_of (by kernel_rfl) (fun w hw => by obtain ⟨h1, h2, h3⟩ := hw; go_simp)) ?_
    refine wpAnyU_take (i := 6) (v := (.string ⟨hi.toArray⟩)) (some 28) rfl rfl (by kernel_rfl) (by kernel_rfl) (by kernel_rfl) (by kernel_rfl) (fun _ _ _ h => h) hS (yields_of (by kernel_rfl) (fun w hw => by obtain ⟨h1, h2, h3⟩ := hw; go_simp)) ?_
    refine wpAnyU_take (i := 7) (v := (.pointer (some ⟨gx, 3, none⟩))) (some 29) rfl rfl (by kernel_rfl) (by kernel_rfl) (by kernel_rfl) (by kernel_rfl) (fun _ _ _ h => h) hS (yields_of (by kernel_rfl) (fun w hw => by obtain ⟨h1, h2, h3⟩ := hw; go_simp)) ?_
    refine wpAnyU_take (i := 8) (v := (.string ⟨z2.toArray⟩)) (some 30) rfl rfl (by kernel_rfl) (by kernel_rfl) (by kernel_rfl) (by kernel_rfl) (fun _ _ _ h => h) hS (yields_of (by kernel_rfl) (fun w hw => by obtain ⟨h1, h2, h3⟩ := hw; go_simp)) ?_
    refine wpAnyU_take (i := 9) (v := (.string ⟨hi2.toArray⟩)) (some 31) rfl rfl (by kernel_rfl) (by kernel_rfl) (by kernel_rfl) (by kernel_rfl) (fun _ _ _ h => h) hS (yields_of (by kernel_rfl) (fun w hw => by obtain ⟨h1, h2, h3⟩ := hw; go_simp)) ?_
    refine wpAnyU_run (i := 0) (v := (.pointer (some ⟨g3, 0, none⟩))) (w' := w8.drew) (some 22) rfl rfl (by kernel_rfl) (by kernel_rfl) (by simp only [put_lit, List.set_cons_succ, List.set_cons_zero]; go_simp) (fun _ => hS) ?_
    refine wpAnyU_run (i := 1) (v := (.string ⟨lo.toArray⟩)) (w' := w8.drew) (some 23) rfl rfl (by kernel_rfl) (by kernel_rfl) (by simp only [put_lit, List.set_cons_succ, List.set_cons_zero]; go_simp) (fun _ => hS) ?_
    refine wpAnyU_run (i := 4) (v := (.string ⟨lo2.toArray⟩)) (w' := w8.drew) (some 26) rfl rfl (by kernel_rfl) (by kernel_rfl) (by simp only [put_lit, List.set_cons_succ, List.set_cons_zero]; go_simp) (fun _ => hS) ?_
    have h12 : g3 ≠ gx := by have := HI8.out.2.2; omega
    have q0 := (show Holds w8.drew g3 _ _ from HI8.out.1.box).free 0
    have q1 := (show Holds w8.drew g3 _ _ from HI8.out.1.box).free 1
    have hB8 : Holds w8.drew g3 (keysC lo hi) 56 := HI8.out.1.box
    have hk8 : Kept (fun _ => False) w w8.drew := HI8.out.1.kept.drewN 1
    have hR8 : Holds w8.drew g2 (keysC [] []) 56 := HI8.out.1.res
    have hfar := HI8.out.1.far
    refine wpAnyU_run (i := 10) (v := .pointer (some ⟨g3, 0, none⟩)) (w' := w8.drew) (some 32) rfl rfl (by kernel_rfl) (by kernel_rfl) (by simp only [put_lit, List.set_cons_succ, List.set_cons_zero]; go_simp) (fun _ => hS) ?_
    have s1 := hS.1
    generalize w8.drew = w9 at hS q0 q1 hB8 hk8 hR8 s0 s1 ⊢
    have hS9 : (fun W : World => W.cell? ⟨g3, 1, none⟩ = some (.string ⟨hi.toArray⟩) ∧ W.cell? ⟨gx, 2, none⟩ = some (.string ⟨z1.toArray⟩) ∧ W.cell? ⟨gx, 3, none⟩ = some (.string ⟨z2.toArray⟩)) (w9.setCell ⟨g3, 0, none⟩ (.string ⟨lo2.toArray⟩)) := ⟨(hB8.set 0 _).cell 1 _ rfl, (World.cell?_of_block (setCells_other g3 gx (Ne.symm h12) [.string ⟨lo2.toArray⟩] 0 w9)).trans hS.2.1, (World.cell?_of_block (setCells_other g3 gx (Ne.symm h12) [.string ⟨lo2.toArray⟩] 0 w9)).trans hS.2.2⟩
    refine wpAnyU_skip (i := 11) (w' := w9.setCell ⟨g3, 0, none⟩ (.string ⟨lo2.toArray⟩)) none rfl rfl (by kernel_rfl) (by kernel_rfl) (by simp only [put_lit, List.set_cons_succ, List.set_cons_zero]; go_simp) (fun _ => hS9) ?_
    have hB9 := hB8.set 0 (.string ⟨lo2.toArray⟩)
    have hk9 : Kept (fun _ => False) w (w9.setCell ⟨g3, 0, none⟩ (.string ⟨lo2.toArray⟩)) := hk8.setNew (p := ⟨g3, 0, none⟩) (by show w.heap.size ≤ g3; omega) _
    have hR9 := hR8.ne (g := g3) (by omega) 0 (.string ⟨lo2.toArray⟩)
    have t1 : (w9.setCell ⟨g3, 0, none⟩ (.string ⟨lo2.toArray⟩)).cell? ⟨g3, 1, none⟩ = some (.string ⟨hi.toArray⟩) := hB9.cell 1 _ rfl
    have p1 := hB9.free 1
    clear hB8 hk8 hR8 hS q0 q1 s0 s1
    generalize w9.setCell ⟨g3, 0, none⟩ (.string ⟨lo2.toArray⟩) = w10 at hS9 hB9 hk9 hR9 t1 p1 ⊢
    refine wpAnyU_run (i := 12) (v := .pointer (some ⟨g3, 1, none⟩)) (w' := w10) (some 33) rfl rfl (by kernel_rfl) (by kernel_rfl) (by simp only [put_lit, List.set_cons_succ, List.set_cons_zero]; go_simp) (fun _ => hS9) ?_
    refine wpAnyU_skip (i := 13) (w' := w10.setCell ⟨g3, 1, none⟩ (.string ⟨hi2.toArray⟩)) none rfl rfl (by kernel_rfl) (by kernel_rfl) (by simp only [put_lit, List.set_cons_succ, List.set_cons_zero]; go_simp) (fun h => absurd h (by decide)) ?_
    refine wpAnyU_done (by kernel_rfl) ?_ _
    simp only [put_lit, List.set_cons_succ, List.set_cons_zero]
    have HB10 : Hid (RchS w (w10.setCell ⟨g3, 1, none⟩ (.string ⟨hi2.toArray⟩)) g2 g3 lo2 hi2) :=
      ⟨hk9.setNew (p := ⟨g3, 1, none⟩) (by show w.heap.size ≤ g3; omega) _, hfar, hR9.ne (by omega) 1 _, hB9.set 1 _⟩
    generalize w10.setCell ⟨g3, 1, none⟩ (.string ⟨hi2.toArray⟩) = w11 at HB10 ⊢
    clear hB9 hk9 hR9 t1 p1 HI8 hz1 hz2 hx hjl2 hfar
    go_wp2
    go_roundw
    case rel => exact ⟨j + 1, lo2, hi2, hlt, by first | rfl | go_num, HB10, HNx⟩
    case measure => simp [intOf]; omega

end Go.Proofs.Ytgcepbpdicadnaa

/- The program of layer 16: slices.Grow of nothing and slices.Concat of lists of tables, walked in place. -/
namespace Go.Proofs.Ytgcepbpdicadnaa
open Go.RowKit Go.Proofs Go.Proofs.Pk
set_option maxRecDepth 10000
attribute [local simp] mk_get wrap64_u8 mk_extract ByteArray.mk_append_mk

/-- Lists of tables in memory. -/
def LsM (w : World) (ad : Option Addr) (len : Nat) (ls : List (List MetaV)) : Prop :=
  ls.length = len ∧ (ls = [] ∨ ∃ b off, ad = some ⟨b, off, none⟩ ∧ b < w.heap.size ∧ ∀ i (h : i < ls.length), ∃ (ai : Option Addr) (ci : Nat), w.cell? ⟨b, off + i, none⟩ = some (.slice ai ls[i].length ci) ∧ MetasW w ai ls[i].length ls[i] ∧ ls[i].length ≤ ci)
theorem LsM.at {w : World} {ad : Option Addr} {len : Nat} {ls : List (List MetaV)} (h : LsM w ad len ls) {i : Nat} (hi : i < ls.length) : ∃ b off ai ci, ad = some ⟨b, off, none⟩ ∧ (∀ W, Kept (fun _ => False) w W → W.cell? ⟨b, off + i, none⟩ = some (.slice ai ls[i].length ci) ∧ MetasW W ai ls[i].length ls[i]) := by
  rcases h.2 with h0 | ⟨b, off, h1, h2, h3⟩
  · rw [h0] at hi; simp at hi
  · obtain ⟨ai, ci, hc, he, _⟩ := h3 i hi
    exact ⟨b, off, ai, ci, h1, fun W hk => ⟨(hk.cell (p := ⟨b, off + i, none⟩) h2 (fun f => f)).trans hc, metas_kept he hk⟩⟩
theorem fits_ofM {w : World} {ad : Option Addr} {len : Nat} {T : List MetaV} (h : MetasW w ad len T) : ∀ m ∈ T, FitMV m := fun m hm => by
  obtain ⟨i, hi, rfl⟩ := List.mem_iff_getElem.1 hm
  obtain ⟨_, _, _, _, _, _, _, _, _, hf⟩ := MetasW.at h i hi
  exact hf
/-- A list of tables that grows in a row of its own. -/
def OutM (w0 w : World) (ad : Option Addr) (n cap : Nat) (T : List MetaV) : Prop := T.length = n ∧ w.ownsRow w0.heap.size 49 5 (.slice ad n cap) n (T.flatMap metaC) ∧ Kept (fun _ => False) w0 w ∧ ∀ m ∈ T, FitMV m
theorem OutM.nil {w0 w : World} (h : Kept (fun _ => False) w0 w) : OutM w0 w none 0 0 [] := ⟨rfl, World.ownsRow_nil _ _ _ _, h, fun _ h => (by cases h)⟩
theorem OutM.few {w0 w : World} {ad : Option Addr} {n cap : Nat} {T : List MetaV} (h : OutM w0 w ad n cap T) : n ≤ cap ∧ (n = 0 ∧ ad = none ∧ cap = 0 ∨ ∃ g, ad = some ⟨g, 0, none⟩) := by
  rcases h.2.1.2 with ⟨hv, hn⟩ | ⟨g, c, cur, hv, _, h2, h3, _⟩
  · cases hv; exact ⟨Nat.le_of_eq hn, .inl ⟨hn, rfl, rfl⟩⟩
  · cases hv; exact ⟨h3, .inr ⟨g, rfl⟩⟩
theorem OutM.metas {w0 w : World} {ad : Option Addr} {n cap : Nat} {T : List MetaV} (h : OutM w0 w ad n cap T) : MetasW w ad n T ∧ n ≤ cap := by
  obtain ⟨ad2, cap2, hv, h1, h2, _⟩ := owns_metas h.2.1 h.1 h.2.2.2
  cases hv
  exact ⟨h1, h2⟩
/-- What an append's run gives is what its operation does. -/
theorem wpList_run_appendM {P : Program} {ops : Array Oper} {rest : List Oper} {o : Oper} {a : Act} {Q : Exit → Act → World → Prop} {W w' : World} {v' vs vx : Value} (hgd : o.guard = none) (s x : Operand) (t ty : TypeId)
    (ho : o.op = .call { callee := .builtin .append, args := #[s, x], argTypes := #[t, t] }) (hty : o.type = ty) (hs : a.eval s = vs) (hx : a.eval x = vx)
    (hrun : (Builtin.append_ #[t, t] ty #[vs, vx]).run P W = .ok v' w') (h : wpList P ops Q rest (a.put o.dst v') w') : wpList P ops Q (o :: rest) a W := by
  refine wpList_plain hgd fun K hK => ?_
  unfold Oper.wp
  rw [← hty] at hrun
  simp [execOp, ho, resolve, invoke, builtin, hs, hx, hrun, Result.andThen]
  exact hK _ _ h
/-- A whole list of tables behind what there is. -/
theorem app_metas {w0 W : World} {ad ax : Option Addr} {n cap m cx : Nat} {T L : List MetaV} (h : OutM w0 W ad n cap T) (he : MetasW W ax m L) (hb : n + m ≤ 1000000) (ty : TypeId) :
    ∃ (ad2 : Option Addr) (cap2 : Nat) (w' : World), (Builtin.append_ #[22, 22] ty #[.slice ad n cap, .slice ax m cx]).run Try.prog W = .ok (.slice ad2 (n + m) cap2) w' ∧ OutM w0 w' ad2 (n + m) cap2 (T ++ L) := by
  obtain ⟨i0, hi0, hz0, hz1, hz2⟩ := parts_of meta_info
  have hlen := he.1
  by_cases hm : m = 0
  · subst hm
    have hL : L = [] := List.length_eq_zero_iff.1 hlen
    subst hL
    obtain ⟨hfew, hform⟩ := h.few
    refine ⟨ad, cap, W, ?_, by simpa using h⟩
    have hs : (Go.sizeOf 49).run Try.prog W = .ok 5 W := by kernel_rfl
    have hu : Try.prog.underlying 22 = some (.slice 49) := by kernel_rfl
    rcases hform with ⟨h0, rfl, rfl⟩ | ⟨g, rfl⟩
    · subst h0
      cases ax <;> simp [Builtin.append_, run_underlying hu, hs, Builtin.lenOf, Builtin.firstCells, loadCells, Result.andThen, go_sem]
    · cases ax <;> simp [Builtin.append_, run_underlying hu, hs, Builtin.lenOf, Builtin.firstCells, loadCells, hfew, storeCells, Result.andThen, go_sem]
  cases ax with
  | none =>
    have hL : L = [] := by
      rcases he.2 with h0 | ⟨b, off, h1, _⟩
      · exact h0
      · cases h1
    subst hL
    exact absurd (by simpa using hlen.symm) hm
  | some a =>
    have hc : ∀ (k : Nat) (u : Value), (L.flatMap metaC)[k]? = some u → W.cell? (a.add k) = some u := fun k u hu => by
      rcases he.2 with h0 | ⟨b, off, h1, h2, h3⟩
      · rw [h0] at hu; simp at hu
      · cases h1
        rw [addM]
        exact metas_get h3 k u hu
    obtain ⟨v', w', hr, h2, h3, h4⟩ := run_append_at (P := Try.prog) W w0.heap.size 22 ty 49 i0 _ 5 56 Try.underlying22 hi0 hz0 hz1 hz2 rfl (by decide) (.slice ad n cap) n (T.flatMap metaC) h.2.1 a m cx (L.flatMap metaC) (by rw [metasC_length, hlen]) hc (metas_one _) (by unfold maxLen; omega) (by omega) h.2.2.1.size (by omega)
    obtain ⟨ad2, cap2, rfl⟩ : ∃ ad2 cap2, v' = .slice ad2 (n + m) cap2 := by
      rcases h2.2 with ⟨hv, h0⟩ | ⟨g, c, cur, hv, _⟩
      · exact ⟨none, 0, by rw [hv]; congr 1; exact h0.symm⟩
      · exact ⟨_, _, hv⟩
    refine ⟨ad2, cap2, w', hr, by rw [List.length_append, h.1, hlen], by rw [List.flatMap_append]; exact h2, kept_grown h.2.2.1 h3 (fun b hb => .inr (h.2.1.lt b hb).1), fun e hx => ?_⟩
    rcases List.mem_append.1 hx with hx | hx
    · exact h.2.2.2 e hx
    · exact fits_ofM he e hx
theorem flat_takeM {ls : List (List MetaV)} {i : Nat} (hi : i < ls.length) : (ls.take i).flatten.length + ls[i].length ≤ ls.flatten.length := by
  have e : ls = ls.take i ++ (ls[i] :: ls.drop (i + 1)) := by rw [← List.drop_eq_getElem_cons hi, List.take_append_drop]
  have h2 : ls.flatten.length = ((ls.take i) ++ (ls[i] :: ls.drop (i + 1))).flatten.length := by rw [← e]
  rw [h2, List.flatten_append, List.length_append, List.flatten_cons, List.length_append]
  omega
theorem slice_none0M (w : World) : (Instr.slice 22 (.slice none 0 0) none (some (.int .i64 0)) none).run Try.prog w = .ok (.slice none 0 0) w := by
  have hu : Try.prog.underlying 22 = some (.slice 49) := by kernel_rfl
  have hz : (Go.sizeOf 49).run Try.prog w = .ok 5 w := by kernel_rfl
  simp only [Instr.slice, Instr.sliceBounds, Instr.sliceBound, asIntOf, run_underlying hu, go_sem]
  simp [hz, Result.andThen]
theorem slice_some0M (g n c : Nat) (w : World) : (Instr.slice 22 (.slice (some ⟨g, 0, none⟩) n c) none (some (.int .i64 0)) none).run Try.prog w = .ok (.slice (some ⟨g, 0, none⟩) 0 c) w := by
  have hu : Try.prog.underlying 22 = some (.slice 49) := by kernel_rfl
  have hz : (Go.sizeOf 49).run Try.prog w = .ok 5 w := by kernel_rfl
  have ha := addM g 0 0
  simp only [Instr.slice, Instr.sliceBounds, Instr.sliceBound, asIntOf, run_underlying hu, go_sem]
  simp [hz, Result.andThen, ha]

set_option maxHeartbeats 2000000 in
theorem pGrowM (w : World) (n : Nat) (hn : n ≤ 1000000) :
    Calls Try.prog 41 #[.slice none 0 0, .int .i64 (n : Int)] w fun e w' => ∃ (ad : Option Addr) (cap : Nat), e = .returned (.slice ad 0 cap) ∧ OutM w w' ad 0 cap [] := by
  obtain ⟨i0, hi0, hz0, hz1, hz2⟩ := parts_of meta_info
  by_cases h0 : n = 0
  · subst h0
    go_enter Try.func41, Try.ntmps41
    go_wp2
    go_ret
    exact ⟨none, 0, rfl, OutM.nil (Kept.refl _ _)⟩
  have hr := fun ty => Lib.run_append_nil_zeros (P := Try.prog) w 22 3 ty 49 i0 _ .i64 .i64 Try.underlying22 Try.underlying3 hi0 hz0 n (by omega) (by rw [hz1]; decide) (by omega) (by rw [hz2]; omega)
  have hr := hr 22
  have hown := World.ownsRow_made (base := w.heap.size) (e := 49) (size := 5) w.drew (Builtin.zeroCells (Value.agg (metaC (0, 0, [], [], 0)).toArray).cells n ++ Builtin.zeroCells (Value.agg (metaC (0, 0, [], [], 0)).toArray).cells (grownCap w n 0 49 - n)) (grownCap w n 0 49) (Nat.le_refl _) (grownCap_le_maxLen w n 0 _ (by unfold maxLen; omega)) (by
    have := grownCap_ge w n 0 49
    have h4 : (Value.agg (metaC (0, 0, [], [], 0)).toArray).cells.size = 5 := rfl
    unfold Builtin.zeroCells
    simp only [h4, Array.size_append, Array.size_map, Array.size_range]
    omega)
  obtain ⟨g, hg⟩ : ∃ g, g = w.heap.size := ⟨_, rfl⟩
  obtain ⟨c, hc⟩ : ∃ c, c = grownCap w n 0 49 := ⟨_, rfl⟩
  obtain ⟨w1, hw1⟩ : ∃ w1, w1 = w.drew.alloc (.cells (Builtin.zeroCells (Value.agg (metaC (0, 0, [], [], 0)).toArray).cells n ++ Builtin.zeroCells (Value.agg (metaC (0, 0, [], [], 0)).toArray).cells (grownCap w n 0 49 - n)) 49) := ⟨_, rfl⟩
  rw [← hw1, ← hg, ← hc] at hr
  rw [← hw1, ← hc] at hown
  have HV : Hid (OutM w w1 (some ⟨g, 0, none⟩) 0 c []) := ⟨rfl, by rw [hg]; exact hown, by rw [hw1]; exact ((Kept.refl _ w).drewN 1).alloc _, fun _ h => (by cases h)⟩
  have s0 := slice_none0M w
  have s1 := slice_some0M g n c w1
  have nI : (0 : Int) < (n : Int) := by omega
  have nw : IntKind.i64.wrap (n : Int) = (n : Int) := IntWalk.i64_in _ (by omega)
  have nn : ¬(n : Int) < 0 := by omega
  clear hown hw1 hg hc hz2 hz1 hz0 hi0
  go_enter Try.func41, Try.ntmps41
  go_wp2_with (at_builtin; refine Lib.wpList_append_run _ rfl (.tmp 20) (.tmp 21) 22 3 rfl (.slice none 0 0) (.int .i64 (n : Int)) rfl rfl _ _ hr ?_)
  go_ret
  exact ⟨_, _, rfl, HV.out⟩

/-- What Concat answers. -/
def CatM (w : World) (R : List MetaV) (e : Ending) (w' : World) : Prop := ∃ (ad : Option Addr) (n cap : Nat), e = .returned (.slice ad n cap) ∧ OutM w w' ad n cap R
set_option maxHeartbeats 4000000 in
theorem pConcatM (w : World) (ad : Option Addr) (len cap : Nat) (ls : List (List MetaV)) (h : LsM w ad len ls) (hl : len ≤ 1000000) (hs : ls.flatten.length ≤ 1000000) :
    Calls Try.prog 25 #[.slice ad len cap] w (CatM w ls.flatten) := by
  have hlen := h.1
  have H := Lib.hid h
  have HS := Lib.hid hs
  have HG := Lib.hid (fun (W : World) => pGrowM W ls.flatten.length hs)
  obtain ⟨w0, hw0⟩ : ∃ w0, w0 = w := ⟨_, rfl⟩
  rw [← hw0] at H ⊢
  obtain ⟨R, hR⟩ : ∃ R, Hid (R = ls.flatten) := ⟨_, rfl⟩
  obtain ⟨S, hSd⟩ : ∃ S, S = ls.flatten.length := ⟨_, rfl⟩
  rw [← hSd] at HG
  have HSd := Lib.hid hSd
  rw [← hR.out]
  have HI : Hid (0 = (ls.take 0).flatten.length) := rfl
  clear h hs hSd
  go_enter Try.func25, Try.ntmps25
  clear hw0
  go_wp2
  go_loopw [3, 11] (fun s i wr => ∃ (j c : Nat), j ≤ len ∧ s = .int .i64 (c : Int) ∧ i = .int .i64 (j : Int) ∧ wr = w0 ∧ Hid (c = (ls.take j).flatten.length)) (fun _ i _ => len - (intOf i).toNat)
  case atStart => exact ⟨0, 0, Nat.zero_le _, rfl, rfl, rfl, HI⟩
  case round =>
    obtain ⟨j, c, hj, rfl, rfl, hwx, hI⟩ := hrel
    have hwx' := hwx.symm
    subst hwx'
    clear HI
    have j0 : (0 : Int) ≤ (j : Int) := by omega
    by_cases hlt : j < len
    case pos =>
      have jn : (j : Int) < (len : Int) := by omega
      have hwj : IntKind.i64.wrap ((j : Int) + 1) = (j : Int) + 1 := IntWalk.i64_in _ (by omega)
      have hjl : j < ls.length := by omega
      obtain ⟨b, off, ai, ci, rfl, hat⟩ := H.out.at hjl
      have c0 := (hat w0 (Kept.refl _ _)).1
      have hft := flat_takeM hjl
      have htk : (ls.take (j + 1)).flatten.length = (ls.take j).flatten.length + ls[j].length := by rw [List.take_succ_eq_append_getElem hjl, List.flatten_append, List.length_append]; simp
      obtain ⟨n, hn⟩ : ∃ n, n = ls[j].length := ⟨_, rfl⟩
      rw [← hn] at c0 hft htk
      have hcn : c + n ≤ 1000000 := by have := HS.out; have := hI.out; omega
      have hwc : IntKind.i64.wrap ((c : Int) + (n : Int)) = ((c + n : Nat) : Int) := by rw [IntWalk.i64_in _ (by omega)]; omega
      have hnn : ¬((c + n : Nat) : Int) < 0 := by omega
      have HN : Hid (c + n = (ls.take (j + 1)).flatten.length) := by show _ = _; rw [htk, ← hI.out]
      clear hft htk hI hn hat
      obtain ⟨d, hd⟩ : ∃ d, d = c + n := ⟨_, rfl⟩
      rw [← hd] at hwc hnn HN
      clear hd hcn
      go_wp2
      go_roundw
      case rel => exact ⟨j + 1, d, hlt, rfl, by first | rfl | go_num, by first | rfl | trivial, HN⟩
      case measure => simp [intOf]; omega
    obtain rfl : j = len := by omega
    have jn : ¬(j : Int) < (j : Int) := by omega
    have hcS : c = S := by
      rw [hI.out, HSd.out, List.take_of_length_le (by omega)]
    subst hcS
    clear hI
    go_wp2_with fail
    refine (HG.out w0).mono ?_
    clear HG
    rintro e w1 ⟨ag, cg, rfl, hO⟩
    have HI2 : Hid (OutM w0 w1 ag 0 cg (ls.take 0).flatten) := hO
    clear hO
    go_wp2
    go_loopw [6, 27] (fun o i wr => ∃ (k n : Nat) (ao : Option Addr) (co : Nat), k ≤ j ∧ o = .slice ao n co ∧ i = .int .i64 (k : Int) ∧ Hid (OutM w0 wr ao n co (ls.take k).flatten)) (fun _ i _ => j - (intOf i).toNat)
    case atStart => exact ⟨0, 0, ag, cg, Nat.zero_le _, rfl, rfl, HI2⟩
    case round =>
      clear HI2
      obtain ⟨k, n, ao, co, hk, rfl, rfl, hO⟩ := hrel
      have k0 : (0 : Int) ≤ (k : Int) := by omega
      by_cases hlt2 : k < j
      case neg =>
        obtain rfl : k = j := by omega
        have kn : ¬(k : Int) < (k : Int) := by omega
        have HV : Hid (OutM w0 wr ao n co R) := by
          have := hO.out
          rw [List.take_of_length_le (by omega), ← hR.out] at this
          exact this
        clear hO
        go_wp2
        go_ret
        exact ⟨ao, n, co, rfl, HV.out⟩
      have kn : (k : Int) < (j : Int) := by omega
      have hwk : IntKind.i64.wrap ((k : Int) + 1) = (k : Int) + 1 := IntWalk.i64_in _ (by omega)
      have hkl : k < ls.length := by omega
      obtain ⟨b, off, ai, ci, rfl, hat⟩ := H.out.at hkl
      obtain ⟨c0, hE⟩ := hat wr hO.out.2.2.1
      have hft := flat_takeM hkl
      obtain ⟨ao2, co2, wB, hrun, hO2⟩ := app_metas (cx := ci) hO.out hE (by have := HS.out; have := hO.out.1; omega) 22
      have htk : (ls.take (k + 1)).flatten = (ls.take k).flatten ++ ls[k] := by rw [List.take_succ_eq_append_getElem hkl, List.flatten_append]; simp
      have HN : Hid (OutM w0 wB ao2 (n + ls[k].length) co2 (ls.take (k + 1)).flatten) := by show OutM _ _ _ _ _ _; rw [htk]; exact hO2
      obtain ⟨m, hm⟩ : ∃ m, m = ls[k].length := ⟨_, rfl⟩
      rw [← hm] at HN hrun c0
      clear htk hO2 hft hm hO hat hE
      go_wp2_with (at_builtin; refine wpList_run_appendM rfl (.tmp 31) (.tmp 32) 22 22 rfl rfl rfl rfl hrun ?_)
      clear hrun c0
      go_roundw
      case rel => exact ⟨k + 1, n + m, ao2, co2, hlt2, rfl, by first | rfl | go_num, HN⟩
      case measure => simp [intOf]; omega

end Go.Proofs.Ytgcepbpdicadnaa
