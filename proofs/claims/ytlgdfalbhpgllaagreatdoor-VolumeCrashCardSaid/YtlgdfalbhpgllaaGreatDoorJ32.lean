/- PNw, Same7. -/
import Derived.Test.YtlgdfalbhpgllaaGreatDoorJ16
import Derived.Deep.RegionWith
import Derived.Laws.MakeOwn
import Derived.Test.YtlgdfalbhpgllaaGreatDoorJ05
import Derived.BigQuiet
import Derived.Laws.StructEq
import Derived.Deep.Cut

/- The program's New: what it gives. -/
namespace Go.Proofs.YtlgdfalbhpgllaaGreatDoor
open Go.RowKit Go.Proofs Go.Proofs.Pk
set_option maxRecDepth 10000
attribute [local simp] mk_get wrap64_u8 mk_extract ByteArray.mk_append_mk get_1k

theorem content_info : (Tryz.prog.info? 73).map (fun i => (i.zero, i.size, i.bytes)) = some (some (.agg (zeros 64).toArray), 64, 64) := by kernel_rfl

theorem zeros_eq (n : Nat) : zeros n = List.replicate n (.int .u8 0) := by simp [zeros, Lib.byteCells]
theorem cellsL_zero : ∀ n, cellsL (List.replicate n (List.replicate 64 0)) = zeros (n * 64)
  | 0 => rfl
  | n + 1 => by
    rw [List.replicate_succ, cellsL_cons, cellsL_zero n, zeros_eq, zeros_eq, show Lib.byteCells (List.replicate 64 0) = List.replicate 64 (.int .u8 0) from by simp [Lib.byteCells], List.replicate_append_replicate]
    congr 1; omega
theorem made_rep (m : Nat) (hm : 0 < m) (v : Value) (n : Nat) : madeCells (List.replicate m v).toArray n = (List.replicate n v).toArray := by
  apply Array.ext
  · rw [size_madeCells]; simp
  · intro i h1 h2
    have e : (List.replicate m v).toArray.size = m := by simp
    have hi : i % m < m := Nat.mod_lt _ hm
    simp only [madeCells, Array.getElem_map, Array.getElem_range, e]
    rw [getElem!_pos _ _ (by rw [e]; exact hi)]
    simp
theorem made_zeros (n : Nat) : madeCells (zeros 64).toArray n = (zeros n).toArray := by
  rw [zeros_eq, zeros_eq]; exact made_rep 64 (by decide) _ n

theorem run_make_content (n : Nat) (hn : n ≤ 4000) (w : World) : (Instr.makeSlice 58 (.int .i64 (n : Int)) (.int .i64 (n : Int))).run Tryz.prog w =
    .ok (.slice (some ⟨w.heap.size, 0, none⟩) n n) (w.alloc (.cells (cellsL (List.replicate n (List.replicate 64 0))).toArray 73)) := by
  obtain ⟨i, hi, hz, hs, hb⟩ := info_parts content_info
  have := run_make (P := Tryz.prog) w 58 73 i _ Tryz.underlying58 hi hz .i64 .i64 n n (by omega) (Int.le_refl _) (by rw [hb]; omega) (by omega)
  rw [this, hs]
  simp only [Int.toNat_natCast, Value.cells]
  rw [made_zeros, cellsL_zero]

/-- A disk, or none, and the error. -/
def N2 (w : World) (k : Int) (e : Ending) (w' : World) : Prop :=
  if 1 ≤ k ∧ k ≤ 4000 then ∃ p X, e = .returned (.tuple #[.pointer (some ⟨p, 0, none⟩), .nilIface]) ∧ DskP w' w.heap.size p (Dsk.new k.toNat) X ∧ Below w.heap.size w w'
  else e = .returned (.tuple #[.pointer none, erV 1]) ∧ Below w.heap.size w w'

theorem new_disk (w : World) (k a b : Nat) (C : List Value) (hC : C = cellsL (Dsk.new k).L) (hab : a = w.heap.size ∧ b = w.heap.size + 1 ∨ a = w.heap.size + 1 ∧ b = w.heap.size) :
    DskP (((w.alloc (.cells C.toArray 73)).alloc (.cells C.toArray 73)).alloc (.cells #[.slice (some ⟨a, 0, none⟩) k k, .slice (some ⟨b, 0, none⟩) k k, .slice none 0 0, .int .i64 (-1), .bool false, .int .i64 0] 61)).drew
      w.heap.size (w.heap.size + 2) (Dsk.new k) (Xof (w.heap.size + 2) a b (.slice none 0 0)) := by
  have hl : (Dsk.new k).L.length = k := by simp [Dsk.new]
  have s1 : (w.alloc (.cells C.toArray 73)).heap.size = w.heap.size + 1 := by simp
  have s2 : ((w.alloc (.cells C.toArray 73)).alloc (.cells C.toArray 73)).heap.size = w.heap.size + 2 := by simp
  have h0 := ((Holds.new w C 73).alloc (.cells C.toArray 73)).alloc (.cells #[.slice (some ⟨a, 0, none⟩) k k, .slice (some ⟨b, 0, none⟩) k k, .slice none 0 0, .int .i64 (-1), .bool false, .int .i64 0] 61)
  have h1 := (Holds.new (w.alloc (.cells C.toArray 73)) C 73).alloc (.cells #[.slice (some ⟨a, 0, none⟩) k k, .slice (some ⟨b, 0, none⟩) k k, .slice none 0 0, .int .i64 (-1), .bool false, .int .i64 0] 61)
  have h2 := Holds.new ((w.alloc (.cells C.toArray 73)).alloc (.cells C.toArray 73)) [.slice (some ⟨a, 0, none⟩) k k, .slice (some ⟨b, 0, none⟩) k k, .slice none 0 0, .int .i64 (-1), .bool false, .int .i64 0] 61
  rw [s1] at h1
  rw [s2] at h2
  have hA : ∀ g, g = w.heap.size ∨ g = w.heap.size + 1 → Holds (((w.alloc (.cells C.toArray 73)).alloc (.cells C.toArray 73)).alloc (.cells #[.slice (some ⟨a, 0, none⟩) k k, .slice (some ⟨b, 0, none⟩) k k, .slice none 0 0, .int .i64 (-1), .bool false, .int .i64 0] 61)).drew g C 73 := by
    rintro g (rfl | rfl)
    · exact h0.drew
    · exact h1.drew
  refine ⟨a, b, .slice none 0 0, ?_, hC ▸ hA a (by omega), ?_, ⟨rfl, .inl ⟨rfl, rfl⟩⟩, by omega, by omega, ⟨by simp [Value.ownBlock], by simp [Value.ownBlock], by simp [Value.ownBlock]⟩, fun _ => Iff.rfl⟩
  · rw [hl]; exact h2.drew
  · show Holds _ b (cellsL (Dsk.new k).L) _
    rw [← hC]; exact hA b (by omega)

set_option maxHeartbeats 1000000 in
theorem pNw_ok (k : Nat) (h1 : 1 ≤ k) (h2 : k ≤ 4000) (w : World) :
    Calls Tryz.prog 7 #[.int .i64 (k : Int)] w fun e w' =>
      ∃ p X, e = .returned (.tuple #[.pointer (some ⟨p, 0, none⟩), .nilIface]) ∧ DskP w' w.heap.size p (Dsk.new k) X ∧ Below w.heap.size w w' := by
  have hmk := run_make_content k h2
  have hk1 : decide ((k : Int) < 1) = false := by rw [decide_eq_false_iff_not]; omega
  have hk2 : (k : Int) ≤ 4000 := by omega
  obtain ⟨C, hC⟩ : ∃ C, C = cellsL (List.replicate k (List.replicate 64 0)) := ⟨_, rfl⟩
  have HC : Hid (C = cellsL (Dsk.new k).L) := hC
  rw [← hC] at hmk
  clear hC
  go_enter Tryz.func7, Tryz.ntmps7
  go_wp2_with fail
  go_region_with (fail)
  · go_wp2
    go_ret2
    exact ⟨w.heap.size + 2, _, rfl, new_disk w k w.heap.size (w.heap.size + 1) C HC.out (.inl ⟨rfl, rfl⟩), belowN ((((Below.refl _ _).alloc (Nat.le_refl _) _).alloc (by simp) _).alloc (by simp; omega) _) 1⟩
  · go_wp2
    go_ret2
    exact ⟨w.heap.size + 2, _, rfl, new_disk w k (w.heap.size + 1) w.heap.size C HC.out (.inr ⟨rfl, rfl⟩), belowN ((((Below.refl _ _).alloc (Nat.le_refl _) _).alloc (by simp) _).alloc (by simp; omega) _) 1⟩

set_option maxHeartbeats 1000000 in
theorem pNw_arg (k : Int) (h : ¬(1 ≤ k ∧ k ≤ 4000)) (w : World) :
    Calls Tryz.prog 7 #[.int .i64 k] w fun e w' => e = .returned (.tuple #[.pointer none, erV 1]) ∧ Below w.heap.size w w' := by
  have e1 : erV 1 = .iface 57 (.int .i64 1) := rfl
  rw [e1]
  by_cases hk : k < 1
  · have hk1 : decide (k < 1) = true := by simpa using hk
    clear h hk
    go_enter Tryz.func7, Tryz.ntmps7
    go_wp2
    all_goals
      go_ret2
      exact ⟨rfl, Below.refl _ _⟩
  · have hk1 : decide (k < 1) = false := by simpa using hk
    have hk2 : 4000 < k := by omega
    clear h hk
    go_enter Tryz.func7, Tryz.ntmps7
    go_wp2
    all_goals
      go_ret2
      exact ⟨rfl, Below.refl _ _⟩

theorem pNw (k : Int) (w : World) : Calls Tryz.prog 7 #[.int .i64 k] w (N2 w k) := by
  by_cases h : 1 ≤ k ∧ k ≤ 4000
  · obtain ⟨n, rfl⟩ := Int.eq_ofNat_of_zero_le (show 0 ≤ k by omega)
    refine (pNw_ok n (by omega) (by omega) w).mono fun e w' hq => ?_
    unfold N2; rw [if_pos h]; simpa using hq
  · refine (pNw_arg k h w).mono fun e w' hq => ?_
    unfold N2; rw [if_neg h]; exact hq

end Go.Proofs.YtlgdfalbhpgllaaGreatDoor

/- The law's own question whether two roots are the same (layer 7). -/
namespace Go.Proofs.YtlgdfalbhpgllaaGreatDoor
open Go.RowKit Go.Proofs Go.Proofs.Pk
set_option maxRecDepth 10000
attribute [local simp] mk_get wrap64_u8 mk_extract ByteArray.mk_append_mk get_1k

set_option maxHeartbeats 1000000 in
theorem same_true (s n c : Int) (a1 a2 : Option Addr) (len c1 c2 : Nat) (l : List FileV) (w : World) (h1 : Files w a1 len l) (h2 : Files w a2 len l) (hlen : len ≤ 9223372036854775806) :
    Calls Tryz.prog 16 #[.agg #[.int .i64 s, .int .i64 n, .int .i64 c, .slice a1 len c1], .agg #[.int .i64 s, .int .i64 n, .int .i64 c, .slice a2 len c2]] w fun e w' => e = .returned (.bool true) ∧ Below w.heap.size w w' := by
  have H1 := Lib.hid h1
  have H2 := Lib.hid h2
  clear h1 h2
  have hb0 := ((Below.refl w.heap.size w).alloc (Nat.le_refl _) (.cells #[.int .i64 s, .int .i64 n, .int .i64 c, .slice a1 len c1] 40)).alloc (by simp) (.cells #[.int .i64 s, .int .i64 n, .int .i64 c, .slice a2 len c2] 40)
  have HX := (Holds.new w [.int .i64 s, .int .i64 n, .int .i64 c, .slice a1 len c1] 40).alloc (.cells #[.int .i64 s, .int .i64 n, .int .i64 c, .slice a2 len c2] 40)
  have HY := Holds.new (w.alloc (.cells #[.int .i64 s, .int .i64 n, .int .i64 c, .slice a1 len c1] 40)) [.int .i64 s, .int .i64 n, .int .i64 c, .slice a2 len c2] 40
  rw [show (w.alloc (.cells #[.int .i64 s, .int .i64 n, .int .i64 c, .slice a1 len c1] 40)).heap.size = w.heap.size + 1 from by simp] at HY
  change Holds ((w.alloc (.cells #[.int .i64 s, .int .i64 n, .int .i64 c, .slice a1 len c1] 40)).alloc (.cells #[.int .i64 s, .int .i64 n, .int .i64 c, .slice a2 len c2] 40)) _ _ _ at HX
  change Holds ((w.alloc (.cells #[.int .i64 s, .int .i64 n, .int .i64 c, .slice a1 len c1] 40)).alloc (.cells #[.int .i64 s, .int .i64 n, .int .i64 c, .slice a2 len c2] 40)) _ _ _ at HY
  go_enter Tryz.func16, Tryz.ntmps16
  go_wp2
  obtain ⟨p, hp⟩ : ∃ p, Hid (p = w.heap.size) := ⟨_, rfl⟩
  obtain ⟨q, hq⟩ : ∃ q, Hid (q = w.heap.size + 1) := ⟨_, rfl⟩
  rw [← hq.out] at HY ⊢
  rw [← hp.out] at HX ⊢
  generalize (w.alloc (.cells #[.int .i64 s, .int .i64 n, .int .i64 c, .slice a1 len c1] 40)).alloc (.cells #[.int .i64 s, .int .i64 n, .int .i64 c, .slice a2 len c2] 40) = w1 at hb0 HX HY ⊢
  have HXh := Lib.hid HX
  have HYh := Lib.hid HY
  have HB := Lib.hid hb0
  clear hb0 HX HY
  obtain ⟨wq, hwq⟩ : ∃ wq, wq = w1 := ⟨_, rfl⟩
  have HS : Hid (Below w1.heap.size w1 wq) := by rw [hwq]; exact Below.refl _ _
  rw [← hwq]
  clear hwq
  go_loopw [5] (fun i wr => ∃ k : Nat, k ≤ len ∧ i = .int .i64 k ∧ Hid (Below w1.heap.size w1 wr)) (fun i _ => len - (intOf i).toNat)
  case atStart => exact ⟨0, Nat.zero_le _, rfl, HS⟩
  case round =>
    obtain ⟨k, hk, rfl, hb⟩ := hrel
    have hbw := Lib.hid (HB.out.trans (hb.out.mono HB.out.size))
    have x3 : wr.cell? ⟨p, 3, none⟩ = some (.slice a1 len c1) := (HXh.out.of_block (hb.out.block p HXh.out.lt)).cell 3 _ rfl
    have y3 : wr.cell? ⟨q, 3, none⟩ = some (.slice a2 len c2) := (HYh.out.of_block (hb.out.block q HYh.out.lt)).cell 3 _ rfl
    by_cases hlt : (k : Int) < len
    · have hkl : k < len := by omega
      obtain ⟨g, og, rfl, _, r1, _⟩ := files_at (H1.out.below hbw.out) k hkl
      obtain ⟨h, oh, rfl, _, r2, _⟩ := files_at (H2.out.below hbw.out) k hkl
      generalize l[k]'(by have := H1.out.1; omega) = f at r1 r2
      obtain ⟨f0, f1, f2⟩ := f
      have d0 : wr.cell? ⟨g, og + k * 3, none⟩ = some (.int .i64 f0) := r1 0 _ rfl
      have d1 : wr.cell? ⟨g, og + k * 3 + 1, none⟩ = some (.int .i64 f1) := r1 1 _ rfl
      have d2 : wr.cell? ⟨g, og + k * 3 + 2, none⟩ = some (.int .i64 f2) := r1 2 _ rfl
      have e0 : wr.cell? ⟨h, oh + k * 3, none⟩ = some (.int .i64 f0) := r2 0 _ rfl
      have e1 : wr.cell? ⟨h, oh + k * 3 + 1, none⟩ = some (.int .i64 f1) := r2 1 _ rfl
      have e2 : wr.cell? ⟨h, oh + k * 3 + 2, none⟩ = some (.int .i64 f2) := r2 2 _ rfl
      have hk0 : (0 : Int) ≤ (k : Int) := Int.natCast_nonneg _
      have hwk : IntKind.i64.wrap ((k : Int) + 1) = ((k + 1 : Nat) : Int) := by rw [IntWalk.i64_in _ (by omega)]; omega
      clear r1 r2
      go_upto_region 6 with (fail)
      go_quiet (fail)
      go_wp2
      refine ⟨⟨k + 1, by omega, by go_num, belowN hb.out nq⟩, by simp [intOf]; omega⟩
    · go_wp2
      go_ret
      exact ⟨rfl, hbw.out⟩

set_option maxHeartbeats 1000000 in
/-- Two roots whose numbers differ. -/
theorem same_heads (s1 n1 c1 s2 n2 c2 : Int) (a1 a2 : Option Addr) (l1 l2 k1 k2 : Nat) (w : World) (h : ¬(s1 = s2 ∧ n1 = n2 ∧ c1 = c2 ∧ l1 = l2)) :
    Calls Tryz.prog 16 #[.agg #[.int .i64 s1, .int .i64 n1, .int .i64 c1, .slice a1 l1 k1], .agg #[.int .i64 s2, .int .i64 n2, .int .i64 c2, .slice a2 l2 k2]] w fun e w' => e = .returned (.bool false) ∧ Below w.heap.size w w' := by
  have hb0 := ((Below.refl w.heap.size w).alloc (Nat.le_refl _) (.cells #[.int .i64 s1, .int .i64 n1, .int .i64 c1, .slice a1 l1 k1] 40)).alloc (by simp) (.cells #[.int .i64 s2, .int .i64 n2, .int .i64 c2, .slice a2 l2 k2] 40)
  by_cases hs : s1 = s2
  · by_cases hn : n1 = n2
    · by_cases hc : c1 = c2
      · have hl : ¬l1 = l2 := fun hl => h ⟨hs, hn, hc, hl⟩
        have hli : ((l1 : Int) != (l2 : Int)) = true := by simpa using fun x => hl (by omega)
        subst hs hn hc
        clear h hl
        go_enter Tryz.func16, Tryz.ntmps16
        go_wp2
        go_ret
        exact ⟨rfl, hb0⟩
      · have hli : (c1 != c2) = true := by simpa using hc
        subst hs hn
        clear h hc
        go_enter Tryz.func16, Tryz.ntmps16
        go_wp2
        go_ret
        exact ⟨rfl, hb0⟩
    · have hli : (n1 != n2) = true := by simpa using hn
      subst hs
      clear h hn
      go_enter Tryz.func16, Tryz.ntmps16
      go_wp2
      go_ret
      exact ⟨rfl, hb0⟩
  · have hli : (s1 != s2) = true := by simpa using hs
    clear h hs
    go_enter Tryz.func16, Tryz.ntmps16
    go_wp2
    go_ret
    exact ⟨rfl, hb0⟩

set_option maxHeartbeats 1000000 in
theorem file_neq (f0 f1 f2 g0 g1 g2 : Int) (h : ¬(f0 = g0 ∧ f1 = g1 ∧ f2 = g2)) (w : World) :
    (binOp .neq 49 (.agg #[.int .i64 f0, .int .i64 f1, .int .i64 f2]) (.agg #[.int .i64 g0, .int .i64 g1, .int .i64 g2])).run Tryz.prog w = .ok (.bool true) w := by
  have hi := @run_equalIn_int Tryz.prog w 9998 3 .i64 .i64
  have hu : Tryz.prog.underlying 3 = some (.int .i64) := by kernel_rfl
  obtain ⟨F, hF⟩ : ∃ F, F = (Tryz.prog.fieldsOf 49).toList.map (fun f => (f.name, f.type, f.offset)) := ⟨_, rfl⟩
  have hF' : F = [("ID", 3, 0), ("At", 3, 1), ("Many", 3, 2)] := by rw [hF]; kernel_rfl
  rw [run_neq_struct, show (10000 : Nat) = 9999 + 1 from rfl, run_equalIn_agg w 9999 _ _ _ (by kernel_rfl) (by kernel_rfl)]
  rw [hF] at hF'
  generalize (Tryz.prog.fieldsOf 49).toList = L at hF'
  have p0 : ∀ x y z : Value, (part 3 #[x, y, z] 0).run Tryz.prog w = .ok x w := fun x y z => by kernel_rfl
  have p1 : ∀ x y z : Value, (part 3 #[x, y, z] 1).run Tryz.prog w = .ok y w := fun x y z => by kernel_rfl
  have p2 : ∀ x y z : Value, (part 3 #[x, y, z] 2).run Tryz.prog w = .ok z w := fun x y z => by kernel_rfl
  obtain _ | ⟨a, _ | ⟨b, _ | ⟨c, _ | ⟨d, L⟩⟩⟩⟩ := L
  all_goals simp only [List.map_nil, List.map_cons, List.cons.injEq, Prod.mk.injEq, reduceCtorEq, and_true, and_false, true_and, List.nil_eq] at hF'
  obtain ⟨⟨an, at', ao⟩, ⟨bn, bt, bo⟩, ⟨cn, ct, co⟩⟩ := hF'
  have na : a.name ≠ "_" := by rw [an]; decide
  have nb : b.name ≠ "_" := by rw [bn]; decide
  have nc : c.name ≠ "_" := by rw [cn]; decide
  simp only [Op.eqFields, na, nb, nc, ne_eq, not_false_eq_true, if_true, at', ao, bt, bo, ct, co, Sem.run_bind, p0, p1, p2, Result.andThen_ok, hi _ _ hu, Sem.run_ite]
  by_cases h0 : f0 = g0
  · by_cases h1 : f1 = g1
    · have h2 : ¬f2 = g2 := fun h2 => h ⟨h0, h1, h2⟩
      simp [h0, h1, h2, Result.andThen]
    · simp [h0, h1, Result.andThen]
  · simp [h0, Result.andThen]

set_option maxHeartbeats 1000000 in
theorem same_lists (s n c : Int) (a1 a2 : Option Addr) (len c1 c2 : Nat) (l m : List FileV) (w : World) (h1 : Files w a1 len l) (h2 : Files w a2 len m) (hlen : len ≤ 9223372036854775806) :
    Calls Tryz.prog 16 #[.agg #[.int .i64 s, .int .i64 n, .int .i64 c, .slice a1 len c1], .agg #[.int .i64 s, .int .i64 n, .int .i64 c, .slice a2 len c2]] w fun e w' => (e = .returned (.bool false) ∨ e = .returned (.bool true)) ∧ Below w.heap.size w w' := by
  have H1 := Lib.hid h1
  have H2 := Lib.hid h2
  clear h1 h2
  have hb0 := ((Below.refl w.heap.size w).alloc (Nat.le_refl _) (.cells #[.int .i64 s, .int .i64 n, .int .i64 c, .slice a1 len c1] 40)).alloc (by simp) (.cells #[.int .i64 s, .int .i64 n, .int .i64 c, .slice a2 len c2] 40)
  have HX := (Holds.new w [.int .i64 s, .int .i64 n, .int .i64 c, .slice a1 len c1] 40).alloc (.cells #[.int .i64 s, .int .i64 n, .int .i64 c, .slice a2 len c2] 40)
  have HY := Holds.new (w.alloc (.cells #[.int .i64 s, .int .i64 n, .int .i64 c, .slice a1 len c1] 40)) [.int .i64 s, .int .i64 n, .int .i64 c, .slice a2 len c2] 40
  rw [show (w.alloc (.cells #[.int .i64 s, .int .i64 n, .int .i64 c, .slice a1 len c1] 40)).heap.size = w.heap.size + 1 from by simp] at HY
  change Holds ((w.alloc (.cells #[.int .i64 s, .int .i64 n, .int .i64 c, .slice a1 len c1] 40)).alloc (.cells #[.int .i64 s, .int .i64 n, .int .i64 c, .slice a2 len c2] 40)) _ _ _ at HX
  change Holds ((w.alloc (.cells #[.int .i64 s, .int .i64 n, .int .i64 c, .slice a1 len c1] 40)).alloc (.cells #[.int .i64 s, .int .i64 n, .int .i64 c, .slice a2 len c2] 40)) _ _ _ at HY
  go_enter Tryz.func16, Tryz.ntmps16
  go_wp2
  obtain ⟨p, hp⟩ : ∃ p, Hid (p = w.heap.size) := ⟨_, rfl⟩
  obtain ⟨q, hq⟩ : ∃ q, Hid (q = w.heap.size + 1) := ⟨_, rfl⟩
  rw [← hq.out] at HY ⊢
  rw [← hp.out] at HX ⊢
  generalize (w.alloc (.cells #[.int .i64 s, .int .i64 n, .int .i64 c, .slice a1 len c1] 40)).alloc (.cells #[.int .i64 s, .int .i64 n, .int .i64 c, .slice a2 len c2] 40) = w1 at hb0 HX HY ⊢
  have HXh := Lib.hid HX
  have HYh := Lib.hid HY
  have HB := Lib.hid hb0
  clear hb0 HX HY
  obtain ⟨wq, hwq⟩ : ∃ wq, wq = w1 := ⟨_, rfl⟩
  have HS : Hid (Below w1.heap.size w1 wq) := by rw [hwq]; exact Below.refl _ _
  rw [← hwq]
  clear hwq
  go_loopw [5] (fun i wr => ∃ k : Nat, k ≤ len ∧ i = .int .i64 k ∧ Hid (Below w1.heap.size w1 wr)) (fun i _ => len - (intOf i).toNat)
  case atStart => exact ⟨0, Nat.zero_le _, rfl, HS⟩
  case round =>
    obtain ⟨k, hk, rfl, hb⟩ := hrel
    have hbw := Lib.hid (HB.out.trans (hb.out.mono HB.out.size))
    have x3 : wr.cell? ⟨p, 3, none⟩ = some (.slice a1 len c1) := (HXh.out.of_block (hb.out.block p HXh.out.lt)).cell 3 _ rfl
    have y3 : wr.cell? ⟨q, 3, none⟩ = some (.slice a2 len c2) := (HYh.out.of_block (hb.out.block q HYh.out.lt)).cell 3 _ rfl
    by_cases hlt : (k : Int) < len
    · have hkl : k < len := by omega
      obtain ⟨g, og, rfl, _, r1, _⟩ := files_at (H1.out.below hbw.out) k hkl
      obtain ⟨h, oh, rfl, _, r2, _⟩ := files_at (H2.out.below hbw.out) k hkl
      generalize l[k]'(by have := H1.out.1; omega) = f at r1
      generalize m[k]'(by have := H2.out.1; omega) = f' at r2
      obtain ⟨f0, f1, f2⟩ := f
      obtain ⟨g0, g1, g2⟩ := f'
      have d0 : wr.cell? ⟨g, og + k * 3, none⟩ = some (.int .i64 f0) := r1 0 _ rfl
      have d1 : wr.cell? ⟨g, og + k * 3 + 1, none⟩ = some (.int .i64 f1) := r1 1 _ rfl
      have d2 : wr.cell? ⟨g, og + k * 3 + 2, none⟩ = some (.int .i64 f2) := r1 2 _ rfl
      have e0 : wr.cell? ⟨h, oh + k * 3, none⟩ = some (.int .i64 g0) := r2 0 _ rfl
      have e1 : wr.cell? ⟨h, oh + k * 3 + 1, none⟩ = some (.int .i64 g1) := r2 1 _ rfl
      have e2 : wr.cell? ⟨h, oh + k * 3 + 2, none⟩ = some (.int .i64 g2) := r2 2 _ rfl
      have hk0 : (0 : Int) ≤ (k : Int) := Int.natCast_nonneg _
      have hwk : IntKind.i64.wrap ((k : Int) + 1) = ((k + 1 : Nat) : Int) := by rw [IntWalk.i64_in _ (by omega)]; omega
      clear r1 r2
      by_cases heq : f0 = g0 ∧ f1 = g1 ∧ f2 = g2
      · obtain ⟨rfl, rfl, rfl⟩ := heq
        go_upto_region 6 with (fail)
        go_quiet (fail)
        go_wp2
        refine ⟨⟨k + 1, by omega, by go_num, belowN hb.out nq⟩, by simp [intOf]; omega⟩
      · have hne := file_neq f0 f1 f2 g0 g1 g2 heq
        go_upto_region 6 with (fail)
        go_quiet (fail)
        go_wp2
        go_ret
        exact ⟨.inl rfl, belowN hbw.out nq⟩
    · go_wp2
      go_ret
      exact ⟨.inr rfl, hbw.out⟩

end Go.Proofs.YtlgdfalbhpgllaaGreatDoor
