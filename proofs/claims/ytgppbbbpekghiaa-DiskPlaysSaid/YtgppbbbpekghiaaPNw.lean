/- The program's New: what it gives. -/
import Derived.Test.YtgppbbbpekghiaaPSy
import Derived.Deep.RegionWith
import Derived.Laws.MakeOwn
namespace Go.Proofs.Ytgppbbbpekghiaa
open Go.RowKit Go.Proofs Go.Proofs.Pk
set_option maxRecDepth 10000
attribute [local simp] mk_get wrap64_u8 mk_extract ByteArray.mk_append_mk get_1k

theorem content_info : (Try.prog.info? 65).map (fun i => (i.zero, i.size, i.bytes)) = some (some (.agg (zeros 64).toArray), 64, 64) := by kernel_rfl

theorem zeros_eq (n : Nat) : zeros n = List.replicate n (.int .u8 0) := by simp [zeros, Lib.byteCells]
theorem cellsL_zero : ∀ n, cellsL (List.replicate n (List.replicate 64 0)) = zeros (n * 64)
  | 0 => rfl
  | n + 1 => by
    rw [List.replicate_succ, cellsL_cons, cellsL_zero n, zeros_eq, zeros_eq, show Lib.byteCells (List.replicate 64 0) = List.replicate 64 (.int .u8 0) from by simp [Lib.byteCells], List.replicate_append_replicate]
    congr 1; omega
theorem made_rep (m : Nat) (hm : 0 < m) (v : Value) (n : Nat) : madeCells (List.replicate m v).toArray n = (List.replicate n v).toArray := by
  apply Array.ext
  · rw [size_madeCells]; simp
  · intro i h1 h2
    have e : (List.replicate m v).toArray.size = m := by simp
    have hi : i % m < m := Nat.mod_lt _ hm
    simp only [madeCells, Array.getElem_map, Array.getElem_range, e]
    rw [getElem!_pos _ _ (by rw [e]; exact hi)]
    simp
theorem made_zeros (n : Nat) : madeCells (zeros 64).toArray n = (zeros n).toArray := by
  rw [zeros_eq, zeros_eq]; exact made_rep 64 (by decide) _ n

theorem run_make_content (n : Nat) (hn : n ≤ 4000) (w : World) : (Instr.makeSlice 57 (.int .i64 (n : Int)) (.int .i64 (n : Int))).run Try.prog w =
    .ok (.slice (some ⟨w.heap.size, 0, none⟩) n n) (w.alloc (.cells (cellsL (List.replicate n (List.replicate 64 0))).toArray 65)) := by
  obtain ⟨i, hi, hz, hs, hb⟩ := info_parts content_info
  have := run_make (P := Try.prog) w 57 65 i _ Try.underlying57 hi hz .i64 .i64 n n (by omega) (Int.le_refl _) (by rw [hb]; omega) (by omega)
  rw [this, hs]
  simp only [Int.toNat_natCast, Value.cells]
  rw [made_zeros, cellsL_zero]

/-- A disk, or none, and the error. -/
def N2 (w : World) (k : Int) (e : Ending) (w' : World) : Prop :=
  if 1 ≤ k ∧ k ≤ 4000 then ∃ p X, e = .returned (.tuple #[.pointer (some ⟨p, 0, none⟩), .nilIface]) ∧ DskP w' w.heap.size p (Dsk.new k.toNat) X ∧ Below w.heap.size w w'
  else e = .returned (.tuple #[.pointer none, erV 1]) ∧ Below w.heap.size w w'

theorem new_disk (w : World) (k a b : Nat) (C : List Value) (hC : C = cellsL (Dsk.new k).L) (hab : a = w.heap.size ∧ b = w.heap.size + 1 ∨ a = w.heap.size + 1 ∧ b = w.heap.size) :
    DskP (((w.alloc (.cells C.toArray 65)).alloc (.cells C.toArray 65)).alloc (.cells #[.slice (some ⟨a, 0, none⟩) k k, .slice (some ⟨b, 0, none⟩) k k, .slice none 0 0, .int .i64 (-1), .bool false, .int .i64 0] 60)).drew
      w.heap.size (w.heap.size + 2) (Dsk.new k) (Xof (w.heap.size + 2) a b (.slice none 0 0)) := by
  have hl : (Dsk.new k).L.length = k := by simp [Dsk.new]
  have s1 : (w.alloc (.cells C.toArray 65)).heap.size = w.heap.size + 1 := by simp
  have s2 : ((w.alloc (.cells C.toArray 65)).alloc (.cells C.toArray 65)).heap.size = w.heap.size + 2 := by simp
  have h0 := ((Holds.new w C 65).alloc (.cells C.toArray 65)).alloc (.cells #[.slice (some ⟨a, 0, none⟩) k k, .slice (some ⟨b, 0, none⟩) k k, .slice none 0 0, .int .i64 (-1), .bool false, .int .i64 0] 60)
  have h1 := (Holds.new (w.alloc (.cells C.toArray 65)) C 65).alloc (.cells #[.slice (some ⟨a, 0, none⟩) k k, .slice (some ⟨b, 0, none⟩) k k, .slice none 0 0, .int .i64 (-1), .bool false, .int .i64 0] 60)
  have h2 := Holds.new ((w.alloc (.cells C.toArray 65)).alloc (.cells C.toArray 65)) [.slice (some ⟨a, 0, none⟩) k k, .slice (some ⟨b, 0, none⟩) k k, .slice none 0 0, .int .i64 (-1), .bool false, .int .i64 0] 60
  rw [s1] at h1
  rw [s2] at h2
  have hA : ∀ g, g = w.heap.size ∨ g = w.heap.size + 1 → Holds (((w.alloc (.cells C.toArray 65)).alloc (.cells C.toArray 65)).alloc (.cells #[.slice (some ⟨a, 0, none⟩) k k, .slice (some ⟨b, 0, none⟩) k k, .slice none 0 0, .int .i64 (-1), .bool false, .int .i64 0] 60)).drew g C 65 := by
    rintro g (rfl | rfl)
    · exact h0.drew
    · exact h1.drew
  refine ⟨a, b, .slice none 0 0, ?_, hC ▸ hA a (by omega), ?_, ⟨rfl, .inl ⟨rfl, rfl⟩⟩, by omega, by omega, ⟨by simp [Value.ownBlock], by simp [Value.ownBlock], by simp [Value.ownBlock]⟩, fun _ => Iff.rfl⟩
  · rw [hl]; exact h2.drew
  · show Holds _ b (cellsL (Dsk.new k).L) _
    rw [← hC]; exact hA b (by omega)

set_option maxHeartbeats 1000000 in
theorem pNw_ok (k : Nat) (h1 : 1 ≤ k) (h2 : k ≤ 4000) (w : World) :
    Calls Try.prog 9 #[.int .i64 (k : Int)] w fun e w' =>
      ∃ p X, e = .returned (.tuple #[.pointer (some ⟨p, 0, none⟩), .nilIface]) ∧ DskP w' w.heap.size p (Dsk.new k) X ∧ Below w.heap.size w w' := by
  have hmk := run_make_content k h2
  have hk1 : decide ((k : Int) < 1) = false := by rw [decide_eq_false_iff_not]; omega
  have hk2 : (k : Int) ≤ 4000 := by omega
  obtain ⟨C, hC⟩ : ∃ C, C = cellsL (List.replicate k (List.replicate 64 0)) := ⟨_, rfl⟩
  have HC : Hid (C = cellsL (Dsk.new k).L) := hC
  rw [← hC] at hmk
  clear hC
  go_enter Try.func9, Try.ntmps9
  go_wp2_with fail
  go_region_with (fail)
  · go_wp2
    go_ret2
    exact ⟨w.heap.size + 2, _, rfl, new_disk w k w.heap.size (w.heap.size + 1) C HC.out (.inl ⟨rfl, rfl⟩), belowN ((((Below.refl _ _).alloc (Nat.le_refl _) _).alloc (by simp) _).alloc (by simp; omega) _) 1⟩
  · go_wp2
    go_ret2
    exact ⟨w.heap.size + 2, _, rfl, new_disk w k (w.heap.size + 1) w.heap.size C HC.out (.inr ⟨rfl, rfl⟩), belowN ((((Below.refl _ _).alloc (Nat.le_refl _) _).alloc (by simp) _).alloc (by simp; omega) _) 1⟩

set_option maxHeartbeats 1000000 in
theorem pNw_arg (k : Int) (h : ¬(1 ≤ k ∧ k ≤ 4000)) (w : World) :
    Calls Try.prog 9 #[.int .i64 k] w fun e w' => e = .returned (.tuple #[.pointer none, erV 1]) ∧ Below w.heap.size w w' := by
  have e1 : erV 1 = .iface 56 (.int .i64 1) := rfl
  rw [e1]
  by_cases hk : k < 1
  · have hk1 : decide (k < 1) = true := by simpa using hk
    clear h hk
    go_enter Try.func9, Try.ntmps9
    go_wp2
    all_goals
      go_ret2
      exact ⟨rfl, Below.refl _ _⟩
  · have hk1 : decide (k < 1) = false := by simpa using hk
    have hk2 : 4000 < k := by omega
    clear h hk
    go_enter Try.func9, Try.ntmps9
    go_wp2
    all_goals
      go_ret2
      exact ⟨rfl, Below.refl _ _⟩

theorem pNw (k : Int) (w : World) : Calls Try.prog 9 #[.int .i64 k] w (N2 w k) := by
  by_cases h : 1 ≤ k ∧ k ≤ 4000
  · obtain ⟨n, rfl⟩ := Int.eq_ofNat_of_zero_le (show 0 ≤ k by omega)
    refine (pNw_ok n (by omega) (by omega) w).mono fun e w' hq => ?_
    unfold N2; rw [if_pos h]; simpa using hq
  · refine (pNw_arg k h w).mono fun e w' hq => ?_
    unfold N2; rw [if_neg h]; exact hq

end Go.Proofs.Ytgppbbbpekghiaa
