/- The laws' small helpers of layer 4: pick, padded. -/
import Derived.Test.YtgppbbbpekghiaaEx4
namespace Go.Proofs.Ytgppbbbpekghiaa
open Go.RowKit Go.Proofs Go.Proofs.Pk
set_option maxRecDepth 10000
attribute [local simp] mk_get wrap64_u8 mk_extract ByteArray.mk_append_mk get_1k

/-- Which of n things a raw number speaks of. -/
def pkN (c : Int) (n : Nat) : Nat := ((if c < 0 then -(c + 1) else c).toNat) % n
theorem pkN_lt (c : Int) (n : Nat) (h : 0 < n) : pkN c n < n := Nat.mod_lt _ h

set_option maxHeartbeats 400000 in
theorem pick_any (c : Int) (n : Nat) (w : World) (hc : -9223372036854775808 ≤ c ∧ c ≤ 9223372036854775807) (h0 : 0 < n) (h1 : n ≤ 1000) :
    Calls Try.prog 13 #[.int .i64 c, .int .i64 (n : Int)] w fun e w' => e = .returned (.int .i64 (pkN c n : Int)) ∧ w = w' := by
  have hn0 : ¬n = 0 := by omega
  by_cases hneg : c < 0
  · obtain ⟨m, hm⟩ : ∃ m : Nat, m = (-(c + 1)).toNat := ⟨_, rfl⟩
    have hm' : -(c + 1) = (m : Int) := by omega
    have hp : pkN c n = m % n := by unfold pkN; rw [if_pos hneg, ← hm]
    have hw1 : IntKind.i64.wrap (c + 1) = c + 1 := IntWalk.i64_in _ (by omega)
    have hw2 : IntKind.i64.wrap (m : Int) = (m : Int) := IntWalk.i64_in _ (by omega)
    have ht : (m : Int).tmod (n : Int) = ((m % n : Nat) : Int) := by rw [Int.tmod_eq_emod_of_nonneg (by omega)]; rfl
    have hlt := Nat.mod_lt m h0
    have hw3 : IntKind.i64.wrap ((m % n : Nat) : Int) = ((m % n : Nat) : Int) := IntWalk.i64_in _ (by omega)
    rw [hp]
    obtain ⟨r, hr⟩ : ∃ r, r = m % n := ⟨_, rfl⟩
    rw [← hr] at ht hw3 ⊢
    clear hlt hp hr hm hc h0 h1
    go_enter Try.func13, Try.ntmps13
    go_wp2
    go_ret
    exact ⟨rfl, rfl⟩
  · obtain ⟨m, rfl⟩ := Int.eq_ofNat_of_zero_le (show 0 ≤ c by omega)
    have hp : pkN (m : Int) n = m % n := by unfold pkN; rw [if_neg hneg]; simp
    have ht : (m : Int).tmod (n : Int) = ((m % n : Nat) : Int) := by rw [Int.tmod_eq_emod_of_nonneg (by omega)]; rfl
    have hlt := Nat.mod_lt m h0
    have hw3 : IntKind.i64.wrap ((m % n : Nat) : Int) = ((m % n : Nat) : Int) := IntWalk.i64_in _ (by omega)
    have hd : decide ((m : Int) < 0) = false := by rw [decide_eq_false_iff_not]; omega
    rw [hp]
    obtain ⟨r, hr⟩ : ∃ r, r = m % n := ⟨_, rfl⟩
    rw [← hr] at ht hw3 ⊢
    clear hlt hp hr hc h0 h1 hneg
    go_enter Try.func13, Try.ntmps13
    go_wp2
    go_ret
    exact ⟨rfl, rfl⟩

theorem byte_infoL : (Try.prog.info? 5).map (fun i => (i.zero, i.size, i.bytes)) = some (some (.int .u8 0), 1, 1) := by kernel_rfl
theorem run_make_bytesL (m : Nat) (hm : m ≤ 4096) (w : World) : (Instr.makeSlice 61 (.int .i64 (m : Int)) (.int .i64 (m : Int))).run Try.prog w =
    .ok (.slice (some ⟨w.heap.size, 0, none⟩) m m) (w.alloc (.cells (Lib.byteCells (List.replicate m 0)).toArray 5)) := by
  obtain ⟨i, hi, hz, hs, hb⟩ := info_parts byte_infoL
  have := run_make (P := Try.prog) w 61 5 i _ Try.underlying61 hi hz .i64 .i64 m m (by omega) (Int.le_refl _) (by rw [hb]; omega) (by omega)
  rw [this, hs]
  simp only [Int.toNat_natCast, Value.cells, Nat.mul_one]
  have e : madeCells #[Value.int .u8 0] m = (List.replicate m (Value.int .u8 0)).toArray := made_rep 1 (by decide) _ m
  rw [e, show Lib.byteCells (List.replicate m 0) = List.replicate m (.int .u8 0) from by simp [Lib.byteCells]]

set_option maxHeartbeats 400000 in
theorem padded_any (s : List UInt8) (hs : s.length ≤ 64) (w : World) :
    Calls Try.prog 26 #[.string ⟨s.toArray⟩] w fun e w' => e = .returned (.string ⟨(padL s).toArray⟩) ∧ Below w.heap.size w w' := by
  obtain ⟨m, hm⟩ : ∃ m, m = 64 - s.length := ⟨_, rfl⟩
  have hsub : (64 : Int) - (s.length : Int) = (m : Int) := by omega
  have hwm : IntKind.i64.wrap (m : Int) = (m : Int) := IntWalk.i64_in _ (by omega)
  have hmake := run_make_bytesL m (by omega) w
  have HB := Holds.new w (Lib.byteCells (List.replicate m 0)) 5
  obtain ⟨Z, hZ⟩ : ∃ Z, Z = List.replicate m (0 : UInt8) := ⟨_, rfl⟩
  have HP : Hid (padL s = s ++ Z) := by show padL s = s ++ Z; rw [hZ, hm]; rfl
  rw [← hZ] at hmake HB
  have hZl : Z.length = m := by rw [hZ, List.length_replicate]
  have hBel : Hid (Below w.heap.size w (w.alloc (.cells (Lib.byteCells Z).toArray 5))) := (Below.refl _ _).alloc (Nat.le_refl _) _
  generalize w.alloc (.cells (Lib.byteCells Z).toArray 5) = wa at hmake HB hBel
  have hconv : (convert 61 9 (.slice (some ⟨w.heap.size, 0, none⟩) m m)).run Try.prog wa = .ok (.string ⟨Z.toArray⟩) wa := by
    have := run_convert_bytes_back wa 61 9 5 ⟨w.heap.size, 0, none⟩ m Z Try.underlying61 Try.underlying5 Try.underlying9 (fun j hj => by rw [add0]; exact HB.cell j _ (by rw [List.getElem?_eq_getElem (by rw [bc_length]; exact hj)]; simp [Lib.byteCells]))
    rwa [hZl] at this
  have hlen : ¬9223372036854775807 < s.length + Z.length := by omega
  clear hZ hm hZl HB
  go_enter Try.func26, Try.ntmps26
  go_wp2
  go_ret
  rw [HP.out]
  exact ⟨by simp, hBel.out⟩

end Go.Proofs.Ytgppbbbpekghiaa
