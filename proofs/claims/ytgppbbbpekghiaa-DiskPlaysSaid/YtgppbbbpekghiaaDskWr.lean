/- The reference's Write and Sync: what they do. -/
import Derived.Test.YtgppbbbpekghiaaDskRd
import Derived.Test.YtgppbbbpekghiaaAppend
import Derived.Test.YtgppbbbpekghiaaOrd
import Derived.Test.YtgppbbbpekghiaaMid
import Derived.Laws.MakeOwn
import Derived.Laws.IdiomStrings
namespace Go.Proofs.Ytgppbbbpekghiaa
open Go.RowKit Go.Proofs Go.Proofs.Pk
set_option maxRecDepth 10000
attribute [local simp] mk_get wrap64_u8 mk_extract ByteArray.mk_append_mk get_1k

/-- One result, the disk, and what is left alone. -/
def W1 (w : World) (B p : Nat) (X : Nat → Prop) (S' : Dsk) (c : Nat) (e : Ending) (w' : World) : Prop :=
  e = .returned (.int .i64 c) ∧ ∃ X', RefD w' B p S' X' ∧ Grows w X X' ∧ Kept X w w'

theorem Dsk.write_off {S : Dsk} (h : S.off = true) (k : Int) (s : List UInt8) : S.write k s = (S, 6) := by unfold Dsk.write; rw [if_pos h]
theorem Dsk.write_arg {S : Dsk} (h : S.off = false) (k : Int) (s : List UInt8) (hk : k < 0 ∨ (S.L.length : Int) ≤ k) : S.write k s = (S, 1) := by unfold Dsk.write; rw [if_neg (by simp [h]), if_pos hk]
theorem Dsk.write_long {S : Dsk} (h : S.off = false) (k : Int) (s : List UInt8) (hk : ¬(k < 0 ∨ (S.L.length : Int) ≤ k)) (hs : 64 < s.length) : S.write k s = (S, 5) := by
  unfold Dsk.write; rw [if_neg (by simp [h]), if_neg hk, if_pos hs]
theorem Dsk.write_fuse {S : Dsk} (h : S.off = false) (k : Int) (s : List UInt8) (hk : ¬(k < 0 ∨ (S.L.length : Int) ≤ k)) (hs : ¬64 < s.length) (hf : S.fuse = 0) : S.write k s = ({ S with off := true }, 6) := by
  unfold Dsk.write; rw [if_neg (by simp [h]), if_neg hk, if_neg hs, if_pos hf]
theorem Dsk.write_done {S : Dsk} (h : S.off = false) (k : Int) (s : List UInt8) (hk : ¬(k < 0 ∨ (S.L.length : Int) ≤ k)) (hs : ¬64 < s.length) (hf : S.fuse ≠ 0) :
    S.write k s = ({ S with fuse := if 0 < S.fuse then S.fuse - 1 else S.fuse, n := S.n + 1, C := S.C ++ [(k.toNat, padL s)] }, 0) := by
  unfold Dsk.write; rw [if_neg (by simp [h]), if_neg hk, if_neg hs, if_neg hf]

set_option maxHeartbeats 400000 in
theorem rWr_off (k : Int) (s : List UInt8) (w : World) (B p : Nat) (S : Dsk) (X : Nat → Prop) (h : RefD w B p S X) (ho : S.off = true) :
    Calls Try.prog 15 #[.pointer (some ⟨p, 0, none⟩), .int .i64 k, .string ⟨s.toArray⟩] w (W1 w B p X S 6) := by
  have HD := Lib.hid h
  obtain ⟨vL, vC, h⟩ := h
  have c3 := h.obj.cell 3 _ rfl
  rw [ho] at c3
  clear h ho
  go_enter Try.func15, Try.ntmps15
  go_wp2
  go_ret
  exact ⟨rfl, X, HD.out, Grows.refl w X, Kept.refl X w⟩

set_option maxHeartbeats 400000 in
theorem rWr_arg (k : Int) (s : List UInt8) (w : World) (B p : Nat) (S : Dsk) (X : Nat → Prop) (h : RefD w B p S X) (ho : S.off = false) (hk : k < 0 ∨ (S.L.length : Int) ≤ k) :
    Calls Try.prog 15 #[.pointer (some ⟨p, 0, none⟩), .int .i64 k, .string ⟨s.toArray⟩] w (W1 w B p X S 1) := by
  have HD := Lib.hid h
  obtain ⟨vL, vC, h⟩ := h
  have c3 := h.obj.cell 3 _ rfl
  have c0 := h.obj.cell 0 _ rfl
  rw [ho] at c3
  obtain ⟨ad, cap, hv⟩ : ∃ ad cap, vL = .slice ad S.L.length cap := by
    rcases h.last.2 with ⟨hv, h0⟩ | ⟨g, cap, cur, hv, _⟩
    · exact ⟨none, 0, by rw [hv, h0]⟩
    · exact ⟨_, _, hv⟩
  rw [hv] at c0
  clear h ho hv
  by_cases hneg : k < 0
  · have h1 : decide (k < 0) = true := by simpa using hneg
    clear hk hneg
    go_enter Try.func15, Try.ntmps15
    go_wp2
    all_goals
      go_ret
      exact ⟨rfl, X, HD.out, Grows.refl w X, Kept.refl X w⟩
  · have h1 : decide (k < 0) = false := by simpa using hneg
    have h2 : (S.L.length : Int) ≤ k := by omega
    clear hk
    go_enter Try.func15, Try.ntmps15
    go_wp2
    all_goals
      go_ret
      exact ⟨rfl, X, HD.out, Grows.refl w X, Kept.refl X w⟩

set_option maxRecDepth 100000 in
set_option maxHeartbeats 1000000 in
theorem rWr_rest (k : Int) (s : List UInt8) (w : World) (B p : Nat) (S : Dsk) (X : Nat → Prop) (h : RefD w B p S X) (_hS : S.Ok) (ho : S.off = false) (hk0 : 0 ≤ k) (hk1 : k < S.L.length) (hf : 64 < s.length ∨ S.fuse = 0) :
    Calls Try.prog 15 #[.pointer (some ⟨p, 0, none⟩), .int .i64 k, .string ⟨s.toArray⟩] w (W1 w B p X (S.write k s).1 (S.write k s).2) := by
  have HD := Lib.hid h
  obtain ⟨vL, vC, h⟩ := h
  have HA := Lib.hid h
  have c3 := h.obj.cell 3 _ rfl
  have c0 := h.obj.cell 0 _ rfl
  have c2 := h.obj.cell 2 _ rfl
  have f3 := h.obj.free 3
  rw [ho] at c3
  obtain ⟨ad, cap, hv⟩ : ∃ ad cap, vL = .slice ad S.L.length cap := by
    rcases h.last.2 with ⟨hv, h0⟩ | ⟨g, cap, cur, hv, _⟩
    · exact ⟨none, 0, by rw [hv, h0]⟩
    · exact ⟨_, _, hv⟩
  rw [hv] at c0
  have h1 : decide (k < 0) = false := by simpa using hk0
  obtain ⟨nL, hnL⟩ : ∃ n, n = S.L.length := ⟨_, rfl⟩
  by_cases hs : 64 < s.length
  · have HW := Lib.hid (Dsk.write_long ho k s (by omega) hs)
    rw [← hnL] at c0 hk1
    clear h ho hv _hS hnL hf
    have hs' : 64 < (s.length : Int) := by omega
    go_enter Try.func15, Try.ntmps15
    go_wp2
    go_ret
    rw [HW.out]
    exact ⟨rfl, X, HD.out, Grows.refl w X, Kept.refl X w⟩
  · have hf0 : S.fuse = 0 := hf.resolve_left hs
    have HW := Lib.hid (Dsk.write_fuse ho k s (by omega) hs hf0)
    rw [← hnL] at c0 hk1
    rw [hf0] at c2
    have hs' : (s.length : Int) ≤ 64 := by omega
    clear h ho hv _hS hnL hf hf0 hs
    go_enter Try.func15, Try.ntmps15
    go_wp2
    go_ret
    rw [HW.out]
    exact ⟨rfl, X, ⟨vL, vC, HA.out.field 3 (.bool true) rfl rfl rfl⟩, Grows.refl w X, (Kept.refl X w).setCell HA.out.mine _⟩

def fuseR (f : Int) : Int := if 0 < f then f - 1 else f
theorem rwrite_info : (Try.prog.info? 69).map (fun i => (i.zero, i.size, i.bytes)) = some (some (.agg #[.int .i64 0, .string ByteArray.empty]), 2, 24) := by kernel_rfl
theorem byte_info : (Try.prog.info? 5).map (fun i => (i.zero, i.size, i.bytes)) = some (some (.int .u8 0), 1, 1) := by kernel_rfl
theorem kept_drewR (w : World) : Kept (fun _ => False) w w.drew := (Kept.refl (fun _ => False) w).drewN 1
theorem made_rep1 (v : Value) (n : Nat) : madeCells #[v] n = (List.replicate n v).toArray := by
  apply Array.ext
  · rw [size_madeCells]; simp
  · intro i h1 h2
    simp [madeCells, Nat.mod_one]
theorem run_make_bytes (m : Nat) (hm : m ≤ 4096) (w : World) : (Instr.makeSlice 61 (.int .i64 (m : Int)) (.int .i64 (m : Int))).run Try.prog w =
    .ok (.slice (some ⟨w.heap.size, 0, none⟩) m m) (w.alloc (.cells (Lib.byteCells (List.replicate m 0)).toArray 5)) := by
  obtain ⟨i, hi, hz, hs, hb⟩ := info_parts byte_info
  have := run_make (P := Try.prog) w 61 5 i _ Try.underlying61 hi hz .i64 .i64 m m (by omega) (Int.le_refl _) (by rw [hb]; omega) (by omega)
  rw [this, hs]
  simp only [Int.toNat_natCast, Value.cells, Nat.mul_one]
  rw [made_rep1, show Lib.byteCells (List.replicate m 0) = List.replicate m (.int .u8 0) from by simp [Lib.byteCells]]

set_option maxRecDepth 100000 in
set_option maxHeartbeats 1000000 in
theorem rWr_done (k : Nat) (s : List UInt8) (w : World) (B p : Nat) (S : Dsk) (X : Nat → Prop) (h : RefD w B p S X) (hS : S.Ok) (ho : S.off = false) (hk1 : k < S.L.length) (hs : ¬64 < s.length) (hf : S.fuse ≠ 0) (hn : S.C.length ≤ 1000000) (hN : S.n ≤ 1000000) :
    Calls Try.prog 15 #[.pointer (some ⟨p, 0, none⟩), .int .i64 (k : Int), .string ⟨s.toArray⟩] w
      (W1 w B p X { S with fuse := fuseR S.fuse, n := S.n + 1, C := S.C ++ [(k, padL s)] } 0) := by
  obtain ⟨iW, hiW, hzW, hsW, hbW⟩ := info_parts rwrite_info
  obtain ⟨vL, vC, h⟩ := h
  have HA := Lib.hid h
  have HX : Hid (∀ b, (b = p ∨ vL.ownBlock = some b ∨ vC.ownBlock = some b) → X b) := fun b hb => (h.own b).2 hb
  have c3 := h.obj.cell 3 _ rfl
  have c0 := h.obj.cell 0 _ rfl
  have c2 := h.obj.cell 2 _ rfl
  have f2 := h.obj.free 2
  have c4 := h.obj.cell 4 _ rfl
  have f4 := h.obj.free 4
  rw [ho] at c3
  obtain ⟨ad, cap, hv⟩ : ∃ ad cap, vL = .slice ad S.L.length cap := by
    rcases h.last.2 with ⟨hv, h0⟩ | ⟨g, cap, cur, hv, _⟩
    · exact ⟨none, 0, by rw [hv, h0]⟩
    · exact ⟨_, _, hv⟩
  have c0' := c0
  rw [hv] at c0'
  have hkL : (k : Int) < S.L.length := by omega
  have hs' : (s.length : Int) ≤ 64 := by omega
  have hfu := hS.fus
  have hw1 : IntKind.i64.wrap (S.fuse - 1) = S.fuse - 1 := IntWalk.i64_in _ (by omega)
  have hw2 : IntKind.i64.wrap ((S.n : Int) + 1) = (S.n : Int) + 1 := IntWalk.i64_in _ (by omega)
  have hne : (S.fuse == 0) = false := by simpa using hf
  have HF0 : Hid (fuseR S.fuse = if 0 < S.fuse then S.fuse - 1 else S.fuse) := rfl
  generalize fuseR S.fuse = fu at HF0 ⊢
  obtain ⟨nL, hnL⟩ : ∃ n, n = S.L.length := ⟨_, rfl⟩
  rw [← hnL] at c0' hkL
  have HnL := Lib.hid hnL
  obtain ⟨m, hm⟩ : ∃ m, m = 64 - s.length := ⟨_, rfl⟩
  have hsub : (64 : Int) - (s.length : Int) = (m : Int) := by omega
  have hwm : IntKind.i64.wrap (m : Int) = (m : Int) := IntWalk.i64_in _ (by omega)
  have hm64 : m ≤ 64 := by omega
  have HMm := Lib.hid hm
  clear h ho hf hv c0 hnL hk1 hm
  go_enter Try.func15, Try.ntmps15
  go_wp2_with fail
  · rename_i hle
    obtain rfl : fu = S.fuse - 1 := by rw [HF0.out, if_pos (by omega)]
    have HW : Hid (RefAt ((w.setCell ⟨p, 2, none⟩ (.int .i64 (S.fuse - 1))).setCell ⟨p, 4, none⟩ (.int .i64 ((S.n : Int) + 1))) B p ⟨S.L, S.C, S.fuse - 1, S.off, S.n + 1⟩ vL vC X) := (HA.out.field (S' := { S with fuse := S.fuse - 1 }) 2 (.int .i64 (S.fuse - 1)) rfl rfl rfl).field (S' := ⟨S.L, S.C, S.fuse - 1, S.off, S.n + 1⟩) 4 (.int .i64 ((S.n : Int) + 1)) rfl rfl rfl
    have K1 : Hid (Kept X w ((w.setCell ⟨p, 2, none⟩ (.int .i64 (S.fuse - 1))).setCell ⟨p, 4, none⟩ (.int .i64 ((S.n : Int) + 1)))) := ((Kept.refl X w).setCell (p := ⟨p, 2, none⟩) (HX.out p (.inl rfl)) _).setCell (p := ⟨p, 4, none⟩) (HX.out p (.inl rfl)) _
    generalize (w.setCell ⟨p, 2, none⟩ (.int .i64 (S.fuse - 1))).setCell ⟨p, 4, none⟩ (.int .i64 ((S.n : Int) + 1)) = wr at HW K1 ⊢
    refine wp_region_until (fun w' => w'.cell? ⟨p, 1, none⟩ = some vC) 16 (by kernel_rfl) ?_
    have hS0 : wr.drew.cell? ⟨p, 1, none⟩ = some vC := (HW.out.kept (kept_drewR wr) (fun _ _ hf => hf)).obj.cell 1 _ rfl
    refine wpAnyU_take (i := 0) (v := (.pointer (some ⟨p, 0, none⟩))) (some 56) rfl rfl (by kernel_rfl) (by kernel_rfl) (by kernel_rfl) (by kernel_rfl) (fun _ _ _ h => h) hS0 (yields_of (by kernel_rfl) (fun w hw => by go_simp)) ?_
    refine wpAnyU_take (i := 1) (v := (.pointer (some ⟨p, 0, none⟩))) (some 57) rfl rfl (by kernel_rfl) (by kernel_rfl) (by kernel_rfl) (by kernel_rfl) (fun _ _ _ h => h) hS0 (yields_of (by kernel_rfl) (fun w hw => by go_simp)) ?_
    refine wpAnyU_take (i := 2) (v := (.pointer (some ⟨p, 0, none⟩))) (some 58) rfl rfl (by kernel_rfl) (by kernel_rfl) (by kernel_rfl) (by kernel_rfl) (fun _ _ _ h => h) hS0 (yields_of (by kernel_rfl) (fun w hw => by go_simp)) ?_
    refine wpAnyU_take (i := 3) (v := (.pointer (some ⟨p, 1, none⟩))) (some 59) rfl rfl (by kernel_rfl) (by kernel_rfl) (by kernel_rfl) (by kernel_rfl) (fun _ _ _ h => h) hS0 (yields_of (by kernel_rfl) (fun w hw => by go_simp)) ?_
    refine wpAnyU_take (i := 4) (v := vC) (some 60) rfl rfl (by kernel_rfl) (by kernel_rfl) (by kernel_rfl) (by kernel_rfl) (fun _ _ _ h => h) hS0 (yields_of (by kernel_rfl) (fun w hw => by have h1 := hw; go_simp)) ?_
    refine wpAnyU_take (i := 5) (v := (.int .i64 (k : Int))) (some 61) rfl rfl (by kernel_rfl) (by kernel_rfl) (by kernel_rfl) (by kernel_rfl) (fun _ _ _ h => h) hS0 (yields_of (by kernel_rfl) (fun w hw => by go_simp)) ?_
    refine wpAnyU_take (i := 6) (v := (.string ⟨s.toArray⟩)) (some 62) rfl rfl (by kernel_rfl) (by kernel_rfl) (by kernel_rfl) (by kernel_rfl) (fun _ _ _ h => h) hS0 (yields_of (by kernel_rfl) (fun w hw => by go_simp)) ?_
    refine wpAnyU_take (i := 7) (v := (.string ⟨s.toArray⟩)) (some 63) rfl rfl (by kernel_rfl) (by kernel_rfl) (by kernel_rfl) (by kernel_rfl) (fun _ _ _ h => h) hS0 (yields_of (by kernel_rfl) (fun w hw => by go_simp)) ?_
    refine wpAnyU_take (i := 8) (v := (.int .i64 (s.length : Int))) (some 64) rfl rfl (by kernel_rfl) (by kernel_rfl) (by kernel_rfl) (by kernel_rfl) (fun _ _ _ h => h) hS0 (yields_of (by kernel_rfl) (fun w hw => by go_simp)) ?_
    refine wpAnyU_take (i := 9) (v := (.int .i64 (m : Int))) (some 65) rfl rfl (by kernel_rfl) (by kernel_rfl) (by kernel_rfl) (by kernel_rfl) (fun _ _ _ h => h) hS0 (yields_of (by kernel_rfl) (fun w hw => by go_simp)) ?_
    obtain ⟨q, hq⟩ : ∃ q, Hid (q = wr.drew.heap.size) := ⟨_, rfl⟩
    have HV := HW.out
    have KV := K1.out
    have hpq : p < q := by have := HV.obj.lt; have := hq.out; simp at this; omega
    have hmake := run_make_bytes m (by omega) wr.drew
    rw [← hq.out] at hmake
    have HB := Holds.new wr.drew (Lib.byteCells (List.replicate m 0)) 5
    rw [← hq.out] at HB
    have HV1 := (HV.kept (kept_drewR wr) (fun _ _ hf => hf)).kept ((Kept.refl (fun _ => False) wr.drew).alloc (.cells (Lib.byteCells (List.replicate m 0)).toArray 5)) (fun _ _ hf => hf)
    have KV1 : Kept X w (wr.drew.alloc (.cells (Lib.byteCells (List.replicate m 0)).toArray 5)) := (KV.drewN 1).alloc _
    generalize wr.drew.alloc (.cells (Lib.byteCells (List.replicate m 0)).toArray 5) = wa at hmake HB HV1 KV1
    refine wpAnyU_run (i := 10) (v := .slice (some ⟨q, 0, none⟩) m m) (some 66) rfl rfl (by kernel_rfl) (by kernel_rfl) (exec_make (l := .tmp 65) (c := .tmp 65) hmake (by rfl) (by kernel_rfl) (by kernel_rfl)) (fun _ => HV1.obj.cell 1 _ rfl) ?_
    have hconv : (convert 61 9 (.slice (some ⟨q, 0, none⟩) m m)).run Try.prog wa = .ok (.string ⟨(List.replicate m (0 : UInt8)).toArray⟩) wa := by
      have := run_convert_bytes_back wa 61 9 5 ⟨q, 0, none⟩ m (List.replicate m 0) Try.underlying61 Try.underlying5 Try.underlying9 (fun j hj => by rw [add0]; exact HB.cell j _ (by rw [List.getElem?_eq_getElem (by rw [bc_length]; exact hj)]; simp [Lib.byteCells]))
      rwa [List.length_replicate] at this
    obtain ⟨Z, hZ⟩ : ∃ Z, Z = List.replicate m (0 : UInt8) := ⟨_, rfl⟩
    rw [← hZ] at hconv
    have hZl : Z.length = m := by rw [hZ, List.length_replicate]
    have HZ : Hid (s ++ Z = padL s) := by show s ++ Z = padL s; rw [hZ, HMm.out]; rfl
    clear hZ hmake HB
    refine wpAnyU_run (i := 11) (v := .string ⟨Z.toArray⟩) (w' := wa) (some 67) rfl rfl (by kernel_rfl) (by kernel_rfl) (exec_convert (x := .tmp 66) hconv (by rfl) (by kernel_rfl)) (fun _ => HV1.obj.cell 1 _ rfl) ?_
    have hlen : ¬9223372036854775807 < s.length + Z.length := by omega
    clear hZl
    refine wpAnyU_run (i := 12) (v := .string ⟨(s ++ Z).toArray⟩) (w' := wa) (some 68) rfl rfl (by kernel_rfl) (by kernel_rfl) (by go_simp) (fun _ => HV1.obj.cell 1 _ rfl) ?_
    rw [HZ.out]
    refine wpAnyU_run (i := 13) (v := .agg #[.int .i64 (k : Int), .string ⟨(padL s).toArray⟩]) (w' := wa) (some 69) rfl rfl (by kernel_rfl) (by kernel_rfl) (by go_simp) (fun _ => HV1.obj.cell 1 _ rfl) ?_
    obtain ⟨q2, hq2⟩ : ∃ q2, Hid (q2 = wa.heap.size) := ⟨_, rfl⟩
    have hbs := run_buildSlice_one (P := Try.prog) wa 47 69 iW _ [.int .i64 (k : Int), .string ⟨(padL s).toArray⟩] Try.underlying47 hiW hzW (by rw [hsW]; rfl) (by simp) (by simp)
    have HQ := Holds.new wa [.int .i64 (k : Int), .string ⟨(padL s).toArray⟩] 69
    rw [← hq2.out] at hbs HQ
    have HV2 := HV1.kept ((Kept.refl (fun _ => False) wa).alloc (.cells [.int .i64 (k : Int), .string ⟨(padL s).toArray⟩].toArray 69)) (fun _ _ hf => hf)
    have KV2 := KV1.alloc (.cells [.int .i64 (k : Int), .string ⟨(padL s).toArray⟩].toArray 69)
    generalize wa.alloc (.cells [.int .i64 (k : Int), .string ⟨(padL s).toArray⟩].toArray 69) = wd at hbs HQ HV2 KV2
    refine wpAnyU_run (i := 14) (v := .slice (some ⟨q2, 0, none⟩) 1 1) (some 70) rfl rfl (by kernel_rfl) (by kernel_rfl) (exec_buildSlice (x := .tmp 69) hbs (by rfl) (by kernel_rfl)) (fun _ => HV2.obj.cell 1 _ rfl) ?_
    obtain ⟨v', we, happ, ho, hgr, hpl⟩ := run_append_at (P := Try.prog) wd B 47 47 69 iW _ 2 24 Try.underlying47 hiW hzW hsW hbW (by rfl) (by omega) vC S.C.length (flatC S.C) HV2.cache
      ⟨q2, 0, none⟩ 1 1 [.int .i64 (k : Int), .string ⟨(padL s).toArray⟩] (by rfl) (fun j u hj => by rw [add0]; exact HQ.cell j u hj) (by simp [Value.oneCell']) (by unfold maxLen; omega) (by omega) (by have := HV2.obj.lt; have := HV2.base; omega) (by omega)
    have hfl : flatC S.C ++ [.int .i64 (k : Int), .string ⟨(padL s).toArray⟩] = flatC (S.C ++ [(k, padL s)]) := by simp [flatC]
    rw [hfl] at ho
    have hobj := HV2.obj.of_block (hgr.block p HV2.obj.lt (fun e => HV2.neC e.symm))
    refine wpAnyU_run (i := 15) (v := v') (some 71) rfl rfl (by kernel_rfl) (by kernel_rfl) (exec_append (s := .tmp 60) (x := .tmp 70) happ (by rfl) (by rfl) (by kernel_rfl) (by kernel_rfl)) (fun _ => hobj.cell 1 _ rfl) ?_
    obtain ⟨gq, cq, rfl⟩ : ∃ gq cq, v' = .slice (some ⟨gq, 0, none⟩) (S.C.length + 1) cq := by
      rcases ho.2 with ⟨_, h0⟩ | ⟨g', cap, cur, hv, _⟩
      · omega
      · exact ⟨_, _, hv⟩
    have c1' := hobj.cell 1 _ rfl
    have f1' := hobj.free 1
    have hnv : ∀ b, b < wd.heap.size → vC.ownBlock ≠ some b → (Value.slice (some ⟨gq, 0, none⟩) (S.C.length + 1) cq).ownBlock ≠ some b := fun b hb hne e => by
      rcases hpl with h | h
      · exact hne (h ▸ e)
      · rw [h] at e; have := Option.some.inj e; omega
    refine wpAnyU_run (i := 16) (v := (.pointer (some ⟨p, 0, none⟩))) (w' := we) (some 72) rfl rfl (by kernel_rfl) (by kernel_rfl) (by go_simp) (fun h => by omega) ?_
    refine wpAnyU_run (i := 17) (v := (.pointer (some ⟨p, 1, none⟩))) (w' := we) (some 73) rfl rfl (by kernel_rfl) (by kernel_rfl) (by go_simp) (fun h => by omega) ?_
    refine wpAnyU_skip (i := 18) (w' := we.setCell ⟨p, 1, none⟩ (.slice (some ⟨gq, 0, none⟩) (S.C.length + 1) cq)) none rfl rfl (by kernel_rfl) (by kernel_rfl) (by go_simp) (fun h => by omega) ?_
    refine wpAnyU_done (by kernel_rfl) ?_ _
    have HF := HV2.swapC (w' := we) (vC' := .slice (some ⟨gq, 0, none⟩) (S.C.length + 1) cq) (C' := S.C ++ [(k, padL s)]) (fun b hb hne => hgr.block b hb (fun e => hne e.symm)) (by rw [List.length_append]; exact ho) (hnv p HV2.obj.lt HV2.neC)
      (by
        rcases HV2.apart with h | h
        · exact .inl h
        · cases hvL : vL.ownBlock with
          | none => exact .inl rfl
          | some b => exact .inr (fun e => hnv b (HV2.lt b ((HV2.own b).2 (.inr (.inl hvL)))).2 (fun e2 => h (by rw [hvL, e2])) e.symm))
    have KF : Kept X w (we.setCell ⟨p, 1, none⟩ (.slice (some ⟨gq, 0, none⟩) (S.C.length + 1) cq)) :=
      (kept_grown KV2 hgr (fun b hb => .inl (HX.out b (.inr (.inr hb))))).setCell (p := ⟨p, 1, none⟩) (HX.out p (.inl rfl)) _
    have HPL : Hid (Grows w X (fun b => b = p ∨ vL.ownBlock = some b ∨ (Value.slice (some ⟨gq, 0, none⟩) (S.C.length + 1) cq).ownBlock = some b)) := by
      intro b hb
      rcases hb with hb | hb | hb
      · exact .inl (HX.out b (.inl hb))
      · exact .inl (HX.out b (.inr (.inl hb)))
      · rcases hpl with h | h
        · exact .inl (HX.out b (.inr (.inr (h ▸ hb))))
        · rw [h] at hb; obtain rfl := Option.some.inj hb; exact .inr KV2.size
    have HE := Lib.hid (And.intro HF KF)
    generalize we.setCell ⟨p, 1, none⟩ (.slice (some ⟨gq, 0, none⟩) (S.C.length + 1) cq) = wf at HE ⊢
    clear HF KF c1' f1' hobj ho happ hgr hpl HQ hbs HV2 KV2 HV1 KV1 hconv
    go_wp2
    go_ret
    exact ⟨rfl, _, ⟨vL, _, HE.out.1⟩, HPL.out, HE.out.2⟩
  · rename_i hle
    obtain rfl : fu = S.fuse := by rw [HF0.out, if_neg (by omega)]
    have HW : Hid (RefAt (w.setCell ⟨p, 4, none⟩ (.int .i64 ((S.n : Int) + 1))) B p ⟨S.L, S.C, S.fuse, S.off, S.n + 1⟩ vL vC X) := HA.out.field (S' := ⟨S.L, S.C, S.fuse, S.off, S.n + 1⟩) 4 (.int .i64 ((S.n : Int) + 1)) rfl rfl rfl
    have K1 : Hid (Kept X w (w.setCell ⟨p, 4, none⟩ (.int .i64 ((S.n : Int) + 1)))) := (Kept.refl X w).setCell (p := ⟨p, 4, none⟩) (HX.out p (.inl rfl)) _
    generalize w.setCell ⟨p, 4, none⟩ (.int .i64 ((S.n : Int) + 1)) = wr at HW K1 ⊢
    refine wp_region_until (fun w' => w'.cell? ⟨p, 1, none⟩ = some vC) 16 (by kernel_rfl) ?_
    have hS0 : wr.drew.cell? ⟨p, 1, none⟩ = some vC := (HW.out.kept (kept_drewR wr) (fun _ _ hf => hf)).obj.cell 1 _ rfl
    refine wpAnyU_take (i := 0) (v := (.pointer (some ⟨p, 0, none⟩))) (some 56) rfl rfl (by kernel_rfl) (by kernel_rfl) (by kernel_rfl) (by kernel_rfl) (fun _ _ _ h => h) hS0 (yields_of (by kernel_rfl) (fun w hw => by go_simp)) ?_
    refine wpAnyU_take (i := 1) (v := (.pointer (some ⟨p, 0, none⟩))) (some 57) rfl rfl (by kernel_rfl) (by kernel_rfl) (by kernel_rfl) (by kernel_rfl) (fun _ _ _ h => h) hS0 (yields_of (by kernel_rfl) (fun w hw => by go_simp)) ?_
    refine wpAnyU_take (i := 2) (v := (.pointer (some ⟨p, 0, none⟩))) (some 58) rfl rfl (by kernel_rfl) (by kernel_rfl) (by kernel_rfl) (by kernel_rfl) (fun _ _ _ h => h) hS0 (yields_of (by kernel_rfl) (fun w hw => by go_simp)) ?_
    refine wpAnyU_take (i := 3) (v := (.pointer (some ⟨p, 1, none⟩))) (some 59) rfl rfl (by kernel_rfl) (by kernel_rfl) (by kernel_rfl) (by kernel_rfl) (fun _ _ _ h => h) hS0 (yields_of (by kernel_rfl) (fun w hw => by go_simp)) ?_
    refine wpAnyU_take (i := 4) (v := vC) (some 60) rfl rfl (by kernel_rfl) (by kernel_rfl) (by kernel_rfl) (by kernel_rfl) (fun _ _ _ h => h) hS0 (yields_of (by kernel_rfl) (fun w hw => by have h1 := hw; go_simp)) ?_
    refine wpAnyU_take (i := 5) (v := (.int .i64 (k : Int))) (some 61) rfl rfl (by kernel_rfl) (by kernel_rfl) (by kernel_rfl) (by kernel_rfl) (fun _ _ _ h => h) hS0 (yields_of (by kernel_rfl) (fun w hw => by go_simp)) ?_
    refine wpAnyU_take (i := 6) (v := (.string ⟨s.toArray⟩)) (some 62) rfl rfl (by kernel_rfl) (by kernel_rfl) (by kernel_rfl) (by kernel_rfl) (fun _ _ _ h => h) hS0 (yields_of (by kernel_rfl) (fun w hw => by go_simp)) ?_
    refine wpAnyU_take (i := 7) (v := (.string ⟨s.toArray⟩)) (some 63) rfl rfl (by kernel_rfl) (by kernel_rfl) (by kernel_rfl) (by kernel_rfl) (fun _ _ _ h => h) hS0 (yields_of (by kernel_rfl) (fun w hw => by go_simp)) ?_
    refine wpAnyU_take (i := 8) (v := (.int .i64 (s.length : Int))) (some 64) rfl rfl (by kernel_rfl) (by kernel_rfl) (by kernel_rfl) (by kernel_rfl) (fun _ _ _ h => h) hS0 (yields_of (by kernel_rfl) (fun w hw => by go_simp)) ?_
    refine wpAnyU_take (i := 9) (v := (.int .i64 (m : Int))) (some 65) rfl rfl (by kernel_rfl) (by kernel_rfl) (by kernel_rfl) (by kernel_rfl) (fun _ _ _ h => h) hS0 (yields_of (by kernel_rfl) (fun w hw => by go_simp)) ?_
    obtain ⟨q, hq⟩ : ∃ q, Hid (q = wr.drew.heap.size) := ⟨_, rfl⟩
    have HV := HW.out
    have KV := K1.out
    have hpq : p < q := by have := HV.obj.lt; have := hq.out; simp at this; omega
    have hmake := run_make_bytes m (by omega) wr.drew
    rw [← hq.out] at hmake
    have HB := Holds.new wr.drew (Lib.byteCells (List.replicate m 0)) 5
    rw [← hq.out] at HB
    have HV1 := (HV.kept (kept_drewR wr) (fun _ _ hf => hf)).kept ((Kept.refl (fun _ => False) wr.drew).alloc (.cells (Lib.byteCells (List.replicate m 0)).toArray 5)) (fun _ _ hf => hf)
    have KV1 : Kept X w (wr.drew.alloc (.cells (Lib.byteCells (List.replicate m 0)).toArray 5)) := (KV.drewN 1).alloc _
    generalize wr.drew.alloc (.cells (Lib.byteCells (List.replicate m 0)).toArray 5) = wa at hmake HB HV1 KV1
    refine wpAnyU_run (i := 10) (v := .slice (some ⟨q, 0, none⟩) m m) (some 66) rfl rfl (by kernel_rfl) (by kernel_rfl) (exec_make (l := .tmp 65) (c := .tmp 65) hmake (by rfl) (by kernel_rfl) (by kernel_rfl)) (fun _ => HV1.obj.cell 1 _ rfl) ?_
    have hconv : (convert 61 9 (.slice (some ⟨q, 0, none⟩) m m)).run Try.prog wa = .ok (.string ⟨(List.replicate m (0 : UInt8)).toArray⟩) wa := by
      have := run_convert_bytes_back wa 61 9 5 ⟨q, 0, none⟩ m (List.replicate m 0) Try.underlying61 Try.underlying5 Try.underlying9 (fun j hj => by rw [add0]; exact HB.cell j _ (by rw [List.getElem?_eq_getElem (by rw [bc_length]; exact hj)]; simp [Lib.byteCells]))
      rwa [List.length_replicate] at this
    obtain ⟨Z, hZ⟩ : ∃ Z, Z = List.replicate m (0 : UInt8) := ⟨_, rfl⟩
    rw [← hZ] at hconv
    have hZl : Z.length = m := by rw [hZ, List.length_replicate]
    have HZ : Hid (s ++ Z = padL s) := by show s ++ Z = padL s; rw [hZ, HMm.out]; rfl
    clear hZ hmake HB
    refine wpAnyU_run (i := 11) (v := .string ⟨Z.toArray⟩) (w' := wa) (some 67) rfl rfl (by kernel_rfl) (by kernel_rfl) (exec_convert (x := .tmp 66) hconv (by rfl) (by kernel_rfl)) (fun _ => HV1.obj.cell 1 _ rfl) ?_
    have hlen : ¬9223372036854775807 < s.length + Z.length := by omega
    clear hZl
    refine wpAnyU_run (i := 12) (v := .string ⟨(s ++ Z).toArray⟩) (w' := wa) (some 68) rfl rfl (by kernel_rfl) (by kernel_rfl) (by go_simp) (fun _ => HV1.obj.cell 1 _ rfl) ?_
    rw [HZ.out]
    refine wpAnyU_run (i := 13) (v := .agg #[.int .i64 (k : Int), .string ⟨(padL s).toArray⟩]) (w' := wa) (some 69) rfl rfl (by kernel_rfl) (by kernel_rfl) (by go_simp) (fun _ => HV1.obj.cell 1 _ rfl) ?_
    obtain ⟨q2, hq2⟩ : ∃ q2, Hid (q2 = wa.heap.size) := ⟨_, rfl⟩
    have hbs := run_buildSlice_one (P := Try.prog) wa 47 69 iW _ [.int .i64 (k : Int), .string ⟨(padL s).toArray⟩] Try.underlying47 hiW hzW (by rw [hsW]; rfl) (by simp) (by simp)
    have HQ := Holds.new wa [.int .i64 (k : Int), .string ⟨(padL s).toArray⟩] 69
    rw [← hq2.out] at hbs HQ
    have HV2 := HV1.kept ((Kept.refl (fun _ => False) wa).alloc (.cells [.int .i64 (k : Int), .string ⟨(padL s).toArray⟩].toArray 69)) (fun _ _ hf => hf)
    have KV2 := KV1.alloc (.cells [.int .i64 (k : Int), .string ⟨(padL s).toArray⟩].toArray 69)
    generalize wa.alloc (.cells [.int .i64 (k : Int), .string ⟨(padL s).toArray⟩].toArray 69) = wd at hbs HQ HV2 KV2
    refine wpAnyU_run (i := 14) (v := .slice (some ⟨q2, 0, none⟩) 1 1) (some 70) rfl rfl (by kernel_rfl) (by kernel_rfl) (exec_buildSlice (x := .tmp 69) hbs (by rfl) (by kernel_rfl)) (fun _ => HV2.obj.cell 1 _ rfl) ?_
    obtain ⟨v', we, happ, ho, hgr, hpl⟩ := run_append_at (P := Try.prog) wd B 47 47 69 iW _ 2 24 Try.underlying47 hiW hzW hsW hbW (by rfl) (by omega) vC S.C.length (flatC S.C) HV2.cache
      ⟨q2, 0, none⟩ 1 1 [.int .i64 (k : Int), .string ⟨(padL s).toArray⟩] (by rfl) (fun j u hj => by rw [add0]; exact HQ.cell j u hj) (by simp [Value.oneCell']) (by unfold maxLen; omega) (by omega) (by have := HV2.obj.lt; have := HV2.base; omega) (by omega)
    have hfl : flatC S.C ++ [.int .i64 (k : Int), .string ⟨(padL s).toArray⟩] = flatC (S.C ++ [(k, padL s)]) := by simp [flatC]
    rw [hfl] at ho
    have hobj := HV2.obj.of_block (hgr.block p HV2.obj.lt (fun e => HV2.neC e.symm))
    refine wpAnyU_run (i := 15) (v := v') (some 71) rfl rfl (by kernel_rfl) (by kernel_rfl) (exec_append (s := .tmp 60) (x := .tmp 70) happ (by rfl) (by rfl) (by kernel_rfl) (by kernel_rfl)) (fun _ => hobj.cell 1 _ rfl) ?_
    obtain ⟨gq, cq, rfl⟩ : ∃ gq cq, v' = .slice (some ⟨gq, 0, none⟩) (S.C.length + 1) cq := by
      rcases ho.2 with ⟨_, h0⟩ | ⟨g', cap, cur, hv, _⟩
      · omega
      · exact ⟨_, _, hv⟩
    have c1' := hobj.cell 1 _ rfl
    have f1' := hobj.free 1
    have hnv : ∀ b, b < wd.heap.size → vC.ownBlock ≠ some b → (Value.slice (some ⟨gq, 0, none⟩) (S.C.length + 1) cq).ownBlock ≠ some b := fun b hb hne e => by
      rcases hpl with h | h
      · exact hne (h ▸ e)
      · rw [h] at e; have := Option.some.inj e; omega
    refine wpAnyU_run (i := 16) (v := (.pointer (some ⟨p, 0, none⟩))) (w' := we) (some 72) rfl rfl (by kernel_rfl) (by kernel_rfl) (by go_simp) (fun h => by omega) ?_
    refine wpAnyU_run (i := 17) (v := (.pointer (some ⟨p, 1, none⟩))) (w' := we) (some 73) rfl rfl (by kernel_rfl) (by kernel_rfl) (by go_simp) (fun h => by omega) ?_
    refine wpAnyU_skip (i := 18) (w' := we.setCell ⟨p, 1, none⟩ (.slice (some ⟨gq, 0, none⟩) (S.C.length + 1) cq)) none rfl rfl (by kernel_rfl) (by kernel_rfl) (by go_simp) (fun h => by omega) ?_
    refine wpAnyU_done (by kernel_rfl) ?_ _
    have HF := HV2.swapC (w' := we) (vC' := .slice (some ⟨gq, 0, none⟩) (S.C.length + 1) cq) (C' := S.C ++ [(k, padL s)]) (fun b hb hne => hgr.block b hb (fun e => hne e.symm)) (by rw [List.length_append]; exact ho) (hnv p HV2.obj.lt HV2.neC)
      (by
        rcases HV2.apart with h | h
        · exact .inl h
        · cases hvL : vL.ownBlock with
          | none => exact .inl rfl
          | some b => exact .inr (fun e => hnv b (HV2.lt b ((HV2.own b).2 (.inr (.inl hvL)))).2 (fun e2 => h (by rw [hvL, e2])) e.symm))
    have KF : Kept X w (we.setCell ⟨p, 1, none⟩ (.slice (some ⟨gq, 0, none⟩) (S.C.length + 1) cq)) :=
      (kept_grown KV2 hgr (fun b hb => .inl (HX.out b (.inr (.inr hb))))).setCell (p := ⟨p, 1, none⟩) (HX.out p (.inl rfl)) _
    have HPL : Hid (Grows w X (fun b => b = p ∨ vL.ownBlock = some b ∨ (Value.slice (some ⟨gq, 0, none⟩) (S.C.length + 1) cq).ownBlock = some b)) := by
      intro b hb
      rcases hb with hb | hb | hb
      · exact .inl (HX.out b (.inl hb))
      · exact .inl (HX.out b (.inr (.inl hb)))
      · rcases hpl with h | h
        · exact .inl (HX.out b (.inr (.inr (h ▸ hb))))
        · rw [h] at hb; obtain rfl := Option.some.inj hb; exact .inr KV2.size
    have HE := Lib.hid (And.intro HF KF)
    generalize we.setCell ⟨p, 1, none⟩ (.slice (some ⟨gq, 0, none⟩) (S.C.length + 1) cq) = wf at HE ⊢
    clear HF KF c1' f1' hobj ho happ hgr hpl HQ hbs HV2 KV2 HV1 KV1 hconv
    go_wp2
    go_ret
    exact ⟨rfl, _, ⟨vL, _, HE.out.1⟩, HPL.out, HE.out.2⟩

/-- Write does what the chapter says. -/
theorem rWr (k : Int) (s : List UInt8) (w : World) (B p : Nat) (S : Dsk) (X : Nat → Prop) (h : RefD w B p S X) (hS : S.Ok) (hn : S.C.length ≤ 1000000) (hN : S.n ≤ 1000000) :
    Calls Try.prog 15 #[.pointer (some ⟨p, 0, none⟩), .int .i64 k, .string ⟨s.toArray⟩] w (W1 w B p X (S.write k s).1 (S.write k s).2) := by
  cases ho : S.off with
  | true => rw [Dsk.write_off ho]; exact rWr_off k s w B p S X h ho
  | false =>
    by_cases hk : k < 0 ∨ (S.L.length : Int) ≤ k
    · rw [Dsk.write_arg ho k s hk]; exact rWr_arg k s w B p S X h ho hk
    · by_cases hs : 64 < s.length
      · exact rWr_rest k s w B p S X h hS ho (by omega) (by omega) (.inl hs)
      · by_cases hf : S.fuse = 0
        · exact rWr_rest k s w B p S X h hS ho (by omega) (by omega) (.inr hf)
        · rw [Dsk.write_done ho k s hk hs hf]
          obtain ⟨n, rfl⟩ := Int.eq_ofNat_of_zero_le (show 0 ≤ k by omega)
          exact rWr_done n s w B p S X h hS ho (by omega) hs hf hn hN

end Go.Proofs.Ytgppbbbpekghiaa
