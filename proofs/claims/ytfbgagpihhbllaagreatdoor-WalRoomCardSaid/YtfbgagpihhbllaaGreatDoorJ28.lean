/- VolT, VolY, PNw. -/
import Derived.Test.YtfbgagpihhbllaaGreatDoorJ27
import Derived.Test.YtfbgagpihhbllaaGreatDoorJ13
import Derived.Test.YtfbgagpihhbllaaGreatDoorJ18
import Derived.Deep.RegionWith
import Derived.Laws.MakeOwn

/- Package volume: Format of a new disk. -/
namespace Go.Proofs.YtfbgagpihhbllaaGreatDoor
open Go.RowKit Go.Proofs Go.Proofs.Pk
set_option maxRecDepth 10000
attribute [local simp] mk_get wrap64_u8 mk_extract ByteArray.mk_append_mk get_1k

/-- The disk of so many sectors behind Format's first writes. -/
def fmt1 (N : Nat) : Dsk := ((Dsk.new N).write 0 []).1
def fmt2 (N : Nat) : Dsk := ((fmt1 N).write 9 []).1
def fmt3 (N : Nat) : Dsk := (fmt2 N).sync.1
theorem fmt_codes {N : Nat} (h18 : 18 ≤ N) : ((Dsk.new N).write 0 []).2 = 0 ∧ ((fmt1 N).write 9 []).2 = 0 ∧ (fmt2 N).sync.2 = 0 ∧ (fmt1 N).off = false ∧ (fmt2 N).off = false ∧ (fmt3 N).C = [] ∧ (fmt3 N).n ≤ 2 ∧ (fmt3 N).L.length = N ∧ (fmt2 N).C.length ≤ 2 ∧ (fmt2 N).n ≤ 2 ∧ (fmt1 N).C.length ≤ 1 ∧ (fmt1 N).n ≤ 1 := by
  have hl0 : (Dsk.new N).L.length = N := by simp [Dsk.new]
  rcases write_alive (S := Dsk.new N) rfl 0 (by omega) [] (by simp) with ⟨hf, _⟩ | ⟨_, e0⟩
  · simp [Dsk.new] at hf
  rw [show ((0 : Nat) : Int) = 0 from rfl] at e0
  have e1' : fmt1 N = { Dsk.new N with fuse := if 0 < (Dsk.new N).fuse then (Dsk.new N).fuse - 1 else (Dsk.new N).fuse, n := (Dsk.new N).n + 1, C := (Dsk.new N).C ++ [(0, padL [])] } := by unfold fmt1; rw [e0]
  rcases write_alive (S := fmt1 N) (by rw [e1']; rfl) 9 (by rw [e1']; simp only; omega) [] (by simp) with ⟨hf, _⟩ | ⟨_, e1⟩
  · rw [e1'] at hf; simp [Dsk.new] at hf
  rw [show ((9 : Nat) : Int) = 9 from rfl] at e1
  have e2' : fmt2 N = { fmt1 N with fuse := if 0 < (fmt1 N).fuse then (fmt1 N).fuse - 1 else (fmt1 N).fuse, n := (fmt1 N).n + 1, C := (fmt1 N).C ++ [(9, padL [])] } := by unfold fmt2; rw [e1]
  have ho2 : (fmt2 N).off = false := by rw [e2', e1']; rfl
  have e3 := sync_on ho2
  have e3' : fmt3 N = { fmt2 N with L := syncL (fmt2 N).L (fmt2 N).C, C := [] } := by unfold fmt3; rw [e3]
  refine ⟨by rw [e0], by rw [e1], by rw [e3], by rw [e1']; rfl, ho2, by rw [e3'], by rw [e3', e2', e1']; simp [Dsk.new], by rw [e3']; simp only; rw [syncL_length, e2', e1']; exact hl0, by rw [e2', e1']; simp [Dsk.new], by rw [e2', e1']; simp [Dsk.new], by rw [e1']; simp [Dsk.new], by rw [e1']; simp [Dsk.new]⟩
theorem fmt_is {N : Nat} (h18 : 18 ≤ N) : formatV (Dsk.new N) = layV ⟨fmt3 N, rootZ, false⟩ (1, 1, 0, []) := by
  obtain ⟨a, b, c, _⟩ := fmt_codes h18
  unfold formatV
  simp only
  rw [if_neg (fun hh => hh a), if_neg (fun hh => hh b), if_neg (fun hh => hh c)]
  rfl
theorem fmt_ok {N : Nat} (hN : N ≤ 4000) : (fmt1 N).Ok ∧ (fmt2 N).Ok ∧ (fmt3 N).Ok :=
  ⟨Dsk.write_ok (Dsk.new_ok N hN) _ _, Dsk.write_ok (Dsk.write_ok (Dsk.new_ok N hN) _ _) _ _, Dsk.sync_ok (Dsk.write_ok (Dsk.write_ok (Dsk.new_ok N hN) _ _) _ _)⟩
theorem sync_len (S : Dsk) : S.sync.1.L.length = S.L.length := by
  unfold Dsk.sync
  split
  · rfl
  · simp only; rw [syncL_length]

set_option maxHeartbeats 2000000 in
theorem formatP (w : World) (B pd : Nat) (N : Nat) (Xd : Nat → Prop) (h : DskP w B pd (Dsk.new N) Xd) (h18 : 18 ≤ N) (hN : N ≤ 4000) (hBw : B ≤ w.heap.size) (hg : ErrTy w) (hB : 0 < B) :
    Calls Tryz.prog 31 #[.pointer (some ⟨pd, 0, none⟩)] w fun e w' => ∃ q vF X', e = .returned (.tuple #[.pointer (some ⟨q, 0, none⟩), .nilIface]) ∧ VlP w' B q pd (formatV (Dsk.new N)).1 vF X' ∧ Grows w Xd X' ∧ (∀ b, vF.ownBlock = some b → w.heap.size ≤ b) ∧ Kept Xd w w' := by
  obtain ⟨z0, z1, z2, o1, o2, c3, n3, l3, k2, m2, k1, m1⟩ := fmt_codes h18
  obtain ⟨ok1, ok2, ok3⟩ := fmt_ok hN
  have hz : (layV ⟨fmt3 N, rootZ, false⟩ (1, 1, 0, [])).2 = 0 := by rw [← fmt_is h18]; exact (format_new h18 hN).1
  have hl0 : (Dsk.new N).L.length = N := by simp [Dsk.new]
  have hSZ := pSize w B pd (Dsk.new N) Xd h
  rw [hl0] at hSZ
  have HSZ := Lib.hid hSZ
  have h18' : ¬(N : Int) < 18 := by omega
  have hdlt := h.lt
  rw [fmt_is h18]
  go_enter Tryz.func31, Tryz.ntmps31
  go_wp2_with fail
  refine HSZ.out.mono ?_
  clear HSZ hSZ
  rintro e w1 ⟨rfl, m, rfl⟩
  have hd1 := h.drewN m
  have hN2 := Holds.new (w.drewN m) (cellsV pd rootZ (.slice none 0 0) false) 80
  change Holds ((w.drewN m).alloc (.cells #[.pointer (some ⟨pd, 0, none⟩), .int .i64 0, .int .i64 0, .int .i64 0, .slice none 0 0, .bool false] 80)) w.heap.size _ _ at hN2
  have hk2 : Kept (fun _ => False) w ((w.drewN m).alloc (.cells #[.pointer (some ⟨pd, 0, none⟩), .int .i64 0, .int .i64 0, .int .i64 0, .slice none 0 0, .bool false] 80)) := ((Kept.refl _ _).drewN m).alloc _
  have hd2 : DskP ((w.drewN m).alloc (.cells #[.pointer (some ⟨pd, 0, none⟩), .int .i64 0, .int .i64 0, .int .i64 0, .slice none 0 0, .bool false] 80)) B pd (Dsk.new N) Xd := hd1.kept (Kept.alloc (Kept.refl (fun _ => False) (w.drewN m)) _) (fun _ _ hf => hf)
  go_wp2
  obtain ⟨p, hp⟩ : ∃ p, Hid (p = w.heap.size) := ⟨_, rfl⟩
  rw [← hp.out] at hN2 ⊢
  generalize (w.drewN m).alloc (.cells #[.pointer (some ⟨pd, 0, none⟩), .int .i64 0, .int .i64 0, .int .i64 0, .slice none 0 0, .bool false] 80) = w2 at hN2 hk2 hd2 ⊢
  have hA2 : VlAt w2 B p pd ⟨Dsk.new N, rootZ, false⟩ (.slice none 0 0) Xd :=
    ⟨hN2, hd2, World.ownsRow_nil _ _ _ _, by have := hp.out; omega, fun hx => by have := (hdlt p hx).2; have := hp.out; omega, fun b hb => by simp [Value.ownBlock] at hb, Dsk.new_ok N hN, by simp only; omega, .inr rfl⟩
  have hE2 := hg.kept hk2 (fun hf => hf)
  have HW := Lib.hid (pWr 0 [] w2 B pd (Dsk.new N) Xd hd2 (Dsk.new_ok N hN) (by simp [Dsk.new]) (by simp [Dsk.new]))
  have HA := Lib.hid (And.intro hA2 (And.intro hk2 hE2))
  clear hN2 hk2 hd2 hd1 h hA2 hE2 hg
  refine wp_loop_rounds 3 ?_
  rw [rounds_succ]
  go_wp2_with fail
  refine HW.out.mono ?_
  clear HW
  rintro e w3 ⟨rfl, Xd3, hd3, hgr3, hk3⟩
  have G2 : Grows w Xd (fun k => k = p ∨ Xd k) := fun k hk => hk.elim (fun e => .inr (by have := hp.out; omega)) .inl
  have K2 : Kept Xd w w2 := HA.out.2.1.mono (fun _ hf => hf.elim)
  have hne : ∀ (X : Nat → Prop), Grows w Xd X → ¬X 0 := fun X hX hx => by
    rcases hX _ hx with h | h
    · have := (hdlt _ h).1; omega
    · omega
  obtain ⟨hv3, hg3, hkx3⟩ := VlP.disk HA.out.1 (X := fun k => k = p ∨ Xd k) (fun _ => Iff.rfl) hd3 hgr3 hk3 ok1 (write_len _ _ _)
  have G3 := G2.trans hg3 K2.size
  have K3 := K2.trans hkx3 G2
  have hE3 := HA.out.2.2.kept hkx3 (hne _ G2)
  change VlP w3 B p pd ⟨fmt1 N, rootZ, false⟩ _ _ at hv3
  rw [z0]
  have HB3 := Lib.hid (belowP w3 B p pd _ _ _ hv3 hE3 hB 0)
  have H3 := Lib.hid (And.intro G3 (And.intro K3 hE3))
  clear hd3 hgr3 hk3 hv3 hg3 hkx3 G3 K3 hE3 G2 K2
  go_wp2_with fail
  refine HB3.out.mono ?_
  clear HB3
  rintro e w4 ⟨v, rfl, he, hv4, hk4⟩
  rcases he with ⟨_, rfl⟩ | ⟨h0, _⟩
  rotate_left
  · exact absurd rfl h0
  rw [downV_zero] at hv4
  have K4 := H3.out.2.1.trans hk4 H3.out.1
  have hE4 := H3.out.2.2.kept hk4 (hne _ H3.out.1)
  have hF4 : ∀ b, (downF (.slice none 0 0) 0).ownBlock = some b → w.heap.size ≤ b := fun b hb => by simp [downF, Value.ownBlock] at hb
  obtain ⟨Xd4, hA4, hX4⟩ := hv4
  have HW4 := Lib.hid (pWr 9 [] w4 B pd (fmt1 N) Xd4 hA4.dsk ok1 (by omega) (by omega))
  have H4 := Lib.hid (And.intro hA4 (And.intro hX4 (And.intro H3.out.1 (And.intro K4 hE4))))
  clear hA4 hX4 K4 hE4 hk4
  go_wp2
  rw [rounds_succ]
  go_wp2_with fail
  refine HW4.out.mono ?_
  clear HW4
  rintro e w5 ⟨rfl, Xd5, hd5, hgr5, hk5⟩
  obtain ⟨hv5, hg5, hkx5⟩ := VlP.disk H4.out.1 H4.out.2.1 hd5 hgr5 hk5 ok2 (write_len _ _ _)
  have G5 := H4.out.2.2.1.trans hg5 H4.out.2.2.2.1.size
  have K5 := H4.out.2.2.2.1.trans hkx5 H4.out.2.2.1
  have hE5 := H4.out.2.2.2.2.kept hkx5 (hne _ H4.out.2.2.1)
  change VlP w5 B p pd ⟨fmt2 N, rootZ, false⟩ _ _ at hv5
  rw [z1]
  have HB5 := Lib.hid (belowP w5 B p pd _ _ _ hv5 hE5 hB 0)
  have H5 := Lib.hid (And.intro G5 (And.intro K5 hE5))
  clear hd5 hgr5 hk5 hv5 hg5 hkx5 G5 K5 hE5
  go_wp2_with fail
  refine HB5.out.mono ?_
  clear HB5
  rintro e w6 ⟨v, rfl, he, hv6, hk6⟩
  rcases he with ⟨_, rfl⟩ | ⟨h0, _⟩
  rotate_left
  · exact absurd rfl h0
  rw [downV_zero] at hv6
  have K6 := H5.out.2.1.trans hk6 H5.out.1
  have hE6 := H5.out.2.2.kept hk6 (hne _ H5.out.1)
  have hS := syncP w6 B p pd _ _ _ hv6 hE6 hB rfl
  rw [z2] at hS
  have HS := Lib.hid hS
  have H6 := Lib.hid (And.intro H5.out.1 (And.intro K6 hE6))
  clear hv6 hk6 K6 hE6 hS
  go_wp2
  rw [rounds_succ]
  go_wp2_with fail
  refine HS.out.mono ?_
  clear HS
  rintro e w7 ⟨v, rfl, he, X7, vF7, hv7, hg7, hf7, hk7⟩
  rcases he with ⟨_, rfl⟩ | ⟨h0, _⟩
  rotate_left
  · exact absurd rfl h0
  rw [downV_zero] at hv7
  change VlP w7 B p pd ⟨fmt3 N, rootZ, false⟩ _ _ at hv7
  have G7 := H6.out.1.trans hg7 H6.out.2.1.size
  have K7 := H6.out.2.1.trans hk7 H6.out.1
  have hE7 := H6.out.2.2.kept hk7 (hne _ H6.out.1)
  have hF7 : ∀ b, vF7.ownBlock = some b → w.heap.size ≤ b := fun b hb => by
    rcases hf7 b hb with h | h
    · simp [downF, Value.ownBlock] at h
    · have := H6.out.2.1.size; omega
  have hSt := storeP w7 B p pd _ vF7 X7 hv7 hE7 hB rfl (1, 1, 0, []) (.slice none 0 0) (World.ownsRow_nil _ _ _ _) (fun b hb => by simp [Value.ownBlock] at hb)
    (by simp only; rw [l3, right_p]; exact right_first hN) (by simp only; rw [c3]; simp) (by simp only; omega)
  rw [hz] at hSt
  have HSt := Lib.hid hSt
  have H7 := Lib.hid (And.intro G7 (And.intro K7 hF7))
  clear hv7 hg7 hf7 hk7 G7 K7 hE7 hF7 hSt
  go_wp2_with fail
  refine HSt.out.mono ?_
  clear HSt
  rintro e w8 ⟨v, rfl, he, X8, vF8, hv8, hg8, hf8, hk8⟩
  rcases he with ⟨_, rfl⟩ | ⟨h0, _⟩
  rotate_left
  · exact absurd rfl h0
  have H8 := Lib.hid (And.intro hv8 (And.intro hg8 (And.intro hf8 hk8)))
  clear hv8 hg8 hf8 hk8
  go_wp2
  go_ret2
  obtain ⟨hv8, hg8, hf8, hk8⟩ := H8.out
  refine ⟨p, vF8, X8, rfl, hv8, H7.out.1.trans hg8 H7.out.2.1.size, fun b hb => ?_, H7.out.2.1.trans hk8 H7.out.1⟩
  rcases hf8 b hb with h | h | h
  · exact H7.out.2.2 b h
  · simp [Value.ownBlock] at h
  · have := H7.out.2.1.size; omega

end Go.Proofs.YtfbgagpihhbllaaGreatDoor

/- How much a call of the volume writes. -/
namespace Go.Proofs.YtfbgagpihhbllaaGreatDoor
open Go.RowKit Go.Proofs Go.Proofs.Pk
set_option maxRecDepth 10000

/-- How much a call writes. -/
theorem flat_len (l : List Nat) : (l.flatMap numL).length ≤ 8 * l.length := by
  induction l with
  | nil => simp
  | cons n l ih => have := numL_len_le n; simp only [List.flatMap_cons, List.length_append, List.length_cons]; omega
theorem rootBN_bound (R : RootN) : (rootBN R).length ≤ 8 * (4 + 3 * R.2.2.2.length) := by
  unfold rootBN rootB
  refine Nat.le_trans (flat_len _) ?_
  unfold rootN
  rw [List.length_append, filesN_length]
  simp only [List.length_cons, List.length_nil]
  omega
theorem lay_bound (V : Vol) (R : RootN) (h : R.2.2.2.length ≤ 25) : (layV V R).1.D.C.length ≤ V.D.C.length + 20 ∧ (layV V R).1.D.n ≤ V.D.n + 20 ∧ (layV V R).1.D.L.length = V.D.L.length := by
  have hb := rootBN_bound R
  have hn : nch (rootBN R).length ≤ 10 := by unfold nch; omega
  obtain ⟨a1, a2, a3⟩ := putV_bound V (slotOf R.1 + 1) (rootBN R)
  obtain ⟨b1, b2, b3⟩ := putV_bound (putV V (slotOf R.1 + 1) (rootBN R)).1 (slotOf R.1) (headB R.1 (rootBN R).length)
  have hh : nch (headB R.1 (rootBN R).length).length = 1 := by rw [headB_length]; rfl
  rw [hh] at b1 b2
  rw [lay_put]
  split
  · exact ⟨by omega, by omega, a3⟩
  · split
    · exact ⟨by omega, by omega, by omega⟩
    · exact ⟨by simp only; omega, by simp only; omega, by simp only; omega⟩
def Bound (V V' : Vol) : Prop := V'.D.C.length ≤ V.D.C.length + 20 ∧ V'.D.n ≤ V.D.n + 20 ∧ V'.D.L.length = V.D.L.length
theorem Bound.refl (V : Vol) : Bound V V := ⟨by omega, by omega, rfl⟩
theorem make_bound (V : Vol) (m : Int) : Bound V (makeV V m).1 := by
  unfold makeV
  split
  · exact Bound.refl V
  split
  · exact Bound.refl V
  split
  · exact Bound.refl V
  split
  · exact Bound.refl V
  rename_i h0 h1 h2 h3
  have := lay_bound V (V.R.1 + 1, V.R.2.1 + 1, V.R.2.2.1, V.R.2.2.2 ++ [(V.R.2.1, (fitV V m).1.toNat, m.toNat)]) (by simp; have := fun h => h2 (.inl h); omega)
  simp only
  split
  · exact this
  · exact this
theorem point_bound (V : Vol) (h : V.R.2.2.2.length ≤ 24) (id : Int) : Bound V (pointV V id).1 := by
  unfold pointV
  split
  · exact Bound.refl V
  split
  · exact Bound.refl V
  split
  · exact Bound.refl V
  exact lay_bound V _ (by simp only; omega)
theorem drop_bound (V : Vol) (h : V.R.2.2.2.length ≤ 24) (ids : List Int) : Bound V (dropV V ids).1 := by
  unfold dropV
  split
  · exact Bound.refl V
  split
  · exact Bound.refl V
  split
  · exact Bound.refl V
  split
  · exact Bound.refl V
  split
  · exact Bound.refl V
  exact lay_bound V _ (Nat.le_trans (List.length_filter_le _ _) (by omega))
theorem write_bound (V : Vol) (id k : Int) (s : List UInt8) : Bound V (writeV V id k s).1 := by
  unfold writeV
  split
  · exact Bound.refl V
  · have h1 := write_more V.D (sectorV V id k).1 s
    have h2 := write_len V.D (sectorV V id k).1 s
    unfold cameV
    simp only
    split <;> exact ⟨by simp only; omega, by simp only; omega, h2⟩

end Go.Proofs.YtfbgagpihhbllaaGreatDoor

/- The program's New: what it gives. -/
namespace Go.Proofs.YtfbgagpihhbllaaGreatDoor
open Go.RowKit Go.Proofs Go.Proofs.Pk
set_option maxRecDepth 10000
attribute [local simp] mk_get wrap64_u8 mk_extract ByteArray.mk_append_mk get_1k

theorem content_info : (Tryz.prog.info? 88).map (fun i => (i.zero, i.size, i.bytes)) = some (some (.agg (zeros 64).toArray), 64, 64) := by kernel_rfl

theorem zeros_eq (n : Nat) : zeros n = List.replicate n (.int .u8 0) := by simp [zeros, Lib.byteCells]
theorem cellsL_zero : ∀ n, cellsL (List.replicate n (List.replicate 64 0)) = zeros (n * 64)
  | 0 => rfl
  | n + 1 => by
    rw [List.replicate_succ, cellsL_cons, cellsL_zero n, zeros_eq, zeros_eq, show Lib.byteCells (List.replicate 64 0) = List.replicate 64 (.int .u8 0) from by simp [Lib.byteCells], List.replicate_append_replicate]
    congr 1; omega
theorem made_rep (m : Nat) (hm : 0 < m) (v : Value) (n : Nat) : madeCells (List.replicate m v).toArray n = (List.replicate n v).toArray := by
  apply Array.ext
  · rw [size_madeCells]; simp
  · intro i h1 h2
    have e : (List.replicate m v).toArray.size = m := by simp
    have hi : i % m < m := Nat.mod_lt _ hm
    simp only [madeCells, Array.getElem_map, Array.getElem_range, e]
    rw [getElem!_pos _ _ (by rw [e]; exact hi)]
    simp
theorem made_zeros (n : Nat) : madeCells (zeros 64).toArray n = (zeros n).toArray := by
  rw [zeros_eq, zeros_eq]; exact made_rep 64 (by decide) _ n

theorem run_make_content (n : Nat) (hn : n ≤ 4000) (w : World) : (Instr.makeSlice 72 (.int .i64 (n : Int)) (.int .i64 (n : Int))).run Tryz.prog w =
    .ok (.slice (some ⟨w.heap.size, 0, none⟩) n n) (w.alloc (.cells (cellsL (List.replicate n (List.replicate 64 0))).toArray 88)) := by
  obtain ⟨i, hi, hz, hs, hb⟩ := info_parts content_info
  have := run_make (P := Tryz.prog) w 72 88 i _ Tryz.underlying72 hi hz .i64 .i64 n n (by omega) (Int.le_refl _) (by rw [hb]; omega) (by omega)
  rw [this, hs]
  simp only [Int.toNat_natCast, Value.cells]
  rw [made_zeros, cellsL_zero]

/-- A disk, or none, and the error. -/
def N2 (w : World) (k : Int) (e : Ending) (w' : World) : Prop :=
  if 1 ≤ k ∧ k ≤ 4000 then ∃ p X, e = .returned (.tuple #[.pointer (some ⟨p, 0, none⟩), .nilIface]) ∧ DskP w' w.heap.size p (Dsk.new k.toNat) X ∧ Below w.heap.size w w'
  else e = .returned (.tuple #[.pointer none, erV 1]) ∧ Below w.heap.size w w'

theorem new_disk (w : World) (k a b : Nat) (C : List Value) (hC : C = cellsL (Dsk.new k).L) (hab : a = w.heap.size ∧ b = w.heap.size + 1 ∨ a = w.heap.size + 1 ∧ b = w.heap.size) :
    DskP (((w.alloc (.cells C.toArray 88)).alloc (.cells C.toArray 88)).alloc (.cells #[.slice (some ⟨a, 0, none⟩) k k, .slice (some ⟨b, 0, none⟩) k k, .slice none 0 0, .int .i64 (-1), .bool false, .int .i64 0] 75)).drew
      w.heap.size (w.heap.size + 2) (Dsk.new k) (Xof (w.heap.size + 2) a b (.slice none 0 0)) := by
  have hl : (Dsk.new k).L.length = k := by simp [Dsk.new]
  have s1 : (w.alloc (.cells C.toArray 88)).heap.size = w.heap.size + 1 := by simp
  have s2 : ((w.alloc (.cells C.toArray 88)).alloc (.cells C.toArray 88)).heap.size = w.heap.size + 2 := by simp
  have h0 := ((Holds.new w C 88).alloc (.cells C.toArray 88)).alloc (.cells #[.slice (some ⟨a, 0, none⟩) k k, .slice (some ⟨b, 0, none⟩) k k, .slice none 0 0, .int .i64 (-1), .bool false, .int .i64 0] 75)
  have h1 := (Holds.new (w.alloc (.cells C.toArray 88)) C 88).alloc (.cells #[.slice (some ⟨a, 0, none⟩) k k, .slice (some ⟨b, 0, none⟩) k k, .slice none 0 0, .int .i64 (-1), .bool false, .int .i64 0] 75)
  have h2 := Holds.new ((w.alloc (.cells C.toArray 88)).alloc (.cells C.toArray 88)) [.slice (some ⟨a, 0, none⟩) k k, .slice (some ⟨b, 0, none⟩) k k, .slice none 0 0, .int .i64 (-1), .bool false, .int .i64 0] 75
  rw [s1] at h1
  rw [s2] at h2
  have hA : ∀ g, g = w.heap.size ∨ g = w.heap.size + 1 → Holds (((w.alloc (.cells C.toArray 88)).alloc (.cells C.toArray 88)).alloc (.cells #[.slice (some ⟨a, 0, none⟩) k k, .slice (some ⟨b, 0, none⟩) k k, .slice none 0 0, .int .i64 (-1), .bool false, .int .i64 0] 75)).drew g C 88 := by
    rintro g (rfl | rfl)
    · exact h0.drew
    · exact h1.drew
  refine ⟨a, b, .slice none 0 0, ?_, hC ▸ hA a (by omega), ?_, ⟨rfl, .inl ⟨rfl, rfl⟩⟩, by omega, by omega, ⟨by simp [Value.ownBlock], by simp [Value.ownBlock], by simp [Value.ownBlock]⟩, fun _ => Iff.rfl⟩
  · rw [hl]; exact h2.drew
  · show Holds _ b (cellsL (Dsk.new k).L) _
    rw [← hC]; exact hA b (by omega)

set_option maxHeartbeats 1000000 in
theorem pNw_ok (k : Nat) (h1 : 1 ≤ k) (h2 : k ≤ 4000) (w : World) :
    Calls Tryz.prog 30 #[.int .i64 (k : Int)] w fun e w' =>
      ∃ p X, e = .returned (.tuple #[.pointer (some ⟨p, 0, none⟩), .nilIface]) ∧ DskP w' w.heap.size p (Dsk.new k) X ∧ Below w.heap.size w w' := by
  have hmk := run_make_content k h2
  have hk1 : decide ((k : Int) < 1) = false := by rw [decide_eq_false_iff_not]; omega
  have hk2 : (k : Int) ≤ 4000 := by omega
  obtain ⟨C, hC⟩ : ∃ C, C = cellsL (List.replicate k (List.replicate 64 0)) := ⟨_, rfl⟩
  have HC : Hid (C = cellsL (Dsk.new k).L) := hC
  rw [← hC] at hmk
  clear hC
  go_enter Tryz.func30, Tryz.ntmps30
  go_wp2_with fail
  go_region_with (fail)
  · go_wp2
    go_ret2
    exact ⟨w.heap.size + 2, _, rfl, new_disk w k w.heap.size (w.heap.size + 1) C HC.out (.inl ⟨rfl, rfl⟩), belowN ((((Below.refl _ _).alloc (Nat.le_refl _) _).alloc (by simp) _).alloc (by simp; omega) _) 1⟩
  · go_wp2
    go_ret2
    exact ⟨w.heap.size + 2, _, rfl, new_disk w k (w.heap.size + 1) w.heap.size C HC.out (.inr ⟨rfl, rfl⟩), belowN ((((Below.refl _ _).alloc (Nat.le_refl _) _).alloc (by simp) _).alloc (by simp; omega) _) 1⟩

set_option maxHeartbeats 1000000 in
theorem pNw_arg (k : Int) (h : ¬(1 ≤ k ∧ k ≤ 4000)) (w : World) :
    Calls Tryz.prog 30 #[.int .i64 k] w fun e w' => e = .returned (.tuple #[.pointer none, erV 1]) ∧ Below w.heap.size w w' := by
  have e1 : erV 1 = .iface 33 (.int .i64 1) := rfl
  rw [e1]
  by_cases hk : k < 1
  · have hk1 : decide (k < 1) = true := by simpa using hk
    clear h hk
    go_enter Tryz.func30, Tryz.ntmps30
    go_wp2
    all_goals
      go_ret2
      exact ⟨rfl, Below.refl _ _⟩
  · have hk1 : decide (k < 1) = false := by simpa using hk
    have hk2 : 4000 < k := by omega
    clear h hk
    go_enter Tryz.func30, Tryz.ntmps30
    go_wp2
    all_goals
      go_ret2
      exact ⟨rfl, Below.refl _ _⟩

theorem pNw (k : Int) (w : World) : Calls Tryz.prog 30 #[.int .i64 k] w (N2 w k) := by
  by_cases h : 1 ≤ k ∧ k ≤ 4000
  · obtain ⟨n, rfl⟩ := Int.eq_ofNat_of_zero_le (show 0 ≤ k by omega)
    refine (pNw_ok n (by omega) (by omega) w).mono fun e w' hq => ?_
    unfold N2; rw [if_pos h]; simpa using hq
  · refine (pNw_arg k h w).mono fun e w' hq => ?_
    unfold N2; rw [if_neg h]; exact hq

end Go.Proofs.YtfbgagpihhbllaaGreatDoor
