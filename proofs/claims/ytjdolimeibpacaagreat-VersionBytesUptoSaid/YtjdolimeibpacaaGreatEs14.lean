/- The law's own comparisons, of what is the same (layer 14): lists of tables, of numbers, versions, edits. -/
import Derived.Test.YtjdolimeibpacaaGreatVnB
import Derived.BigQuiet
import Derived.Deep.Cut
namespace Go.Proofs.YtjdolimeibpacaaGreat
open Go.RowKit Go.Proofs Go.Proofs.Pk
set_option maxRecDepth 10000
attribute [local simp] mk_get wrap64_u8 mk_extract ByteArray.mk_append_mk get_1k

set_option maxHeartbeats 2000000 in
theorem metasSame (w : World) (ad ae : Option Addr) (len ca cb : Nat) (T : List MetaV) (h1 : MetasW w ad len T) (h2 : MetasW w ae len T) (hl : (len : Int) ≤ 140737488351232) :
    Calls Tryz.prog 30 #[.slice ad len ca, .slice ae len cb] w fun r w' => r = .returned (.bool true) ∧ Kept (fun _ => False) w w' := by
  have H := Lib.hid (And.intro h1 h2)
  have hlen := h1.1
  clear h1 h2
  go_enter Tryz.func30, Tryz.ntmps30
  go_wp2
  obtain ⟨wq, hwq⟩ : ∃ wq, wq = w := ⟨_, rfl⟩
  have HK : Hid (Kept (fun _ => False) w wq) := by rw [hwq]; exact Kept.refl _ _
  rw [← hwq]
  clear hwq
  go_loopw [5] (fun i wr => ∃ j : Nat, j ≤ len ∧ i = .int .i64 (j : Int) ∧ Hid (Kept (fun _ => False) w wr)) (fun i _ => len - (intOf i).toNat)
  case atStart => exact ⟨0, Nat.zero_le _, rfl, HK⟩
  case round =>
    obtain ⟨j, hj, rfl, hK⟩ := hrel
    clear HK
    have j0 : (0 : Int) ≤ (j : Int) := by omega
    have hwj : IntKind.i64.wrap ((j : Int) + 1) = (j : Int) + 1 := IntWalk.i64_in _ (by omega)
    by_cases hlt : j < len
    · have hjT : j < T.length := by omega
      obtain ⟨g, og, rfl, hg, d0, d1, d2, d3, d4, fx⟩ := (metas_kept H.out.1 hK.out).at j hjT
      obtain ⟨g2, og2, rfl, hg2, e0, e1, e2, e3, e4, fy⟩ := (metas_kept H.out.2 hK.out).at j hjT
      have jN : (j : Int) < (len : Int) := by omega
      clear fx fy
      generalize T[j] = x at d0 d1 d2 d3 d4 e0 e1 e2 e3 e4
      clear hjT
      go_wp2
      go_quiet (fail)
      go_wp2
      go_roundw
      case rel => exact ⟨j + 1, hlt, by first | rfl | go_num, hK.out.drewN _⟩
      case measure => simp [intOf]; omega
    · obtain rfl : j = len := by omega
      have jN : ¬(j : Int) < (j : Int) := by omega
      go_wp2
      go_ret
      exact ⟨rfl, hK.out⟩
set_option maxHeartbeats 2000000 in
theorem intsSame (w : World) (ad ae : Option Addr) (len ca cb : Nat) (T : List Int) (h1 : Ints w ad len T) (h2 : Ints w ae len T) (hl : (len : Int) ≤ 140737488351232) :
    Calls Tryz.prog 31 #[.slice ad len ca, .slice ae len cb] w fun r w' => r = .returned (.bool true) ∧ Kept (fun _ => False) w w' := by
  have H := Lib.hid (And.intro h1 h2)
  have hlen := h1.1
  clear h1 h2
  go_enter Tryz.func31, Tryz.ntmps31
  go_wp2
  obtain ⟨wq, hwq⟩ : ∃ wq, wq = w := ⟨_, rfl⟩
  have HK : Hid (Kept (fun _ => False) w wq) := by rw [hwq]; exact Kept.refl _ _
  rw [← hwq]
  clear hwq
  go_loopw [5] (fun i wr => ∃ j : Nat, j ≤ len ∧ i = .int .i64 (j : Int) ∧ Hid (Kept (fun _ => False) w wr)) (fun i _ => len - (intOf i).toNat)
  case atStart => exact ⟨0, Nat.zero_le _, rfl, HK⟩
  case round =>
    obtain ⟨j, hj, rfl, hK⟩ := hrel
    clear HK
    have j0 : (0 : Int) ≤ (j : Int) := by omega
    have hwj : IntKind.i64.wrap ((j : Int) + 1) = (j : Int) + 1 := IntWalk.i64_in _ (by omega)
    by_cases hlt : j < len
    · have hjT : j < T.length := by omega
      obtain ⟨g, og, rfl, hg, d0⟩ := ints_at (ints_keptV H.out.1 hK.out) j hjT
      obtain ⟨g2, og2, rfl, hg2, e0⟩ := ints_at (ints_keptV H.out.2 hK.out) j hjT
      have jN : (j : Int) < (len : Int) := by omega
      generalize T[j] = x at d0 e0
      clear hjT
      go_wp2
      go_quiet (fail)
      go_wp2
      go_roundw
      case rel => exact ⟨j + 1, hlt, by first | rfl | go_num, hK.out.drewN _⟩
      case measure => simp [intOf]; omega
    · obtain rfl : j = len := by omega
      have jN : ¬(j : Int) < (j : Int) := by omega
      go_wp2
      go_ret
      exact ⟨rfl, hK.out⟩

set_option maxHeartbeats 4000000 in
/-- Two edits that read the same are the same. -/
theorem editsSame (w : World) (ad : Option Addr) (len cap : Nat) (ad2 : Option Addr) (len2 cap2 : Nat) (ad3 : Option Addr) (len3 cap3 : Nat) (ad4 : Option Addr) (len4 cap4 : Nat) (bd : Option Addr) (bl bc : Nat) (bd2 : Option Addr) (bl2 bc2 : Nat) (bd3 : Option Addr) (bl3 bc3 : Nat) (bd4 : Option Addr) (bl4 bc4 : Nat) (v : EdV)
    (h1 : EdW w ad len cap ad2 len2 cap2 ad3 len3 cap3 ad4 len4 cap4 v) (h2 : EdW w bd bl bc bd2 bl2 bc2 bd3 bl3 bc3 bd4 bl4 bc4 v) :
    Calls Tryz.prog 9 #[edC ad len cap ad2 len2 cap2 ad3 len3 cap3 ad4 len4 cap4 v.2.2.2.2, edC bd bl bc bd2 bl2 bc2 bd3 bl3 bc3 bd4 bl4 bc4 v.2.2.2.2] w fun r w' => r = .returned (.bool true) ∧ Kept (fun _ => False) w w' := by
  obtain ⟨m1, b1, i1, c1, i2, c2, i3, c3, _⟩ := h1
  obtain ⟨n1, _, j1, _, j2, _, j3, _, _⟩ := h2
  obtain rfl : len = bl := m1.1.symm.trans n1.1
  obtain rfl : len2 = bl2 := i1.1.symm.trans j1.1
  obtain rfl : len3 = bl3 := i2.1.symm.trans j2.1
  obtain rfl : len4 = bl4 := i3.1.symm.trans j3.1
  have k1 : (len : Int) ≤ 140737488351232 := by have := b1.2.2.1; omega
  have k2 : (len2 : Int) ≤ 140737488351232 := by have := c1.2.2.1; omega
  have k3 : (len3 : Int) ≤ 140737488351232 := by have := c2.2.2.1; omega
  have k4 : (len4 : Int) ≤ 140737488351232 := by have := c3.2.2.1; omega
  have H1 := Lib.hid (fun (W : World) (hk : Kept (fun _ => False) w W) => metasSame W ad bd len cap bc v.1 (metas_kept m1 hk) (metas_kept n1 hk) k1)
  have H2 := Lib.hid (fun (W : World) (hk : Kept (fun _ => False) w W) => intsSame W ad2 bd2 len2 cap2 bc2 v.2.1 (ints_keptV i1 hk) (ints_keptV j1 hk) k2)
  have H3 := Lib.hid (fun (W : World) (hk : Kept (fun _ => False) w W) => intsSame W ad3 bd3 len3 cap3 bc3 v.2.2.1 (ints_keptV i2 hk) (ints_keptV j2 hk) k3)
  have H4 := Lib.hid (fun (W : World) (hk : Kept (fun _ => False) w W) => intsSame W ad4 bd4 len4 cap4 bc4 v.2.2.2.1 (ints_keptV i3 hk) (ints_keptV j3 hk) k4)
  obtain ⟨s, hs⟩ : ∃ s, s = v.2.2.2.2 := ⟨_, rfl⟩
  rw [← hs]
  clear hs m1 b1 i1 c1 i2 c2 i3 c3 n1 j1 j2 j3 k1 k2 k3 k4
  have HB : Hid (Kept (fun _ => False) w ((w.alloc (.cells #[.slice ad len cap, .slice ad2 len2 cap2, .slice ad3 len3 cap3, .slice ad4 len4 cap4, .int .i64 s] 25)).alloc (.cells #[.slice bd len bc, .slice bd2 len2 bc2, .slice bd3 len3 bc3, .slice bd4 len4 bc4, .int .i64 s] 25)) ∧ Holds ((w.alloc (.cells #[.slice ad len cap, .slice ad2 len2 cap2, .slice ad3 len3 cap3, .slice ad4 len4 cap4, .int .i64 s] 25)).alloc (.cells #[.slice bd len bc, .slice bd2 len2 bc2, .slice bd3 len3 bc3, .slice bd4 len4 bc4, .int .i64 s] 25)) w.heap.size [.slice ad len cap, .slice ad2 len2 cap2, .slice ad3 len3 cap3, .slice ad4 len4 cap4, .int .i64 s] 25 ∧ Holds ((w.alloc (.cells #[.slice ad len cap, .slice ad2 len2 cap2, .slice ad3 len3 cap3, .slice ad4 len4 cap4, .int .i64 s] 25)).alloc (.cells #[.slice bd len bc, .slice bd2 len2 bc2, .slice bd3 len3 bc3, .slice bd4 len4 bc4, .int .i64 s] 25)) (w.heap.size + 1) [.slice bd len bc, .slice bd2 len2 bc2, .slice bd3 len3 bc3, .slice bd4 len4 bc4, .int .i64 s] 25) := by
    have z2 := Holds.new (w.alloc (.cells #[.slice ad len cap, .slice ad2 len2 cap2, .slice ad3 len3 cap3, .slice ad4 len4 cap4, .int .i64 s] 25)) [.slice bd len bc, .slice bd2 len2 bc2, .slice bd3 len3 bc3, .slice bd4 len4 bc4, .int .i64 s] 25
    rw [show (w.alloc (.cells #[.slice ad len cap, .slice ad2 len2 cap2, .slice ad3 len3 cap3, .slice ad4 len4 cap4, .int .i64 s] 25)).heap.size = w.heap.size + 1 from by simp] at z2
    exact ⟨((Kept.refl _ w).alloc _).alloc _, (Holds.new w [.slice ad len cap, .slice ad2 len2 cap2, .slice ad3 len3 cap3, .slice ad4 len4 cap4, .int .i64 s] 25).alloc _, z2⟩
  unfold edC
  go_enter Tryz.func9, Tryz.ntmps9
  go_upto_region 1 with fail
  generalize ((w.alloc (.cells #[.slice ad len cap, .slice ad2 len2 cap2, .slice ad3 len3 cap3, .slice ad4 len4 cap4, .int .i64 s] 25)).alloc (.cells #[.slice bd len bc, .slice bd2 len2 bc2, .slice bd3 len3 bc3, .slice bd4 len4 bc4, .int .i64 s] 25)) = wa at HB ⊢
  have a0 := HB.out.2.1.cell 0 _ rfl
  have b0 := HB.out.2.2.cell 0 _ rfl
  go_wp2_with fail
  refine (H1.out _ HB.out.1).mono ?_
  rintro e w1 ⟨rfl, hk1⟩
  have HC := Lib.hid (And.intro (HB.out.1.trans hk1 (fun _ f => f.elim)) (And.intro (HB.out.2.1.of_block (hk1.block _ HB.out.2.1.lt (fun f => f))) (HB.out.2.2.of_block (hk1.block _ HB.out.2.2.lt (fun f => f)))))
  clear hk1 HB a0 b0 H1
  have a0 := HC.out.2.1.cell 1 _ rfl
  have b0 := HC.out.2.2.cell 1 _ rfl
  go_wp2_with fail
  refine (H2.out _ HC.out.1).mono ?_
  rintro e w2 ⟨rfl, hk1⟩
  have HD := Lib.hid (And.intro (HC.out.1.trans hk1 (fun _ f => f.elim)) (And.intro (HC.out.2.1.of_block (hk1.block _ HC.out.2.1.lt (fun f => f))) (HC.out.2.2.of_block (hk1.block _ HC.out.2.2.lt (fun f => f)))))
  clear hk1 HC a0 b0 H2
  have a0 := HD.out.2.1.cell 2 _ rfl
  have b0 := HD.out.2.2.cell 2 _ rfl
  go_wp2_with fail
  refine (H3.out _ HD.out.1).mono ?_
  rintro e w3 ⟨rfl, hk1⟩
  have HE := Lib.hid (And.intro (HD.out.1.trans hk1 (fun _ f => f.elim)) (And.intro (HD.out.2.1.of_block (hk1.block _ HD.out.2.1.lt (fun f => f))) (HD.out.2.2.of_block (hk1.block _ HD.out.2.2.lt (fun f => f)))))
  clear hk1 HD a0 b0 H3
  have a0 := HE.out.2.1.cell 3 _ rfl
  have b0 := HE.out.2.2.cell 3 _ rfl
  go_wp2_with fail
  refine (H4.out _ HE.out.1).mono ?_
  rintro e w4 ⟨rfl, hk1⟩
  have HF := Lib.hid (And.intro (HE.out.1.trans hk1 (fun _ f => f.elim)) (And.intro (HE.out.2.1.of_block (hk1.block _ HE.out.2.1.lt (fun f => f))) (HE.out.2.2.of_block (hk1.block _ HE.out.2.2.lt (fun f => f)))))
  clear hk1 HE a0 b0 H4
  have a0 := HF.out.2.1.cell 4 _ rfl
  have b0 := HF.out.2.2.cell 4 _ rfl
  go_wp2
  go_ret
  exact ⟨rfl, HF.out.1⟩

end Go.Proofs.YtjdolimeibpacaaGreat
