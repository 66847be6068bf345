/- The reference of layer 8: big, Mark and ReadMark. -/
import Derived.Test.YtfbgagpihhbllaaGreatDoorJ09
import Derived.Test.YtfbgagpihhbllaaGreatDoorJ23
import Derived.Test.YtfbgagpihhbllaaGreatDoorJ34
import Derived.Test.YtfbgagpihhbllaaGreatDoorEx8
import Derived.Deep.Cut
import Derived.BigRegion
namespace Go.Proofs.YtfbgagpihhbllaaGreatDoor
open Go.RowKit Go.Proofs Go.Proofs.Pk
set_option maxRecDepth 10000
attribute [local simp] mk_get wrap64_u8 mk_extract ByteArray.mk_append_mk get_1k

theorem byte_shift (n t : Nat) : IntKind.u8.wrap ((n : Int) / 2 ^ (8 * (t : Int)).toNat) = ((UInt8.ofNat (n / 256 ^ t)).toNat : Int) := by
  have e : (n : Int) / 2 ^ (8 * (t : Int)).toNat = ((n / 256 ^ t : Nat) : Int) := by
    rw [show (8 * (t : Int)).toNat = 8 * t from by omega]
    rw [show (2 : Int) ^ (8 * t) = ((256 ^ t : Nat) : Int) from by rw [Int.pow_mul]; simp]
    exact (Int.natCast_ediv _ _).symm
  rw [e, u8_wrap]

set_option maxHeartbeats 1000000 in
theorem pBig (n m : Nat) (w : World) (hm : m ≤ 7) (h0 : 0 < m) :
    Calls Tryz.prog 29 #[.int .i64 (n : Int), .int .i64 (m : Int)] w fun e w' => e = .returned (.string ⟨(big m n).toArray⟩) ∧ Below w.heap.size w w' := by
  obtain ⟨iB, hiB, hzB, hsB, hbB⟩ := info_parts byte_infoH
  have HM : Hid (m ≤ 7 ∧ 0 < m) := ⟨hm, h0⟩
  have hwm : IntKind.i64.wrap ((m : Int) - 1) = (m : Int) - 1 := IntWalk.i64_in _ (by omega)
  clear hm h0
  go_enter Tryz.func29, Tryz.ntmps29
  go_wp2
  clear hwm
  obtain ⟨wq, hwq⟩ : ∃ wq, wq = w := ⟨_, rfl⟩
  have HS : Hid (Below w.heap.size w wq) := by rw [hwq]; exact Below.refl _ _
  rw [← hwq]
  clear hwq
  go_loopw [5, 6] (fun v i wr => ∃ k : Nat, k ≤ m ∧ i = .int .i64 ((k : Int) - 1) ∧ Hid (wr.ownsRow w.heap.size 5 1 v (m - k) (Lib.byteCells ((big m n).take (m - k)))) ∧ Hid (Below w.heap.size w wr)) (fun _ i _ => (intOf i + 1).toNat)
  case atStart => exact ⟨m, Nat.le_refl _, rfl, by rw [Nat.sub_self]; exact World.ownsRow_nil _ _ _ _, HS⟩
  case round =>
    obtain ⟨k, hk, rfl, ho, hb⟩ := hrel
    cases k with
    | zero =>
      have ho7 := ho.out
      rw [Nat.sub_zero, List.take_of_length_le (by rw [big_length]; exact Nat.le_refl m)] at ho7
      obtain ⟨g, c7, rfl, hg1, hg2⟩ := ho7.form HM.out.2
      clear hg1 hg2
      have HBW := Lib.hid hb.out
      have cn := conv_own8 _ _ _ _ (big m n) m (big_length m n).symm ho7
      obtain ⟨BT, hBT⟩ : ∃ BT, Hid (BT = big m n) := ⟨_, rfl⟩
      rw [← hBT.out] at cn
      clear ho7 ho hb
      go_wp2
      go_ret
      refine ⟨?_, HBW.out⟩
      rw [← hBT.out]; rfl
    | succ t =>
      have ht7 : t < 7 := by have := HM.out.1; omega
      have e1 : ((t + 1 : Nat) : Int) - 1 = (t : Int) := by omega
      rw [e1]
      have hw8 : IntKind.i64.wrap (8 * (t : Int)) = 8 * (t : Int) := IntWalk.i64_in _ (by omega)
      have hwt : IntKind.i64.wrap ((t : Int) - 1) = (t : Int) - 1 := IntWalk.i64_in _ (by omega)
      have hs := byte_shift n t
      have hbg := big_get m n (m - (t + 1)) (by omega)
      rw [show m - 1 - (m - (t + 1)) = t from by omega] at hbg
      have HTK : Hid ((big m n).take (m - t) = (big m n).take (m - (t + 1)) ++ [UInt8.ofNat (n / 256 ^ t)]) := by
        show _ = _
        rw [← hbg, show m - t = m - (t + 1) + 1 from by omega]
        exact List.take_succ_eq_append_getElem (by rw [big_length]; omega)
      have ht0 : (0 : Int) ≤ (t : Int) := Int.natCast_nonneg _
      have h80 : ¬8 * (t : Int) < 0 := by omega
      generalize UInt8.ofNat (n / 256 ^ t) = c at hs HTK
      clear hbg
      go_upto_region 5 with (fail)
      refine wp_region_lit ?_
      iterate 6
        refine wpList_plain rfl fun K hK => ?_
        go_simp
        refine hK _ _ ?_
        clear hK K
      have HQ := Holds.new wr [.int .u8 (c.toNat : Int)] 5
      have HBd := hb.out.alloc hb.out.size (.cells [Value.int .u8 (c.toNat : Int)].toArray 5)
      have HOw := ho.out.alloc (.cells [Value.int .u8 (c.toNat : Int)].toArray 5)
      obtain ⟨q, hq⟩ : ∃ q, Hid (q = wr.heap.size) := ⟨_, rfl⟩
      refine wpList_plain rfl fun K hK => ?_
      go_simp
      refine hK _ _ ?_
      clear hK K
      rw [← hq.out] at HQ ⊢
      change Holds (wr.alloc (.cells #[Value.int .u8 (c.toNat : Int)] 5)) _ _ _ at HQ
      change Below _ _ (wr.alloc (.cells #[Value.int .u8 (c.toNat : Int)] 5)) at HBd
      change (wr.alloc (.cells #[Value.int .u8 (c.toNat : Int)] 5)).ownsRow _ _ _ _ _ _ at HOw
      generalize wr.alloc (.cells #[Value.int .u8 (c.toNat : Int)] 5) = wd at HQ HBd HOw ⊢
      refine wpList_append_at wd rfl (.tmp 13) (.tmp 19) 60 rfl w.heap.size 5 iB _ 1 1 Tryz.underlying60 hiB hzB hsB hbB (by rfl) (by omega) _ _ _ (by rfl) HOw
        ⟨q, 0, none⟩ 1 1 [.int .u8 (c.toNat : Int)] (by rfl) (by simp) (fun j u hj => by rw [add0]; exact HQ.cell j u hj) (by simp [Value.oneCell']) (by have := HM.out.1; unfold maxLen; omega) (by have := HM.out.1; omega) HBd.size (by omega) ?_
      intro v' we ho3 hgr _
      have HB3 : Hid (Below w.heap.size w we) := HBd.grown hgr HBd.size (own_low HOw)
      have HO3 : Hid (we.ownsRow w.heap.size 5 1 v' (m - t) (Lib.byteCells ((big m n).take (m - t)))) := by
        show World.ownsRow _ _ _ _ _ _ _
        rw [HTK.out]
        exact owns_len ho3 (by omega) (by simp [Lib.byteCells])
      clear ho3 hgr HQ HBd HOw ho hb
      go_wp2
      go_roundw
      case rel => exact ⟨t, by omega, by first | rfl | go_num, HO3, HB3⟩
      case measure => simp [intOf]

end Go.Proofs.YtfbgagpihhbllaaGreatDoor
