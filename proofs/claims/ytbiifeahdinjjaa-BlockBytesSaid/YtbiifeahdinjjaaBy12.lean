/- The law BlockBytes (layer 12), walked over the contract of the program's blocks (printed by genby12.py). -/
import Derived.Test.YtbiifeahdinjjaaBa12
import Derived.Test.YtbiifeahdinjjaaR2e
namespace Go.Proofs.Ytbiifeahdinjjaa
open Go.RowKit Go.Proofs Go.Proofs.Pk
set_option maxRecDepth 10000
attribute [local simp] mk_get wrap64_u8 mk_extract ByteArray.mk_append_mk get_1k

/-- What comes lies in a block of its own, and may be written. -/
def OwnM (w5 wr : World) (ad : Option Addr) (n : Nat) : Prop := n = 0 ∨ ∃ g, ad = some ⟨g, 0, none⟩ ∧ w5.heap.size ≤ g ∧ wr.there g 0 (n * 4)
theorem OwnM.of {w5 w wr : World} {ad : Option Addr} {cap : Nat} {T : List MEnt} (h : wr.ownsRow w.heap.size 37 4 (.slice ad T.length cap) T.length (cellsM T)) (hw : w5.heap.size ≤ w.heap.size) : OwnM w5 wr ad T.length := by
  by_cases h0 : T.length = 0
  · exact .inl h0
  · obtain ⟨g, cap', e, _, hB, _⟩ := rows_range h 0 (by omega)
    have e2 : ad = some ⟨g, 0, none⟩ := by injection e
    subst e2
    refine .inr ⟨g, rfl, by omega, fun j hj => ⟨?_, ?_⟩⟩
    · have hl : j < (cellsM T).length := by rw [cellsM_length]; omega
      have := h.cells rfl j (cellsM T)[j] (List.getElem?_eq_getElem hl)
      rw [show ((⟨g, 0, none⟩ : Addr).add j) = ⟨g, 0 + j, none⟩ from by unfold Addr.add; split <;> simp_all] at this
      rw [this]; rfl
    · exact h.frozenAt (0 + j)
theorem OwnM.kept {w5 wr w' : World} {ad : Option Addr} {n : Nat} (h : OwnM w5 wr ad n) (hk : Kept (fun _ => False) wr w') : OwnM w5 w' ad n := by
  rcases h with h | ⟨g, h1, h2, h3⟩
  · exact .inl h
  · by_cases h0 : n = 0
    · exact .inl h0
    · have hg : g < wr.heap.size := by
        have := (h3 0 (by omega)).1
        obtain ⟨v, hv⟩ := Option.isSome_iff_exists.1 this
        exact World.block_lt_of_cell? wr _ hv
      refine .inr ⟨g, h1, h2, fun j hj => ⟨?_, ?_⟩⟩
      · rw [hk.cell (p := ⟨g, 0 + j, none⟩) hg (fun f => f)]; exact (h3 j hj).1
      · rw [hk.frozen (p := ⟨g, 0 + j, none⟩) hg (fun f => f)]; exact (h3 j hj).2
theorem is_cc (c : Nat) (w : World) : Calls Try.prog 15 #[errV 45 c, .int .i64 (c : Int)] w fun e w' => e = .returned (.bool true) ∧ Kept (fun _ => False) w w' :=
  (is_any c c w).mono fun _ _ ⟨h1, h2⟩ => ⟨by rw [h1]; simp, by rw [← h2]; exact Kept.refl _ _⟩


set_option maxHeartbeats 8000000 in
theorem bytes_yes (K : BkK) (ad : Option Addr) (len cap c : Nat) (a b : Txt) (L : List MEnt) (w : World) (so : Bool) (hL200 : L.length ≤ 200)
    (HE : Hid (Calls Try.prog 9 #[] w fun e w' => e = .returned (.bool true) ∧ Kept (fun _ => False) w w'))
    (HF : Hid (∀ W, Kept (fun _ => False) w W → Calls Try.prog 10 #[.slice ad len cap] W fun e w' => e = .returned (.tuple #[.string ⟨a.toArray⟩, errV 45 c]) ∧ Kept (fun _ => False) W w'))
    (HR : Hid (∀ W, Kept (fun _ => False) w W → Calls Try.prog 11 #[.slice ad len cap] W fun e w' => e = .returned (.tuple #[.string ⟨a.toArray⟩, .int .i64 (c : Int)]) ∧ Kept (fun _ => False) W w'))
    (HW : Hid (∀ W, Calls Try.prog 12 #[.string ⟨b.toArray⟩] W fun e w' => ∃ ad' cap', e = .returned (.tuple #[.slice ad' L.length cap', .bool true]) ∧ EntsW w' ad' L.length L ∧ Kept (fun _ => False) W w'))
    (HD : Hid (∀ W, Calls Try.prog 13 #[.string ⟨b.toArray⟩] W fun e w' => ∃ ad' cap', e = .returned (.tuple #[.slice ad' L.length cap', .nilIface]) ∧ EntsW w' ad' L.length L ∧ (∀ w5 : World, w5.heap.size ≤ W.heap.size → OwnM w5 w' ad' L.length) ∧ Kept (fun _ => False) W w'))
    (HS : Hid (∀ W, Kept (fun _ => False) w W → Calls Try.prog 16 #[.slice ad len cap] W fun e w' => e = .returned (.bool so) ∧ Kept (fun _ => False) W w'))
    (HT : Hid (∀ W, Kept (fun _ => False) w W → Calls Try.prog 17 #[.slice ad len cap] W fun e w' => e = .returned (.bool so) ∧ Kept (fun _ => False) W w')) :
    Calls Try.prog 3 #[.slice ad len cap, .string ⟨b.toArray⟩] w fun e w' => e = .returned (.bool true) ∧ Kept (fun _ => False) w w' := by
  obtain ⟨n, hn⟩ : ∃ n, n = L.length := ⟨_, rfl⟩
  rw [← hn] at HW HD hL200
  have HN := Lib.hid hn
  clear hn
  go_enter Try.func3, Try.ntmps3
  go_wp2_with fail
  refine HE.out.mono ?_
  clear HE
  rintro e w1 ⟨rfl, hk1⟩
  have HK1 := Lib.hid hk1
  clear hk1
  go_wp2_with fail
  refine (HF.out _ HK1.out).mono ?_
  clear HF
  rintro e w2 ⟨rfl, hk2⟩
  have HK2 := Lib.hid (HK1.out.trans hk2 (fun _ h => h.elim))
  clear hk2 HK1
  go_wp2_with fail
  refine (HR.out _ HK2.out).mono ?_
  clear HR
  rintro e w3 ⟨rfl, hk3⟩
  have HK3 := Lib.hid (HK2.out.trans hk3 (fun _ h => h.elim))
  clear hk3 HK2
  go_wp2_with fail
  refine (HW.out _).mono ?_
  clear HW
  rintro e w5 ⟨adW, capW, rfl, hW5, hk5⟩
  have HK5 := Lib.hid (HK3.out.trans hk5 (fun _ h => h.elim))
  have HW5 := Lib.hid hW5
  clear hk5 HK3 hW5
  go_wp2
  obtain ⟨wq, hwq⟩ : ∃ wq, wq = w5 := ⟨_, rfl⟩
  have HKQ : Hid (Kept (fun _ => False) w5 wq) := by rw [hwq]; exact Kept.refl _ _
  rw [← hwq]
  clear hwq
  go_loopw [12] (fun t wr => ∃ j : Nat, j ≤ 2 ∧ t = .int .i64 (j : Int) ∧ Hid (Kept (fun _ => False) w5 wr)) (fun t _ => 2 - (intOf t).toNat)
  case atStart => exact ⟨0, by omega, rfl, HKQ⟩
  case round =>
    obtain ⟨j, hj, rfl, hK⟩ := hrel
    clear HKQ
    have j0 : (0 : Int) ≤ (j : Int) := by omega
    have hwj : IntKind.i64.wrap ((j : Int) + 1) = (j : Int) + 1 := IntWalk.i64_in _ (by omega)
    by_cases hlt : j < 2
    · have jn : (j : Int) < 2 := by omega
      go_wp2_with fail
      refine (HD.out _).mono ?_
      rintro e w6 ⟨adM, capM, rfl, hM6, hO6, hk6⟩
      have HK6 := Lib.hid (hK.out.trans hk6 (fun _ h => h.elim))
      have HO6 := Lib.hid (hO6 w5 hK.out.size)
      have HSm := Lib.hid (entsSame12 w6 adM adW n capM capW L hM6 (ents_keptK HW5.out HK6.out) (by have := HN.out; omega))
      clear hk6 hM6 hO6 hK
      go_wp2_with fail
      refine HSm.out.mono ?_
      clear HSm
      rintro e w7 ⟨rfl, hk7⟩
      have HK7 := Lib.hid (HK6.out.trans hk7 (fun _ h => h.elim))
      have HO7 := Lib.hid (HO6.out.kept hk7)
      clear hk7 HK6 HO6
      go_wp2
      have HZ := Lib.hid (And.intro HK7.out HO7.out)
      clear HK7 HO7
      rename World => wz
      go_loopw [16] (fun i wr => ∃ k : Nat, k ≤ n ∧ i = .int .i64 (k : Int) ∧ Hid (Kept (fun _ => False) w5 wr ∧ OwnM w5 wr adM n)) (fun i _ => n - (intOf i).toNat)
      case atStart => exact ⟨0, Nat.zero_le _, rfl, HZ⟩
      case round =>
        obtain ⟨k, hkn, rfl, hI⟩ := hrel
        clear HZ
        have k0 : (0 : Int) ≤ (k : Int) := by omega
        have hwk : IntKind.i64.wrap ((k : Int) + 1) = (k : Int) + 1 := IntWalk.i64_in _ (by omega)
        by_cases hlt2 : k < n
        · have kn : (k : Int) < (n : Int) := by omega
          obtain ⟨hI1, hI2⟩ := hI.out
          rcases hI2 with h0 | ⟨g, rfl, hg, hth⟩
          · omega
          · have hth2 : wr.there g (k * 4) (entC zeroM).toArray.size := fun i hi => by
              have hi4 : i < 4 := hi
              have := hth (k * 4 + i) (by omega)
              rwa [Nat.zero_add] at this
            have HNx : Hid (Kept (fun _ => False) w5 (wr.setCells g (k * 4) (entC zeroM)) ∧ OwnM w5 (wr.setCells g (k * 4) (entC zeroM)) (some ⟨g, 0, none⟩) n) :=
              ⟨Kept.setCellsN hg _ _ _ hI1, .inr ⟨g, rfl, hg, World.there_setCells hth _ _ _⟩⟩
            clear hth hI1 hI
            go_wp2_with (refine wpList_store_mid rfl 37 (.tmp 71) (.tmp 70) rfl g (k * 4) (entC zeroM).toArray rfl rfl hth2 (by rw [ent_size]; rfl) (all_oneCell_toArray (entC_one _)) ?_)
            go_roundw
            case rel => exact ⟨k + 1, by omega, by first | rfl | go_num, HNx⟩
            case measure => simp [intOf]; omega
        · obtain rfl : k = n := by omega
          have kn : ¬(k : Int) < (k : Int) := by omega
          have HF2 := Lib.hid hI.out.1
          clear hI
          go_wp2
          refine ⟨⟨j + 1, by omega, by first | rfl | go_num, HF2⟩, ?_⟩
          simp [intOf]; omega
    · have jn : ¬(j : Int) < 2 := by omega
      have HK6 := Lib.hid (HK5.out.trans hK.out (fun _ h => h.elim))
      clear hK
      go_wp2_with fail
      refine (is_cc c _).mono ?_
      rintro e w6 ⟨rfl, hk6⟩
      have HK7 := Lib.hid (HK6.out.trans hk6 (fun _ h => h.elim))
      clear hk6 HK6
      go_wp2_with fail
      refine (HS.out _ HK7.out).mono ?_
      rintro e w8 ⟨rfl, hk8⟩
      have HK8 := Lib.hid (HK7.out.trans hk8 (fun _ h => h.elim))
      clear hk8 HK7
      go_wp2_with fail
      refine (HT.out _ HK8.out).mono ?_
      rintro e w9 ⟨rfl, hk9⟩
      have HK9 := Lib.hid (HK8.out.trans hk9 (fun _ h => h.elim))
      clear hk9 HK8
      go_wp2
      go_ret
      exact ⟨rfl, HK9.out⟩

set_option maxHeartbeats 8000000 in
theorem bytes_no (K : BkK) (ad : Option Addr) (len cap c : Nat) (a b : Txt) (L : List MEnt) (w : World) (so : Bool) (hL200 : L.length ≤ 200)
    (HE : Hid (Calls Try.prog 9 #[] w fun e w' => e = .returned (.bool true) ∧ Kept (fun _ => False) w w'))
    (HF : Hid (∀ W, Kept (fun _ => False) w W → Calls Try.prog 10 #[.slice ad len cap] W fun e w' => e = .returned (.tuple #[.string ⟨a.toArray⟩, errV 45 c]) ∧ Kept (fun _ => False) W w'))
    (HR : Hid (∀ W, Kept (fun _ => False) w W → Calls Try.prog 11 #[.slice ad len cap] W fun e w' => e = .returned (.tuple #[.string ⟨a.toArray⟩, .int .i64 (c : Int)]) ∧ Kept (fun _ => False) W w'))
    (HW : Hid (∀ W, Calls Try.prog 12 #[.string ⟨b.toArray⟩] W fun e w' => ∃ ad' cap', e = .returned (.tuple #[.slice ad' L.length cap', .bool false]) ∧ EntsW w' ad' L.length L ∧ Kept (fun _ => False) W w'))
    (HD : Hid (∀ W, Calls Try.prog 13 #[.string ⟨b.toArray⟩] W fun e w' => ∃ ad' cap', e = .returned (.tuple #[.slice ad' L.length cap', .iface 45 (.int .i64 3)]) ∧ EntsW w' ad' L.length L ∧ (∀ w5 : World, w5.heap.size ≤ W.heap.size → OwnM w5 w' ad' L.length) ∧ Kept (fun _ => False) W w'))
    (HS : Hid (∀ W, Kept (fun _ => False) w W → Calls Try.prog 16 #[.slice ad len cap] W fun e w' => e = .returned (.bool so) ∧ Kept (fun _ => False) W w'))
    (HT : Hid (∀ W, Kept (fun _ => False) w W → Calls Try.prog 17 #[.slice ad len cap] W fun e w' => e = .returned (.bool so) ∧ Kept (fun _ => False) W w')) :
    Calls Try.prog 3 #[.slice ad len cap, .string ⟨b.toArray⟩] w fun e w' => e = .returned (.bool true) ∧ Kept (fun _ => False) w w' := by
  obtain ⟨n, hn⟩ : ∃ n, n = L.length := ⟨_, rfl⟩
  rw [← hn] at HW HD hL200
  have HN := Lib.hid hn
  clear hn
  go_enter Try.func3, Try.ntmps3
  go_wp2_with fail
  refine HE.out.mono ?_
  clear HE
  rintro e w1 ⟨rfl, hk1⟩
  have HK1 := Lib.hid hk1
  clear hk1
  go_wp2_with fail
  refine (HF.out _ HK1.out).mono ?_
  clear HF
  rintro e w2 ⟨rfl, hk2⟩
  have HK2 := Lib.hid (HK1.out.trans hk2 (fun _ h => h.elim))
  clear hk2 HK1
  go_wp2_with fail
  refine (HR.out _ HK2.out).mono ?_
  clear HR
  rintro e w3 ⟨rfl, hk3⟩
  have HK3 := Lib.hid (HK2.out.trans hk3 (fun _ h => h.elim))
  clear hk3 HK2
  go_wp2_with fail
  refine (HW.out _).mono ?_
  clear HW
  rintro e w5 ⟨adW, capW, rfl, hW5, hk5⟩
  have HK5 := Lib.hid (HK3.out.trans hk5 (fun _ h => h.elim))
  have HW5 := Lib.hid hW5
  clear hk5 HK3 hW5
  go_wp2
  obtain ⟨wq, hwq⟩ : ∃ wq, wq = w5 := ⟨_, rfl⟩
  have HKQ : Hid (Kept (fun _ => False) w5 wq) := by rw [hwq]; exact Kept.refl _ _
  rw [← hwq]
  clear hwq
  go_loopw [12] (fun t wr => ∃ j : Nat, j ≤ 2 ∧ t = .int .i64 (j : Int) ∧ Hid (Kept (fun _ => False) w5 wr)) (fun t _ => 2 - (intOf t).toNat)
  case atStart => exact ⟨0, by omega, rfl, HKQ⟩
  case round =>
    obtain ⟨j, hj, rfl, hK⟩ := hrel
    clear HKQ
    have j0 : (0 : Int) ≤ (j : Int) := by omega
    have hwj : IntKind.i64.wrap ((j : Int) + 1) = (j : Int) + 1 := IntWalk.i64_in _ (by omega)
    by_cases hlt : j < 2
    · have jn : (j : Int) < 2 := by omega
      go_wp2_with fail
      refine (HD.out _).mono ?_
      rintro e w6 ⟨adM, capM, rfl, hM6, hO6, hk6⟩
      have HK6 := Lib.hid (hK.out.trans hk6 (fun _ h => h.elim))
      have HO6 := Lib.hid (hO6 w5 hK.out.size)
      have HSm := Lib.hid (entsSame12 w6 adM adW n capM capW L hM6 (ents_keptK HW5.out HK6.out) (by have := HN.out; omega))
      clear hk6 hM6 hO6 hK
      go_wp2_with fail
      refine HSm.out.mono ?_
      clear HSm
      rintro e w7 ⟨rfl, hk7⟩
      have HK7 := Lib.hid (HK6.out.trans hk7 (fun _ h => h.elim))
      have HO7 := Lib.hid (HO6.out.kept hk7)
      clear hk7 HK6 HO6
      go_wp2_with fail
      refine (is_33 _).mono ?_
      rintro e w8 ⟨rfl, hk8⟩
      have HZ := Lib.hid (And.intro (HK7.out.trans hk8 (fun _ h => h.elim)) (HO7.out.kept hk8))
      clear HK7 HO7 hk8
      go_wp2
      rename World => wz
      go_loopw [16] (fun i wr => ∃ k : Nat, k ≤ n ∧ i = .int .i64 (k : Int) ∧ Hid (Kept (fun _ => False) w5 wr ∧ OwnM w5 wr adM n)) (fun i _ => n - (intOf i).toNat)
      case atStart => exact ⟨0, Nat.zero_le _, rfl, HZ⟩
      case round =>
        obtain ⟨k, hkn, rfl, hI⟩ := hrel
        clear HZ
        have k0 : (0 : Int) ≤ (k : Int) := by omega
        have hwk : IntKind.i64.wrap ((k : Int) + 1) = (k : Int) + 1 := IntWalk.i64_in _ (by omega)
        by_cases hlt2 : k < n
        · have kn : (k : Int) < (n : Int) := by omega
          obtain ⟨hI1, hI2⟩ := hI.out
          rcases hI2 with h0 | ⟨g, rfl, hg, hth⟩
          · omega
          · have hth2 : wr.there g (k * 4) (entC zeroM).toArray.size := fun i hi => by
              have hi4 : i < 4 := hi
              have := hth (k * 4 + i) (by omega)
              rwa [Nat.zero_add] at this
            have HNx : Hid (Kept (fun _ => False) w5 (wr.setCells g (k * 4) (entC zeroM)) ∧ OwnM w5 (wr.setCells g (k * 4) (entC zeroM)) (some ⟨g, 0, none⟩) n) :=
              ⟨Kept.setCellsN hg _ _ _ hI1, .inr ⟨g, rfl, hg, World.there_setCells hth _ _ _⟩⟩
            clear hth hI1 hI
            go_wp2_with (refine wpList_store_mid rfl 37 (.tmp 71) (.tmp 70) rfl g (k * 4) (entC zeroM).toArray rfl rfl hth2 (by rw [ent_size]; rfl) (all_oneCell_toArray (entC_one _)) ?_)
            go_roundw
            case rel => exact ⟨k + 1, by omega, by first | rfl | go_num, HNx⟩
            case measure => simp [intOf]; omega
        · obtain rfl : k = n := by omega
          have kn : ¬(k : Int) < (k : Int) := by omega
          have HF2 := Lib.hid hI.out.1
          clear hI
          go_wp2
          refine ⟨⟨j + 1, by omega, by first | rfl | go_num, HF2⟩, ?_⟩
          simp [intOf]; omega
    · have jn : ¬(j : Int) < 2 := by omega
      have HK6 := Lib.hid (HK5.out.trans hK.out (fun _ h => h.elim))
      clear hK
      go_wp2_with fail
      refine (is_cc c _).mono ?_
      rintro e w6 ⟨rfl, hk6⟩
      have HK7 := Lib.hid (HK6.out.trans hk6 (fun _ h => h.elim))
      clear hk6 HK6
      go_wp2_with fail
      refine (HS.out _ HK7.out).mono ?_
      rintro e w8 ⟨rfl, hk8⟩
      have HK8 := Lib.hid (HK7.out.trans hk8 (fun _ h => h.elim))
      clear hk8 HK7
      go_wp2_with fail
      refine (HT.out _ HK8.out).mono ?_
      rintro e w9 ⟨rfl, hk9⟩
      have HK9 := Lib.hid (HK8.out.trans hk9 (fun _ h => h.elim))
      clear hk9 HK8
      go_wp2
      go_ret
      exact ⟨rfl, HK9.out⟩

theorem bytes12 (K : BkK) (ad : Option Addr) (len cap : Nat) (l : List MEnt) (b : Txt) (w : World) (h0 : EntsW w ad len l) (hl : (len : Int) * 48 ≤ 140737488351232) (hb : (b.length : Int) ≤ 140737488351232) :
    Calls Try.prog 3 #[.slice ad len cap, .string ⟨b.toArray⟩] w fun e w' => e = .returned (.bool true) ∧ Kept (fun _ => False) w w' := by
  have HE := Lib.hid (examples12 K w)
  have hlb : (len : Int) ≤ 140737488351232 := by omega
  have HF := Lib.hid (fun (W : World) (h : Kept (fun _ => False) w W) => K.encode W ad len cap l (ents_keptK h0 h) hlb)
  have HR := Lib.hid (fun (W : World) (h : Kept (fun _ => False) w W) => rEncode W ad len cap l (ents_keptK h0 h) hlb)
  have HS := Lib.hid (fun (W : World) (h : Kept (fun _ => False) w W) => K.sorted W ad len cap l (ents_keptK h0 h) hlb)
  have HT := Lib.hid (fun (W : World) (h : Kept (fun _ => False) w W) => rSorted W ad len cap l (ents_keptK h0 h) hlb)
  have hW := fun (W : World) => rDecode b W (by unfold maxLen; omega)
  have hD := fun (W : World) => K.decode b W (by omega)
  have h200 := dec_len b
  obtain ⟨⟨L, ok⟩, hr⟩ : ∃ r, r = decB b := ⟨_, rfl⟩
  rw [← hr] at h200
  rw [← hr] at hW
  rw [← hr] at hD
  cases ok with
  | true =>
    refine bytes_yes K ad len cap _ _ b L w _ h200 HE HF HR (Lib.hid fun W => ?_) (Lib.hid fun W => ?_) HS HT
    · refine (hW W).mono ?_
      rintro e w' ⟨ad', cap', rfl, ho, hf, hk⟩
      exact ⟨ad', cap', rfl, owns_ents ho hf, hk⟩
    · refine (hD W).mono ?_
      rintro e w' ⟨ad', cap', rfl, ho, hf, hk⟩
      exact ⟨ad', cap', rfl, owns_ents ho hf, fun w5 h => OwnM.of ho h, hk⟩
  | false =>
    refine bytes_no K ad len cap _ _ b L w _ h200 HE HF HR (Lib.hid fun W => ?_) (Lib.hid fun W => ?_) HS HT
    · refine (hW W).mono ?_
      rintro e w' ⟨ad', cap', rfl, ho, hf, hk⟩
      exact ⟨ad', cap', rfl, owns_ents ho hf, hk⟩
    · refine (hD W).mono ?_
      rintro e w' ⟨ad', cap', rfl, ho, hf, hk⟩
      exact ⟨ad', cap', rfl, owns_ents ho hf, fun w5 h => OwnM.of ho h, hk⟩

end Go.Proofs.Ytbiifeahdinjjaa
