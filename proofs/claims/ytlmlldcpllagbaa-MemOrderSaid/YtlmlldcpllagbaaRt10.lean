/- The law's own 'right' (layer 10): entries that may be, made of any. -/
import Derived.Test.YtlmlldcpllagbaaPick10
import Derived.Test.YtlmlldcpllagbaaLi10
import Derived.Deep.Cut
namespace Go.Proofs.Ytlmlldcpllagbaa
open Go.RowKit Go.Proofs Go.Proofs.Pk
set_option maxRecDepth 10000
attribute [local simp] mk_get wrap64_u8 mk_extract ByteArray.mk_append_mk get_1k

/-- Entries that may be, in a slice of their own. -/
def RtL (B : Nat) (v : Value) (n : Nat) (w : World) : Prop := ∃ L : List MEnt, w.ownsRow B 34 4 v L.length (cellsM L) ∧ L.length ≤ n ∧ ∀ e ∈ L, rightM e = true

set_option maxHeartbeats 4000000 in
theorem right10 (w : World) (ad : Option Addr) (len cap : Nat) (l : List MEnt) (n : Nat) (hn : n ≤ 100) (h : ∀ i, i < len → ∃ b off, ad = some ⟨b, off, none⟩ ∧ ∃ x : MEnt, FitN x.2.1 ∧ ∀ w', Kept (fun _ => False) w w' → SEnt b (off + i * 4) x w') :
    Calls Try.prog 23 #[.slice ad len cap, .int .i64 (n : Int)] w fun r w' => ∃ v, r = .returned v ∧ RtL w.heap.size v n w' ∧ Kept (fun _ => False) w w' := by
  obtain ⟨i0, hi, hz0, hz1, hz2⟩ := info_parts ent_info
  have H := Lib.hid h
  clear h
  have HI : Hid (RtL w.heap.size (.slice none 0 0) 0 w ∧ Kept (fun _ => False) w w) := ⟨⟨[], World.ownsRow_nil _ _ _ _, Nat.le_refl _, fun e he => by cases he⟩, Kept.refl _ _⟩
  go_enter Try.func23, Try.ntmps23
  go_wp2
  obtain ⟨wq, hwq⟩ : ∃ wq, wq = w := ⟨_, rfl⟩
  have HI0 : Hid (RtL w.heap.size (.slice none 0 0) 0 wq ∧ Kept (fun _ => False) w wq) := by rw [hwq]; exact HI.out
  rw [← hwq]
  clear hwq HI
  go_loopw [5, 6] (fun v i wr => ∃ j : Nat, j ≤ n ∧ i = .int .i64 (j : Int) ∧ Hid (RtL w.heap.size v j wr ∧ Kept (fun _ => False) w wr)) (fun _ i _ => n - (intOf i).toNat)
  case atStart => exact ⟨0, Nat.zero_le _, rfl, HI0⟩
  case round =>
    obtain ⟨j, hj, rfl, hI⟩ := hrel
    clear HI0
    have j0 : (0 : Int) ≤ (j : Int) := by omega
    have hwj : IntKind.i64.wrap ((j : Int) + 1) = (j : Int) + 1 := IntWalk.i64_in _ (by omega)
    by_cases hlt : j < len ∧ j < n
    · obtain ⟨g1, g2⟩ := hlt
      obtain ⟨bp, op, rfl, x, hfx, hcs⟩ := H.out j g1
      obtain ⟨c5, c0, c1, c2, c3⟩ := hcs wr hI.out.2
      obtain ⟨k, s, d, v⟩ := x
      simp only at c0 c1 c2 c3 hfx
      have k1 : (j : Int) < (len : Int) := by omega
      have k2 : (j : Int) < (n : Int) := by omega
      have km0 : min (k.length : Int) 80 = ((min k.length 80 : Nat) : Int) := by omega
      have vm0 : min (v.length : Int) 300 = ((min v.length 300 : Nat) : Int) := by omega
      obtain ⟨km, hkm⟩ : ∃ km, Hid (km = min k.length 80) := ⟨_, rfl⟩
      obtain ⟨vm, hvm⟩ : ∃ vm, Hid (vm = min v.length 300) := ⟨_, rfl⟩
      rw [← hkm.out] at km0
      rw [← hvm.out] at vm0
      have km1 : km ≤ k.length := by have := hkm.out; omega
      have vm1 : vm ≤ v.length := by have := hvm.out; omega
      have km2 : (km : Int) ≤ (k.length : Int) := by omega
      have vm2 : (vm : Int) ≤ (v.length : Int) := by omega
      have km3 : (0 : Int) ≤ (km : Int) := by omega
      have vm3 : (0 : Int) ≤ (vm : Int) := by omega
      clear c5 hcs
      have HPk := Lib.hid (fun W => pick_any s 50 W hfx (by decide) (by decide))
      have hpl := pickM_lt s (n := 50) (by decide)
      generalize pickM s 50 = pk at HPk hpl
      go_wp2_with fail
      refine (HPk.out _).mono ?_
      rintro e w4 ⟨rfl, rfl⟩
      have hw1 : IntKind.i64.wrap (1 + (pk : Int)) = 1 + (pk : Int) := IntWalk.i64_in _ (by omega)
      go_upto_region 9 with (fail)
      obtain ⟨kt, hkt⟩ : ∃ kt : Txt, kt = k.take km := ⟨_, rfl⟩
      obtain ⟨vt, hvt⟩ : ∃ vt : Txt, vt = v.take vm := ⟨_, rfl⟩
      have hkl : kt.length ≤ 80 := by rw [hkt, List.length_take]; have := hkm.out; omega
      have hvl : vt.length ≤ 300 := by rw [hvt, List.length_take]; have := hvm.out; omega
      rw [← hkt, ← hvt]
      have HY : Hid (∀ y : MEnt, (y = (kt, 1 + (pk : Int), false, vt) ∨ y = (kt, 1 + (pk : Int), true, [])) → ¬kt = [] → rightM y = true) := by
        rintro y (rfl | rfl) hne
        · unfold rightM; rw [decide_eq_true_eq]; exact ⟨hne, hkl, hvl, by show (1 : Int) ≤ 1 + pk; omega, by show 1 + (pk : Int) ≤ _; omega, fun h => by cases h⟩
        · unfold rightM; rw [decide_eq_true_eq]; exact ⟨hne, hkl, by simp, by show (1 : Int) ≤ 1 + pk; omega, by show 1 + (pk : Int) ≤ _; omega, fun _ => rfl⟩
      obtain ⟨L, hL⟩ := hI.out.1
      have HL := Lib.hid (And.intro hL hI.out.2)
      clear hkt hvt hkm hvm km0 vm0 km1 vm1 km2 vm2 km3 vm3 c0 c1 c2 c3 hfx HPk hI hL
      cases d with
      | false =>
        obtain ⟨y, hy⟩ : ∃ y : MEnt, y = (kt, 1 + (pk : Int), false, vt) := ⟨_, rfl⟩
        have HYr := Lib.hid (HY.out y (.inl hy))
        go_upto_region 11 with (fail)
        have hal : ∃ wa, wa = wr.alloc (.cells #[.string ⟨kt.toArray⟩, .int .i64 (1 + (pk : Int)), .bool false, .string ⟨vt.toArray⟩] 34) := ⟨_, rfl⟩
        obtain ⟨wa, hwa⟩ := hal
        have hNa : Holds wa wr.heap.size (entC y) 34 := by rw [hwa, hy]; exact Holds.new wr (entC (kt, 1 + (pk : Int), false, vt)) _
        have hka : Kept (fun _ => False) w wa := by rw [hwa]; exact HL.out.2.alloc _
        have hoa : wa.ownsRow w.heap.size 34 4 u5 L.length (cellsM L) := by rw [hwa]; exact HL.out.1.1.alloc _
        have hL2 := HL.out.1.2
        rw [← hwa]
        obtain ⟨eb, heb⟩ : ∃ eb, eb = wr.heap.size := ⟨_, rfl⟩
        rw [← heb] at hNa ⊢
        have e0 : wa.cell? ⟨eb, 0, none⟩ = some (.string ⟨kt.toArray⟩) := by have := hNa.cell 0 _ rfl; rw [hy] at this; exact this
        have e1 : wa.cell? ⟨eb, 1, none⟩ = some (.int .i64 (1 + (pk : Int))) := by have := hNa.cell 1 _ rfl; rw [hy] at this; exact this
        have e2 : wa.cell? ⟨eb, 2, none⟩ = some (.bool false) := by have := hNa.cell 2 _ rfl; rw [hy] at this; exact this
        have e3 : wa.cell? ⟨eb, 3, none⟩ = some (.string ⟨vt.toArray⟩) := by have := hNa.cell 3 _ rfl; rw [hy] at this; exact this
        have HO := Lib.hid (And.intro hoa (And.intro hka hL2))
        clear hNa hka hoa hL2 HL hwa heb
        by_cases hkn : kt = []
        · have HN2 : Hid (RtL w.heap.size u5 (j + 1) wa ∧ Kept (fun _ => False) w wa) := ⟨⟨L, HO.out.1, by have := HO.out.2.2.1; omega, HO.out.2.2.2⟩, HO.out.2.1⟩
          rw [hkn] at e0
          clear HO hy hkl
          go_wp2
          go_roundw
          case rel => exact ⟨j + 1, by omega, by first | rfl | go_num, HN2⟩
          case measure => simp [intOf]; omega
        · have hkb : (kt == []) = false := by simpa using hkn
          have hyr := HYr.out hkn
          have HYC : Hid (entC y = [.string ⟨kt.toArray⟩, .int .i64 (1 + (pk : Int)), .bool false, .string ⟨vt.toArray⟩]) := by show _ = _; rw [hy]; rfl
          have hle := HO.out.2.2.1
          have hsz := HO.out.2.1.size
          clear HY HYr hkn
          go_wp2_with (at_builtin; refine wpList_append_own _ rfl (.tmp 50) (.tmp 52) 23 rfl w.heap.size 34 i0 _ 4 48 Try.underlying23 hi hz0 hz1 hz2 rfl (by decide) _ _ _ rfl (HO.out.1.alloc _) ⟨wa.heap.size, 0, none⟩ 1 1 [.string ⟨kt.toArray⟩, .int .i64 (1 + (pk : Int)), .bool false, .string ⟨vt.toArray⟩] rfl rfl ?d1 ?d2 ?d3 ?d4 ?d5 ?_)
          case d1 => intro m u hm; first | (rw [add0]; exact (Holds.new wa [.string ⟨kt.toArray⟩, .int .i64 (1 + (pk : Int)), .bool false, .string ⟨vt.toArray⟩] 34).cell m u hm) | exact hm
          case d2 => intro u hu; rw [← HYC.out] at hu; exact entC_one y u hu
          case d3 => unfold maxLen; omega
          case d4 => omega
          case d5 => simp; omega
          intro v' w5 hown' hgrow _
          have HN2 : Hid (RtL w.heap.size v' (j + 1) w5 ∧ Kept (fun _ => False) w w5) := by
            refine ⟨⟨L ++ [y], ?_, ?_, ?_⟩, kept_grown (HO.out.2.1.alloc _) hgrow (fun b hb => .inr (HO.out.1.lt b hb).1)⟩
            · rw [cellsM_append, List.length_append, show cellsM [y] = entC y from by simp [cellsM], HYC.out]
              exact hown'
            · rw [List.length_append, List.length_singleton]; omega
            · intro z hz
              rcases List.mem_append.1 hz with hz | hz
              · exact HO.out.2.2.2 z hz
              · obtain rfl : z = y := by simpa using hz
                exact hyr
          clear hown' hgrow HO HYC hy hyr
          go_wp2
          go_roundw
          case rel => exact ⟨j + 1, by omega, by first | rfl | go_num, HN2⟩
          case measure => simp [intOf]; omega
      | true =>
        obtain ⟨y, hy⟩ : ∃ y : MEnt, y = (kt, 1 + (pk : Int), true, []) := ⟨_, rfl⟩
        have HYr := Lib.hid (HY.out y (.inr hy))
        go_upto_region 11 with (fail)
        have hal : ∃ wa, wa = wr.alloc (.cells #[.string ⟨kt.toArray⟩, .int .i64 (1 + (pk : Int)), .bool true, .string ⟨#[]⟩] 34) := ⟨_, rfl⟩
        obtain ⟨wa, hwa⟩ := hal
        have hNa : Holds wa wr.heap.size (entC y) 34 := by rw [hwa, hy]; exact Holds.new wr (entC (kt, 1 + (pk : Int), true, [])) _
        have hka : Kept (fun _ => False) w wa := by rw [hwa]; exact HL.out.2.alloc _
        have hoa : wa.ownsRow w.heap.size 34 4 u5 L.length (cellsM L) := by rw [hwa]; exact HL.out.1.1.alloc _
        have hL2 := HL.out.1.2
        rw [← hwa]
        obtain ⟨eb, heb⟩ : ∃ eb, eb = wr.heap.size := ⟨_, rfl⟩
        rw [← heb] at hNa ⊢
        have e0 : wa.cell? ⟨eb, 0, none⟩ = some (.string ⟨kt.toArray⟩) := by have := hNa.cell 0 _ rfl; rw [hy] at this; exact this
        have e1 : wa.cell? ⟨eb, 1, none⟩ = some (.int .i64 (1 + (pk : Int))) := by have := hNa.cell 1 _ rfl; rw [hy] at this; exact this
        have e2 : wa.cell? ⟨eb, 2, none⟩ = some (.bool true) := by have := hNa.cell 2 _ rfl; rw [hy] at this; exact this
        have e3 : wa.cell? ⟨eb, 3, none⟩ = some (.string ⟨#[]⟩) := by have := hNa.cell 3 _ rfl; rw [hy] at this; exact this
        have HO := Lib.hid (And.intro hoa (And.intro hka hL2))
        clear hNa hka hoa hL2 HL hwa heb
        by_cases hkn : kt = []
        · have HN2 : Hid (RtL w.heap.size u5 (j + 1) wa ∧ Kept (fun _ => False) w wa) := ⟨⟨L, HO.out.1, by have := HO.out.2.2.1; omega, HO.out.2.2.2⟩, HO.out.2.1⟩
          rw [hkn] at e0
          clear HO hy hkl
          go_wp2
          go_roundw
          case rel => exact ⟨j + 1, by omega, by first | rfl | go_num, HN2⟩
          case measure => simp [intOf]; omega
        · have hkb : (kt == []) = false := by simpa using hkn
          have hyr := HYr.out hkn
          have HYC : Hid (entC y = [.string ⟨kt.toArray⟩, .int .i64 (1 + (pk : Int)), .bool true, .string ⟨#[]⟩]) := by show _ = _; rw [hy]; rfl
          have hle := HO.out.2.2.1
          have hsz := HO.out.2.1.size
          clear HY HYr hkn
          go_wp2_with (at_builtin; refine wpList_append_own _ rfl (.tmp 50) (.tmp 52) 23 rfl w.heap.size 34 i0 _ 4 48 Try.underlying23 hi hz0 hz1 hz2 rfl (by decide) _ _ _ rfl (HO.out.1.alloc _) ⟨wa.heap.size, 0, none⟩ 1 1 [.string ⟨kt.toArray⟩, .int .i64 (1 + (pk : Int)), .bool true, .string ⟨#[]⟩] rfl rfl ?d1 ?d2 ?d3 ?d4 ?d5 ?_)
          case d1 => intro m u hm; first | (rw [add0]; exact (Holds.new wa [.string ⟨kt.toArray⟩, .int .i64 (1 + (pk : Int)), .bool true, .string ⟨#[]⟩] 34).cell m u hm) | exact hm
          case d2 => intro u hu; rw [← HYC.out] at hu; exact entC_one y u hu
          case d3 => unfold maxLen; omega
          case d4 => omega
          case d5 => simp; omega
          intro v' w5 hown' hgrow _
          have HN2 : Hid (RtL w.heap.size v' (j + 1) w5 ∧ Kept (fun _ => False) w w5) := by
            refine ⟨⟨L ++ [y], ?_, ?_, ?_⟩, kept_grown (HO.out.2.1.alloc _) hgrow (fun b hb => .inr (HO.out.1.lt b hb).1)⟩
            · rw [cellsM_append, List.length_append, show cellsM [y] = entC y from by simp [cellsM], HYC.out]
              exact hown'
            · rw [List.length_append, List.length_singleton]; omega
            · intro z hz
              rcases List.mem_append.1 hz with hz | hz
              · exact HO.out.2.2.2 z hz
              · obtain rfl : z = y := by simpa using hz
                exact hyr
          clear hown' hgrow HO HYC hy hyr
          go_wp2
          go_roundw
          case rel => exact ⟨j + 1, by omega, by first | rfl | go_num, HN2⟩
          case measure => simp [intOf]; omega
    · have hexit : ¬(j : Int) < (len : Int) ∨ ((j : Int) < (len : Int) ∧ ¬(j : Int) < (n : Int)) := by omega
      obtain ⟨L, h1, h2, h3⟩ := hI.out.1
      have HF : Hid (RtL w.heap.size u5 n wr ∧ Kept (fun _ => False) w wr) := ⟨⟨L, h1, by omega, h3⟩, hI.out.2⟩
      clear hI h1 h2 h3 hlt
      rcases hexit with k1 | ⟨k1, k2⟩
      all_goals
        go_wp2
        go_ret
        exact ⟨_, rfl, HF.out⟩

end Go.Proofs.Ytlmlldcpllagbaa
