/- WlM, WlG. -/
import Derived.Test.YtfbgagpihhbllaaGreatDoorJ32
import Derived.Test.YtfbgagpihhbllaaGreatDoorJ33
import Derived.Deep.Cut
import Derived.Lib.ConvBytes
import Derived.Laws.IdiomStrings
import Derived.Test.YtfbgagpihhbllaaGreatDoorJ30
import Derived.Test.YtfbgagpihhbllaaGreatDoorJ31
import Derived.Test.YtfbgagpihhbllaaGreatDoorJ08

/- Package wal: Mark and ReadMark. -/
namespace Go.Proofs.YtfbgagpihhbllaaGreatDoor
open Go.RowKit Go.Proofs Go.Proofs.Pk
set_option maxRecDepth 10000
attribute [local simp] mk_get wrap64_u8 mk_extract ByteArray.mk_append_mk get_1k

theorem mark_ok {i k n : Nat} (h : MarkOk i k n) : i < 72057594037927936 ∧ k < 72057594037927936 ∧ n < 72057594037927936 := by
  obtain ⟨h1, h2, h3, h4⟩ := h
  unfold MaxN at h2
  unfold Max31 at h3 h4
  omega

set_option maxHeartbeats 1000000 in
theorem pMark_ok (i k n : Nat) (w : World) (h : MarkOk i k n) :
    Calls Tryz.prog 9 #[.int .i64 (i : Int), .int .i64 (k : Int), .int .i64 (n : Int)] w fun e w' => e = .returned (.tuple #[.string ⟨(markN i k n).toArray⟩, .nilIface]) ∧ Kept (fun _ => False) w w' := by
  have hk := mark_ok h
  have HM := Lib.hid (pMk i k n w hk.1 hk.2.1 hk.2.2)
  obtain ⟨a1, a2, a3, a4⟩ := h
  unfold MaxN at a2
  unfold Max31 at a3 a4
  have e1 : decide ((i : Int) < 1) = false := by rw [decide_eq_false_iff_not]; omega
  have e2 : decide (9007199254740991 < (i : Int)) = false := by rw [decide_eq_false_iff_not]; omega
  have e3 : decide ((k : Int) < 0) = false := by rw [decide_eq_false_iff_not]; omega
  have e4 : decide (2147483647 < (k : Int)) = false := by rw [decide_eq_false_iff_not]; omega
  have e5 : decide ((n : Int) < 0) = false := by rw [decide_eq_false_iff_not]; omega
  have e6 : decide (2147483647 < (n : Int)) = false := by rw [decide_eq_false_iff_not]; omega
  clear a1 a2 a3 a4 hk
  go_enter Tryz.func9, Tryz.ntmps9
  go_wp2_with fail
  refine HM.out.mono ?_
  rintro e w1 ⟨rfl, hk1⟩
  have HK := Lib.hid hk1
  clear hk1
  go_wp2
  go_ret2
  exact ⟨rfl, HK.out⟩

theorem markI_six {i k n : Int} (h : ¬MarkI i k n) : i < 1 ∨ 9007199254740991 < i ∨ k < 0 ∨ 2147483647 < k ∨ n < 0 ∨ 2147483647 < n := by
  by_cases h1 : i < 1; · exact .inl h1
  by_cases h2 : 9007199254740991 < i; · exact .inr (.inl h2)
  by_cases h3 : k < 0; · exact .inr (.inr (.inl h3))
  by_cases h4 : 2147483647 < k; · exact .inr (.inr (.inr (.inl h4)))
  by_cases h5 : n < 0; · exact .inr (.inr (.inr (.inr (.inl h5))))
  by_cases h6 : 2147483647 < n; · exact .inr (.inr (.inr (.inr (.inr h6))))
  exfalso
  obtain ⟨a, rfl⟩ := Int.eq_ofNat_of_zero_le (show 0 ≤ i by omega)
  obtain ⟨b, rfl⟩ := Int.eq_ofNat_of_zero_le (show 0 ≤ k by omega)
  obtain ⟨c, rfl⟩ := Int.eq_ofNat_of_zero_le (show 0 ≤ n by omega)
  exact h ⟨a, b, c, rfl, rfl, rfl, by omega, by unfold MaxN; omega, by unfold Max31; omega, by unfold Max31; omega⟩

set_option maxHeartbeats 1000000 in
theorem pMark_bad (i k n : Int) (w : World) (h : ¬MarkI i k n) :
    Calls Tryz.prog 9 #[.int .i64 i, .int .i64 k, .int .i64 n] w fun e w' => e = .returned (.tuple #[.string ⟨#[]⟩, .iface 33 (.int .i64 1)]) ∧ w' = w := by
  have hb := markI_six h
  clear h
  by_cases k1 : i < 1
  case' neg =>
    by_cases k2 : 9007199254740991 < i
    case' neg =>
      by_cases k3 : k < 0
      case' neg =>
        by_cases k4 : 2147483647 < k
        case' neg =>
          by_cases k5 : n < 0
          case' neg =>
            have k6 : 2147483647 < n := by omega
  all_goals
    clear hb
    go_enter Tryz.func9, Tryz.ntmps9
    go_wp2
    all_goals
      go_ret2
      exact ⟨rfl, rfl⟩

set_option maxHeartbeats 1000000 in
theorem pReadMark_short (b : List UInt8) (id index : Int) (w : World) (hb : (b.length : Int) ≤ 9223372036854775807) (h : b.length ≠ 64) :
    Calls Tryz.prog 11 #[.string ⟨b.toArray⟩, .int .i64 id, .int .i64 index] w fun e w' => e = .returned (.tuple #[.int .i64 0, .iface 33 (.int .i64 3)]) ∧ w' = w := by
  have hn : ((b.length : Int) == 64) = false := by simp; omega
  clear h
  go_enter Tryz.func11, Tryz.ntmps11
  go_wp2
  go_ret2
  exact ⟨rfl, rfl⟩

/-- The block g holds the bytes l, one a cell. -/
structure BRow8 (w : World) (g : Nat) (l : List UInt8) : Prop where
  lt : g < w.heap.size
  cell : ∀ j (h : j < l.length), w.cell? ⟨g, j, none⟩ = some (.int .u8 (l[j].toNat))
theorem bytes_new8 (w : World) (F : List UInt8) (n : Nat) (hn : n = F.length) : ∃ (wB : World) (g cap : Nat), (convert 9 60 (.string ⟨F.toArray⟩)).run Tryz.prog w = .ok (.slice (some ⟨g, 0, none⟩) n cap) wB ∧ BRow8 wB g F ∧ w.heap.size ≤ g ∧ Below w.heap.size w wB := by
  subst hn
  refine ⟨Lib.bytesWorld w 5 ⟨F.toArray⟩, w.heap.size, _, Lib.run_convert_string_bytes w 9 60 5 ⟨F.toArray⟩ Tryz.underlying9 Tryz.underlying60 Tryz.underlying5, ?_, Nat.le_refl _, ?_⟩
  · refine ⟨by rw [Lib.bytesWorld_size]; omega, ?_⟩
    intro j hj
    rw [Lib.bytesWorld_cell w _ _ j (by rw [mk_size]; exact hj)]
    simp [List.getD, hj]
  · refine ⟨rfl, rfl, rfl, by rw [Lib.bytesWorld_size]; omega, fun k hk => Lib.bytesWorld_at_old w _ _ k hk⟩

theorem rdI_some {b : List UInt8} {id index : Int} (h : MarkI id index (sizeN b)) (e : b = markN id.toNat index.toNat (sizeN b)) : rdMarkI b id index = some (sizeN b) := by
  obtain ⟨i, k, n, rfl, rfl, hn, hok⟩ := h
  have : sizeN b = n := by omega
  unfold rdMarkI rdMark
  rw [if_pos ⟨by omega, by omega⟩]
  simp only [Int.toNat_natCast] at e ⊢
  rw [if_pos ⟨by rw [this]; exact hok, e⟩]
theorem rdI_none {b : List UInt8} {id index : Int} (h : ¬(MarkI id index (sizeN b) ∧ b = markN id.toNat index.toNat (sizeN b))) : rdMarkI b id index = none := by
  unfold rdMarkI rdMark
  by_cases h0 : 0 ≤ id ∧ 0 ≤ index
  · rw [if_pos h0, if_neg]
    rintro ⟨h1, h2⟩
    exact h ⟨⟨_, _, _, by omega, by omega, rfl, h1⟩, h2⟩
  · rw [if_neg h0]
theorem rdI_short {b : List UInt8} {id index : Int} (h : b.length ≠ 64) : rdMarkI b id index = none := rdI_none (fun hh => h (by rw [hh.2, markN_length]))

set_option maxHeartbeats 1000000 in
theorem pReadMark (b : List UInt8) (id index : Int) (w : World) (h64 : b.length = 64) :
    Calls Tryz.prog 11 #[.string ⟨b.toArray⟩, .int .i64 id, .int .i64 index] w fun e w' => Kept (fun _ => False) w w' ∧
      ((∃ n, rdMarkI b id index = some n ∧ e = .returned (.tuple #[.int .i64 (n : Int), .nilIface])) ∨
       (rdMarkI b id index = none ∧ e = .returned (.tuple #[.int .i64 0, .iface 33 (.int .i64 3)]))) := by
  have hl : (b.length : Int) = 64 := by omega
  have h13 : (13 : Int) ≤ (b.length : Int) := by omega
  have h17 : (17 : Int) ≤ (b.length : Int) := by omega
  have H64 := Lib.hid h64
  have hF4 : 4 = (List.take 4 (List.drop 13 b)).length := by simp; omega
  obtain ⟨wB, g, cap, hcv, hB, hge, hbl⟩ := bytes_new8 w (List.take 4 (List.drop 13 b)) 4 hF4
  have HS : Hid (sizeN b = val (List.take 4 (List.drop 13 b))) := rfl
  have HKB : Hid (Kept (fun _ => False) w wB) := Kept.of_below _ hbl
  have HB := Lib.hid hB
  clear h64 hbl hB hge
  obtain ⟨F, hF⟩ : ∃ F, Hid (F = List.take 4 (List.drop 13 b)) := ⟨_, rfl⟩
  rw [← hF.out] at HS HB hF4
  have hFl : F.length = 4 := hF4.symm
  clear hF4
  go_enter Tryz.func11, Tryz.ntmps11
  go_wp2
  clear hcv
  go_loop [8, 21] (fun n i => ∃ k : Nat, (k : Int) ≤ 4 ∧ n = .int .i64 (val (F.take k)) ∧ i = .int .i64 k) (fun _ i => 4 - (intOf i).toNat)
  case atStart => exact ⟨0, by omega, rfl, rfl⟩
  case round =>
    obtain ⟨k, hk, rfl, rfl⟩ := hrel
    by_cases hlt : (k : Int) < 4
    · have hkl : k < F.length := by omega
      have hc := HB.out.cell k hkl
      go_wp2
      go_round
      case rel => exact ⟨k + 1, by omega, by rw [val_take F k hkl]; exact congrArg _ (or_byte _ _ (val6 F k (by omega))), by go_num⟩
      case measure => simp [intOf]; omega
    · have hkc : k = 4 := by omega
      subst hkc
      have hall : F.take 4 = F := List.take_of_length_le (by omega)
      rw [hall, ← HS.out]
      clear hall
      have HRS := Lib.hid (fun h e => rdI_some (b := b) (id := id) (index := index) h e)
      have HRN := Lib.hid (fun h => rdI_none (b := b) (id := id) (index := index) h)
      generalize sizeN b = z at HRS HRN HS ⊢
      by_cases hm : MarkI id index (z : Int)
      · have hm' := hm
        obtain ⟨i, x, n, rfl, rfl, hn, hok⟩ := hm'
        obtain rfl : z = n := by omega
        have HM := Lib.hid (pMark_ok i x z wB hok)
        have HM0 := Lib.hid hm
        clear hm hn hok
        go_wp2_with fail
        refine HM.out.mono ?_
        clear HM
        rintro e w2 ⟨rfl, hk2⟩
        have HK2 := Lib.hid (HKB.out.trans hk2 (fun _ hf => hf.elim))
        clear hk2
        by_cases he : b = markN i x z
        · have HX := Lib.hid (HRS.out HM0.out (by simpa using he))
          rw [← he]
          clear he HRS HRN
          go_wp2
          go_ret2
          exact ⟨HK2.out, .inl ⟨z, HX.out, rfl⟩⟩
        · have HX := Lib.hid (HRN.out (fun h => he (by simpa using h.2)))
          clear HRS HRN
          generalize markN i x z = mk at he ⊢
          have hne : (mk == b) = false := by simpa using fun h => he h.symm
          clear he
          go_wp2
          go_ret2
          exact ⟨HK2.out, .inr ⟨HX.out, rfl⟩⟩
      · have HM := Lib.hid (pMark_bad id index z wB hm)
        have HX := Lib.hid (HRN.out (fun h => hm h.1))
        clear hm HRS HRN
        go_wp2_with fail
        refine HM.out.mono ?_
        clear HM
        rintro e w2 ⟨rfl, rfl⟩
        go_wp2
        go_ret2
        exact ⟨HKB.out, .inr ⟨HX.out, rfl⟩⟩

/-- The contract of Mark and ReadMark. -/
theorem markK : MarkK where
  mark id index size w h0 h1 h2 := by
    by_cases h : MarkI id index size
    · have hm := h
      obtain ⟨i, k, n, rfl, rfl, rfl, hok⟩ := h
      refine (pMark_ok i k n w hok).mono ?_
      rintro e w' ⟨rfl, hk⟩
      exact ⟨hk, .inl ⟨i, k, n, rfl, rfl, rfl, hok, rfl⟩⟩
    · refine (pMark_bad id index size w h).mono ?_
      rintro e w' ⟨rfl, rfl⟩
      exact ⟨Kept.refl _ _, .inr ⟨h, rfl⟩⟩
  read b id index w hb h0 h1 := by
    by_cases h : b.length = 64
    · exact pReadMark b id index w h
    · refine (pReadMark_short b id index w hb h).mono ?_
      rintro e w' ⟨rfl, rfl⟩
      exact ⟨Kept.refl _ _, .inr ⟨rdI_short h, rfl⟩⟩

end Go.Proofs.YtfbgagpihhbllaaGreatDoor

/- Package wal: read, where the records end. -/
namespace Go.Proofs.YtfbgagpihhbllaaGreatDoor
open Go.RowKit Go.Proofs Go.Proofs.Pk
set_option maxRecDepth 10000
attribute [local simp] mk_get wrap64_u8 mk_extract ByteArray.mk_append_mk get_1k

/-- What a volume that lives reads in a sector of a file. -/
theorem rdF (w : World) (B p pd : Nat) (V : Vol) (vF : Value) (X : Nat → Prop) (h : VlP w B p pd V vF X) (ha : Alive V) (g : FileN) (hg : g ∈ V.R.2.2.2) (j : Nat) (hj : j < g.2.2) (v : List UInt8) (hv : seenAt V.D (g.2.1 + j) = some v) :
    v.length = 64 ∧ Calls Tryz.prog 59 #[.pointer (some ⟨p, 0, none⟩), .int .i64 (g.1 : Int), .int .i64 (j : Int)] w fun e w' => e = .returned (.tuple #[.string ⟨v.toArray⟩, .nilIface]) ∧ Kept (fun _ => False) w w' := by
  obtain ⟨hsec, h18, hlen⟩ := file_sector ha g hg j hj
  have hr := read_seen ha.off (g.2.1 + j) v hv
  have hm := (h.few.2.2.2.2 g hg).2.1
  refine ⟨?_, ?_⟩
  · have := Dsk.read_len h.ok ((g.2.1 + j : Nat) : Int) (by rw [hr])
    rwa [hr] at this
  · have := readP w B p pd V vF X h (g.1 : Int) (j : Int) (by unfold Fit; omega) (by rw [hsec]) (by rw [hsec, hr])
    rw [hsec, hr] at this
    exact this

set_option maxHeartbeats 2000000 in
theorem readMiss (w : World) (B p pd : Nat) (V : Vol) (vF : Value) (X : Nat → Prop) (h : VlP w B p pd V vF X) (ha : Alive V) (g : FileN) (hg : g ∈ V.R.2.2.2) (pl e n : Nat) (hL : LgAt w pl p g.1 g.2.2 e n) (he : e < g.2.2) (hn : n ≤ 4000) (b : List UInt8) (hb : seenAt V.D (g.2.1 + e) = some b) (hno : rdMark b g.1 n = none) :
    Calls Tryz.prog 39 #[.pointer (some ⟨pl, 0, none⟩)] w fun r w' => r = .returned (.tuple #[.string ⟨#[]⟩, .bool false, .nilIface]) ∧ Kept (fun _ => False) w w' := by
  have ho := ha.gone
  have hm4 := (h.few.2.2.2.2 g hg).2.1
  obtain ⟨hb64, hRd⟩ := rdF w.drew B p pd V vF X (h.still ((Kept.refl _ w).drewN 1)) ha g hg e he b hb
  have HRd := Lib.hid hRd
  have HL := Lib.hid hL
  have HG : Hid (g.1 ≤ MaxN ∧ n ≤ 4000 ∧ g.2.2 ≤ 4000 ∧ e < g.2.2) := ⟨(h.few.2.2.2.2 g hg).2.2.2, hn, hm4, he⟩
  have hri : Hid (rdMarkI b (g.1 : Int) (n : Int) = none) := by
    show _ = _
    unfold rdMarkI
    rw [if_pos ⟨by omega, by omega⟩, Int.toNat_natCast, Int.toNat_natCast, hno]
  clear h ha hg hL he hn hb hno ho hRd hm4
  go_enter Tryz.func39, Tryz.ntmps39
  go_upto_region 1 with (fail)
  refine wp_region_until (fun w' => w'.cell? ⟨pl, 0, none⟩ = some (.pointer (some ⟨p, 0, none⟩)) ∧ w'.cell? ⟨pl, 1, none⟩ = some (.int .i64 (g.1 : Int)) ∧ w'.cell? ⟨pl, 3, none⟩ = some (.int .i64 (e : Int)) ∧ w'.cell? ⟨pl, 4, none⟩ = some (.int .i64 (n : Int))) 18 (by kernel_rfl) ?_
  have hS0 : (fun w' => w'.cell? ⟨pl, 0, none⟩ = some (.pointer (some ⟨p, 0, none⟩)) ∧ w'.cell? ⟨pl, 1, none⟩ = some (.int .i64 (g.1 : Int)) ∧ w'.cell? ⟨pl, 3, none⟩ = some (.int .i64 (e : Int)) ∧ w'.cell? ⟨pl, 4, none⟩ = some (.int .i64 (n : Int))) w.drew := ⟨Holds.cell HL.out 0 _ rfl, Holds.cell HL.out 1 _ rfl, Holds.cell HL.out 3 _ rfl, Holds.cell HL.out 4 _ rfl⟩
  refine wpAnyU_take (i := 0) (v := (.pointer (some ⟨pl, 0, none⟩))) (some 12) rfl rfl (by kernel_rfl) (by kernel_rfl) (by kernel_rfl) (by kernel_rfl) (fun _ _ _ h => h) hS0 (yields_of (by kernel_rfl) (fun w ⟨h0, h1, h2, h3⟩ => by go_simp)) ?_
  refine wpAnyU_take (i := 1) (v := (.pointer (some ⟨pl, 0, none⟩))) (some 13) rfl rfl (by kernel_rfl) (by kernel_rfl) (by kernel_rfl) (by kernel_rfl) (fun _ _ _ h => h) hS0 (yields_of (by kernel_rfl) (fun w ⟨h0, h1, h2, h3⟩ => by go_simp)) ?_
  refine wpAnyU_take (i := 2) (v := (.pointer (some ⟨pl, 0, none⟩))) (some 14) rfl rfl (by kernel_rfl) (by kernel_rfl) (by kernel_rfl) (by kernel_rfl) (fun _ _ _ h => h) hS0 (yields_of (by kernel_rfl) (fun w ⟨h0, h1, h2, h3⟩ => by go_simp)) ?_
  refine wpAnyU_take (i := 3) (v := (.pointer (some ⟨p, 0, none⟩))) (some 15) rfl rfl (by kernel_rfl) (by kernel_rfl) (by kernel_rfl) (by kernel_rfl) (fun _ _ _ h => h) hS0 (yields_of (by kernel_rfl) (fun w ⟨h0, h1, h2, h3⟩ => by go_simp)) ?_
  refine wpAnyU_take (i := 4) (v := (.pointer (some ⟨pl, 0, none⟩))) (some 16) rfl rfl (by kernel_rfl) (by kernel_rfl) (by kernel_rfl) (by kernel_rfl) (fun _ _ _ h => h) hS0 (yields_of (by kernel_rfl) (fun w ⟨h0, h1, h2, h3⟩ => by go_simp)) ?_
  refine wpAnyU_take (i := 5) (v := (.pointer (some ⟨pl, 0, none⟩))) (some 17) rfl rfl (by kernel_rfl) (by kernel_rfl) (by kernel_rfl) (by kernel_rfl) (fun _ _ _ h => h) hS0 (yields_of (by kernel_rfl) (fun w ⟨h0, h1, h2, h3⟩ => by go_simp)) ?_
  refine wpAnyU_take (i := 6) (v := (.pointer (some ⟨pl, 1, none⟩))) (some 18) rfl rfl (by kernel_rfl) (by kernel_rfl) (by kernel_rfl) (by kernel_rfl) (fun _ _ _ h => h) hS0 (yields_of (by kernel_rfl) (fun w ⟨h0, h1, h2, h3⟩ => by go_simp)) ?_
  refine wpAnyU_take (i := 7) (v := (.int .i64 (g.1 : Int))) (some 19) rfl rfl (by kernel_rfl) (by kernel_rfl) (by kernel_rfl) (by kernel_rfl) (fun _ _ _ h => h) hS0 (yields_of (by kernel_rfl) (fun w ⟨h0, h1, h2, h3⟩ => by go_simp)) ?_
  refine wpAnyU_take (i := 8) (v := (.pointer (some ⟨pl, 0, none⟩))) (some 20) rfl rfl (by kernel_rfl) (by kernel_rfl) (by kernel_rfl) (by kernel_rfl) (fun _ _ _ h => h) hS0 (yields_of (by kernel_rfl) (fun w ⟨h0, h1, h2, h3⟩ => by go_simp)) ?_
  refine wpAnyU_take (i := 9) (v := (.pointer (some ⟨pl, 0, none⟩))) (some 21) rfl rfl (by kernel_rfl) (by kernel_rfl) (by kernel_rfl) (by kernel_rfl) (fun _ _ _ h => h) hS0 (yields_of (by kernel_rfl) (fun w ⟨h0, h1, h2, h3⟩ => by go_simp)) ?_
  refine wpAnyU_take (i := 10) (v := (.pointer (some ⟨pl, 3, none⟩))) (some 22) rfl rfl (by kernel_rfl) (by kernel_rfl) (by kernel_rfl) (by kernel_rfl) (fun _ _ _ h => h) hS0 (yields_of (by kernel_rfl) (fun w ⟨h0, h1, h2, h3⟩ => by go_simp)) ?_
  refine wpAnyU_take (i := 11) (v := (.int .i64 (e : Int))) (some 23) rfl rfl (by kernel_rfl) (by kernel_rfl) (by kernel_rfl) (by kernel_rfl) (fun _ _ _ h => h) hS0 (yields_of (by kernel_rfl) (fun w ⟨h0, h1, h2, h3⟩ => by go_simp)) ?_
  refine wpAnyU_call (i := 12) (f := 59) (args := #[.pointer (some ⟨p, 0, none⟩), .int .i64 (g.1 : Int), .int .i64 (e : Int)]) (some 24) rfl rfl (by kernel_rfl) (by kernel_rfl) (by kernel_rfl) ?_
  refine HRd.out.mono ?_
  clear HRd
  rintro r1 w2 ⟨rfl, hk2⟩
  have hk02 : Kept (fun _ => False) w w2 := ((Kept.refl _ w).drewN 1).trans hk2 (fun _ hf => hf.elim)
  have hL2 := HL.out.kept hk02 (fun h => h)
  refine ⟨_, rfl, fun _ => ⟨Holds.cell hL2 0 _ rfl, Holds.cell hL2 1 _ rfl, Holds.cell hL2 3 _ rfl, Holds.cell hL2 4 _ rfl⟩, ?_⟩
  refine wpAnyU_run (i := 13) (v := .tuple #[(.string ⟨b.toArray⟩), .nilIface]) (w' := w2) (some 11) rfl rfl (by kernel_rfl) (by kernel_rfl) (by kernel_rfl) (fun _ => ⟨Holds.cell hL2 0 _ rfl, Holds.cell hL2 1 _ rfl, Holds.cell hL2 3 _ rfl, Holds.cell hL2 4 _ rfl⟩) ?_
  refine wpAnyU_take (i := 14) (v := (.string ⟨b.toArray⟩)) (some 25) rfl rfl (by kernel_rfl) (by kernel_rfl) (by kernel_rfl) (by kernel_rfl) (fun _ _ _ h => h) ⟨Holds.cell hL2 0 _ rfl, Holds.cell hL2 1 _ rfl, Holds.cell hL2 3 _ rfl, Holds.cell hL2 4 _ rfl⟩ (yields_of (by kernel_rfl) (fun w ⟨h0, h1, h2, h3⟩ => by kernel_rfl)) ?_
  refine wpAnyU_take (i := 15) (v := .nilIface) (some 26) rfl rfl (by kernel_rfl) (by kernel_rfl) (by kernel_rfl) (by kernel_rfl) (fun _ _ _ h => h) ⟨Holds.cell hL2 0 _ rfl, Holds.cell hL2 1 _ rfl, Holds.cell hL2 3 _ rfl, Holds.cell hL2 4 _ rfl⟩ (yields_of (by kernel_rfl) (fun w ⟨h0, h1, h2, h3⟩ => by kernel_rfl)) ?_
  first
    | refine wpAnyU_run (i := 16) (v := (.string ⟨b.toArray⟩)) (w' := w2) (some 5) rfl rfl (by kernel_rfl) (by kernel_rfl) (by kernel_rfl) (fun _ => ⟨Holds.cell hL2 0 _ rfl, Holds.cell hL2 1 _ rfl, Holds.cell hL2 3 _ rfl, Holds.cell hL2 4 _ rfl⟩) ?_
    | refine wpAnyU_take (i := 16) (v := (.string ⟨b.toArray⟩)) (some 5) rfl rfl (by kernel_rfl) (by kernel_rfl) (by kernel_rfl) (by kernel_rfl) (fun _ _ _ h => h) ⟨Holds.cell hL2 0 _ rfl, Holds.cell hL2 1 _ rfl, Holds.cell hL2 3 _ rfl, Holds.cell hL2 4 _ rfl⟩ (yields_of (by kernel_rfl) (fun w ⟨h0, h1, h2, h3⟩ => by kernel_rfl)) ?_
  first
    | refine wpAnyU_run (i := 17) (v := .nilIface) (w' := w2) (some 4) rfl rfl (by kernel_rfl) (by kernel_rfl) (by kernel_rfl) (fun _ => ⟨Holds.cell hL2 0 _ rfl, Holds.cell hL2 1 _ rfl, Holds.cell hL2 3 _ rfl, Holds.cell hL2 4 _ rfl⟩) ?_
    | refine wpAnyU_take (i := 17) (v := .nilIface) (some 4) rfl rfl (by kernel_rfl) (by kernel_rfl) (by kernel_rfl) (by kernel_rfl) (fun _ _ _ h => h) ⟨Holds.cell hL2 0 _ rfl, Holds.cell hL2 1 _ rfl, Holds.cell hL2 3 _ rfl, Holds.cell hL2 4 _ rfl⟩ (yields_of (by kernel_rfl) (fun w ⟨h0, h1, h2, h3⟩ => by kernel_rfl)) ?_
  refine wpAnyU_done (by kernel_rfl) ?_ _
  simp only [put_lit, List.set_cons_succ, List.set_cons_zero]
  have HK2 := Lib.hid hk02
  have HL2 := Lib.hid hL2
  clear hS0 hk2 hk02 hL2
  have HMr := Lib.hid (markK.read b (g.1 : Int) (n : Int) w2.drew (by omega) (by have := HG.out.1; unfold MaxN at this; exact ⟨by omega, by omega⟩) (by have := HG.out.2.1; exact ⟨by omega, by omega⟩))
  go_upto_region 4 with (fail)
  refine wp_region_until (fun w' => w'.cell? ⟨pl, 0, none⟩ = some (.pointer (some ⟨p, 0, none⟩)) ∧ w'.cell? ⟨pl, 1, none⟩ = some (.int .i64 (g.1 : Int)) ∧ w'.cell? ⟨pl, 3, none⟩ = some (.int .i64 (e : Int)) ∧ w'.cell? ⟨pl, 4, none⟩ = some (.int .i64 (n : Int))) 15 (by kernel_rfl) ?_
  have hS0 : (fun w' => w'.cell? ⟨pl, 0, none⟩ = some (.pointer (some ⟨p, 0, none⟩)) ∧ w'.cell? ⟨pl, 1, none⟩ = some (.int .i64 (g.1 : Int)) ∧ w'.cell? ⟨pl, 3, none⟩ = some (.int .i64 (e : Int)) ∧ w'.cell? ⟨pl, 4, none⟩ = some (.int .i64 (n : Int))) w2.drew := ⟨Holds.cell HL2.out 0 _ rfl, Holds.cell HL2.out 1 _ rfl, Holds.cell HL2.out 3 _ rfl, Holds.cell HL2.out 4 _ rfl⟩
  refine wpAnyU_take (i := 0) (v := (.string ⟨b.toArray⟩)) (some 32) rfl rfl (by kernel_rfl) (by kernel_rfl) (by kernel_rfl) (by kernel_rfl) (fun _ _ _ h => h) hS0 (yields_of (by kernel_rfl) (fun w ⟨h0, h1, h2, h3⟩ => by go_simp)) ?_
  refine wpAnyU_take (i := 1) (v := (.pointer (some ⟨pl, 0, none⟩))) (some 33) rfl rfl (by kernel_rfl) (by kernel_rfl) (by kernel_rfl) (by kernel_rfl) (fun _ _ _ h => h) hS0 (yields_of (by kernel_rfl) (fun w ⟨h0, h1, h2, h3⟩ => by go_simp)) ?_
  refine wpAnyU_take (i := 2) (v := (.pointer (some ⟨pl, 0, none⟩))) (some 34) rfl rfl (by kernel_rfl) (by kernel_rfl) (by kernel_rfl) (by kernel_rfl) (fun _ _ _ h => h) hS0 (yields_of (by kernel_rfl) (fun w ⟨h0, h1, h2, h3⟩ => by go_simp)) ?_
  refine wpAnyU_take (i := 3) (v := (.pointer (some ⟨pl, 1, none⟩))) (some 35) rfl rfl (by kernel_rfl) (by kernel_rfl) (by kernel_rfl) (by kernel_rfl) (fun _ _ _ h => h) hS0 (yields_of (by kernel_rfl) (fun w ⟨h0, h1, h2, h3⟩ => by go_simp)) ?_
  refine wpAnyU_take (i := 4) (v := (.int .i64 (g.1 : Int))) (some 36) rfl rfl (by kernel_rfl) (by kernel_rfl) (by kernel_rfl) (by kernel_rfl) (fun _ _ _ h => h) hS0 (yields_of (by kernel_rfl) (fun w ⟨h0, h1, h2, h3⟩ => by go_simp)) ?_
  refine wpAnyU_take (i := 5) (v := (.pointer (some ⟨pl, 0, none⟩))) (some 37) rfl rfl (by kernel_rfl) (by kernel_rfl) (by kernel_rfl) (by kernel_rfl) (fun _ _ _ h => h) hS0 (yields_of (by kernel_rfl) (fun w ⟨h0, h1, h2, h3⟩ => by go_simp)) ?_
  refine wpAnyU_take (i := 6) (v := (.pointer (some ⟨pl, 0, none⟩))) (some 38) rfl rfl (by kernel_rfl) (by kernel_rfl) (by kernel_rfl) (by kernel_rfl) (fun _ _ _ h => h) hS0 (yields_of (by kernel_rfl) (fun w ⟨h0, h1, h2, h3⟩ => by go_simp)) ?_
  refine wpAnyU_take (i := 7) (v := (.pointer (some ⟨pl, 4, none⟩))) (some 39) rfl rfl (by kernel_rfl) (by kernel_rfl) (by kernel_rfl) (by kernel_rfl) (fun _ _ _ h => h) hS0 (yields_of (by kernel_rfl) (fun w ⟨h0, h1, h2, h3⟩ => by go_simp)) ?_
  refine wpAnyU_take (i := 8) (v := (.int .i64 (n : Int))) (some 40) rfl rfl (by kernel_rfl) (by kernel_rfl) (by kernel_rfl) (by kernel_rfl) (fun _ _ _ h => h) hS0 (yields_of (by kernel_rfl) (fun w ⟨h0, h1, h2, h3⟩ => by go_simp)) ?_
  refine wpAnyU_call (i := 9) (f := 11) (args := #[.string ⟨b.toArray⟩, .int .i64 (g.1 : Int), .int .i64 (n : Int)]) (some 41) rfl rfl (by kernel_rfl) (by kernel_rfl) (by kernel_rfl) ?_
  refine HMr.out.mono ?_
  clear HMr
  rintro r2 w3 ⟨hk3, ⟨m, hm, _⟩ | ⟨-, rfl⟩⟩
  case inl => rw [hri.out] at hm; cases hm
  have hk03 : Kept (fun _ => False) w w3 := (HK2.out.drewN 1).trans hk3 (fun _ hf => hf.elim)
  have hL3 := HL.out.kept hk03 (fun h => h)
  refine ⟨_, rfl, fun _ => ⟨Holds.cell hL3 0 _ rfl, Holds.cell hL3 1 _ rfl, Holds.cell hL3 3 _ rfl, Holds.cell hL3 4 _ rfl⟩, ?_⟩
  refine wpAnyU_run (i := 10) (v := .tuple #[(.int .i64 0), (.iface 33 (.int .i64 3))]) (w' := w3) (some 31) rfl rfl (by kernel_rfl) (by kernel_rfl) (by kernel_rfl) (fun _ => ⟨Holds.cell hL3 0 _ rfl, Holds.cell hL3 1 _ rfl, Holds.cell hL3 3 _ rfl, Holds.cell hL3 4 _ rfl⟩) ?_
  refine wpAnyU_take (i := 11) (v := (.int .i64 0)) (some 42) rfl rfl (by kernel_rfl) (by kernel_rfl) (by kernel_rfl) (by kernel_rfl) (fun _ _ _ h => h) ⟨Holds.cell hL3 0 _ rfl, Holds.cell hL3 1 _ rfl, Holds.cell hL3 3 _ rfl, Holds.cell hL3 4 _ rfl⟩ (yields_of (by kernel_rfl) (fun w ⟨h0, h1, h2, h3⟩ => by kernel_rfl)) ?_
  refine wpAnyU_take (i := 12) (v := (.iface 33 (.int .i64 3))) (some 43) rfl rfl (by kernel_rfl) (by kernel_rfl) (by kernel_rfl) (by kernel_rfl) (fun _ _ _ h => h) ⟨Holds.cell hL3 0 _ rfl, Holds.cell hL3 1 _ rfl, Holds.cell hL3 3 _ rfl, Holds.cell hL3 4 _ rfl⟩ (yields_of (by kernel_rfl) (fun w ⟨h0, h1, h2, h3⟩ => by kernel_rfl)) ?_
  first
    | refine wpAnyU_run (i := 13) (v := (.int .i64 0)) (w' := w3) (some 6) rfl rfl (by kernel_rfl) (by kernel_rfl) (by kernel_rfl) (fun _ => ⟨Holds.cell hL3 0 _ rfl, Holds.cell hL3 1 _ rfl, Holds.cell hL3 3 _ rfl, Holds.cell hL3 4 _ rfl⟩) ?_
    | refine wpAnyU_take (i := 13) (v := (.int .i64 0)) (some 6) rfl rfl (by kernel_rfl) (by kernel_rfl) (by kernel_rfl) (by kernel_rfl) (fun _ _ _ h => h) ⟨Holds.cell hL3 0 _ rfl, Holds.cell hL3 1 _ rfl, Holds.cell hL3 3 _ rfl, Holds.cell hL3 4 _ rfl⟩ (yields_of (by kernel_rfl) (fun w ⟨h0, h1, h2, h3⟩ => by kernel_rfl)) ?_
  first
    | refine wpAnyU_run (i := 14) (v := (.iface 33 (.int .i64 3))) (w' := w3) (some 4) rfl rfl (by kernel_rfl) (by kernel_rfl) (by kernel_rfl) (fun _ => ⟨Holds.cell hL3 0 _ rfl, Holds.cell hL3 1 _ rfl, Holds.cell hL3 3 _ rfl, Holds.cell hL3 4 _ rfl⟩) ?_
    | refine wpAnyU_take (i := 14) (v := (.iface 33 (.int .i64 3))) (some 4) rfl rfl (by kernel_rfl) (by kernel_rfl) (by kernel_rfl) (by kernel_rfl) (fun _ _ _ h => h) ⟨Holds.cell hL3 0 _ rfl, Holds.cell hL3 1 _ rfl, Holds.cell hL3 3 _ rfl, Holds.cell hL3 4 _ rfl⟩ (yields_of (by kernel_rfl) (fun w ⟨h0, h1, h2, h3⟩ => by kernel_rfl)) ?_
  refine wpAnyU_done (by kernel_rfl) ?_ _
  simp only [put_lit, List.set_cons_succ, List.set_cons_zero]
  have HK3 := Lib.hid hk03
  clear hS0 hk3 hk03 hL3
  go_wp2
  go_ret3
  exact ⟨rfl, HK3.out⟩

end Go.Proofs.YtfbgagpihhbllaaGreatDoor
