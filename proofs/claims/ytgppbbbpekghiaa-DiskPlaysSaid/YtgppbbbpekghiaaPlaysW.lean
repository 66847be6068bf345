/- The law DiskPlays, walked to its end. -/
import Derived.Test.YtgppbbbpekghiaaDeedD
import Derived.Test.YtgppbbbpekghiaaReadsW
import Derived.Test.YtgppbbbpekghiaaOrd
import Derived.Deep.CutBlock
namespace Go.Proofs.Ytgppbbbpekghiaa
open Go.RowKit Go.Proofs Go.Proofs.Pk
set_option maxRecDepth 10000
attribute [local simp] mk_get wrap64_u8 mk_extract ByteArray.mk_append_mk get_1k

theorem deed_info : (Try.prog.info? 35).map (fun i => (i.zero, i.size, i.bytes)) = some (some (.agg #[.int .i64 0, .int .i64 0, .int .i64 0, .int .i64 0, .string ByteArray.empty, .slice none 0 0]), 6, 72) := by kernel_rfl

/-- Behind i deeds. -/
def PS (B : Nat) (w0 w : World) (p q k j : Nat) : Prop := ∃ S X Y, Al B w0 w p S X ∧ RefD w B q S Y ∧ (∀ n, X n → ¬Y n) ∧ S.L.length = k ∧ S.C.length ≤ j ∧ S.n ≤ j

theorem deeds_get {w wr : World} {ad : Option Addr} {len : Nat} {ds : List DeedV} (h : Deeds w ad len ds) (j : Nat) (hj : j < len) (hb : Below w.heap.size w wr) :
    ∃ b off u, ad = some ⟨b, off, none⟩ ∧ wr.rangeAt b (off + j * 6) (dc u) ∧ Ints wr u.kad u.klen u.ks ∧ (u.ks = [] ∨ ∀ b off, u.kad = some ⟨b, off, none⟩ → b < w.heap.size) ∧ FitI u.kind ∧ FitI u.n := by
  have hl := h.1
  rcases h.2 with h0 | ⟨b, off, h1, h2, h3⟩
  · rw [h0] at hl; simp at hl; omega
  · have hd := h3 j (by omega)
    refine ⟨b, off, ds[j]'(by omega), h1, fun i v hv => ?_, ?_, ?_, hd.fit.1, hd.fit.2.1⟩
    · rw [hb.cell (p := ⟨b, off + j * 6 + i, none⟩) h2]; exact hd.row i v hv
    · refine ⟨hd.keeps.1, ?_⟩
      rcases hd.keeps.2 with h | ⟨b', o', g1, g2, g3⟩
      · exact .inl h
      · exact .inr ⟨b', o', g1, Nat.lt_of_lt_of_le g2 hb.size, fun i hi => by rw [hb.cell (p := ⟨b', o' + i, none⟩) g2]; exact g3 i hi⟩
    · rcases hd.keeps.2 with h | ⟨b', o', g1, g2, g3⟩
      · exact .inl h
      · refine .inr fun b2 o2 e => ?_
        rw [g1] at e; injection e with e; injection e with e _ _
        omega

set_option maxHeartbeats 8000000 in
theorem playsW (size : Int) (ad : Option Addr) (len cap : Nat) (ds : List DeedV) (w : World) (hs : -9223372036854775808 ≤ size ∧ size ≤ 9223372036854775807) (hd : Deeds w ad len ds) :
    Calls Try.prog 3 #[.int .i64 size, .slice ad len cap] w fun e w' => e = .returned (.bool true) ∧ Below w.heap.size w w' := by
  have HD := Lib.hid hd
  obtain ⟨iD, hiD, hzD, hsD, hbD⟩ := info_parts deed_info
  obtain ⟨sz, hsz⟩ : ∃ sz, sz = if 12 < size ∧ size ≤ 4000 then 12 else size := ⟨_, rfl⟩
  have HSZ := Lib.hid hsz
  go_enter Try.func3, Try.ntmps3
  go_wp2_with fail
  refine (examples_any _).mono ?_
  rintro e w1 ⟨rfl, b1⟩
  have B1 := Lib.hid b1
  clear b1 hd
  have hszc : (12 < size ∧ size ≤ 4000 ∧ sz = 12) ∨ (¬12 < size ∧ sz = size) ∨ (12 < size ∧ ¬size ≤ 4000 ∧ sz = size) := by
    rw [hsz]; split <;> omega
  clear hsz
  obtain ⟨sb, hsb⟩ : ∃ sb : Bool, Hid (sb = decide (12 < size ∧ size ≤ 4000)) := ⟨_, show _ = _ from rfl⟩
  go_upto_region 2 with (fail)
  go_cut [30] from 24 (fun s30 wx => s30 = .bool sb ∧ wx = w1)
  case first =>
    by_cases h12 : 12 < size
    · by_cases h40 : size ≤ 4000
      · have HE : Hid (sb = true) := by show sb = true; rw [hsb.out]; simp; omega
        go_wp2
        all_goals
          go_meet
          case rel => exact ⟨by rw [HE.out], rfl⟩
      · have HE : Hid (sb = false) := by show sb = false; rw [hsb.out]; simp; omega
        have h40' : decide (size ≤ 4000) = false := by simpa using h40
        go_wp2
        all_goals
          go_meet
          case rel => exact ⟨by rw [HE.out], rfl⟩
    · have HE : Hid (sb = false) := by show sb = false; rw [hsb.out]; simp; omega
      have h12' : decide (12 < size) = false := by simpa using h12
      go_wp2
      all_goals
        go_meet
        case rel => exact ⟨by rw [HE.out], rfl⟩
  case rest =>
  obtain ⟨rfl, hwx⟩ := hcut
  subst hwx
  obtain ⟨w1, hw1⟩ : ∃ x, x = wc := ⟨_, rfl⟩
  rw [← hw1] at B1 ⊢
  clear hw1
  go_upto_if 30 with (fail)
  go_cut [0] from 24 (fun s0 wx => s0 = .int .i64 sz ∧ wx = w1)
  case first =>
    cases sb with
    | true =>
      have HE : Hid (sz = 12) := by
        show sz = 12
        have := hsb.out
        simp at this; omega
      go_wp2
      all_goals
        go_meet
        case rel => exact ⟨by rw [HE.out], rfl⟩
    | false =>
      have HE : Hid (size = sz) := by
        show size = sz
        have := hsb.out
        simp at this; omega
      go_wp2
      all_goals
        go_meet
        case rel => exact ⟨by rw [HE.out], rfl⟩
  case rest =>
  obtain ⟨rfl, hwx⟩ := hcut
  subst hwx
  obtain ⟨w1, hw1⟩ : ∃ x, x = wc := ⟨_, rfl⟩
  rw [← hw1] at B1 ⊢
  clear hw1 hsb
  by_cases hv : 1 ≤ sz ∧ sz ≤ 4000
  · have h12 : sz ≤ 12 := by omega
    obtain ⟨k, rfl⟩ := Int.eq_ofNat_of_zero_le (show 0 ≤ sz by omega)
    have hk1 : 1 ≤ k := by omega
    have hk12 : k ≤ 12 := by omega
    clear hszc hv HSZ
    go_wp2_with fail
    refine (aNw (w0 := w1) k hk1 (by omega) (Below.refl _ _)).mono ?_
    rintro e w2 ⟨p, X, rfl, h⟩
    go_wp2_with fail
    refine (rNw_ok k hk1 (by omega) w2).mono ?_
    rintro e w3 ⟨q, Y, rfl, hr, b3⟩
    have HPS : Hid (PS w1.heap.size w1 w3 p q k 0) := ⟨Dsk.new k, X, Y, h.below b3, hr.base h.size, fun n hx hy => by have := (h.lt n hx).2; have := (hr.lt n hy).1; omega, by simp [Dsk.new], by simp [Dsk.new], by simp [Dsk.new]⟩
    have hA := h.below b3
    have hL : (Dsk.new k).L.length = k := by simp [Dsk.new]
    clear h hr b3
    go_wp2_with fail
    refine (aQ hA (pSize w3 _ p (Dsk.new k) X hA.dsk)).mono ?_
    rintro e w4 ⟨rfl, _, hk4⟩
    rw [hL]
    have HPS4 : Hid (PS w1.heap.size w1 w4 p q k 0) := by
      obtain ⟨S, X, Y, hA, hR, hap, h1, h2, h3⟩ := HPS.out
      exact ⟨S, X, Y, hA.still hk4, hR.kept hk4 (fun _ _ hf => hf), hap, h1, h2, h3⟩
    clear hk4 HPS hA hL
    go_wp2_with fail
    go_loopw [9] (fun i wr => ∃ j : Nat, j ≤ 200 ∧ i = .int .i64 j ∧ Hid (PS w1.heap.size w1 wr p q k j)) (fun i _ => 200 - (intOf i).toNat)
    case atStart => exact ⟨0, Nat.zero_le _, rfl, HPS4⟩
    case round =>
      obtain ⟨j, hj, rfl, hr⟩ := hrel
      have hbr : Below w.heap.size w wr := by obtain ⟨S, X, Y, h, _⟩ := hr.out; exact belowT B1.out h.bel
      have HB := Lib.hid hbr
      clear hbr
      by_cases h0 : (j : Int) < len
      · by_cases h200 : (j : Int) < 200
        · obtain ⟨b, off, u, rfl, hrow, hI, hIo, hfk, hfn⟩ := deeds_get HD.out j (by omega) HB.out
          obtain ⟨S, X, Y, hA, hR, hap, hL, hC, hN⟩ := hr.out
          have hj0 : (0 : Int) ≤ (j : Int) := Int.natCast_nonneg _
          obtain ⟨g, hg⟩ : ∃ g, Hid (g = wr.heap.size) := ⟨_, rfl⟩
          go_upto_region 13 with (fail)
          refine wp_region_lit ?_
          iterate 3
            refine wpList_plain rfl fun K hK => ?_
            go_simp
            refine hK _ _ ?_
            clear hK K
          refine wpList_load_mid rfl 35 (.tmp 73) rfl b (off + j * 6) rfl (dc u) _ hrow Try.underlying35 rfl (by kernel_rfl) ?_
          refine wpList_alloc_row rfl 35 rfl iD [.int .i64 0, .int .i64 0, .int .i64 0, .int .i64 0, .string ByteArray.empty, .slice none 0 0] hiD hzD ?_
          rw [← hg.out]
          have HN := Holds.new wr [.int .i64 0, .int .i64 0, .int .i64 0, .int .i64 0, .string ByteArray.empty, .slice none 0 0] 35
          have hbz : Below wr.heap.size wr (wr.alloc (.cells [.int .i64 0, .int .i64 0, .int .i64 0, .int .i64 0, .string ByteArray.empty, .slice none 0 0].toArray 35)) := (Below.refl _ _).alloc (Nat.le_refl _) _
          rw [← hg.out] at HN
          generalize wr.alloc (.cells [.int .i64 0, .int .i64 0, .int .i64 0, .int .i64 0, .string ByteArray.empty, .slice none 0 0].toArray 35) = wa at HN hbz ⊢
          refine wpList_store_mid rfl 35 (.tmp 10) (.tmp 74) rfl g 0 (dc u).toArray rfl rfl (HN.there 0 _ (by simp [dc])) (by kernel_rfl) (by simp [dc, Value.oneCell']) ?_
          have HN2 := Holds.setCells (dc u) 0 wa _ HN (by simp [dc])
          rw [lay_all _ _ (by simp [dc])] at HN2
          have KV := Kept.setCellsN (X := fun _ => False) (a := wr) (g := g) (Nat.le_of_eq hg.out.symm) (dc u) 0 wa (Kept.of_below _ hbz)
          refine wpList_nil ?_
          change Exit.then _ _ _ _ (wa.setCells g 0 (dc u))
          generalize wa.setCells g 0 (dc u) = wb at HN2 KV ⊢
          have hI2 : Ints wb u.kad u.klen u.ks := by
            refine hI.kept KV (hIo.imp id fun _ b off e hf => hf)
          have hIB : u.ks = [] ∨ ∀ b off, u.kad = some ⟨b, off, none⟩ → b < w1.heap.size := hIo.imp id fun h b off e => by have := h b off e; have := B1.out.size; omega
          have hduo : Duo w1.heap.size w1 wb p q S S X Y g u :=
            ⟨hA.still KV, hR.kept KV (fun _ _ hf => hf), hA.ok, hap, HN2, by have := hA.size; have := hg.out; omega, fun hx => by have := (hA.lt g hx).2; have := hg.out; omega, fun hy => by have := (hR.lt g hy).2; have := hg.out; omega⟩
          have HDu := Lib.hid hduo
          have HIn := Lib.hid (And.intro hI2 hIB)
          clear HN HN2 hbz KV hA hR hap hr hI hIo hduo hI2 hIB hrow HB
          have k0 := HDu.out.row.cell 0 _ rfl
          go_wp2_with fail
          refine (pick_any u.kind 5 _ hfk (by decide) (by decide)).mono ?_
          rintro e w5 ⟨rfl, rfl⟩
          have hc5 := pkN_lt u.kind 5 (by decide)
          generalize pkN u.kind 5 = c at hc5 ⊢
          clear k0
          go_upto_block 2 with (fail)
          go_cut [11] from 78 to 151 (fun s11 wx => s11 = .bool true ∧ Hid (∃ S' X' Y', Duo w1.heap.size w1 wx p q S' S' X' Y' g u ∧ S'.L.length = k ∧ S'.C.length ≤ j + 1 ∧ S'.n ≤ j + 1))
          case first =>
            rcases (show c = 0 ∨ c = 1 ∨ c = 2 ∨ c = 3 ∨ c = 4 by omega) with rfl | rfl | rfl | rfl | rfl
            · have k1 := HDu.out.row.cell 1 _ rfl
              have k4 := HDu.out.row.cell 4 _ rfl
              have HC := Lib.hid (dWr HDu.out u.n u.s (by omega) (by omega))
              have hwb := write_b S u.n u.s
              have HX := fun (w6 : World) (X6 : Nat → Prop) (h6 : Duo w1.heap.size w1 w6 p q (S.write u.n u.s).1 S X6 Y g u) => xWr h6 u.n u.s (by omega) (by omega)
              generalize S.write u.n u.s = r at HC hwb HX
              obtain ⟨S6, c6⟩ := r
              simp only at HC hwb HX
              have HXX := Lib.hid HX
              have HWB := Lib.hid (show S6.L.length = k ∧ S6.C.length ≤ j + 1 ∧ S6.n ≤ j + 1 by omega)
              clear HX hwb hc5
              go_wp2_with fail
              refine HC.out.mono ?_
              rintro e w6 ⟨rfl, X6, h6⟩
              have k1' := h6.row.cell 1 _ rfl
              have k4' := h6.row.cell 4 _ rfl
              have H6 := Lib.hid h6
              clear k1 k4 h6
              go_wp2_with fail
              refine (HXX.out w6 X6 H6.out).mono ?_
              rintro e w7 ⟨rfl, Y7, h7⟩
              have H7 := Lib.hid h7
              clear k1' k4' h7
              go_wp2_with fail
              refine (is_erV c6 c6 _).mono ?_
              rintro e w8 ⟨rfl, rfl⟩
              have HF : Hid (∃ S' X' Y', Duo w1.heap.size w1 w7 p q S' S' X' Y' g u ∧ S'.L.length = k ∧ S'.C.length ≤ j + 1 ∧ S'.n ≤ j + 1) := ⟨S6, X6, Y7, H7.out, HWB.out⟩
              go_wp2
              go_meet
              case rel => exact ⟨by simp, HF⟩
            · have HC := Lib.hid (dSy HDu.out)
              have hwb := sync_b S
              have HX := fun (w6 : World) (X6 : Nat → Prop) (h6 : Duo w1.heap.size w1 w6 p q S.sync.1 S X6 Y g u) => xSy h6
              generalize S.sync = r at HC hwb HX
              obtain ⟨S6, c6⟩ := r
              simp only at HC hwb HX
              have HXX := Lib.hid HX
              have HWB := Lib.hid (show S6.L.length = k ∧ S6.C.length ≤ j + 1 ∧ S6.n ≤ j + 1 by omega)
              clear HX hwb hc5
              go_wp2_with fail
              refine HC.out.mono ?_
              rintro e w6 ⟨rfl, X6, h6⟩
              have H6 := Lib.hid h6
              clear h6
              go_wp2_with fail
              refine (HXX.out w6 X6 H6.out).mono ?_
              rintro e w7 ⟨rfl, Y7, h7⟩
              have H7 := Lib.hid h7
              clear h7
              go_wp2_with fail
              refine (is_erV c6 c6 _).mono ?_
              rintro e w8 ⟨rfl, rfl⟩
              have HF : Hid (∃ S' X' Y', Duo w1.heap.size w1 w7 p q S' S' X' Y' g u ∧ S'.L.length = k ∧ S'.C.length ≤ j + 1 ∧ S'.n ≤ j + 1) := ⟨S6, X6, Y7, H7.out, HWB.out⟩
              go_wp2
              go_meet
              case rel => exact ⟨by simp, HF⟩
            · have k1 := HDu.out.row.cell 1 _ rfl
              have HWB := Lib.hid (show (S.setFuse u.n).L.length = k ∧ (S.setFuse u.n).C.length ≤ j + 1 ∧ (S.setFuse u.n).n ≤ j + 1 from ⟨hL, Nat.le_succ_of_le hC, Nat.le_succ_of_le hN⟩)
              go_wp2_with fail
              refine (dFu HDu.out u.n hfn.2).mono ?_
              rintro e w6 ⟨rfl, h6⟩
              have k1' := h6.row.cell 1 _ rfl
              have H6 := Lib.hid h6
              clear k1 h6
              go_wp2_with fail
              refine (xFu H6.out u.n hfn.2).mono ?_
              rintro e w7 ⟨rfl, h7⟩
              have HF : Hid (∃ S' X' Y', Duo w1.heap.size w1 w7 p q S' S' X' Y' g u ∧ S'.L.length = k ∧ S'.C.length ≤ j + 1 ∧ S'.n ≤ j + 1) := ⟨S.setFuse u.n, X, Y, h7, HWB.out⟩
              clear k1' h7
              go_wp2
              go_meet
              case rel => exact ⟨rfl, HF⟩
            · have k5 := HDu.out.row.cell 5 _ rfl
              have k2 := HDu.out.row.cell 2 _ rfl
              have k3 := HDu.out.row.cell 3 _ rfl
              have HWB := Lib.hid (show (S.crash u.ks u.torn u.bytes).L.length = k ∧ (S.crash u.ks u.torn u.bytes).C.length ≤ j + 1 ∧ (S.crash u.ks u.torn u.bytes).n ≤ j + 1 by have := crash_b S u.ks u.torn u.bytes; omega)
              go_wp2_with fail
              refine (dCr HDu.out u.kad u.klen u.kcap u.ks u.torn u.bytes HIn.out).mono ?_
              rintro e w6 ⟨rfl, ⟨X6, h6⟩, hI6⟩
              have k5' := h6.row.cell 5 _ rfl
              have k2' := h6.row.cell 2 _ rfl
              have k3' := h6.row.cell 3 _ rfl
              have H6 := Lib.hid h6
              have HI6 := Lib.hid hI6
              clear k5 k2 k3 h6 hI6
              go_wp2_with fail
              refine (xCr H6.out u.kad u.klen u.kcap u.ks u.torn u.bytes ⟨HI6.out, HIn.out.2⟩).mono ?_
              rintro e w7 ⟨rfl, Y7, h7⟩
              have HF : Hid (∃ S' X' Y', Duo w1.heap.size w1 w7 p q S' S' X' Y' g u ∧ S'.L.length = k ∧ S'.C.length ≤ j + 1 ∧ S'.n ≤ j + 1) := ⟨S.crash u.ks u.torn u.bytes, X6, Y7, h7, HWB.out⟩
              clear k5' k2' k3' h7
              go_wp2
              go_meet
              case rel => exact ⟨rfl, HF⟩
            · have k1 := HDu.out.row.cell 1 _ rfl
              have HC := Lib.hid (dRd HDu.out u.n)
              have HX := fun (w6 : World) (h6 : Duo w1.heap.size w1 w6 p q S S X Y g u) => xRd h6 u.n
              generalize S.read u.n = r at HC HX
              obtain ⟨rs, c6⟩ := r
              simp only at HC HX
              have HXX := Lib.hid HX
              clear HX
              go_wp2_with fail
              refine HC.out.mono ?_
              rintro e w6 ⟨rfl, h6⟩
              have k1' := h6.row.cell 1 _ rfl
              have H6 := Lib.hid h6
              clear k1 h6
              go_wp2_with fail
              refine (HXX.out w6 H6.out).mono ?_
              rintro e w7 ⟨rfl, h7⟩
              have H7 := Lib.hid h7
              clear k1' h7
              go_wp2_with fail
              refine (is_erV c6 c6 _).mono ?_
              rintro e w8 ⟨rfl, rfl⟩
              have HF : Hid (∃ S' X' Y', Duo w1.heap.size w1 w7 p q S' S' X' Y' g u ∧ S'.L.length = k ∧ S'.C.length ≤ j + 1 ∧ S'.n ≤ j + 1) := ⟨S, X, Y, H7.out, hL, by omega, by omega⟩
              have hbq : (c6 == c6) = true := by simp
              rw [hbq]
              go_wp2
              go_meet
              case rel => exact ⟨by simp, HF⟩
          case rest =>
          obtain ⟨rfl, hcc⟩ := hcut
          obtain ⟨S1, X1, Y1, hD0, hL1, hC1, hN1⟩ := hcc.out
          clear hcc HDu HIn hL hC hN hfk hfn hc5 HPS4
          go_upto_region 31 with (fail)
          refine wp_region_until (fun w' => w'.cell? ⟨q, 3, none⟩ = some (.bool S1.off) ∧ w'.cell? ⟨q, 4, none⟩ = some (.int .i64 S1.n)) 20 (by kernel_rfl) ?_
          replace hD0 := hD0.below ((Below.refl _ _).drew)
          have hS0 := hD0.ref.c34
          refine wpAnyU_take (i := 0) (v := (.bool true)) (some 152) rfl rfl (by kernel_rfl) (by kernel_rfl) (by kernel_rfl) (by kernel_rfl) (fun _ _ _ h => h) hS0 (yields_of (by kernel_rfl) (fun w hw => by kernel_rfl)) ?_
          refine wpAnyU_take (i := 1) (v := (.bool false)) (some 153) rfl rfl (by kernel_rfl) (by kernel_rfl) (by kernel_rfl) (by kernel_rfl) (fun _ _ _ h => h) hS0 (yields_of (by kernel_rfl) (fun w hw => by kernel_rfl)) ?_
          refine wpAnyU_take (i := 2) (v := (.bool false)) (some 154) rfl rfl (by kernel_rfl) (by kernel_rfl) (by kernel_rfl) (by kernel_rfl) (fun _ _ _ h => h) hS0 (yields_of (by kernel_rfl) (fun w hw => by kernel_rfl)) ?_
          refine wpAnyU_take (i := 3) (v := (.pointer (some ⟨p, 0, none⟩))) (some 155) rfl rfl (by kernel_rfl) (by kernel_rfl) (by kernel_rfl) (by kernel_rfl) (fun _ _ _ h => h) hS0 (yields_of (by kernel_rfl) (fun w hw => by kernel_rfl)) ?_
          refine wpAnyU_take (i := 5) (v := (.pointer (some ⟨q, 0, none⟩))) (some 157) rfl rfl (by kernel_rfl) (by kernel_rfl) (by kernel_rfl) (by kernel_rfl) (fun _ _ _ h => h) hS0 (yields_of (by kernel_rfl) (fun w hw => by kernel_rfl)) ?_
          refine wpAnyU_take (i := 6) (v := (.pointer (some ⟨q, 0, none⟩))) (some 158) rfl rfl (by kernel_rfl) (by kernel_rfl) (by kernel_rfl) (by kernel_rfl) (fun _ _ _ h => h) hS0 (yields_of (by kernel_rfl) (fun w hw => by go_simp)) ?_
          refine wpAnyU_take (i := 7) (v := (.pointer (some ⟨q, 3, none⟩))) (some 159) rfl rfl (by kernel_rfl) (by kernel_rfl) (by kernel_rfl) (by kernel_rfl) (fun _ _ _ h => h) hS0 (yields_of (by kernel_rfl) (fun w hw => by go_simp)) ?_
          refine wpAnyU_take (i := 8) (v := (.bool S1.off)) (some 160) rfl rfl (by kernel_rfl) (by kernel_rfl) (by kernel_rfl) (by kernel_rfl) (fun _ _ _ h => h) hS0 (yields_of (by kernel_rfl) (fun w hw => by have h1 := hw.1; have h2 := hw.2; go_simp)) ?_
          refine wpAnyU_call (i := 4) (f := 24) (args := #[.pointer (some ⟨p, 0, none⟩)]) (some 156) rfl rfl (by kernel_rfl) (by kernel_rfl) (by kernel_rfl) ?_
          refine (dDown hD0).mono ?_
          rintro e wr4 ⟨rfl, hD4⟩
          have hS0 : wr4.cell? ⟨q, 3, none⟩ = some (.bool S1.off) ∧ wr4.cell? ⟨q, 4, none⟩ = some (.int .i64 S1.n) := hD4.ref.c34
          refine ⟨_, rfl, fun _ => hS0, ?_⟩
          refine wpAnyU_take (i := 9) (v := (.bool false)) (some 161) rfl rfl (by kernel_rfl) (by kernel_rfl) (by kernel_rfl) (by kernel_rfl) (fun _ _ _ h => h) hS0 (yields_of (by kernel_rfl) (fun w hw => by go_simp)) ?_
          refine wpAnyU_take (i := 10) (v := (.bool false)) (some 162) rfl rfl (by kernel_rfl) (by kernel_rfl) (by kernel_rfl) (by kernel_rfl) (fun _ _ _ h => h) hS0 (yields_of (by kernel_rfl) (fun w hw => by kernel_rfl)) ?_
          refine wpAnyU_take (i := 11) (v := (.bool false)) (some 163) rfl rfl (by kernel_rfl) (by kernel_rfl) (by kernel_rfl) (by kernel_rfl) (fun _ _ _ h => h) hS0 (yields_of (by kernel_rfl) (fun w hw => by kernel_rfl)) ?_
          refine wpAnyU_take (i := 12) (v := (.pointer (some ⟨p, 0, none⟩))) (some 164) rfl rfl (by kernel_rfl) (by kernel_rfl) (by kernel_rfl) (by kernel_rfl) (fun _ _ _ h => h) hS0 (yields_of (by kernel_rfl) (fun w hw => by kernel_rfl)) ?_
          refine wpAnyU_take (i := 14) (v := (.pointer (some ⟨q, 0, none⟩))) (some 166) rfl rfl (by kernel_rfl) (by kernel_rfl) (by kernel_rfl) (by kernel_rfl) (fun _ _ _ h => h) hS0 (yields_of (by kernel_rfl) (fun w hw => by kernel_rfl)) ?_
          refine wpAnyU_take (i := 15) (v := (.pointer (some ⟨q, 0, none⟩))) (some 167) rfl rfl (by kernel_rfl) (by kernel_rfl) (by kernel_rfl) (by kernel_rfl) (fun _ _ _ h => h) hS0 (yields_of (by kernel_rfl) (fun w hw => by go_simp)) ?_
          refine wpAnyU_take (i := 16) (v := (.pointer (some ⟨q, 4, none⟩))) (some 168) rfl rfl (by kernel_rfl) (by kernel_rfl) (by kernel_rfl) (by kernel_rfl) (fun _ _ _ h => h) hS0 (yields_of (by kernel_rfl) (fun w hw => by go_simp)) ?_
          refine wpAnyU_take (i := 17) (v := (.int .i64 (S1.n : Int))) (some 169) rfl rfl (by kernel_rfl) (by kernel_rfl) (by kernel_rfl) (by kernel_rfl) (fun _ _ _ h => h) hS0 (yields_of (by kernel_rfl) (fun w hw => by have h1 := hw.1; have h2 := hw.2; go_simp)) ?_
          refine wpAnyU_call (i := 13) (f := 25) (args := #[.pointer (some ⟨p, 0, none⟩)]) (some 165) rfl rfl (by kernel_rfl) (by kernel_rfl) (by kernel_rfl) ?_
          refine (dWrites hD4).mono ?_
          rintro e wr13 ⟨rfl, hD13⟩
          have hS0 : wr13.cell? ⟨q, 3, none⟩ = some (.bool S1.off) ∧ wr13.cell? ⟨q, 4, none⟩ = some (.int .i64 S1.n) := hD13.ref.c34
          refine ⟨_, rfl, fun _ => hS0, ?_⟩
          refine wpAnyU_take (i := 18) (v := (.bool false)) (some 170) rfl rfl (by kernel_rfl) (by kernel_rfl) (by kernel_rfl) (by kernel_rfl) (fun _ _ _ h => h) hS0 (yields_of (by kernel_rfl) (fun w hw => by go_simp)) ?_
          refine wpAnyU_take (i := 19) (v := (.bool false)) (some 171) rfl rfl (by kernel_rfl) (by kernel_rfl) (by kernel_rfl) (by kernel_rfl) (fun _ _ _ h => h) hS0 (yields_of (by kernel_rfl) (fun w hw => by kernel_rfl)) ?_
          refine wpAnyU_done (by kernel_rfl) ?_ _
          simp only [put_lit, List.set_cons_succ, List.set_cons_zero]
          have HD1 := Lib.hid hD13
          clear hD0 hD4 hD13 hS0
          go_wp2_with fail
          go_loopw [18] (fun i wr => ∃ m : Nat, m ≤ k ∧ i = .int .i64 m ∧ Hid (Duo w1.heap.size w1 wr p q S1 S1 X1 Y1 g u)) (fun i _ => k - (intOf i).toNat)
          case atStart => exact ⟨0, Nat.zero_le _, rfl, HD1⟩
          case round =>
            obtain ⟨m, hmk, rfl, hm⟩ := hrel
            by_cases hlt : (m : Int) < k
            · have hwm : IntKind.i64.wrap ((m : Int) + 1) = ((m + 1 : Nat) : Int) := by rw [IntWalk.i64_in _ (by omega)]; omega
              have HC := Lib.hid (dRd hm.out (m : Int))
              have HX := fun (w6 : World) (h6 : Duo w1.heap.size w1 w6 p q S1 S1 X1 Y1 g u) => xRd h6 (m : Int)
              generalize S1.read (m : Int) = r at HC HX
              obtain ⟨rs, c6⟩ := r
              simp only at HC HX
              have HXX := Lib.hid HX
              clear HX hm
              go_wp2_with fail
              refine HC.out.mono ?_
              rintro e w6 ⟨rfl, h6⟩
              go_wp2_with fail
              refine (HXX.out w6 h6).mono ?_
              rintro e w7 ⟨rfl, h7⟩
              have H7 := Lib.hid h7
              clear h6 h7
              go_wp2_with fail
              refine (is_erV c6 c6 _).mono ?_
              rintro e w8 ⟨rfl, rfl⟩
              have hbq : (c6 == c6) = true := by simp
              rw [hbq]
              go_wp2
              go_roundw
              case rel => exact ⟨m + 1, by omega, by first | rfl | go_num, H7⟩
              case measure => simp [intOf]; omega
            · obtain rfl : m = k := by omega
              have HF : Hid (PS w1.heap.size w1 wr p q m (j + 1)) := ⟨S1, X1, Y1, hm.out.al, hm.out.ref, hm.out.ap, hL1, hC1, hN1⟩
              have hwj : IntKind.i64.wrap ((j : Int) + 1) = ((j + 1 : Nat) : Int) := by rw [IntWalk.i64_in _ (by omega)]; omega
              clear hm
              go_wp2
              go_roundw
              case rel => exact ⟨j + 1, by omega, by first | rfl | go_num, HF⟩
              case measure => simp [intOf]; omega
        · go_wp2
          all_goals
            go_ret
            exact ⟨rfl, HB.out⟩
      · go_wp2
        all_goals
          go_ret
          exact ⟨rfl, HB.out⟩
  · go_wp2_with fail
    refine (pNw_arg sz hv w1).mono ?_
    rintro e w2 ⟨rfl, b2⟩
    go_wp2_with fail
    refine (rNw_arg sz hv w2).mono ?_
    rintro e w3 ⟨rfl, b3⟩
    have e1 : erV 1 = .iface 56 (.int .i64 1) := rfl
    rw [e1]
    go_wp2_with fail
    refine (is11 _).mono ?_
    rintro e w4 ⟨rfl, rfl⟩
    have HB := Lib.hid (belowT (belowT B1.out b2) b3)
    clear b2 b3 hv HSZ hszc
    go_wp2
    go_ret
    exact ⟨rfl, HB.out⟩

end Go.Proofs.Ytgppbbbpekghiaa
