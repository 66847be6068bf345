/- RootBack walked: what is written is read as it was, what was read is written as it stood. -/
import Derived.Test.YtbfdhonmmoikdaaRHeads
import Derived.Test.YtbfdhonmmoikdaaSame
import Derived.Test.YtbfdhonmmoikdaaRtB
import Derived.Test.YtbfdhonmmoikdaaOpenF
import Derived.BigQuiet
namespace Go.Proofs.Ytbfdhonmmoikdaa
open Go.RowKit Go.Proofs Go.Proofs.Pk
set_option maxRecDepth 10000
attribute [local simp] mk_get wrap64_u8 mk_extract ByteArray.mk_append_mk get_1k

set_option maxHeartbeats 1000000 in
theorem sBackR (T seq next cur : Int) (ad : Option Addr) (len cap : Nat) (l : List FileV) (b : List UInt8) (hs hz : Int) (W : World) (ht : -9223372036854775808 ≤ T ∧ T ≤ 9223372036854775807) (hF : Files W ad len l)
    (hb : Fit seq ∧ Fit next ∧ Fit cur ∧ Flat ad ∧ len ≤ cap ∧ (ad = none → cap = 0) ∧ (len : Int) * 24 ≤ 140737488351232) (hbl : (b.length : Int) ≤ 140737488351232) (_h1 : -9223372036854775808 ≤ hs ∧ hs ≤ 9223372036854775807) (_h2 : -9223372036854775808 ≤ hz ∧ hz ≤ 9223372036854775807) :
    Calls Try.prog 5 #[.int .i64 T, .agg #[.int .i64 seq, .int .i64 next, .int .i64 cur, .slice ad len cap], .string ⟨b.toArray⟩, .int .i64 hs, .int .i64 hz] W fun e w' => e = .returned (.bool true) ∧ Below W.heap.size W w' := by
  have HX := Holds.new W [.int .i64 seq, .int .i64 next, .int .i64 cur, .slice ad len cap] 24
  have HB0 := Lib.hid ((Below.refl W.heap.size W).alloc (Nat.le_refl _) (.cells #[.int .i64 seq, .int .i64 next, .int .i64 cur, .slice ad len cap] 24))
  change Holds (W.alloc (.cells #[.int .i64 seq, .int .i64 next, .int .i64 cur, .slice ad len cap] 24)) _ _ _ at HX
  have HF0 := Lib.hid (hF.below HB0.out)
  have hln : len ≤ 9223372036854775806 := by omega
  clear hb hF
  have HEx := Lib.hid examples_any
  have hD2 : (∃ s' n' c' fs', Hid (∀ w, Calls Try.prog 13 #[.int .i64 T, .string ⟨b.toArray⟩] w (DP w ((s', n', c', fs'), 0))) ∧ Hid (∀ f ∈ fs', FitF (fileI f)) ∧ Hid (∀ (w : World) a m k, Files w a m (fs'.map fileI) → Calls Try.prog 10 #[.int .i64 T, .agg #[.int .i64 (s' : Int), .int .i64 (n' : Int), .int .i64 (c' : Int), .slice a m k]] w fun e w' => e = .returned (.tuple #[.string ⟨b.toArray⟩, errV 54 0]) ∧ Below w.heap.size w w')) ∨
      ∃ s' n' c' fs' k, Hid (∀ w, Calls Try.prog 13 #[.int .i64 T, .string ⟨b.toArray⟩] w (DP w ((s', n', c', fs'), k + 1))) := by
    have hdec := fun (w : World) => pDecode T b w ht hbl
    obtain ⟨⟨⟨s', n', c', fs'⟩, k⟩, hd⟩ : ∃ x, decV T b = x := ⟨_, rfl⟩
    rw [hd] at hdec
    cases k with
    | zero =>
      obtain ⟨h1, h2⟩ := dec_back (T := T) (b := b) (by rw [hd])
      rw [hd] at h1 h2
      refine .inl ⟨s', n', c', fs', hdec, fun f hf => ?_, fun w a m k h => ?_⟩
      · obtain ⟨_, _, _, _, h5⟩ := right_small h1
        have := h5 f hf
        exact ⟨fit_nat this.1, fit_nat (by unfold MaxN; omega), fit_nat (by unfold MaxN; omega)⟩
      · have := pEncode_ok T s' n' c' fs' a m k w ht h h1
        rwa [h2] at this
    | succ k => exact .inr ⟨s', n', c', fs', k, hdec⟩
  have hH2 : (∃ (B : List UInt8), (B.length : Int) = 64 ∧ Hid (∀ w, Calls Try.prog 18 #[.int .i64 hs, .int .i64 hz] w (R2 w (.string ⟨B.toArray⟩) (errV 54 0))) ∧ Hid (∀ w, Calls Try.prog 20 #[.string ⟨B.toArray⟩] w (R3 w (.int .i64 hs) (.int .i64 hz) (errV 54 0)))) ∨
      Hid (∀ w, Calls Try.prog 18 #[.int .i64 hs, .int .i64 hz] w (R2 w (.string ⟨#[]⟩) (errV 54 1))) := by
    have hh := pHead hs hz
    rcases headV_cases hs hz with ⟨s, z, rfl, rfl, h1, h2, h3, hv⟩ | ⟨_, hv⟩
    · rw [hv] at hh
      refine .inl ⟨headB s z, by rw [headB_length]; rfl, hh, fun w => ?_⟩
      have := pReadHead (headB s z) w (by rw [headB_length]; decide)
      rwa [head_read s z h1 h2 h3] at this
    · rw [hv] at hh; exact .inr hh
  clear hbl _h1 _h2
  rcases Bool.eq_false_or_eq_true (rightV T seq next cur l) with hr | hr
  · obtain ⟨s, n, c, fs, rfl, rfl, rfl, rfl, _⟩ := right_nat hr
    have HE := Lib.hid (fun (w : World) (h : Files w ad len (fs.map fileI)) => pEncode_ok T s n c fs ad len cap w ht h hr)
    have HD := Lib.hid (fun (w : World) => pDecode T (rootB s n c fs) w ht (by have := root_len hr; omega))
    have HL := Lib.hid (root_len hr)
    rw [dec_root hr] at HD
    have HS := Lib.hid (fun (w : World) (a : Option Addr) (k : Nat) (h1 : Files w a len (fs.map fileI)) (h2 : Files w ad len (fs.map fileI)) => same_true s n c a ad len k cap _ w h1 h2 hln)
    have hfl : fs.length = len := by have := HF0.out.1; simpa using this
    have hff : Hid (∀ f ∈ fs, FitF (fileI f)) := fun f hf => HF0.out.fit _ (List.mem_map_of_mem hf)
    generalize rootB s n c fs = A at HE HD HL
    clear hr
    clear ht
    rcases hD2 with ⟨s', n', c', fs', HD2, hff', HE2⟩ | ⟨s', n', c', fs', k, HD2⟩
    · rcases hH2 with ⟨B, hB, HH, HR⟩ | HH
      · go_enter Try.func5, Try.ntmps5
        go_wp2_with fail
        obtain ⟨q, hq⟩ : ∃ q, Hid (q = W.heap.size) := ⟨_, rfl⟩
        rw [← hq.out] at HX ⊢
        generalize W.alloc (.cells #[.int .i64 (s : Int), .int .i64 (n : Int), .int .i64 (c : Int), .slice ad len cap] 24) = w1 at HX HB0 HF0 ⊢
        have HXh := Lib.hid HX
        clear HX
        refine (HEx.out w1).mono ?_
        rintro e w2 ⟨rfl, hb⟩
        have HB2 := Lib.hid (HB0.out.trans (hb.mono HB0.out.size))
        have HF2 := Lib.hid (HF0.out.below hb)
        have HX2 := Lib.hid (HXh.out.of_block (hb.block q HXh.out.lt))
        clear hb HB0 HF0 HXh
        have x0 := HX2.out.cell 0 _ rfl
        have x1 := HX2.out.cell 1 _ rfl
        have x2 := HX2.out.cell 2 _ rfl
        have x3 := HX2.out.cell 3 _ rfl
        go_wp2_with fail
        refine (HE.out w2 HF2.out).mono ?_
        rintro e w3 ⟨rfl, hb⟩
        have HB3 := Lib.hid (HB2.out.trans (hb.mono HB2.out.size))
        have HF3 := Lib.hid (HF2.out.below hb)
        have HX3 := Lib.hid (HX2.out.of_block (hb.block q HX2.out.lt))
        clear hb HB2 HF2 HX2 x0 x1 x2 x3 HE
        simp only [show errV 54 0 = .nilIface from rfl]
        go_wp2_with fail
        refine (HD.out w3).mono ?_
        rintro e w4 ⟨hb, v, rfl, hv⟩
        have hv : w4.ownsRow w3.heap.size 39 3 v fs.length (cellsF fs) := hv
        rw [hfl] at hv
        obtain ⟨a', k', rfl, hfv⟩ := own_files hv hfl hff.out
        have HB4 := Lib.hid (HB3.out.trans (hb.mono HB3.out.size))
        have HF4 := Lib.hid (HF3.out.below hb)
        have HX4 := Lib.hid (HX3.out.of_block (hb.block q HX3.out.lt))
        clear hb HB3 HF3 HX3 hv HD
        simp only [show errV 54 0 = .nilIface from rfl]
        go_upto_region 5 with (fail)
        have hb5 := (Below.refl w4.heap.size w4).alloc (Nat.le_refl _) (.cells #[.int .i64 (s : Int), .int .i64 (n : Int), .int .i64 (c : Int), .slice a' len k'] 24)
        have HY := Holds.new w4 [.int .i64 (s : Int), .int .i64 (n : Int), .int .i64 (c : Int), .slice a' len k'] 24
        change Holds (w4.alloc (.cells #[.int .i64 (s : Int), .int .i64 (n : Int), .int .i64 (c : Int), .slice a' len k'] 24)) _ _ _ at HY
        generalize w4.alloc (.cells #[.int .i64 (s : Int), .int .i64 (n : Int), .int .i64 (c : Int), .slice a' len k'] 24) = w5 at hb5 HY ⊢
        have HB5 := Lib.hid (HB4.out.trans (hb5.mono HB4.out.size))
        have HF5 := Lib.hid (HF4.out.below hb5)
        have HG5 := Lib.hid (hfv.below hb5)
        have HX5 := HX4.out.of_block (hb5.block q HX4.out.lt)
        have x0 := HX5.cell 0 _ rfl
        have x1 := HX5.cell 1 _ rfl
        have x2 := HX5.cell 2 _ rfl
        have x3 := HX5.cell 3 _ rfl
        have y0 := HY.cell 0 _ rfl
        have y1 := HY.cell 1 _ rfl
        have y2 := HY.cell 2 _ rfl
        have y3 := HY.cell 3 _ rfl
        clear hb5 HB4 HF4 HX4 HX5 HY hfv
        generalize w4.heap.size = p at y0 y1 y2 y3 ⊢
        go_wp2_with fail
        refine (HS.out w5 a' k' HG5.out HF5.out).mono ?_
        rintro e w6 ⟨rfl, hb⟩
        have HB6 := Lib.hid (HB5.out.trans (hb.mono HB5.out.size))
        have hA : ¬(512 : Int) < (A.length : Int) := by have := HL.out; omega
        clear hb HB5 HF5 HG5 x0 x1 x2 x3 y0 y1 y2 y3 HS HL
        go_upto_region 8 with (fail)
        clear hA
        go_wp2_with fail
        refine (HD2.out w6).mono ?_
        rintro e w7 ⟨hb, v, rfl, hv⟩
        have hv : w7.ownsRow w6.heap.size 39 3 v fs'.length (cellsF fs') := hv
        obtain ⟨a2, k2, rfl, hfv⟩ := own_files hv rfl hff'.out
        have HB7 := Lib.hid (HB6.out.trans (hb.mono HB6.out.size))
        clear hb HB6 hv HD2
        simp only [show errV 54 0 = .nilIface from rfl]
        go_upto_region 10 with (fail)
        have hb8 := (Below.refl w7.heap.size w7).alloc (Nat.le_refl _) (.cells #[.int .i64 (s' : Int), .int .i64 (n' : Int), .int .i64 (c' : Int), .slice a2 fs'.length k2] 24)
        have HY := Holds.new w7 [.int .i64 (s' : Int), .int .i64 (n' : Int), .int .i64 (c' : Int), .slice a2 fs'.length k2] 24
        change Holds (w7.alloc (.cells #[.int .i64 (s' : Int), .int .i64 (n' : Int), .int .i64 (c' : Int), .slice a2 fs'.length k2] 24)) _ _ _ at HY
        generalize w7.alloc (.cells #[.int .i64 (s' : Int), .int .i64 (n' : Int), .int .i64 (c' : Int), .slice a2 fs'.length k2] 24) = w8 at hb8 HY ⊢
        have HB8 := Lib.hid (HB7.out.trans (hb8.mono HB7.out.size))
        have HG8 := Lib.hid (hfv.below hb8)
        have y0 := HY.cell 0 _ rfl
        have y1 := HY.cell 1 _ rfl
        have y2 := HY.cell 2 _ rfl
        have y3 := HY.cell 3 _ rfl
        clear hb8 HB7 HY hfv
        generalize w7.heap.size = p2 at y0 y1 y2 y3 ⊢
        go_wp2_with fail
        refine (HE2.out w8 a2 fs'.length k2 HG8.out).mono ?_
        rintro e w9 ⟨rfl, hb⟩
        have HB9 := Lib.hid (HB8.out.trans (hb.mono HB8.out.size))
        clear hb HB8 HG8 y0 y1 y2 y3 HE2
        simp only [show errV 54 0 = .nilIface from rfl]
        go_upto_region 13 with (fail)
        go_wp2_with fail
        refine (HH.out w9).mono ?_
        rintro e w10 ⟨rfl, hb⟩
        have HB10 := Lib.hid (HB9.out.trans (hb.mono HB9.out.size))
        clear hb HB9 HH
        simp only [show errV 54 0 = .nilIface from rfl]
        go_wp2_with fail
        refine (HR.out w10).mono ?_
        rintro e w11 ⟨rfl, hb⟩
        have HB11 := Lib.hid (HB10.out.trans (hb.mono HB10.out.size))
        clear hb HB10 HR
        simp only [show errV 54 0 = .nilIface from rfl]
        go_wp2
        go_ret
        exact ⟨rfl, HB11.out⟩
      · go_enter Try.func5, Try.ntmps5
        go_wp2_with fail
        obtain ⟨q, hq⟩ : ∃ q, Hid (q = W.heap.size) := ⟨_, rfl⟩
        rw [← hq.out] at HX ⊢
        generalize W.alloc (.cells #[.int .i64 (s : Int), .int .i64 (n : Int), .int .i64 (c : Int), .slice ad len cap] 24) = w1 at HX HB0 HF0 ⊢
        have HXh := Lib.hid HX
        clear HX
        refine (HEx.out w1).mono ?_
        rintro e w2 ⟨rfl, hb⟩
        have HB2 := Lib.hid (HB0.out.trans (hb.mono HB0.out.size))
        have HF2 := Lib.hid (HF0.out.below hb)
        have HX2 := Lib.hid (HXh.out.of_block (hb.block q HXh.out.lt))
        clear hb HB0 HF0 HXh
        have x0 := HX2.out.cell 0 _ rfl
        have x1 := HX2.out.cell 1 _ rfl
        have x2 := HX2.out.cell 2 _ rfl
        have x3 := HX2.out.cell 3 _ rfl
        go_wp2_with fail
        refine (HE.out w2 HF2.out).mono ?_
        rintro e w3 ⟨rfl, hb⟩
        have HB3 := Lib.hid (HB2.out.trans (hb.mono HB2.out.size))
        have HF3 := Lib.hid (HF2.out.below hb)
        have HX3 := Lib.hid (HX2.out.of_block (hb.block q HX2.out.lt))
        clear hb HB2 HF2 HX2 x0 x1 x2 x3 HE
        simp only [show errV 54 0 = .nilIface from rfl]
        go_wp2_with fail
        refine (HD.out w3).mono ?_
        rintro e w4 ⟨hb, v, rfl, hv⟩
        have hv : w4.ownsRow w3.heap.size 39 3 v fs.length (cellsF fs) := hv
        rw [hfl] at hv
        obtain ⟨a', k', rfl, hfv⟩ := own_files hv hfl hff.out
        have HB4 := Lib.hid (HB3.out.trans (hb.mono HB3.out.size))
        have HF4 := Lib.hid (HF3.out.below hb)
        have HX4 := Lib.hid (HX3.out.of_block (hb.block q HX3.out.lt))
        clear hb HB3 HF3 HX3 hv HD
        simp only [show errV 54 0 = .nilIface from rfl]
        go_upto_region 5 with (fail)
        have hb5 := (Below.refl w4.heap.size w4).alloc (Nat.le_refl _) (.cells #[.int .i64 (s : Int), .int .i64 (n : Int), .int .i64 (c : Int), .slice a' len k'] 24)
        have HY := Holds.new w4 [.int .i64 (s : Int), .int .i64 (n : Int), .int .i64 (c : Int), .slice a' len k'] 24
        change Holds (w4.alloc (.cells #[.int .i64 (s : Int), .int .i64 (n : Int), .int .i64 (c : Int), .slice a' len k'] 24)) _ _ _ at HY
        generalize w4.alloc (.cells #[.int .i64 (s : Int), .int .i64 (n : Int), .int .i64 (c : Int), .slice a' len k'] 24) = w5 at hb5 HY ⊢
        have HB5 := Lib.hid (HB4.out.trans (hb5.mono HB4.out.size))
        have HF5 := Lib.hid (HF4.out.below hb5)
        have HG5 := Lib.hid (hfv.below hb5)
        have HX5 := HX4.out.of_block (hb5.block q HX4.out.lt)
        have x0 := HX5.cell 0 _ rfl
        have x1 := HX5.cell 1 _ rfl
        have x2 := HX5.cell 2 _ rfl
        have x3 := HX5.cell 3 _ rfl
        have y0 := HY.cell 0 _ rfl
        have y1 := HY.cell 1 _ rfl
        have y2 := HY.cell 2 _ rfl
        have y3 := HY.cell 3 _ rfl
        clear hb5 HB4 HF4 HX4 HX5 HY hfv
        generalize w4.heap.size = p at y0 y1 y2 y3 ⊢
        go_wp2_with fail
        refine (HS.out w5 a' k' HG5.out HF5.out).mono ?_
        rintro e w6 ⟨rfl, hb⟩
        have HB6 := Lib.hid (HB5.out.trans (hb.mono HB5.out.size))
        have hA : ¬(512 : Int) < (A.length : Int) := by have := HL.out; omega
        clear hb HB5 HF5 HG5 x0 x1 x2 x3 y0 y1 y2 y3 HS HL
        go_upto_region 8 with (fail)
        clear hA
        go_wp2_with fail
        refine (HD2.out w6).mono ?_
        rintro e w7 ⟨hb, v, rfl, hv⟩
        have hv : w7.ownsRow w6.heap.size 39 3 v fs'.length (cellsF fs') := hv
        obtain ⟨a2, k2, rfl, hfv⟩ := own_files hv rfl hff'.out
        have HB7 := Lib.hid (HB6.out.trans (hb.mono HB6.out.size))
        clear hb HB6 hv HD2
        simp only [show errV 54 0 = .nilIface from rfl]
        go_upto_region 10 with (fail)
        have hb8 := (Below.refl w7.heap.size w7).alloc (Nat.le_refl _) (.cells #[.int .i64 (s' : Int), .int .i64 (n' : Int), .int .i64 (c' : Int), .slice a2 fs'.length k2] 24)
        have HY := Holds.new w7 [.int .i64 (s' : Int), .int .i64 (n' : Int), .int .i64 (c' : Int), .slice a2 fs'.length k2] 24
        change Holds (w7.alloc (.cells #[.int .i64 (s' : Int), .int .i64 (n' : Int), .int .i64 (c' : Int), .slice a2 fs'.length k2] 24)) _ _ _ at HY
        generalize w7.alloc (.cells #[.int .i64 (s' : Int), .int .i64 (n' : Int), .int .i64 (c' : Int), .slice a2 fs'.length k2] 24) = w8 at hb8 HY ⊢
        have HB8 := Lib.hid (HB7.out.trans (hb8.mono HB7.out.size))
        have HG8 := Lib.hid (hfv.below hb8)
        have y0 := HY.cell 0 _ rfl
        have y1 := HY.cell 1 _ rfl
        have y2 := HY.cell 2 _ rfl
        have y3 := HY.cell 3 _ rfl
        clear hb8 HB7 HY hfv
        generalize w7.heap.size = p2 at y0 y1 y2 y3 ⊢
        go_wp2_with fail
        refine (HE2.out w8 a2 fs'.length k2 HG8.out).mono ?_
        rintro e w9 ⟨rfl, hb⟩
        have HB9 := Lib.hid (HB8.out.trans (hb.mono HB8.out.size))
        clear hb HB8 HG8 y0 y1 y2 y3 HE2
        simp only [show errV 54 0 = .nilIface from rfl]
        go_upto_region 13 with (fail)
        go_wp2_with fail
        refine (HH.out w9).mono ?_
        rintro e w10 ⟨rfl, hb⟩
        have HB10 := Lib.hid (HB9.out.trans (hb.mono HB9.out.size))
        clear hb HB9 HH
        simp only [show errV 54 1 = .iface 54 (.int .i64 1) from rfl]
        go_wp2_with fail
        refine (is11 w10).mono ?_
        rintro e w11 ⟨rfl, rfl⟩
        go_wp2
        go_ret
        exact ⟨rfl, HB10.out⟩
    · rcases hH2 with ⟨B, hB, HH, HR⟩ | HH
      · go_enter Try.func5, Try.ntmps5
        go_wp2_with fail
        obtain ⟨q, hq⟩ : ∃ q, Hid (q = W.heap.size) := ⟨_, rfl⟩
        rw [← hq.out] at HX ⊢
        generalize W.alloc (.cells #[.int .i64 (s : Int), .int .i64 (n : Int), .int .i64 (c : Int), .slice ad len cap] 24) = w1 at HX HB0 HF0 ⊢
        have HXh := Lib.hid HX
        clear HX
        refine (HEx.out w1).mono ?_
        rintro e w2 ⟨rfl, hb⟩
        have HB2 := Lib.hid (HB0.out.trans (hb.mono HB0.out.size))
        have HF2 := Lib.hid (HF0.out.below hb)
        have HX2 := Lib.hid (HXh.out.of_block (hb.block q HXh.out.lt))
        clear hb HB0 HF0 HXh
        have x0 := HX2.out.cell 0 _ rfl
        have x1 := HX2.out.cell 1 _ rfl
        have x2 := HX2.out.cell 2 _ rfl
        have x3 := HX2.out.cell 3 _ rfl
        go_wp2_with fail
        refine (HE.out w2 HF2.out).mono ?_
        rintro e w3 ⟨rfl, hb⟩
        have HB3 := Lib.hid (HB2.out.trans (hb.mono HB2.out.size))
        have HF3 := Lib.hid (HF2.out.below hb)
        have HX3 := Lib.hid (HX2.out.of_block (hb.block q HX2.out.lt))
        clear hb HB2 HF2 HX2 x0 x1 x2 x3 HE
        simp only [show errV 54 0 = .nilIface from rfl]
        go_wp2_with fail
        refine (HD.out w3).mono ?_
        rintro e w4 ⟨hb, v, rfl, hv⟩
        have hv : w4.ownsRow w3.heap.size 39 3 v fs.length (cellsF fs) := hv
        rw [hfl] at hv
        obtain ⟨a', k', rfl, hfv⟩ := own_files hv hfl hff.out
        have HB4 := Lib.hid (HB3.out.trans (hb.mono HB3.out.size))
        have HF4 := Lib.hid (HF3.out.below hb)
        have HX4 := Lib.hid (HX3.out.of_block (hb.block q HX3.out.lt))
        clear hb HB3 HF3 HX3 hv HD
        simp only [show errV 54 0 = .nilIface from rfl]
        go_upto_region 5 with (fail)
        have hb5 := (Below.refl w4.heap.size w4).alloc (Nat.le_refl _) (.cells #[.int .i64 (s : Int), .int .i64 (n : Int), .int .i64 (c : Int), .slice a' len k'] 24)
        have HY := Holds.new w4 [.int .i64 (s : Int), .int .i64 (n : Int), .int .i64 (c : Int), .slice a' len k'] 24
        change Holds (w4.alloc (.cells #[.int .i64 (s : Int), .int .i64 (n : Int), .int .i64 (c : Int), .slice a' len k'] 24)) _ _ _ at HY
        generalize w4.alloc (.cells #[.int .i64 (s : Int), .int .i64 (n : Int), .int .i64 (c : Int), .slice a' len k'] 24) = w5 at hb5 HY ⊢
        have HB5 := Lib.hid (HB4.out.trans (hb5.mono HB4.out.size))
        have HF5 := Lib.hid (HF4.out.below hb5)
        have HG5 := Lib.hid (hfv.below hb5)
        have HX5 := HX4.out.of_block (hb5.block q HX4.out.lt)
        have x0 := HX5.cell 0 _ rfl
        have x1 := HX5.cell 1 _ rfl
        have x2 := HX5.cell 2 _ rfl
        have x3 := HX5.cell 3 _ rfl
        have y0 := HY.cell 0 _ rfl
        have y1 := HY.cell 1 _ rfl
        have y2 := HY.cell 2 _ rfl
        have y3 := HY.cell 3 _ rfl
        clear hb5 HB4 HF4 HX4 HX5 HY hfv
        generalize w4.heap.size = p at y0 y1 y2 y3 ⊢
        go_wp2_with fail
        refine (HS.out w5 a' k' HG5.out HF5.out).mono ?_
        rintro e w6 ⟨rfl, hb⟩
        have HB6 := Lib.hid (HB5.out.trans (hb.mono HB5.out.size))
        have hA : ¬(512 : Int) < (A.length : Int) := by have := HL.out; omega
        clear hb HB5 HF5 HG5 x0 x1 x2 x3 y0 y1 y2 y3 HS HL
        go_upto_region 8 with (fail)
        clear hA
        go_wp2_with fail
        refine (HD2.out w6).mono ?_
        rintro e w7 ⟨hb, v, rfl, hv⟩
        obtain ⟨a2, m2, k2, rfl⟩ : ∃ a m k, v = .slice a m k := by rcases hv.2 with ⟨rfl, _⟩ | ⟨g, cap, cur, rfl, _⟩ <;> exact ⟨_, _, _, rfl⟩
        have HB7 := Lib.hid (HB6.out.trans (hb.mono HB6.out.size))
        clear hb HB6 HD2 hv
        simp only [show ∀ k : Nat, errV 54 (k + 1) = .iface 54 (.int .i64 ((k + 1 : Nat) : Int)) from fun _ => rfl]
        go_upto_region 13 with (fail)
        have HB9 := Lib.hid (HB7.out.alloc HB7.out.size (.cells #[.int .i64 (s' : Int), .int .i64 (n' : Int), .int .i64 (c' : Int), .slice a2 m2 k2] 24))
        clear HB7
        generalize w7.alloc (.cells #[.int .i64 (s' : Int), .int .i64 (n' : Int), .int .i64 (c' : Int), .slice a2 m2 k2] 24) = w9 at HB9 ⊢
        go_wp2_with fail
        refine (HH.out w9).mono ?_
        rintro e w10 ⟨rfl, hb⟩
        have HB10 := Lib.hid (HB9.out.trans (hb.mono HB9.out.size))
        clear hb HB9 HH
        simp only [show errV 54 0 = .nilIface from rfl]
        go_wp2_with fail
        refine (HR.out w10).mono ?_
        rintro e w11 ⟨rfl, hb⟩
        have HB11 := Lib.hid (HB10.out.trans (hb.mono HB10.out.size))
        clear hb HB10 HR
        simp only [show errV 54 0 = .nilIface from rfl]
        go_wp2
        go_ret
        exact ⟨rfl, HB11.out⟩
      · go_enter Try.func5, Try.ntmps5
        go_wp2_with fail
        obtain ⟨q, hq⟩ : ∃ q, Hid (q = W.heap.size) := ⟨_, rfl⟩
        rw [← hq.out] at HX ⊢
        generalize W.alloc (.cells #[.int .i64 (s : Int), .int .i64 (n : Int), .int .i64 (c : Int), .slice ad len cap] 24) = w1 at HX HB0 HF0 ⊢
        have HXh := Lib.hid HX
        clear HX
        refine (HEx.out w1).mono ?_
        rintro e w2 ⟨rfl, hb⟩
        have HB2 := Lib.hid (HB0.out.trans (hb.mono HB0.out.size))
        have HF2 := Lib.hid (HF0.out.below hb)
        have HX2 := Lib.hid (HXh.out.of_block (hb.block q HXh.out.lt))
        clear hb HB0 HF0 HXh
        have x0 := HX2.out.cell 0 _ rfl
        have x1 := HX2.out.cell 1 _ rfl
        have x2 := HX2.out.cell 2 _ rfl
        have x3 := HX2.out.cell 3 _ rfl
        go_wp2_with fail
        refine (HE.out w2 HF2.out).mono ?_
        rintro e w3 ⟨rfl, hb⟩
        have HB3 := Lib.hid (HB2.out.trans (hb.mono HB2.out.size))
        have HF3 := Lib.hid (HF2.out.below hb)
        have HX3 := Lib.hid (HX2.out.of_block (hb.block q HX2.out.lt))
        clear hb HB2 HF2 HX2 x0 x1 x2 x3 HE
        simp only [show errV 54 0 = .nilIface from rfl]
        go_wp2_with fail
        refine (HD.out w3).mono ?_
        rintro e w4 ⟨hb, v, rfl, hv⟩
        have hv : w4.ownsRow w3.heap.size 39 3 v fs.length (cellsF fs) := hv
        rw [hfl] at hv
        obtain ⟨a', k', rfl, hfv⟩ := own_files hv hfl hff.out
        have HB4 := Lib.hid (HB3.out.trans (hb.mono HB3.out.size))
        have HF4 := Lib.hid (HF3.out.below hb)
        have HX4 := Lib.hid (HX3.out.of_block (hb.block q HX3.out.lt))
        clear hb HB3 HF3 HX3 hv HD
        simp only [show errV 54 0 = .nilIface from rfl]
        go_upto_region 5 with (fail)
        have hb5 := (Below.refl w4.heap.size w4).alloc (Nat.le_refl _) (.cells #[.int .i64 (s : Int), .int .i64 (n : Int), .int .i64 (c : Int), .slice a' len k'] 24)
        have HY := Holds.new w4 [.int .i64 (s : Int), .int .i64 (n : Int), .int .i64 (c : Int), .slice a' len k'] 24
        change Holds (w4.alloc (.cells #[.int .i64 (s : Int), .int .i64 (n : Int), .int .i64 (c : Int), .slice a' len k'] 24)) _ _ _ at HY
        generalize w4.alloc (.cells #[.int .i64 (s : Int), .int .i64 (n : Int), .int .i64 (c : Int), .slice a' len k'] 24) = w5 at hb5 HY ⊢
        have HB5 := Lib.hid (HB4.out.trans (hb5.mono HB4.out.size))
        have HF5 := Lib.hid (HF4.out.below hb5)
        have HG5 := Lib.hid (hfv.below hb5)
        have HX5 := HX4.out.of_block (hb5.block q HX4.out.lt)
        have x0 := HX5.cell 0 _ rfl
        have x1 := HX5.cell 1 _ rfl
        have x2 := HX5.cell 2 _ rfl
        have x3 := HX5.cell 3 _ rfl
        have y0 := HY.cell 0 _ rfl
        have y1 := HY.cell 1 _ rfl
        have y2 := HY.cell 2 _ rfl
        have y3 := HY.cell 3 _ rfl
        clear hb5 HB4 HF4 HX4 HX5 HY hfv
        generalize w4.heap.size = p at y0 y1 y2 y3 ⊢
        go_wp2_with fail
        refine (HS.out w5 a' k' HG5.out HF5.out).mono ?_
        rintro e w6 ⟨rfl, hb⟩
        have HB6 := Lib.hid (HB5.out.trans (hb.mono HB5.out.size))
        have hA : ¬(512 : Int) < (A.length : Int) := by have := HL.out; omega
        clear hb HB5 HF5 HG5 x0 x1 x2 x3 y0 y1 y2 y3 HS HL
        go_upto_region 8 with (fail)
        clear hA
        go_wp2_with fail
        refine (HD2.out w6).mono ?_
        rintro e w7 ⟨hb, v, rfl, hv⟩
        obtain ⟨a2, m2, k2, rfl⟩ : ∃ a m k, v = .slice a m k := by rcases hv.2 with ⟨rfl, _⟩ | ⟨g, cap, cur, rfl, _⟩ <;> exact ⟨_, _, _, rfl⟩
        have HB7 := Lib.hid (HB6.out.trans (hb.mono HB6.out.size))
        clear hb HB6 HD2 hv
        simp only [show ∀ k : Nat, errV 54 (k + 1) = .iface 54 (.int .i64 ((k + 1 : Nat) : Int)) from fun _ => rfl]
        go_upto_region 13 with (fail)
        have HB9 := Lib.hid (HB7.out.alloc HB7.out.size (.cells #[.int .i64 (s' : Int), .int .i64 (n' : Int), .int .i64 (c' : Int), .slice a2 m2 k2] 24))
        clear HB7
        generalize w7.alloc (.cells #[.int .i64 (s' : Int), .int .i64 (n' : Int), .int .i64 (c' : Int), .slice a2 m2 k2] 24) = w9 at HB9 ⊢
        go_wp2_with fail
        refine (HH.out w9).mono ?_
        rintro e w10 ⟨rfl, hb⟩
        have HB10 := Lib.hid (HB9.out.trans (hb.mono HB9.out.size))
        clear hb HB9 HH
        simp only [show errV 54 1 = .iface 54 (.int .i64 1) from rfl]
        go_wp2_with fail
        refine (is11 w10).mono ?_
        rintro e w11 ⟨rfl, rfl⟩
        go_wp2
        go_ret
        exact ⟨rfl, HB10.out⟩
  · have HE := Lib.hid (fun (w : World) (h : Files w ad len l) => pEncode_no T seq next cur ad len cap l w ht h hr)
    clear hr
    clear ht
    rcases hD2 with ⟨s', n', c', fs', HD2, hff', HE2⟩ | ⟨s', n', c', fs', k, HD2⟩
    · rcases hH2 with ⟨B, hB, HH, HR⟩ | HH
      · go_enter Try.func5, Try.ntmps5
        go_wp2_with fail
        obtain ⟨q, hq⟩ : ∃ q, Hid (q = W.heap.size) := ⟨_, rfl⟩
        rw [← hq.out] at HX ⊢
        generalize W.alloc (.cells #[.int .i64 seq, .int .i64 next, .int .i64 cur, .slice ad len cap] 24) = w1 at HX HB0 HF0 ⊢
        have HXh := Lib.hid HX
        clear HX
        refine (HEx.out w1).mono ?_
        rintro e w2 ⟨rfl, hb⟩
        have HB2 := Lib.hid (HB0.out.trans (hb.mono HB0.out.size))
        have HF2 := Lib.hid (HF0.out.below hb)
        have HX2 := Lib.hid (HXh.out.of_block (hb.block q HXh.out.lt))
        clear hb HB0 HF0 HXh
        have x0 := HX2.out.cell 0 _ rfl
        have x1 := HX2.out.cell 1 _ rfl
        have x2 := HX2.out.cell 2 _ rfl
        have x3 := HX2.out.cell 3 _ rfl
        go_wp2_with fail
        refine (HE.out w2 HF2.out).mono ?_
        rintro e w6 ⟨rfl, hb⟩
        have HB6 := Lib.hid (HB2.out.trans (hb.mono HB2.out.size))
        clear hb HB2 HF2 HX2 x0 x1 x2 x3 HE
        simp only [show errV 54 1 = .iface 54 (.int .i64 1) from rfl]
        go_upto_region 8 with (fail)
        go_wp2_with fail
        refine (HD2.out w6).mono ?_
        rintro e w7 ⟨hb, v, rfl, hv⟩
        have hv : w7.ownsRow w6.heap.size 39 3 v fs'.length (cellsF fs') := hv
        obtain ⟨a2, k2, rfl, hfv⟩ := own_files hv rfl hff'.out
        have HB7 := Lib.hid (HB6.out.trans (hb.mono HB6.out.size))
        clear hb HB6 hv HD2
        simp only [show errV 54 0 = .nilIface from rfl]
        go_upto_region 10 with (fail)
        have hb8 := (Below.refl w7.heap.size w7).alloc (Nat.le_refl _) (.cells #[.int .i64 (s' : Int), .int .i64 (n' : Int), .int .i64 (c' : Int), .slice a2 fs'.length k2] 24)
        have HY := Holds.new w7 [.int .i64 (s' : Int), .int .i64 (n' : Int), .int .i64 (c' : Int), .slice a2 fs'.length k2] 24
        change Holds (w7.alloc (.cells #[.int .i64 (s' : Int), .int .i64 (n' : Int), .int .i64 (c' : Int), .slice a2 fs'.length k2] 24)) _ _ _ at HY
        generalize w7.alloc (.cells #[.int .i64 (s' : Int), .int .i64 (n' : Int), .int .i64 (c' : Int), .slice a2 fs'.length k2] 24) = w8 at hb8 HY ⊢
        have HB8 := Lib.hid (HB7.out.trans (hb8.mono HB7.out.size))
        have HG8 := Lib.hid (hfv.below hb8)
        have y0 := HY.cell 0 _ rfl
        have y1 := HY.cell 1 _ rfl
        have y2 := HY.cell 2 _ rfl
        have y3 := HY.cell 3 _ rfl
        clear hb8 HB7 HY hfv
        generalize w7.heap.size = p2 at y0 y1 y2 y3 ⊢
        go_wp2_with fail
        refine (HE2.out w8 a2 fs'.length k2 HG8.out).mono ?_
        rintro e w9 ⟨rfl, hb⟩
        have HB9 := Lib.hid (HB8.out.trans (hb.mono HB8.out.size))
        clear hb HB8 HG8 y0 y1 y2 y3 HE2
        simp only [show errV 54 0 = .nilIface from rfl]
        go_upto_region 13 with (fail)
        go_wp2_with fail
        refine (HH.out w9).mono ?_
        rintro e w10 ⟨rfl, hb⟩
        have HB10 := Lib.hid (HB9.out.trans (hb.mono HB9.out.size))
        clear hb HB9 HH
        simp only [show errV 54 0 = .nilIface from rfl]
        go_wp2_with fail
        refine (HR.out w10).mono ?_
        rintro e w11 ⟨rfl, hb⟩
        have HB11 := Lib.hid (HB10.out.trans (hb.mono HB10.out.size))
        clear hb HB10 HR
        simp only [show errV 54 0 = .nilIface from rfl]
        go_wp2
        go_ret
        exact ⟨rfl, HB11.out⟩
      · go_enter Try.func5, Try.ntmps5
        go_wp2_with fail
        obtain ⟨q, hq⟩ : ∃ q, Hid (q = W.heap.size) := ⟨_, rfl⟩
        rw [← hq.out] at HX ⊢
        generalize W.alloc (.cells #[.int .i64 seq, .int .i64 next, .int .i64 cur, .slice ad len cap] 24) = w1 at HX HB0 HF0 ⊢
        have HXh := Lib.hid HX
        clear HX
        refine (HEx.out w1).mono ?_
        rintro e w2 ⟨rfl, hb⟩
        have HB2 := Lib.hid (HB0.out.trans (hb.mono HB0.out.size))
        have HF2 := Lib.hid (HF0.out.below hb)
        have HX2 := Lib.hid (HXh.out.of_block (hb.block q HXh.out.lt))
        clear hb HB0 HF0 HXh
        have x0 := HX2.out.cell 0 _ rfl
        have x1 := HX2.out.cell 1 _ rfl
        have x2 := HX2.out.cell 2 _ rfl
        have x3 := HX2.out.cell 3 _ rfl
        go_wp2_with fail
        refine (HE.out w2 HF2.out).mono ?_
        rintro e w6 ⟨rfl, hb⟩
        have HB6 := Lib.hid (HB2.out.trans (hb.mono HB2.out.size))
        clear hb HB2 HF2 HX2 x0 x1 x2 x3 HE
        simp only [show errV 54 1 = .iface 54 (.int .i64 1) from rfl]
        go_upto_region 8 with (fail)
        go_wp2_with fail
        refine (HD2.out w6).mono ?_
        rintro e w7 ⟨hb, v, rfl, hv⟩
        have hv : w7.ownsRow w6.heap.size 39 3 v fs'.length (cellsF fs') := hv
        obtain ⟨a2, k2, rfl, hfv⟩ := own_files hv rfl hff'.out
        have HB7 := Lib.hid (HB6.out.trans (hb.mono HB6.out.size))
        clear hb HB6 hv HD2
        simp only [show errV 54 0 = .nilIface from rfl]
        go_upto_region 10 with (fail)
        have hb8 := (Below.refl w7.heap.size w7).alloc (Nat.le_refl _) (.cells #[.int .i64 (s' : Int), .int .i64 (n' : Int), .int .i64 (c' : Int), .slice a2 fs'.length k2] 24)
        have HY := Holds.new w7 [.int .i64 (s' : Int), .int .i64 (n' : Int), .int .i64 (c' : Int), .slice a2 fs'.length k2] 24
        change Holds (w7.alloc (.cells #[.int .i64 (s' : Int), .int .i64 (n' : Int), .int .i64 (c' : Int), .slice a2 fs'.length k2] 24)) _ _ _ at HY
        generalize w7.alloc (.cells #[.int .i64 (s' : Int), .int .i64 (n' : Int), .int .i64 (c' : Int), .slice a2 fs'.length k2] 24) = w8 at hb8 HY ⊢
        have HB8 := Lib.hid (HB7.out.trans (hb8.mono HB7.out.size))
        have HG8 := Lib.hid (hfv.below hb8)
        have y0 := HY.cell 0 _ rfl
        have y1 := HY.cell 1 _ rfl
        have y2 := HY.cell 2 _ rfl
        have y3 := HY.cell 3 _ rfl
        clear hb8 HB7 HY hfv
        generalize w7.heap.size = p2 at y0 y1 y2 y3 ⊢
        go_wp2_with fail
        refine (HE2.out w8 a2 fs'.length k2 HG8.out).mono ?_
        rintro e w9 ⟨rfl, hb⟩
        have HB9 := Lib.hid (HB8.out.trans (hb.mono HB8.out.size))
        clear hb HB8 HG8 y0 y1 y2 y3 HE2
        simp only [show errV 54 0 = .nilIface from rfl]
        go_upto_region 13 with (fail)
        go_wp2_with fail
        refine (HH.out w9).mono ?_
        rintro e w10 ⟨rfl, hb⟩
        have HB10 := Lib.hid (HB9.out.trans (hb.mono HB9.out.size))
        clear hb HB9 HH
        simp only [show errV 54 1 = .iface 54 (.int .i64 1) from rfl]
        go_wp2_with fail
        refine (is11 w10).mono ?_
        rintro e w11 ⟨rfl, rfl⟩
        go_wp2
        go_ret
        exact ⟨rfl, HB10.out⟩
    · rcases hH2 with ⟨B, hB, HH, HR⟩ | HH
      · go_enter Try.func5, Try.ntmps5
        go_wp2_with fail
        obtain ⟨q, hq⟩ : ∃ q, Hid (q = W.heap.size) := ⟨_, rfl⟩
        rw [← hq.out] at HX ⊢
        generalize W.alloc (.cells #[.int .i64 seq, .int .i64 next, .int .i64 cur, .slice ad len cap] 24) = w1 at HX HB0 HF0 ⊢
        have HXh := Lib.hid HX
        clear HX
        refine (HEx.out w1).mono ?_
        rintro e w2 ⟨rfl, hb⟩
        have HB2 := Lib.hid (HB0.out.trans (hb.mono HB0.out.size))
        have HF2 := Lib.hid (HF0.out.below hb)
        have HX2 := Lib.hid (HXh.out.of_block (hb.block q HXh.out.lt))
        clear hb HB0 HF0 HXh
        have x0 := HX2.out.cell 0 _ rfl
        have x1 := HX2.out.cell 1 _ rfl
        have x2 := HX2.out.cell 2 _ rfl
        have x3 := HX2.out.cell 3 _ rfl
        go_wp2_with fail
        refine (HE.out w2 HF2.out).mono ?_
        rintro e w6 ⟨rfl, hb⟩
        have HB6 := Lib.hid (HB2.out.trans (hb.mono HB2.out.size))
        clear hb HB2 HF2 HX2 x0 x1 x2 x3 HE
        simp only [show errV 54 1 = .iface 54 (.int .i64 1) from rfl]
        go_upto_region 8 with (fail)
        go_wp2_with fail
        refine (HD2.out w6).mono ?_
        rintro e w7 ⟨hb, v, rfl, hv⟩
        obtain ⟨a2, m2, k2, rfl⟩ : ∃ a m k, v = .slice a m k := by rcases hv.2 with ⟨rfl, _⟩ | ⟨g, cap, cur, rfl, _⟩ <;> exact ⟨_, _, _, rfl⟩
        have HB7 := Lib.hid (HB6.out.trans (hb.mono HB6.out.size))
        clear hb HB6 HD2 hv
        simp only [show ∀ k : Nat, errV 54 (k + 1) = .iface 54 (.int .i64 ((k + 1 : Nat) : Int)) from fun _ => rfl]
        go_upto_region 13 with (fail)
        have HB9 := Lib.hid (HB7.out.alloc HB7.out.size (.cells #[.int .i64 (s' : Int), .int .i64 (n' : Int), .int .i64 (c' : Int), .slice a2 m2 k2] 24))
        clear HB7
        generalize w7.alloc (.cells #[.int .i64 (s' : Int), .int .i64 (n' : Int), .int .i64 (c' : Int), .slice a2 m2 k2] 24) = w9 at HB9 ⊢
        go_wp2_with fail
        refine (HH.out w9).mono ?_
        rintro e w10 ⟨rfl, hb⟩
        have HB10 := Lib.hid (HB9.out.trans (hb.mono HB9.out.size))
        clear hb HB9 HH
        simp only [show errV 54 0 = .nilIface from rfl]
        go_wp2_with fail
        refine (HR.out w10).mono ?_
        rintro e w11 ⟨rfl, hb⟩
        have HB11 := Lib.hid (HB10.out.trans (hb.mono HB10.out.size))
        clear hb HB10 HR
        simp only [show errV 54 0 = .nilIface from rfl]
        go_wp2
        go_ret
        exact ⟨rfl, HB11.out⟩
      · go_enter Try.func5, Try.ntmps5
        go_wp2_with fail
        obtain ⟨q, hq⟩ : ∃ q, Hid (q = W.heap.size) := ⟨_, rfl⟩
        rw [← hq.out] at HX ⊢
        generalize W.alloc (.cells #[.int .i64 seq, .int .i64 next, .int .i64 cur, .slice ad len cap] 24) = w1 at HX HB0 HF0 ⊢
        have HXh := Lib.hid HX
        clear HX
        refine (HEx.out w1).mono ?_
        rintro e w2 ⟨rfl, hb⟩
        have HB2 := Lib.hid (HB0.out.trans (hb.mono HB0.out.size))
        have HF2 := Lib.hid (HF0.out.below hb)
        have HX2 := Lib.hid (HXh.out.of_block (hb.block q HXh.out.lt))
        clear hb HB0 HF0 HXh
        have x0 := HX2.out.cell 0 _ rfl
        have x1 := HX2.out.cell 1 _ rfl
        have x2 := HX2.out.cell 2 _ rfl
        have x3 := HX2.out.cell 3 _ rfl
        go_wp2_with fail
        refine (HE.out w2 HF2.out).mono ?_
        rintro e w6 ⟨rfl, hb⟩
        have HB6 := Lib.hid (HB2.out.trans (hb.mono HB2.out.size))
        clear hb HB2 HF2 HX2 x0 x1 x2 x3 HE
        simp only [show errV 54 1 = .iface 54 (.int .i64 1) from rfl]
        go_upto_region 8 with (fail)
        go_wp2_with fail
        refine (HD2.out w6).mono ?_
        rintro e w7 ⟨hb, v, rfl, hv⟩
        obtain ⟨a2, m2, k2, rfl⟩ : ∃ a m k, v = .slice a m k := by rcases hv.2 with ⟨rfl, _⟩ | ⟨g, cap, cur, rfl, _⟩ <;> exact ⟨_, _, _, rfl⟩
        have HB7 := Lib.hid (HB6.out.trans (hb.mono HB6.out.size))
        clear hb HB6 HD2 hv
        simp only [show ∀ k : Nat, errV 54 (k + 1) = .iface 54 (.int .i64 ((k + 1 : Nat) : Int)) from fun _ => rfl]
        go_upto_region 13 with (fail)
        have HB9 := Lib.hid (HB7.out.alloc HB7.out.size (.cells #[.int .i64 (s' : Int), .int .i64 (n' : Int), .int .i64 (c' : Int), .slice a2 m2 k2] 24))
        clear HB7
        generalize w7.alloc (.cells #[.int .i64 (s' : Int), .int .i64 (n' : Int), .int .i64 (c' : Int), .slice a2 m2 k2] 24) = w9 at HB9 ⊢
        go_wp2_with fail
        refine (HH.out w9).mono ?_
        rintro e w10 ⟨rfl, hb⟩
        have HB10 := Lib.hid (HB9.out.trans (hb.mono HB9.out.size))
        clear hb HB9 HH
        simp only [show errV 54 1 = .iface 54 (.int .i64 1) from rfl]
        go_wp2_with fail
        refine (is11 w10).mono ?_
        rintro e w11 ⟨rfl, rfl⟩
        go_wp2
        go_ret
        exact ⟨rfl, HB10.out⟩

end Go.Proofs.Ytbfdhonmmoikdaa
