/- The chapter's examples of layer 8 hold of the program, over the contract of its log. -/
import Derived.Test.YtfbgagpihhbllaaGreatDoorJ39
import Derived.Test.YtfbgagpihhbllaaGreatDoorJ23
import Derived.Test.YtfbgagpihhbllaaGreatDoorJ26
import Derived.BigQuiet
namespace Go.Proofs.YtfbgagpihhbllaaGreatDoor
open Go.RowKit Go.Proofs Go.Proofs.Pk
set_option maxRecDepth 10000
attribute [local simp] mk_get wrap64_u8 mk_extract ByteArray.mk_append_mk get_1k

theorem conv_own8 (w : World) (B g cap : Nat) (T : List UInt8) (N : Nat) (hN : N = T.length) (h : w.ownsRow B 5 1 (.slice (some ⟨g, 0, none⟩) N cap) N (Lib.byteCells T)) :
    (convert 60 9 (.slice (some ⟨g, 0, none⟩) N cap)).run Tryz.prog w = .ok (.string ⟨T.toArray⟩) w := by
  have hc := h.cells rfl
  have := run_convert_bytes_arg (P := Tryz.prog) w 60 5 Tryz.underlying60 Tryz.underlying5 g 0 N cap (T.map fun c => (c.toNat : Int)) (by simp [hN]) (fun i hi => by
    have hiT : i < T.length := by omega
    have := hc i (.int .u8 ((T[i]).toNat)) (by simp [Lib.byteCells, hiT])
    rw [add0] at this
    simpa [hiT, List.getD] using this) 9 Tryz.underlying9
  rw [str_nums] at this
  exact this
theorem zero_make65 (W : World) : (Instr.makeSlice 60 (.int .i64 65) (.int .i64 65)).run Tryz.prog W = .ok (.slice (some ⟨W.heap.size, 0, none⟩) 65 65) (W.alloc (.cells (List.replicate 65 (Value.int .u8 0)).toArray 5)) := by
  obtain ⟨i, hi, hz, hs, hb⟩ := info_parts byte_infoH
  have := run_make (P := Tryz.prog) W 60 5 i _ Tryz.underlying60 hi hz .i64 .i64 65 65 (by omega) (Int.le_refl _) (by rw [hb]; omega) (by omega)
  rw [this, hs]
  simp only [Value.cells]
  rw [show ((65 : Int).toNat * 1) = 65 from rfl, made_rep1 _ 65]
  rfl
theorem zero_conv65 (W : World) : (convert 60 9 (.slice (some ⟨W.heap.size, 0, none⟩) 65 65)).run Tryz.prog (W.alloc (.cells (List.replicate 65 (Value.int .u8 0)).toArray 5)) = .ok (.string ⟨(List.replicate 65 0).toArray⟩) (W.alloc (.cells (List.replicate 65 (Value.int .u8 0)).toArray 5)) := by
  have h := World.ownsRow_lit (e := 5) (base := W.heap.size) (size := 1) W (List.replicate 65 (Value.int .u8 0)).toArray 65 (Nat.le_refl _) (by unfold maxLen; omega) (by simp)
  have e : (List.replicate 65 (Value.int .u8 0)).toArray.toList = Lib.byteCells (List.replicate 65 0) := by simp [Lib.byteCells]
  rw [e] at h
  exact conv_own8 _ _ _ _ (List.replicate 65 0) 65 (by simp) h
theorem faultAt8_kept {w w' : World} {b : Nat} {l c : Int} {inner : Value} {X : Nat → Prop} (h : FaultAt w b l c inner) (hk : Kept X w w') (hb : b < w.heap.size) (hX : ¬X b) : FaultAt w' b l c inner := faultAt_kept h hk hb hX

theorem ex8_n2 : nch ([97, 98] : List UInt8).length = 1 ∧ recN [[97, 98]] = 2 := by decide
theorem ex8_n65 : nch (List.replicate 65 (0 : UInt8)).length = 2 := by rw [List.length_replicate]; decide

set_option maxHeartbeats 2000000 in
theorem examples8 {At : LogOf} (K : WalK At) (w : World) (hg : ErrTy w) : Calls Tryz.prog 8 #[] w fun e w' => e = .returned (.bool true) ∧ Below w.heap.size w w' := by
  have hMd := madeP 4 (by omega) w hg
  rw [show ((4 : Nat) : Int) = 4 from rfl] at hMd
  have HMd := Lib.hid hMd
  clear hMd hg
  go_enter Tryz.func8, Tryz.ntmps8
  go_wp2_with fail
  refine HMd.out.mono ?_
  clear HMd
  rintro e w1 ⟨p, pd, V, vF, X, rfl, hOn, hNew⟩
  have hgm : ((1, 18, 4) : FileN) ∈ V.R.2.2.2 := by rw [hNew.root]; exact List.mem_cons_self ..
  have hLy := lay8 K hOn hNew.alive hNew.fuse (by have := hNew.n; omega) (by rw [hNew.calm]; simp) (1, 18, 4) hgm
  change Calls _ _ #[.pointer (some ⟨p, 0, none⟩), .int .i64 1] _ _ at hLy
  rw [hNew.root] at hLy
  have HLy := Lib.hid hLy
  have HNw := Lib.hid hNew
  clear hLy hOn hgm hNew
  go_wp2_with fail
  refine HLy.out.mono ?_
  clear HLy
  rintro e w2 ⟨pl, V2, vF2, X2, rfl, h2, hL2, hn2, hf2, -, -⟩
  have hA1 := append8 K h2 (by have := HNw.out.n; omega) (by simp) [97, 98] (by simp)
  rw [show ([97, 98] : List UInt8).toArray = #[97, 98] from rfl] at hA1
  have HA1 := Lib.hid hA1
  have HV2 := Lib.hid (And.intro hn2 (And.intro hf2 hL2))
  clear hA1 h2 hn2 hf2 hL2
  go_wp2_with fail
  refine HA1.out.mono ?_
  clear HA1
  rintro e w3 ⟨v3, rfl, -, h3⟩
  rcases h3 with ⟨-, rfl, V3, vF3, X3, h3, hL3, hn3, hf3, -⟩ | ⟨hno, _⟩ | ⟨h0, _⟩
  case inr.inl => exact absurd (by show recN [] + 1 + nch ([97, 98] : List UInt8).length ≤ 4; rw [ex8_n2.1]; decide) hno
  case inr.inr => have := HV2.out.2.1; omega
  have hmk := zero_make65 w3
  have hcv := zero_conv65 w3
  have hk34 : Kept (fun _ => False) w3 (w3.alloc (.cells (List.replicate 65 (Value.int .u8 0)).toArray 5)) := (Kept.refl _ _).alloc _
  have h4 := h3.still K hk34
  have h65 : nch (List.replicate 65 (0 : UInt8)).length = 2 := ex8_n65
  have hlz : (List.replicate 65 (0 : UInt8)).length ≤ 140737488351232 := by rw [List.length_replicate]; omega
  generalize List.replicate 65 (0 : UInt8) = Z at hcv h65 hlz
  generalize w3.alloc (.cells (List.replicate 65 (Value.int .u8 0)).toArray 5) = w4 at hmk hcv hk34 h4
  have HA2 := Lib.hid (append8 K h4 (by have := HNw.out.n; have : V2.D.n ≤ V.D.n + 4 := HV2.out.1; have : V3.D.n ≤ V2.D.n + 4 := hn3; omega) (by simp) Z hlz)
  have HV3 := Lib.hid (And.intro hn3 (hf3 HV2.out.2.1))
  have H65 := Lib.hid h65
  clear h3 h4 hL3 hn3 hf3 hk34 h65 hlz
  go_wp2_with fail
  refine HA2.out.mono ?_
  clear HA2
  rintro e w5 ⟨v5, rfl, -, h5⟩
  rcases h5 with ⟨hfit, _⟩ | ⟨-, he5, vF5, X5, h5, hov5, -⟩ | ⟨h0, _⟩
  case inl => exfalso; rw [H65.out, List.nil_append, ex8_n2.2] at hfit; simp at hfit
  case inr.inr => have := HV3.out.2; omega
  obtain ⟨b5, i5, hb5, rfl, hf5, hi5⟩ := fault_code he5 (by decide)
  have hR := K.room h5.held h5.log.log.fits (by show (4 : Nat) ≤ 4000; omega)
  rw [show roomW ((1, 18, 4) : FileN).2.2 (recN ([] ++ [[97, 98]])) = 64 from by decide] at hR
  have HR := Lib.hid hR
  have H5 := Lib.hid (And.intro h5 (And.intro hb5 (And.intro hf5 (And.intro hi5 (hov5 _ _ rfl)))))
  clear hov5 h5 hb5 hf5 hi5 he5 hmk hcv hR
  go_wp2_with fail
  refine HR.out.mono ?_
  clear HR
  rintro e w6 ⟨rfl, hk6⟩
  have h6 := H5.out.1.still K hk6
  have hop := open8 K h6.on h6.log.alive HV3.out.2 h6.log.calm (by have := HNw.out.n; have : V2.D.n ≤ V.D.n + 4 := HV2.out.1; have : V3.D.n ≤ V2.D.n + 4 := HV3.out.1; omega) (1, 18, 4) (by rw [h6.log.root]; exact h6.log.file) _ h6.log.log.half
  change Calls _ _ #[.pointer (some ⟨p, 0, none⟩), .int .i64 1] _ _ at hop
  rw [h6.log.root] at hop
  have HOp := Lib.hid hop
  have hf6 := faultAt8_kept H5.out.2.2.1 hk6 H5.out.2.1 (fun hf => hf)
  have H6 := Lib.hid (And.intro hf6 (And.intro (Nat.lt_of_lt_of_le H5.out.2.1 hk6.size) h6))
  clear hop h6 hf6 hk6
  go_wp2_with fail
  refine HOp.out.mono ?_
  clear HOp
  rintro e w7 ⟨pl7, ad7, cap7, V7, vF7, X7, rfl, hst7, h7, hL7, hn7, hf7, hk7, hpl7, hg7, hap7⟩
  have hLo := K.lost h7.on.vol h7.on.err h7.on.lt h7.log.alive.gone (by rw [h7.log.calm]; simp) (by have := HNw.out.n; have : V2.D.n ≤ V.D.n + 4 := HV2.out.1; have : V3.D.n ≤ V2.D.n + 4 := HV3.out.1; have : V7.D.n ≤ V3.D.n + 4 := hn7; omega) 9 (by omega) (by rw [h7.log.root]; decide)
  change Calls _ _ #[.pointer (some ⟨p, 0, none⟩), .int .i64 9] _ _ at hLo
  have HLo := Lib.hid hLo
  have hfb7 := H6.out.1
  have hX3 : ¬X5 b5 := H5.out.2.2.2.2
  have HF7 := Lib.hid (faultAt8_kept H6.out.1 hk7 H6.out.2.1 hX3)
  have hX7 : ¬X7 b5 := fun hx => by rcases hg7.1 b5 hx with h | h; exact hX3 h; have := H6.out.2.1; omega
  have H7 := Lib.hid (And.intro h7 (And.intro hst7 (And.intro (Nat.lt_of_lt_of_le H6.out.2.1 hk7.size) (And.intro hX7 hap7))))
  clear hLo hfb7 hX3 hX7 hg7 hap7 h7 hst7 hk7 hpl7 hL7 hn7 hf7
  go_wp2_with fail
  refine HLo.out.mono ?_
  clear HLo
  rintro e w8 ⟨v8, rfl, he8, hl8⟩
  obtain ⟨b8, i8, hb8, rfl, hf8, hi8⟩ := fault_code he8 (by decide)
  obtain ⟨vF8, X8, hOn8, -, -, hk8⟩ := H7.out.1.on.step hl8
  have hf5' := faultAt8_kept HF7.out hk8 H7.out.2.2.1 H7.out.2.2.2.1
  have hAt8 := K.kept H7.out.1.held hk8 H7.out.1.off
  have HLn := Lib.hid (fun (w0 : World) (hk : Kept (fun _ => False) w8 w0) => K.len (K.kept hAt8 hk (fun hf => hf)))
  obtain ⟨gb, go, rfl, hgb, hst8⟩ : ∃ gb go, ad7 = some ⟨gb, go, none⟩ ∧ gb < w7.heap.size ∧ w7.cell? ⟨gb, go + 0, none⟩ = some (.string ⟨([97, 98] : List UInt8).toArray⟩) := by
    rcases H7.out.2.1.2 with h0 | ⟨gb, go, h1, h2, h3⟩
    · simp at h0
    · exact ⟨gb, go, h1, h2, h3 0 (by simp)⟩
  have hs8 : w8.cell? ⟨gb, go, none⟩ = some (.string ⟨#[97, 98]⟩) := by
    rw [hk8.cell (p := ⟨gb, go, none⟩) hgb (H7.out.2.2.2.2 gb go rfl)]; exact hst8
  have hI5 := law_is_yes b5 7 i5 false w8 (by decide) hf5' (by rcases H5.out.2.2.2.1 with ⟨_, h⟩ | ⟨h, _⟩; exact .inl ⟨h, rfl⟩; cases h)
  have HI5 := Lib.hid hI5
  have HI8 := Lib.hid (fun (w0 : World) (hk : Kept (fun _ => False) w8 w0) => law_is_yes b8 8 i8 true w0 (by decide) (faultAt8_kept hf8 hk hb8 (fun hf => hf)) (by rcases hi8 with ⟨h, _⟩ | ⟨_, h⟩; cases h; exact .inr ⟨rfl, h⟩))
  have H8 := Lib.hid hOn8.below
  clear hst8 hgb hI5 hf5' hAt8 hk8 hl8 hOn8 hf8 hi8 he8
  go_wp2_with fail
  refine HI5.out.mono ?_
  rintro e w9 ⟨rfl, m9, rfl⟩
  have hk9 : Kept (fun _ => False) w8 (w8.drewN m9) := (Kept.refl _ _).drewN m9
  have hc9 : (w8.drewN m9).cell? ⟨gb, go, none⟩ = some (.string ⟨#[97, 98]⟩) := hs8
  have HLn9 := Lib.hid (HLn.out _ hk9)
  have HB9 := Lib.hid (H8.out.trans (hk9.below H8.out.size (fun _ hf => hf.elim)))
  have HI9 := Lib.hid (fun (w0 : World) (hk : Kept (fun _ => False) (w8.drewN m9) w0) => HI8.out w0 (hk9.trans hk (fun _ hf => hf.elim)))
  clear hs8 HLn HI8 H8 HI5 hk9
  generalize w8.drewN m9 = wx at hc9 HLn9 HI9 HB9 ⊢
  go_wp2_with fail
  refine HLn9.out.mono ?_
  rintro e w10 ⟨rfl, hk10⟩
  have HI10 := Lib.hid (HI9.out _ hk10)
  have HB10 := Lib.hid (HB9.out.trans (hk10.below HB9.out.size (fun _ hf => hf.elim)))
  go_wp2_with fail
  refine HI10.out.mono ?_
  rintro e w11 ⟨rfl, m11, rfl⟩
  go_wp2
  go_ret
  exact ⟨rfl, belowN HB10.out m11⟩

end Go.Proofs.YtfbgagpihhbllaaGreatDoor
