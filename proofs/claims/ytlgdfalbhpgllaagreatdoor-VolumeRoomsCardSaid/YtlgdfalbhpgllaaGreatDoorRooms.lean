/- The law VolumeRooms, walked to its end. -/
import Derived.Test.YtlgdfalbhpgllaaGreatDoorLaw7
namespace Go.Proofs.YtlgdfalbhpgllaaGreatDoor
open Go.RowKit Go.Proofs Go.Proofs.Pk
set_option maxRecDepth 10000
attribute [local simp] mk_get wrap64_u8 mk_extract ByteArray.mk_append_mk get_1k

theorem bool_infoR : (Tryz.prog.info? 4).map (fun i => (i.zero, i.size, i.bytes)) = some (some (.bool false), 1, 1) := by kernel_rfl
def boolC (l : List Bool) : List Value := l.map .bool
theorem made60 (w : World) : (Instr.makeSlice 50 (.int .i64 60) (.int .i64 60)).run Tryz.prog w = .ok (.slice (some ⟨w.heap.size, 0, none⟩) 60 60) (w.alloc (.cells (boolC (List.replicate 60 false)).toArray 4)) := by
  obtain ⟨i, hi, hz, hs, hb⟩ := info_parts bool_infoR
  have := run_make (P := Tryz.prog) w 50 4 i _ Tryz.underlying50 hi hz .i64 .i64 60 60 (by omega) (Int.le_refl _) (by rw [hb]; decide) (by omega)
  rw [this, hs]
  have e : madeCells #[Value.bool false] 60 = (List.replicate 60 (Value.bool false)).toArray := made_rep 1 (by decide) _ 60
  rw [show (Value.bool false).cells = #[Value.bool false] from rfl, show Int.toNat 60 * 1 = 60 from rfl, e]
  rfl
/-- The volume of the law: the first file is there, and has its text. -/
structure RoomsAt (w1 wr : World) (p pd : Nat) (s : List UInt8) (j : Nat) (V : Vol) (R : RootN) (vF : Value) (X : Nat → Prop) : Prop where
  on : On w1 wr p pd V vF X
  live : Live V 60 R
  n : V.D.n ≤ 62 + 20 * j
  c : V.D.C.length ≤ 60 + 20 * j
  mem : ((1, 18, 2) : FileN) ∈ R.2.2.2
  seen : seenAt V.D 19 = some (padL s)
theorem On.other {w w1 w2 : World} {p pd : Nat} {V : Vol} {vF : Value} {X Y : Nat → Prop} (h : On w w1 p pd V vF X) (hk : Kept Y w1 w2) (hd : ∀ k, X k ∨ vF.ownBlock = some k → ¬Y k) (hY : ∀ k, Y k → w.heap.size ≤ k) : On w w2 p pd V vF X :=
  ⟨h.vol.kept hk hd, h.below.trans (hk.below h.below.size hY), h.err.kept hk (fun hx => by have := hY _ hx; have := h.lt; omega), h.lt⟩
/-- Where a living volume's files lie. -/
theorem live_files {V : Vol} {N : Nat} {R : RootN} (h : Live V N R) : (∀ f ∈ V.R.2.2.2, 18 ≤ f.2.1 ∧ f.2.1 + f.2.2 ≤ N) ∧ (∀ (m n : Nat) (f g : FileN), m < n → V.R.2.2.2[m]? = some f → V.R.2.2.2[n]? = some g → f.2.1 + f.2.2 ≤ g.2.1 ∨ g.2.1 + g.2.2 ≤ f.2.1) := by
  have hp := right_p.1 h.alive.safe.right
  obtain ⟨N', e, hN, hG, hA⟩ := hp.runs
  have hs := h.size
  refine ⟨fun f hf => ?_, fun m n f g hmn hf hg => ?_⟩
  · have h1 := (hp.each (fileI f) (List.mem_map_of_mem hf)).2.2
    have h2 := hG (fileI f).2 (by unfold usedF; exact List.mem_map_of_mem (List.mem_map_of_mem hf))
    unfold fileI at h1 h2
    unfold Pk.Good at h2
    simp only at h1 h2
    omega
  · have hup := hp.up
    have hid : g.1 ≠ f.1 := by
      rw [List.pairwise_map, List.pairwise_iff_getElem] at hup
      obtain ⟨hm, rfl⟩ := List.getElem?_eq_some_iff.1 hf
      obtain ⟨hn, rfl⟩ := List.getElem?_eq_some_iff.1 hg
      have := hup m n hm hn hmn
      unfold fileI at this
      simp only at this
      omega
    exact files_apart hp (List.mem_of_getElem? hf) (List.mem_of_getElem? hg) hid
theorem sector_mem {V : Vol} (h : Alive V) (g : FileN) (hg : g ∈ V.R.2.2.2) (j : Nat) (hj : j < g.2.2) : sectorV V (g.1 : Int) (j : Int) = (((g.2.1 + j : Nat) : Int), 0) := by
  have hp := right_p.1 h.safe.right
  have hfind : V.R.2.2.2.find? (fun f => decide ((f.1 : Int) = (g.1 : Int))) = some g := by
    have hex : ∃ x, V.R.2.2.2.find? (fun f => decide ((f.1 : Int) = (g.1 : Int))) = some x := by
      cases hc : V.R.2.2.2.find? (fun f => decide ((f.1 : Int) = (g.1 : Int))) with
      | some x => exact ⟨x, rfl⟩
      | none => have := List.find?_eq_none.1 hc g hg; simp at this
    obtain ⟨x, hx⟩ := hex
    have h1 : (x.1 : Int) = (g.1 : Int) := by simpa using List.find?_some hx
    have h2 := List.mem_of_find?_eq_some hx
    obtain ⟨i, hi, rfl⟩ := List.getElem_of_mem h2
    obtain ⟨i', hi', rfl⟩ := List.getElem_of_mem hg
    have hup := hp.up
    rw [List.pairwise_map, List.pairwise_iff_getElem] at hup
    rcases Nat.lt_trichotomy i i' with h3 | h3 | h3
    · have := hup i i' hi hi' h3; unfold fileI at this; simp only at this; omega
    · subst h3; exact hx
    · have := hup i' i hi' hi h3; unfold fileI at this; simp only at this; omega
  unfold sectorV
  rw [if_neg (by simp [h.gone]), hfind]
  simp only
  rw [if_neg (by omega)]
  congr 1
theorem rooms_make : makeR 60 (1, 1, 0, []) 2 = (2, 2, 0, [(1, 18, 2)]) := by decide +kernel
theorem take_pad (s : List UInt8) : (padL s).take s.length = s := by unfold padL; rw [List.take_left]

set_option maxHeartbeats 4000000 in
theorem roomsW (s : List UInt8) (ad : Option Addr) (len cap : Nat) (l : List DeedW) (w : World) (hg : ErrTy w) (hs : (s.length : Int) ≤ 140737488351232) (h : DeedsW w ad len l) :
    Calls Tryz.prog 4 #[.string ⟨s.toArray⟩, .slice ad len cap] w fun e w' => e = .returned (.bool true) ∧ Below w.heap.size w w' := by
  have HD := Lib.hid h
  have HE := Lib.hid (examplesP w hg)
  have HG := Lib.hid hg
  clear h hg
  obtain ⟨mm, hmm⟩ : ∃ mm, mm = min s.length 64 := ⟨_, rfl⟩
  have hmin : min (s.length : Int) 64 = (mm : Int) := by omega
  have hmm0 : (0 : Int) ≤ (mm : Int) := by omega
  have hmm1 : (mm : Int) ≤ (s.length : Int) := by omega
  have hmm2 : mm ≤ 64 := by omega
  obtain ⟨t, ht⟩ : ∃ t, Hid (t = s.take mm) := ⟨_, rfl⟩
  have htl : t.length = mm := by rw [ht.out, List.length_take]; omega
  clear hmm
  go_enter Tryz.func4, Tryz.ntmps4
  go_wp2_with fail
  refine HE.out.mono ?_
  clear HE
  rintro e w1 ⟨rfl, hb1⟩
  have hE1 := HG.out.kept (Kept.of_below (fun _ => False) hb1) (fun hf => hf)
  have hN := pNw_ok 60 (by omega) (by omega) w1
  rw [show ((60 : Nat) : Int) = 60 from rfl] at hN
  have HN := Lib.hid hN
  have H1 := Lib.hid (And.intro hb1 hE1)
  clear hN hb1 hE1
  go_wp2_with fail
  refine HN.out.mono ?_
  clear HN
  rintro e w2 ⟨pd, Xd, rfl, hd2, hb2⟩
  have HF := Lib.hid (format_on w1 w2 pd 60 Xd hd2 hb2 H1.out.2 (by omega) (by omega))
  clear hd2 hb2
  go_wp2_with fail
  refine HF.out.mono ?_
  clear HF
  rintro e w3 ⟨p, vF3, X3, rfl, hOn3, -, -⟩
  obtain ⟨hn0, hc0⟩ := format_bound (N := 60) (by omega)
  have hL0 := Live.first (N := 60) (by omega) (by omega)
  obtain ⟨hL1, hid1, hcode1⟩ := hL0.make 2 _ rooms_make (by decide)
  have hM1 := makeP w3 w1.heap.size p pd _ vF3 X3 hOn3.vol hOn3.err hOn3.lt (by omega) (by omega) (fun _ => hL0.alive.safe.right) 2 (by unfold Fit; omega)
  rw [hid1, hcode1] at hM1
  have HM1 := Lib.hid hM1
  obtain ⟨hb1c, hb1n, _⟩ := make_bound (formatV (Dsk.new 60)).1 2
  obtain ⟨V1, hV1⟩ : ∃ V1, V1 = (makeV (formatV (Dsk.new 60)).1 2).1 := ⟨_, rfl⟩
  rw [← hV1] at hL1 hb1c hb1n HM1
  have HOn3 := Lib.hid hOn3
  clear hV1 hM1 hOn3
  go_wp2_with fail
  refine HM1.out.mono ?_
  clear HM1
  rintro e w4 ⟨v, rfl, he, hl⟩
  rcases he with ⟨_, rfl⟩ | ⟨h0, _⟩
  rotate_left
  · exact absurd rfl h0
  obtain ⟨vF4, X4, hOn4, -, -, -⟩ := HOn3.out.step hl
  have hmem1 : ((1, 18, 2) : FileN) ∈ V1.R.2.2.2 := by rw [hL1.root]; exact List.mem_singleton.2 rfl
  obtain ⟨-, hseen, hwcode⟩ := write_seen hL1.alive hL1.fuse (1, 18, 2) hmem1 1 (by decide) t (by omega)
  have hW := writeP w4 w1.heap.size p pd V1 vF4 X4 hOn4.vol hOn4.err hOn4.lt (by omega) (by omega) 1 1 (by unfold Fit; omega) t
  have hgo := write_goes hL1.alive 1 1 t (by omega)
  have hL2 := hL1.of_goes hgo
  obtain ⟨hb2c, hb2n, _⟩ := write_bound V1 1 1 t
  simp only at hseen hwcode
  rw [show (((1 : Nat) : Int)) = 1 from rfl] at hseen hwcode
  rw [hwcode] at hW
  obtain ⟨V2, hV2⟩ : ∃ V2, V2 = (writeV V1 1 1 t).1 := ⟨_, rfl⟩
  rw [← hV2] at hW hL2 hb2c hb2n hseen
  have HW := Lib.hid hW
  have HOn4 := Lib.hid hOn4
  clear hV2 hW hgo hOn4 hl hwcode HOn3
  go_wp2_with fail
  rw [← ht.out]
  refine HW.out.mono ?_
  clear HW
  rintro e w5 ⟨v, rfl, he, hl⟩
  rcases he with ⟨_, rfl⟩ | ⟨h0, _⟩
  rotate_left
  · exact absurd rfl h0
  obtain ⟨vF5, X5, hOn5, -, -, -⟩ := HOn4.out.step hl
  have hmem2 : ((1, 18, 2) : FileN) ∈ V2.R.2.2.2 := by rw [hL2.root, ← hL1.root] at *; exact hmem1
  have HI : Hid (∃ V R vF X, RoomsAt w1 w5 p pd t 0 V R vF X) := ⟨V2, V2.R, vF5, X5, hOn5, ⟨hL2.alive, hL2.fuse, hL2.size, rfl⟩, by omega, by omega, hmem2, hseen⟩
  clear hOn5 hl HOn4 hL0 hL1 hL2 hb1c hb1n hb2c hb2n hn0 hc0 hmem1 hmem2 hseen
  go_wp2
  go_loopw [12, 13, 14, 15, 16, 17, 18] (fun i _ _ _ _ _ _ wr => ∃ j : Nat, j ≤ len ∧ j ≤ 60 ∧ i = .int .i64 (j : Int) ∧ Hid (∃ V R vF X, RoomsAt w1 wr p pd t j V R vF X)) (fun i _ _ _ _ _ _ _ => 60 - (intOf i).toNat)
  case atStart => exact ⟨0, Nat.zero_le _, by omega, rfl, HI⟩
  case round =>
    obtain ⟨j, hj, hj60, rfl, hI⟩ := hrel
    by_cases hlt : (j : Int) < (len : Int) ∧ (j : Int) < 60
    · obtain ⟨hlt1, hlt2⟩ := hlt
      have hjl : j < len := by omega
      have hj59 : j < 60 := by omega
      obtain ⟨V, R, vF, X, hA⟩ := hI.out
      obtain ⟨b, off, u, rfl, hu, d0, d1, d2, d3, d4, fk, fa, fb, fl⟩ := deedsW_cells HD.out (H1.out.1.trans (hA.on.below.mono H1.out.1.size)) j hjl
      have hj0 : (0 : Int) ≤ (j : Int) := by omega
      have hwj : IntKind.i64.wrap ((j : Int) + 1) = (j : Int) + 1 := IntWalk.i64_in _ (by omega)
      have hN6 := Holds.new wr (dcW u) 35
      change Holds (wr.alloc (.cells #[.int .i64 u.kind, .int .i64 u.a, .int .i64 u.b, .string ⟨u.s.toArray⟩, .slice u.kad u.klen u.kcap] 35)) _ _ _ at hN6
      have hOn6 := hA.on.still (w2 := wr.alloc (.cells #[.int .i64 u.kind, .int .i64 u.a, .int .i64 u.b, .string ⟨u.s.toArray⟩, .slice u.kad u.klen u.kcap] 35)) ((Kept.refl _ _).alloc _)
      have hpk := pick_fun
      obtain ⟨f, hP, hfn, hf4⟩ := hpk
      have hlive := hA.live
      have hmemR := hA.mem
      rw [← hlive.root] at hmemR
      have hnfpos : 0 < V.R.2.2.2.length := List.length_pos_of_mem hmemR
      have hfew := hA.on.vol.few.1
      have hHP := Lib.hid hP
      have HFN := Lib.hid (And.intro hfn hf4)
      have HU := Lib.hid (And.intro fk (And.intro fa (And.intro fb fl)))
      have HA := Lib.hid hA
      obtain ⟨q, hq⟩ : ∃ q, Hid (q = wr.heap.size) := ⟨_, rfl⟩
      clear hI hA hP hfn hf4 fk fa fb fl hu
      go_upto_region 16 with (fail)
      clear d0 d1 d2 d3 d4
      rw [← hq.out] at hN6 ⊢
      generalize wr.alloc (.cells #[.int .i64 u.kind, .int .i64 u.a, .int .i64 u.b, .string ⟨u.s.toArray⟩, .slice u.kad u.klen u.kcap] 35) = w6 at hN6 hOn6 ⊢
      have HR := Lib.hid (rootP w6 w1.heap.size p pd V vF X hOn6.vol)
      have H6 := Lib.hid (And.intro hN6 hOn6)
      clear hN6 hOn6
      have hfl := root_files
      go_wp2_with fail
      refine HR.out.mono ?_
      clear HR
      rintro e w7 ⟨hk7, vR, rfl, ho7⟩
      have hfit := fun g hg => (HA.out.on.vol.few.2.2.2.2 g hg).1
      obtain ⟨al, cl, rfl, hFl⟩ := own_files ho7 rfl hfit
      obtain ⟨nf, hnf⟩ : ∃ nf, Hid (nf = V.R.2.2.2.length) := ⟨_, rfl⟩
      rw [← hnf.out] at hFl hnfpos hfew ⊢
      have hN7 := H6.out.1.of_block (hk7.block q H6.out.1.lt (fun hf => hf))
      have hOn7 := H6.out.2.still hk7
      have e0 := hN7.cell 0 _ rfl
      have e1 := hN7.cell 1 _ rfl
      have hmax : max (1 : Int) (nf : Int) = (nf : Int) := by omega
      obtain ⟨k, hk⟩ : ∃ k, Hid (k = pickN u.a nf) := ⟨_, rfl⟩
      have hkl : k < nf := by rw [hk.out]; exact pickN_lt _ hnfpos
      have fa : f u.a (nf : Int) = (k : Int) := by rw [hk.out]; exact HFN.out.1 u.a nf
      have hne0 : ((nf : Int) == 0) = false := by simp; omega
      have hge0 : ¬(nf : Int) ≤ (k : Int) := by omega
      have hk0 : (0 : Int) ≤ (k : Int) := by omega
      have hkl' : (k : Int) < (nf : Int) := by omega
      have hn0 : (0 : Int) < (nf : Int) := by omega
      have hn5 : (nf : Int) ≤ 5000 := by omega
      have H7 := Lib.hid (And.intro hN7 (And.intro hOn7 hFl))
      clear hN7 hOn7 ho7 hk7 hfit
      go_upto_region 18 with (go_at_call 11; refine (hHP.out _ _ _ ⟨HU.out.2.1, hn0, hn5⟩).mono ?_; rintro e wn ⟨rfl, rfl⟩)
      obtain ⟨g, og, rfl, hgl, r1, -⟩ := files_at H7.out.2.2 k hkl
      obtain ⟨gk, hgk⟩ : ∃ gk, gk = V.R.2.2.2[k]'(by have := hnf.out; omega) := ⟨_, rfl⟩
      have hget : (V.R.2.2.2.map fileI)[k]'(by rw [H7.out.2.2.1]; exact hkl) = fileI gk := by rw [hgk]; simp
      rw [hget] at r1
      have d0 : w7.cell? ⟨g, og + k * 3, none⟩ = some (.int .i64 (gk.1 : Int)) := r1 0 _ rfl
      have hgk? : Hid (V.R.2.2.2[pickN u.a V.R.2.2.2.length]? = some gk) := by
        show _ = _
        rw [← hnf.out, ← hk.out, hgk]
        exact List.getElem?_eq_getElem _
      obtain ⟨kd, hkd⟩ : ∃ kd, Hid (kd = pickN u.kind 4) := ⟨_, rfl⟩
      have fk : f u.kind 4 = (kd : Int) := by rw [hkd.out]; exact HFN.out.2 u.kind
      clear r1 hget hgk fa hmax
      by_cases hskip : 0 < (kd : Int) ∧ gk.1 = 1
      · obtain ⟨hk1, hg1⟩ := hskip
        rw [hg1] at d0
        have HI7 : Hid (∃ V R vF X, RoomsAt w1 w7 p pd t (j + 1) V R vF X) := ⟨V, R, vF, X, H7.out.2.1, HA.out.live, by have := HA.out.n; omega, by have := HA.out.c; omega, HA.out.mem, HA.out.seen⟩
        clear hfew hnfpos hlive hmemR hg1
        go_wp2_with (go_at_call 11; refine (hHP.out _ _ _ ⟨HU.out.1, by decide, by decide⟩).mono ?_; rintro e wn ⟨rfl, rfl⟩)
        go_roundw
        case rel => exact ⟨j + 1, by omega, by omega, by first | rfl | go_num, HI7⟩
        case measure => simp [intOf]; omega
      · have hcase : (kd : Int) = 0 ∨ 0 < (kd : Int) ∧ ((gk.1 : Int) == 1) = false := by
          by_cases h0 : (kd : Int) = 0
          · exact .inl h0
          · refine .inr ⟨by omega, ?_⟩
            have : gk.1 ≠ 1 := fun h => hskip ⟨by omega, h⟩
            simp; omega
        have hu : Hid (pickN u.kind 4 = 0 ∨ ∀ g, V.R.2.2.2[pickN u.a V.R.2.2.2.length]? = some g → g.1 ≠ ((1, 18, 2) : FileN).1) := by
          rcases hcase with h0 | ⟨_, h1⟩
          · exact .inl (by have := hkd.out; omega)
          · refine .inr fun g hg => ?_
            rw [hgk?.out] at hg
            injection hg with hg
            rw [← hg]
            have h2 : ¬(gk.1 : Int) = 1 := by simpa using h1
            show gk.1 ≠ 1
            omega
        clear hskip
        have hAF := act_file HA.out.live.alive HA.out.live.fuse (1, 18, 2) hmemR u hu.out 19 (by decide) (by decide)
        obtain ⟨hm8, hs8, -, -⟩ := hAF
        rw [HA.out.seen] at hs8
        have hL8 := HA.out.live.of_goes (act_goes HA.out.live.alive u)
        obtain ⟨hb8c, hb8n, _⟩ := act_bound V (by have := hnf.out; omega) u
        have hAct := act_all (volK pd) H7.out.2.1.at (HA.out.live.small (by have := HA.out.n; omega) (by have := HA.out.c; omega)) H7.out.2.1.err H7.out.2.1.lt u HU.out.1 HU.out.2.1 HU.out.2.2.1 HU.out.2.2.2
        have hdc : (dcW u).toArray = #[.int .i64 u.kind, .int .i64 u.a, .int .i64 u.b, .string ⟨u.s.toArray⟩, .slice u.kad u.klen u.kcap] := rfl
        rw [hdc] at hAct
        obtain ⟨V', hV'⟩ : ∃ V', V' = actV V u := ⟨_, rfl⟩
        rw [← hV'] at hAct hL8 hb8c hb8n hs8 hm8
        have HAct := Lib.hid hAct
        have e2 := H7.out.1.cell 2 _ rfl
        have e3 := H7.out.1.cell 3 _ rfl
        have e4 := H7.out.1.cell 4 _ rfl
        have hn8 : Hid (V'.D.n ≤ 62 + 20 * (j + 1) ∧ V'.D.C.length ≤ 60 + 20 * (j + 1)) := ⟨by have := HA.out.n; omega, by have := HA.out.c; omega⟩
        have HM8 := Lib.hid (And.intro hm8 (And.intro hs8 hL8))
        clear hAct hV' hdc hL8 hs8 hm8 hb8c hb8n hlive hmemR
        rcases hcase with h0 | ⟨h0, h1⟩
        all_goals
          go_wp2_with (first | (go_at_call 9; fail) | (go_at_call 11; refine (hHP.out _ _ _ ⟨HU.out.1, by decide, by decide⟩).mono ?_; rintro e wn ⟨rfl, rfl⟩))
          refine HAct.out.mono ?_
          clear HAct d0 e0 e1 e2 e3 e4
          rintro e w8 ⟨⟨v, rfl⟩, hleft⟩
          obtain ⟨vF8, X8, hOn8, -, -, -⟩ := H7.out.2.1.left hleft
          have HR8 := Lib.hid (rootP w8 w1.heap.size p pd V' vF8 X8 hOn8.vol)
          have HOn8 := Lib.hid hOn8
          clear hleft hOn8
          go_wp2_with fail
          refine HR8.out.mono ?_
          clear HR8
          rintro e w9 ⟨hk9, vR9, rfl, ho9⟩
          have hfit9 := fun g hg => (HOn8.out.vol.few.2.2.2.2 g hg).1
          have hfew9 := HOn8.out.vol.few.1
          obtain ⟨a9, c9, rfl, hF9⟩ := own_files ho9 rfl hfit9
          obtain ⟨n9, hn9⟩ : ∃ n9, Hid (n9 = V'.R.2.2.2.length) := ⟨_, rfl⟩
          rw [← hn9.out] at hF9 hfew9 ⊢
          have hOn9 := HOn8.out.still hk9
          have hm := made60 w9
          obtain ⟨C0, hC0⟩ : ∃ C0, C0 = boolC (List.replicate 60 false) := ⟨_, rfl⟩
          rw [← hC0] at hm
          have HC0 := Lib.hid hC0
          clear hC0
          have hN10 := Holds.new w9 C0 4
          have hOn10 := hOn9.still (w2 := w9.alloc (.cells C0.toArray 4)) ((Kept.refl _ _).alloc _)
          have hk910 : Kept (fun _ => False) w9 (w9.alloc (.cells C0.toArray 4)) := (Kept.refl _ _).alloc _
          have hlt9 := fun k hk => (hOn9.vol.lt k hk).2
          obtain ⟨g10, hg10⟩ : ∃ g10, Hid (g10 = w9.heap.size) := ⟨_, rfl⟩
          have hw19 : w1.heap.size ≤ w9.heap.size := hOn9.below.size
          obtain ⟨hrng, hapt⟩ := live_files HM8.out.2.2
          have HRG := Lib.hid (And.intro hrng hapt)
          clear hk9 ho9 hfit9 hOn9 hrng hapt
          go_upto_region 22 with (fail)
          clear hm
          rw [← hg10.out] at hN10 ⊢
          generalize w9.alloc (.cells C0.toArray 4) = w10 at hN10 hOn10 hk910 ⊢
          have HOn10 := Lib.hid hOn10
          have HF9 := Lib.hid hF9
          have HK910 := Lib.hid hk910
          have HLT9 := Lib.hid hlt9
          have HI10 : Hid (∃ C : List Bool, Holds w10 g10 (boolC C) 4 ∧ C.length = 60 ∧ Kept (fun k => k = g10) w10 w10 ∧ ∀ x : Nat, C[x]? = some true → ∃ (m : Nat) (f : FileN), m < 0 ∧ V'.R.2.2.2[m]? = some f ∧ f.2.1 ≤ x ∧ x < f.2.1 + f.2.2) :=
            ⟨List.replicate 60 false, by rw [← HC0.out]; exact hN10, by simp, Kept.refl _ _, fun x hx => by rw [List.getElem?_replicate] at hx; split at hx <;> simp at hx⟩
          clear hN10 hOn10 hk910 hF9 hlt9
          go_wp2
          go_loopw [17, 18] (fun nn _ wm => ∃ i : Nat, i ≤ n9 ∧ nn = .int .i64 (i : Int) ∧ Hid (∃ C : List Bool, Holds wm g10 (boolC C) 4 ∧ C.length = 60 ∧ Kept (fun k => k = g10) w10 wm ∧ ∀ x : Nat, C[x]? = some true → ∃ (m : Nat) (f : FileN), m < i ∧ V'.R.2.2.2[m]? = some f ∧ f.2.1 ≤ x ∧ x < f.2.1 + f.2.2)) (fun nn _ _ => 100 - (intOf nn).toNat)
          case atStart => exact ⟨0, Nat.zero_le _, rfl, HI10⟩
          case round =>
            obtain ⟨i, hi, rfl, hIm⟩ := hrel
            by_cases hin : (i : Int) < (n9 : Int)
            · have hin' : i < n9 := by omega
              obtain ⟨C, hC, hCl, hKm, hcov⟩ := hIm.out
              obtain ⟨gl, ol, rfl, hgll, r9, -⟩ := files_at HF9.out i hin'
              obtain ⟨fi, hfi⟩ : ∃ fi, fi = V'.R.2.2.2[i]'(by have := hn9.out; omega) := ⟨_, rfl⟩
              have hget9 : (V'.R.2.2.2.map fileI)[i]'(by rw [HF9.out.1]; exact hin') = fileI fi := by rw [hfi]; simp
              rw [hget9] at r9
              have hfi? : Hid (V'.R.2.2.2[i]? = some fi) := by show _ = _; rw [hfi]; exact List.getElem?_eq_getElem _
              have hfr := HRG.out.1 fi (List.mem_of_getElem? hfi?.out)
              obtain ⟨fi0, at0, many0⟩ := fi
              simp only at hfr
              have hglne : gl ≠ g10 := by have := hg10.out; omega
              have HC9 : Hid (∀ wz : World, Kept (fun k => k = g10) w10 wz → wz.cell? ⟨gl, ol + i * 3 + 1, none⟩ = some (.int .i64 (at0 : Int)) ∧ wz.cell? ⟨gl, ol + i * 3 + 2, none⟩ = some (.int .i64 (many0 : Int))) := fun wz hz => by
                have hk := HK910.out.trans hz (Y := fun k => k = g10) (X := fun _ => False) (fun k hk => .inr (by have := hg10.out; omega))
                exact ⟨by rw [hk.cell (p := ⟨gl, ol + i * 3 + 1, none⟩) hgll (fun hf => hf)]; exact r9 1 _ rfl, by rw [hk.cell (p := ⟨gl, ol + i * 3 + 2, none⟩) hgll (fun hf => hf)]; exact r9 2 _ rfl⟩
              obtain ⟨e1, e2⟩ := HC9.out wr hKm
              have hi0 : (0 : Int) ≤ (i : Int) := by omega
              have hwi : IntKind.i64.wrap ((i : Int) + 1) = (i : Int) + 1 := IntWalk.i64_in _ (by omega)
              have hwam : IntKind.i64.wrap ((at0 : Int) + (many0 : Int)) = (at0 : Int) + (many0 : Int) := IntWalk.i64_in _ (by omega)
              have HI11 : Hid (∃ C : List Bool, Holds wr g10 (boolC C) 4 ∧ C.length = 60 ∧ Kept (fun k => k = g10) w10 wr ∧ ∀ x : Nat, C[x]? = some true → (∃ (m : Nat) (f : FileN), m < i ∧ V'.R.2.2.2[m]? = some f ∧ f.2.1 ≤ x ∧ x < f.2.1 + f.2.2) ∨ (at0 ≤ x ∧ x < at0)) :=
                ⟨C, hC, hCl, hKm, fun x hx => .inl (hcov x hx)⟩
              clear r9 hget9 hC hCl hKm hcov hIm hfi
              go_wp2
              clear e1 e2
              go_loopw [18] (fun aa wi => ∃ y : Nat, at0 ≤ y ∧ y ≤ at0 + many0 ∧ aa = .int .i64 (y : Int) ∧ Hid (∃ C : List Bool, Holds wi g10 (boolC C) 4 ∧ C.length = 60 ∧ Kept (fun k => k = g10) w10 wi ∧ ∀ x : Nat, C[x]? = some true → (∃ (m : Nat) (f : FileN), m < i ∧ V'.R.2.2.2[m]? = some f ∧ f.2.1 ≤ x ∧ x < f.2.1 + f.2.2) ∨ (at0 ≤ x ∧ x < y))) (fun aa _ => 100 - (intOf aa).toNat)
              case atStart => exact ⟨at0, Nat.le_refl _, by omega, rfl, HI11⟩
              case round =>
                obtain ⟨y, hy1, hy2, rfl, hIi⟩ := hrel
                obtain ⟨C, hC, hCl, hKi, hcov⟩ := hIi.out
                obtain ⟨e1, e2⟩ := HC9.out wr hKi
                by_cases hya : (y : Int) < (at0 : Int) + (many0 : Int)
                · have hyC : y < C.length := by omega
                  have hCy : C[y]? = some false := by
                    cases hc : C[y]'hyC with
                    | false => rw [List.getElem?_eq_getElem hyC, hc]
                    | true =>
                      rcases hcov y (by rw [List.getElem?_eq_getElem hyC, hc]) with ⟨m, f, hmi, hmf, hm1, hm2⟩ | ⟨h1, h2⟩
                      · have := HRG.out.2 m i f _ hmi hmf hfi?.out
                        simp only at this
                        omega
                      · omega
                  have u0 : wr.cell? ⟨g10, y, none⟩ = some (.bool false) := hC.cell y _ (by unfold boolC; rw [List.getElem?_map, hCy]; rfl)
                  have uf : wr.frozen? ⟨g10, y, none⟩ = false := hC.free y
                  have hy18 : decide ((y : Int) < 18) = false := by rw [decide_eq_false_iff_not]; omega
                  have hy60 : ¬(60 : Int) ≤ (y : Int) := by omega
                  have hy0 : (0 : Int) ≤ (y : Int) := by omega
                  have hy60' : (y : Int) < 60 := by omega
                  have hwy : IntKind.i64.wrap ((y : Int) + 1) = (y : Int) + 1 := IntWalk.i64_in _ (by omega)
                  have hC2 := hC.set y (.bool true)
                  have hbs : (boolC C).set y (.bool true) = boolC (C.set y true) := by unfold boolC; rw [List.map_set]
                  rw [hbs] at hC2
                  have hI2 : Hid (∃ C : List Bool, Holds (wr.setCell ⟨g10, y, none⟩ (.bool true)) g10 (boolC C) 4 ∧ C.length = 60 ∧ Kept (fun k => k = g10) w10 (wr.setCell ⟨g10, y, none⟩ (.bool true)) ∧ ∀ x : Nat, C[x]? = some true → (∃ (m : Nat) (f : FileN), m < i ∧ V'.R.2.2.2[m]? = some f ∧ f.2.1 ≤ x ∧ x < f.2.1 + f.2.2) ∨ (at0 ≤ x ∧ x < y + 1)) := by
                    refine ⟨C.set y true, hC2, by rw [List.length_set]; exact hCl, hKi.setCell (X := fun k => k = g10) (p := ⟨g10, y, none⟩) rfl _, fun x hx => ?_⟩
                    by_cases hxy : x = y
                    · exact .inr (by omega)
                    · rw [List.getElem?_set_ne (fun h => hxy h.symm)] at hx
                      rcases hcov x hx with h | h
                      · exact .inl h
                      · exact .inr (by omega)
                  clear hC hCl hKi hcov hC2 hbs hCy hyC hIi
                  go_upto_region 26 with (fail)
                  go_quiet (fail)
                  have hI3 : Hid (∃ C : List Bool, Holds ((wr.drewN nq).setCell ⟨g10, y, none⟩ (.bool true)) g10 (boolC C) 4 ∧ C.length = 60 ∧ Kept (fun k => k = g10) w10 ((wr.drewN nq).setCell ⟨g10, y, none⟩ (.bool true)) ∧ ∀ x : Nat, C[x]? = some true → (∃ (m : Nat) (f : FileN), m < i ∧ V'.R.2.2.2[m]? = some f ∧ f.2.1 ≤ x ∧ x < f.2.1 + f.2.2) ∨ (at0 ≤ x ∧ x < y + 1)) := by
                    obtain ⟨C, h1, h2, h3, h4⟩ := hI2.out
                    exact ⟨C, h1, h2, h3.drewN nq, h4⟩
                  clear e1 e2 hI2
                  go_wp2
                  go_roundw
                  case rel => exact ⟨y + 1, by omega, by omega, by first | rfl | go_num, hI3⟩
                  case measure => simp [intOf]; omega
                · have hyy : y = at0 + many0 := by omega
                  have hI4 : Hid (∃ C : List Bool, Holds wr g10 (boolC C) 4 ∧ C.length = 60 ∧ Kept (fun k => k = g10) w10 wr ∧ ∀ x : Nat, C[x]? = some true → ∃ (m : Nat) (f : FileN), m < i + 1 ∧ V'.R.2.2.2[m]? = some f ∧ f.2.1 ≤ x ∧ x < f.2.1 + f.2.2) := by
                    refine ⟨C, hC, hCl, hKi, fun x hx => ?_⟩
                    rcases hcov x hx with ⟨m, f, h1, h2⟩ | ⟨h1, h2⟩
                    · exact ⟨m, f, by omega, h2⟩
                    · exact ⟨i, _, by omega, hfi?.out, h1, by simp only; omega⟩
                  clear hC hCl hKi hcov hIi
                  go_upto_region 26 with (fail)
                  go_quiet (fail)
                  have hI5 : Hid (∃ C : List Bool, Holds (wr.drewN nq) g10 (boolC C) 4 ∧ C.length = 60 ∧ Kept (fun k => k = g10) w10 (wr.drewN nq) ∧ ∀ x : Nat, C[x]? = some true → ∃ (m : Nat) (f : FileN), m < i + 1 ∧ V'.R.2.2.2[m]? = some f ∧ f.2.1 ≤ x ∧ x < f.2.1 + f.2.2) := by
                    obtain ⟨C, h1, h2, h3, h4⟩ := hI4.out
                    exact ⟨C, h1, h2, h3.drewN nq, h4⟩
                  clear e1 e2 hI4 hyy
                  go_wp2
                  go_roundw
                  case rel => exact ⟨i + 1, by omega, by first | rfl | go_num, hI5⟩
                  case measure => simp [intOf]; omega
            · obtain ⟨C, _, _, hKm, _⟩ := hIm.out
              have hOnF := HOn10.out.other hKm (fun k hk e => by
                have h1 := HLT9.out k hk
                have h2 := hg10.out
                omega) (fun k e => by have := hg10.out; omega)
              have HIF : Hid (∃ V R vF X, RoomsAt w1 wr p pd t (j + 1) V R vF X) := ⟨V', _, vF8, X8, hOnF, HM8.out.2.2, hn8.out.1, hn8.out.2, by rw [← HM8.out.2.2.root]; exact HM8.out.1, HM8.out.2.1⟩
              clear hKm hOnF hIm
              go_wp2
              go_roundw
              case rel => exact ⟨j + 1, by omega, by omega, by first | rfl | go_num, HIF⟩
              case measure => simp [intOf]; omega
    · obtain ⟨V, R, vF, X, hA⟩ := hI.out
      have HB : Hid (Below w.heap.size w wr) := H1.out.1.trans (hA.on.below.mono H1.out.1.size)
      have hmem : ((1, 18, 2) : FileN) ∈ V.R.2.2.2 := by rw [hA.live.root]; exact hA.mem
      have hsec := sector_mem hA.live.alive (1, 18, 2) hmem 1 (by decide)
      have hrd := read_seen hA.live.alive.off 19 _ hA.seen
      simp only at hsec
      rw [show ((1 : Nat) : Int) = 1 from rfl, show ((18 + 1 : Nat) : Int) = 19 from rfl] at hsec
      rw [show ((19 : Nat) : Int) = 19 from rfl] at hrd
      have hRd := readP wr w1.heap.size p pd V vF X hA.on.vol 1 1 (by unfold Fit; omega) (by rw [hsec]) (by rw [hsec]; simp only; rw [hrd])
      rw [hsec] at hRd
      simp only at hRd
      rw [hrd] at hRd
      simp only at hRd
      have hptl : (padL t).length = 64 := padL_length t (by omega)
      have htk : (padL t).take t.length = t := take_pad t
      obtain ⟨pt, hpt⟩ : ∃ pt, pt = padL t := ⟨_, rfl⟩
      rw [← hpt] at hRd hptl htk
      have HRd := Lib.hid hRd
      have htl64 : (t.length : Int) ≤ 64 := by omega
      have htl0 : (0 : Int) ≤ (t.length : Int) := by omega
      clear hRd hI hmem hsec hrd hpt htl hmm1 hmm0 hmin
      by_cases h1 : (j : Int) < (len : Int)
      case' pos =>
        have h2 : decide ((j : Int) < 60) = false := by rw [decide_eq_false_iff_not]; omega
      all_goals
        clear hA
        go_wp2_with fail
        refine HRd.out.mono ?_
        clear HRd
        rintro e w6 ⟨rfl, hk6⟩
        have HB6 : Hid (Below w.heap.size w w6) := HB.out.trans (hk6.below HB.out.size (fun _ hf => hf.elim))
        clear hk6
        go_wp2
        go_ret
        exact ⟨rfl, HB6.out⟩

end Go.Proofs.YtlgdfalbhpgllaaGreatDoor
