/- The law WalApart, walked to its end over the contract of the program's log. -/
import Derived.Test.YtfbgagpihhbllaaGreatDoorEx8
import Derived.Test.YtfbgagpihhbllaaGreatDoorJ40
import Derived.Test.YtfbgagpihhbllaaGreatDoorJ08
namespace Go.Proofs.YtfbgagpihhbllaaGreatDoor
open Go.RowKit Go.Proofs Go.Proofs.Pk
set_option maxRecDepth 10000
attribute [local simp] mk_get wrap64_u8 mk_extract ByteArray.mk_append_mk get_1k

theorem strs_at {w w' : World} {ad : Option Addr} {len : Nat} {l : List (List UInt8)} (h : Strs w ad len l) (hb : Below w.heap.size w w') (i : Nat) (hi : i < len) : ∃ b off, ad = some ⟨b, off, none⟩ ∧ b < w.heap.size ∧ ∃ h' : i < l.length, w'.cell? ⟨b, off + i, none⟩ = some (.string ⟨(l[i]).toArray⟩) := by
  have hl := h.1
  rcases h.2 with h0 | ⟨b, off, h1, h2, h3⟩
  · rw [h0] at hl; simp at hl; omega
  · exact ⟨b, off, h1, h2, by omega, by rw [hb.cell (p := ⟨b, off + i, none⟩) h2]; exact h3 i (by omega)⟩

set_option maxHeartbeats 4000000 in
theorem apartW {At : LogOf} (K : WalK At) (ad : Option Addr) (len cap : Nat) (l : List (List UInt8)) (w : World) (hg : ErrTy w) (h0 : Strs w ad len l) (b0 : (len : Int) ≤ 140737488351232 ∧ ∀ s ∈ l, s.length ≤ 140737488351232) :
    Calls Tryz.prog 7 #[.slice ad len cap] w fun e w' => e = .returned (.bool true) ∧ Below w.heap.size w w' := by
  have HE := Lib.hid (examples8 K w hg)
  have HS := Lib.hid h0
  have HB0 := Lib.hid b0
  have HG := Lib.hid hg
  clear h0 b0 hg
  go_enter Tryz.func7, Tryz.ntmps7
  go_wp2_with fail
  refine HE.out.mono ?_
  clear HE
  rintro e w1 ⟨rfl, hb1⟩
  have hE1 := HG.out.kept (Kept.of_below (fun _ => False) hb1) (fun hf => hf)
  have hMd := madeP 60 (by omega) w1 hE1
  rw [show ((60 : Nat) : Int) = 60 from rfl] at hMd
  have HMd := Lib.hid hMd
  have HB1 := Lib.hid hb1
  clear hMd hb1 hE1
  go_wp2_with fail
  refine HMd.out.mono ?_
  clear HMd
  rintro e w2 ⟨p, pd, V, vF, X, rfl, hOn, hNew⟩
  have hgm : ((1, 18, 60) : FileN) ∈ V.R.2.2.2 := by rw [hNew.root]; exact List.mem_cons_self ..
  have hLy := lay8 K hOn hNew.alive hNew.fuse (by have := hNew.n; omega) (by rw [hNew.calm]; simp) (1, 18, 60) hgm
  change Calls _ _ #[.pointer (some ⟨p, 0, none⟩), .int .i64 1] _ _ at hLy
  rw [hNew.root] at hLy
  have HLy := Lib.hid hLy
  have HNw := Lib.hid hNew
  clear hLy hOn hgm hNew
  go_wp2_with fail
  refine HLy.out.mono ?_
  clear HLy
  rintro e w3 ⟨pl, V3, vF3, X3, rfl, h3, hL3, hn3, hf3, -, -⟩
  have HI : Hid (∃ V vF X recs, On8 At w1 w3 p pd pl V vF X (oneR 2 1 60) (1, 18, 60) recs ∧ recs.length = 0 ∧ recN recs ≤ 5 * 0 ∧ V.D.fuse < 0 ∧ V.D.n ≤ 120 + 60 * 0 ∧ V.D.L.length = 78) :=
    ⟨V3, vF3, X3, [], h3, rfl, Nat.le_refl _, hf3, by have := HNw.out.n; have : V3.D.n ≤ V.D.n + 60 := hn3; omega, by rw [hL3, HNw.out.size]⟩
  clear h3 hL3 hn3 hf3 HNw
  go_wp2
  go_loopw [9] (fun i wr => ∃ j : Nat, j ≤ len ∧ j ≤ 6 ∧ i = .int .i64 (j : Int) ∧ Hid (∃ V vF X recs, On8 At w1 wr p pd pl V vF X (oneR 2 1 60) (1, 18, 60) recs ∧ recs.length = j ∧ recN recs ≤ 5 * j ∧ V.D.fuse < 0 ∧ V.D.n ≤ 120 + 60 * j ∧ V.D.L.length = 78)) (fun i _ => 6 - (intOf i).toNat)
  case atStart => exact ⟨0, Nat.zero_le _, by omega, rfl, HI⟩
  case round =>
    obtain ⟨j, hj, hj6, rfl, hI⟩ := hrel
    clear HI
    obtain ⟨V4, vF4, X4, recs, h4, hlen, hrn, hf4, hn4, hL4⟩ := hI.out
    have hbw : Below w.heap.size w wr := HB1.out.trans (h4.on.below.mono HB1.out.size)
    by_cases hlt : (j : Int) < (len : Int) ∧ (j : Int) < 6
    · obtain ⟨hlt1, hlt2⟩ := hlt
      obtain ⟨b, off, rfl, hbl, hjl, hcell⟩ := strs_at HS.out hbw j (by omega)
      obtain ⟨s, hs⟩ : ∃ s, s = l[j] := ⟨_, rfl⟩
      have hsl : s.length ≤ 140737488351232 := by rw [hs]; exact HB0.out.2 _ (List.getElem_mem _)
      rw [← hs] at hcell
      have hj0 : (0 : Int) ≤ (j : Int) := by omega
      have hwj : IntKind.i64.wrap ((j : Int) + 1) = (j : Int) + 1 := IntWalk.i64_in _ (by omega)
      obtain ⟨mm, hmm⟩ : ∃ mm, mm = min s.length 200 := ⟨_, rfl⟩
      have hmin : min (s.length : Int) 200 = (mm : Int) := by omega
      have hmm0 : (0 : Int) ≤ (mm : Int) := by omega
      have hmm1 : (mm : Int) ≤ (s.length : Int) := by omega
      have hml : (s.take mm).length = mm := by rw [List.length_take]; omega
      have hnc : nch mm ≤ 4 := by unfold nch; omega
      have HA := Lib.hid (append8 K (h4.still K ((Kept.refl _ wr).drewN 1)) (by omega) (by omega) (s.take mm) (by omega))
      have hout : Hid (∀ k, (X4 k ∨ k = pl) → k ≠ b) := by
        rintro k (hk | rfl)
        · have h1 := (h4.on.vol.lt k (.inl hk)).1; have h2 := HB1.out.size; omega
        · have h1 := h4.low; have h2 := HB1.out.size; omega
      have hbr : b < wr.drew.heap.size := by have := hbw.size; have e : wr.drew.heap.size = wr.heap.size := rfl; omega
      have HBR := Lib.hid hbr
      have HV := Lib.hid (And.intro hlen (And.intro hrn (And.intro hf4 (And.intro hn4 (And.intro hL4 (And.intro hml hnc))))))
      clear h4 hlen hrn hf4 hn4 hL4 hs hsl hmm hI hml hnc hbr hbl
      go_upto_region 11 with (fail)
      refine wp_region_until (fun w' => w'.cell? ⟨b, off + j, none⟩ = some (.string ⟨s.toArray⟩)) 14 (by kernel_rfl) ?_
      have hS0 : wr.drew.cell? ⟨b, off + j, none⟩ = some (.string ⟨s.toArray⟩) := hcell
      refine wpAnyU_take (i := 0) (v := (.pointer (some ⟨pl, 0, none⟩))) (some 45) rfl rfl (by kernel_rfl) (by kernel_rfl) (by kernel_rfl) (by kernel_rfl) (fun _ _ _ h => h) hS0 (yields_of (by kernel_rfl) (fun w hw => by go_simp)) ?_
      refine wpAnyU_take (i := 1) (v := (.slice (some ⟨b, off, none⟩) len cap)) (some 46) rfl rfl (by kernel_rfl) (by kernel_rfl) (by kernel_rfl) (by kernel_rfl) (fun _ _ _ h => h) hS0 (yields_of (by kernel_rfl) (fun w hw => by go_simp)) ?_
      refine wpAnyU_take (i := 2) (v := (.int .i64 (j : Int))) (some 47) rfl rfl (by kernel_rfl) (by kernel_rfl) (by kernel_rfl) (by kernel_rfl) (fun _ _ _ h => h) hS0 (yields_of (by kernel_rfl) (fun w hw => by go_simp)) ?_
      refine wpAnyU_take (i := 3) (v := (.pointer (some ⟨b, off + j, none⟩))) (some 48) rfl rfl (by kernel_rfl) (by kernel_rfl) (by kernel_rfl) (by kernel_rfl) (fun _ _ _ h => h) hS0 (yields_of (by kernel_rfl) (fun w hw => by go_simp)) ?_
      refine wpAnyU_take (i := 4) (v := (.string ⟨s.toArray⟩)) (some 49) rfl rfl (by kernel_rfl) (by kernel_rfl) (by kernel_rfl) (by kernel_rfl) (fun _ _ _ h => h) hS0 (yields_of (by kernel_rfl) (fun w hw => by go_simp)) ?_
      refine wpAnyU_take (i := 5) (v := (.slice (some ⟨b, off, none⟩) len cap)) (some 50) rfl rfl (by kernel_rfl) (by kernel_rfl) (by kernel_rfl) (by kernel_rfl) (fun _ _ _ h => h) hS0 (yields_of (by kernel_rfl) (fun w hw => by go_simp)) ?_
      refine wpAnyU_take (i := 6) (v := (.int .i64 (j : Int))) (some 51) rfl rfl (by kernel_rfl) (by kernel_rfl) (by kernel_rfl) (by kernel_rfl) (fun _ _ _ h => h) hS0 (yields_of (by kernel_rfl) (fun w hw => by go_simp)) ?_
      refine wpAnyU_take (i := 7) (v := (.pointer (some ⟨b, off + j, none⟩))) (some 52) rfl rfl (by kernel_rfl) (by kernel_rfl) (by kernel_rfl) (by kernel_rfl) (fun _ _ _ h => h) hS0 (yields_of (by kernel_rfl) (fun w hw => by go_simp)) ?_
      refine wpAnyU_take (i := 8) (v := (.string ⟨s.toArray⟩)) (some 53) rfl rfl (by kernel_rfl) (by kernel_rfl) (by kernel_rfl) (by kernel_rfl) (fun _ _ _ h => h) hS0 (yields_of (by kernel_rfl) (fun w hw => by go_simp)) ?_
      refine wpAnyU_take (i := 9) (v := (.int .i64 (s.length : Int))) (some 54) rfl rfl (by kernel_rfl) (by kernel_rfl) (by kernel_rfl) (by kernel_rfl) (fun _ _ _ h => h) hS0 (yields_of (by kernel_rfl) (fun w hw => by go_simp)) ?_
      refine wpAnyU_take (i := 10) (v := (.int .i64 (mm : Int))) (some 55) rfl rfl (by kernel_rfl) (by kernel_rfl) (by kernel_rfl) (by kernel_rfl) (fun _ _ _ h => h) hS0 (yields_of (by kernel_rfl) (fun w hw => by go_simp)) ?_
      refine wpAnyU_take (i := 11) (v := (.string ⟨(s.take mm).toArray⟩)) (some 56) rfl rfl (by kernel_rfl) (by kernel_rfl) (by kernel_rfl) (by kernel_rfl) (fun _ _ _ h => h) hS0 (yields_of (by kernel_rfl) (fun w hw => by go_simp)) ?_
      refine wpAnyU_call (i := 12) (f := 18) (args := #[.pointer (some ⟨pl, 0, none⟩), .string ⟨(s.take mm).toArray⟩]) (some 57) rfl rfl (by kernel_rfl) (by kernel_rfl) (by kernel_rfl) ?_
      refine HA.out.mono ?_
      rintro e w5 ⟨v5, rfl, hk5, h5⟩
      have hS5 : w5.cell? ⟨b, off + j, none⟩ = some (.string ⟨s.toArray⟩) := by
        rw [hk5.cell (p := ⟨b, off + j, none⟩) HBR.out (fun hk => hout.out b hk rfl)]; exact hS0
      have hroom : recN recs + 1 + nch (s.take mm).length ≤ 60 := by
        rw [HV.out.2.2.2.2.2.1]; have := HV.out.2.1; have := HV.out.2.2.2.2.2.2; omega
      rcases h5 with ⟨-, rfl, V5, vF5, X5, h5, hL5, hn5, hf5, -⟩ | ⟨hno, _⟩ | ⟨hfu, _⟩
      case inr.inl => exact absurd hroom hno
      case inr.inr => have := HV.out.2.2.1; omega
      refine ⟨_, rfl, fun _ => hS5, ?_⟩
      refine wpAnyU_run (i := 13) (v := .bool false) (w' := w5) (some 58) rfl rfl (by kernel_rfl) (by kernel_rfl) (by kernel_rfl) (fun _ => hS5) ?_
      refine wpAnyU_done (by kernel_rfl) ?_ _
      simp only [put_lit, List.set_cons_succ, List.set_cons_zero]
      have HI5 : Hid (∃ V vF X recs, On8 At w1 w5 p pd pl V vF X (oneR 2 1 60) (1, 18, 60) recs ∧ recs.length = j + 1 ∧ recN recs ≤ 5 * (j + 1) ∧ V.D.fuse < 0 ∧ V.D.n ≤ 120 + 60 * (j + 1) ∧ V.D.L.length = 78) := by
        obtain ⟨v1, v2, v3, v4, v5, v6, v7⟩ := HV.out
        refine ⟨V5, vF5, X5, _, h5, by rw [List.length_append, v1]; rfl, ?_, hf5 v3, by have : V5.D.n ≤ V4.D.n + 60 := hn5; omega, by rw [hL5, v5]⟩
        rw [recN_last, v6]; omega
      clear h5 hL5 hn5 hf5 HV HA hcell hS0 hS5 hk5 hroom
      go_wp2
      go_roundw
      case rel => exact ⟨j + 1, by omega, by omega, by first | rfl | go_num, HI5⟩
      case measure => simp [intOf]; omega
    · have hAg := again_vol h4.log.alive hf4 hL4 h4.log.root
      obtain ⟨V6, V7, e6, e7, a6, r6, a7, r7, f7, f6, c6, c7, l6, l7, hsee⟩ := hAg
      have hk5 : Kept (fun _ => False) wr (wr.alloc (.cells #[.int .i64 1] 3)) := (Kept.refl _ _).alloc _
      have h5 := h4.still K hk5
      have hN5 := Holds.new wr [.int .i64 1] 3
      change Holds (wr.alloc (.cells #[.int .i64 1] 3)) _ _ _ at hN5
      have hD := dropP (wr.alloc (.cells #[.int .i64 1] 3)) w1.heap.size p pd V4 vF4 X4 h5.on.vol h5.on.err h5.on.lt (by rw [h4.log.calm]; simp) (by omega) (fun _ => h4.log.alive.safe.right) wr.heap.size 1 hN5 (fun hx => by have := (h4.on.vol.lt _ (.inl hx)).2; omega)
      rw [e6] at hD
      have HD := Lib.hid hD
      obtain ⟨d1, d2, _⟩ := drop_bound V4 (by rw [h4.log.root]; decide) [1]
      rw [e6] at d1 d2
      simp only at d1 d2
      rw [h4.log.calm] at d1
      have hlog : LogH (seenAt V7.D) 18 2 [] 60 := by
        have h1 := h4.log.log.apart (by decide) (by decide) 2 (by decide)
        exact h1.of_see fun k hk _ _ => hsee k hk
      have H5 := Lib.hid (And.intro h5.on (And.intro hlog (And.intro d1 (And.intro d2 hn4))))
      have H67 := Lib.hid (And.intro e7 (And.intro a6 (And.intro r6 (And.intro a7 (And.intro r7 (And.intro f7 (And.intro f6 (And.intro c6 (And.intro c7 l7)))))))))
      clear hN5 hD h5 hk5 h4 hlen hrn hf4 hn4 hL4 hI d1 d2 hlog e6 e7 a6 r6 a7 r7 f7 f6 c6 c7 l6 l7 hsee
      by_cases hjl1 : (j : Int) < (len : Int)
      case' pos =>
        have hjl2 : decide ((j : Int) < 6) = false := by rw [decide_eq_false_iff_not]; omega
      all_goals
        go_wp2_with fail
        refine HD.out.mono ?_
        clear HD
        rintro e w6 ⟨v, rfl, he, hl⟩
        rcases he with ⟨_, rfl⟩ | ⟨h0, _⟩
        rotate_left
        · exact absurd rfl h0
        obtain ⟨vF6, X6, hOn6, -, -, -⟩ := H5.out.1.step hl
        obtain ⟨q1, q2, q3, q4, q5, q6, q7, q8, q9, q10⟩ := H67.out
        have hM := makeP w6 w1.heap.size p pd V6 vF6 X6 hOn6.vol hOn6.err hOn6.lt (by rw [q8]; simp) (by have := H5.out.2.2.2.1; have := H5.out.2.2.2.2; omega) (fun _ => q2.safe.right) 60 (by unfold Fit; omega)
        obtain ⟨m1, m2, _⟩ := make_bound V6 60
        rw [q1] at hM m1 m2
        simp only at hM m1 m2
        have HM := Lib.hid hM
        have HO6 := Lib.hid (And.intro hOn6 m2)
        clear hM m1 m2 hOn6 hl q1 q2 q3 q4 q5 q6 q7 q8 q9 q10
        go_wp2_with fail
        refine HM.out.mono ?_
        clear HM
        rintro e w7 ⟨v, rfl, he, hl⟩
        rcases he with ⟨_, rfl⟩ | ⟨h0, _⟩
        rotate_left
        · exact absurd rfl h0
        obtain ⟨vF7, X7, hOn7, -, -, -⟩ := HO6.out.1.step hl
        obtain ⟨q1, q2, q3, q4, q5, q6, q7, q8, q9, q10⟩ := H67.out
        have hOp := open8 K hOn7 q4 q6 q9 (by have := H5.out.2.2.2.1; have := H5.out.2.2.2.2; have := HO6.out.2; omega) (2, 18, 60) (by rw [q5]; exact List.mem_cons_self ..) [] H5.out.2.1
        change Calls _ _ #[.pointer (some ⟨p, 0, none⟩), .int .i64 2] _ _ at hOp
        have HOp := Lib.hid hOp
        clear hOp hOn7 hl q1 q2 q3 q4 q5 q6 q7 q8 q9 q10
        go_wp2_with fail
        refine HOp.out.mono ?_
        clear HOp
        rintro e w8 ⟨pl8, ad8, cap8, V8, vF8, X8, rfl, hst8, h8, -, -, -, -, -, -, -⟩
        have hR := K.room h8.held h8.log.log.fits (by show (60 : Nat) ≤ 4000; omega)
        rw [show roomW ((2, 18, 60) : FileN).2.2 (recN []) = 3776 from by decide] at hR
        have HR := Lib.hid hR
        have HBw := Lib.hid (HB1.out.trans (h8.on.below.mono HB1.out.size))
        clear hR h8 hst8
        go_wp2_with fail
        refine HR.out.mono ?_
        clear HR
        rintro e w9 ⟨rfl, hk9⟩
        have hBe := HBw.out.trans (hk9.below HBw.out.size (fun _ hf => hf.elim))
        go_wp2
        go_ret
        exact ⟨rfl, hBe⟩

end Go.Proofs.YtfbgagpihhbllaaGreatDoor
