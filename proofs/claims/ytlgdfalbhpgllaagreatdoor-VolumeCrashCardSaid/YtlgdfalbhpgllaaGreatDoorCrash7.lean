/- The law VolumeCrash, walked to its end. -/
import Derived.Test.YtlgdfalbhpgllaaGreatDoorSt7
import Derived.Test.YtlgdfalbhpgllaaGreatDoorJ08
namespace Go.Proofs.YtlgdfalbhpgllaaGreatDoor
open Go.RowKit Go.Proofs Go.Proofs.Pk
set_option maxRecDepth 10000
attribute [local simp] mk_get wrap64_u8 mk_extract ByteArray.mk_append_mk get_1k

/-- The law's second loop: what lasts on the first disk is a root that one of the two variables has. -/
structure CrashAt (w1 wr : World) (p pd p2 pd2 q1 q2 j : Nat) (V W : Vol) (Q Rw Rn RW : RootN) (vF vF2 va vb : Value) (X X2 : Nat → Prop) : Prop where
  st : St w1 wr p pd p2 pd2 q1 q2 V W Rw Rn vF vF2 va vb X X2
  safe : Safe V.D Q
  live : V.gone = false → Alive V ∧ V.R = Q ∧ Rn = Q ∧ RW = Q
  other : Live W 60 RW
  one : Q = Rw ∨ Q = Rn
  size : V.D.L.length = 60
  n : V.D.n ≤ 430 + 20 * j ∧ V.D.C.length ≤ 430 + 20 * j
  n2 : W.D.n ≤ 430 + 20 * j ∧ W.D.C.length ≤ 430 + 20 * j

set_option maxHeartbeats 4000000 in
theorem crashW (ad0 : Option Addr) (len0 cap0 : Nat) (l0 : List DeedW) (fuse : Int) (ad2 : Option Addr) (len2 cap2 : Nat) (l2 : List DeedW) (ad3 : Option Addr) (len3 cap3 : Nat) (ks : List Int) (torn bytes : Int) (w : World) (hg : ErrTy w)
    (h0 : DeedsW w ad0 len0 l0) (hfu : -9223372036854775808 ≤ fuse ∧ fuse ≤ 9223372036854775807) (h2 : DeedsW w ad2 len2 l2) (h3 : Ints w ad3 len3 ks) (_h3 : Fit64 ks) (_ht : -9223372036854775808 ≤ torn ∧ torn ≤ 9223372036854775807) (_hb : -9223372036854775808 ≤ bytes ∧ bytes ≤ 9223372036854775807) :
    Calls Tryz.prog 3 #[.slice ad0 len0 cap0, .int .i64 fuse, .slice ad2 len2 cap2, .slice ad3 len3 cap3, .int .i64 torn, .int .i64 bytes] w fun e w' => e = .returned (.bool true) ∧ Below w.heap.size w w' := by
  have HD := Lib.hid h0
  have HD2 := Lib.hid h2
  have HK := Lib.hid h3
  have HFu := Lib.hid hfu
  have HE := Lib.hid (examplesP w hg)
  have HG := Lib.hid hg
  clear h0 h2 h3 _h3 _ht _hb hg hfu
  go_enter Tryz.func3, Tryz.ntmps3
  go_wp2_with fail
  refine HE.out.mono ?_
  clear HE
  rintro e w1 ⟨rfl, hb1⟩
  have hE1 := HG.out.kept (Kept.of_below (fun _ => False) hb1) (fun hf => hf)
  have hN := pNw_ok 60 (by omega) (by omega) w1
  rw [show ((60 : Nat) : Int) = 60 from rfl] at hN
  have HN := Lib.hid hN
  have H1 := Lib.hid (And.intro hb1 hE1)
  clear hN hb1 hE1
  go_wp2_with fail
  refine HN.out.mono ?_
  clear HN
  rintro e w2 ⟨pd, Xd, rfl, hd2, hb2⟩
  have HF := Lib.hid (format_on w1 w2 pd 60 Xd hd2 hb2 H1.out.2 (by omega) (by omega))
  clear hd2 hb2
  go_wp2_with fail
  refine HF.out.mono ?_
  clear HF
  rintro e w3 ⟨p, vF3, X3, rfl, hOn3, -, -⟩
  have hN2 := pNw_ok 60 (by omega) (by omega) w3
  rw [show ((60 : Nat) : Int) = 60 from rfl] at hN2
  have HN2 := Lib.hid hN2
  have HOn3 := Lib.hid hOn3
  clear hN2 hOn3
  go_wp2_with fail
  refine HN2.out.mono ?_
  clear HN2
  rintro e w4 ⟨pd2, Xd2, rfl, hd4, hb4⟩
  have hk34 : Kept (fun _ => False) w3 w4 := Kept.of_below (fun _ => False) hb4
  have hOn4 := HOn3.out.still hk34
  have hbw4 : Below w1.heap.size w1 w4 := hOn4.below
  have hd4' : DskP w4 w1.heap.size pd2 (Dsk.new 60) Xd2 := by
    obtain ⟨gD, gS, vC, hD⟩ := hd4
    have hsz := HOn3.out.below.size
    exact ⟨gD, gS, vC, hD.obj, hD.dur, hD.see, owns_base hD.cache hsz, ⟨by have := hD.base.1; omega, by have := hD.base.2.1; omega, by have := hD.base.2.2; omega⟩, hD.ne, hD.neC, hD.own⟩
  have hfr4 : ∀ k, Xd2 k → w3.heap.size ≤ k := fun k hk => (hd4.lt k hk).1
  have HF2 := Lib.hid (format_on w1 w4 pd2 60 Xd2 hd4' hbw4 H1.out.2 (by omega) (by omega))
  have H4 := Lib.hid (And.intro hOn4 hfr4)
  have hs34 := hk34.size
  clear hd4 hd4' hbw4 hfr4 hb4 hk34 hOn4
  go_wp2_with fail
  refine HF2.out.mono ?_
  clear HF2
  rintro e w5 ⟨p2, vF5, X5, rfl, hOn5, hg5, hk5, hf5⟩
  have hZ3 := fun k (hk : ZV vF3 X3 k) => (HOn3.out.zlt k hk).2
  have hOn5a : On w1 w5 p pd (formatV (Dsk.new 60)).1 vF3 X3 := H4.out.1.keepZ hk5 (fun k hk hx => by have := hZ3 k hk; have := H4.out.2 k hx; omega) (fun k hx => by have := H4.out.2 k hx; have := HOn3.out.below.size; omega)
  have hab : ∀ k, ZV vF3 X3 k → ¬ZV vF5 X5 k := fun k ha hb => by
    have h1 := hZ3 k ha
    rcases hb with hb | hb
    · rcases hg5 k hb with h | h
      · have := H4.out.2 k h; omega
      · omega
    · have := hf5 k hb; omega
  obtain ⟨hn0, hc0⟩ := format_bound (N := 60) (by omega)
  have HI : Hid (∃ V W R vF vF2 X X2, St2 w1 w5 p pd p2 pd2 V W vF vF2 X X2 ∧ Live V 60 R ∧ Live W 60 R ∧ (V.D.n ≤ 22 + 20 * 0 ∧ V.D.C.length ≤ 20 + 20 * 0) ∧ W.D.n ≤ 22 + 20 * 0 ∧ W.D.C.length ≤ 20 + 20 * 0) :=
    ⟨_, _, _, vF3, vF5, X3, X5, ⟨hOn5a, hOn5, hab⟩, Live.first (by omega) (by omega), Live.first (by omega) (by omega), ⟨by omega, by omega⟩, by omega, by omega⟩
  clear hOn5a hOn5 hab hg5 hk5 hf5 hn0 hc0 hZ3 hs34
  go_wp2
  go_loopw [22] (fun i wr => ∃ j : Nat, j ≤ len0 ∧ j ≤ 20 ∧ i = .int .i64 (j : Int) ∧ Hid (∃ V W R vF vF2 X X2, St2 w1 wr p pd p2 pd2 V W vF vF2 X X2 ∧ Live V 60 R ∧ Live W 60 R ∧ (V.D.n ≤ 22 + 20 * j ∧ V.D.C.length ≤ 20 + 20 * j) ∧ W.D.n ≤ 22 + 20 * j ∧ W.D.C.length ≤ 20 + 20 * j)) (fun i _ => 20 - (intOf i).toNat)
  case atStart => exact ⟨0, Nat.zero_le _, by omega, rfl, HI⟩
  case round =>
    obtain ⟨j, hj, hj20, rfl, hI⟩ := hrel
    by_cases hlt : (j : Int) < (len0 : Int) ∧ (j : Int) < 20
    · obtain ⟨hlt1, hlt2⟩ := hlt
      have hjl : j < len0 := by omega
      have hj19 : j < 20 := by omega
      obtain ⟨V, W, R, vF, vF2, X, X2, hS, hLv, hLw, ⟨hn, hc⟩, hn2, hc2⟩ := hI.out
      obtain ⟨b, off, u, rfl, ⟨fk, fa, fb, fl⟩, hcells⟩ := deedsW_all HD.out j hjl
      have HCL := Lib.hid hcells
      obtain ⟨d0, d1, d2, d3, d4⟩ := hcells wr (H1.out.1.trans (hS.a.below.mono H1.out.1.size))
      have hj0 : (0 : Int) ≤ (j : Int) := by omega
      have hwj : IntKind.i64.wrap ((j : Int) + 1) = (j : Int) + 1 := IntWalk.i64_in _ (by omega)
      have hdc : Hid ((dcW u).toArray = #[.int .i64 u.kind, .int .i64 u.a, .int .i64 u.b, .string ⟨u.s.toArray⟩, .slice u.kad u.klen u.kcap]) := rfl
      have hA1 := act_all (volK pd) hS.a.at (hLv.small (by omega) (by omega)) hS.a.err hS.a.lt u fk fa fb fl
      rw [hdc.out] at hA1
      have HA1 := Lib.hid hA1
      have hLv' := hLv.of_goes (act_goes hLv.alive u)
      have hLw' := hLw.of_goes (act_goes hLw.alive u)
      rw [hLv.size, hLv.root] at hLv'
      rw [hLw.size, hLw.root] at hLw'
      obtain ⟨b1c, b1n, _⟩ := act_bound V hS.a.vol.few.1 u
      obtain ⟨b2c, b2n, _⟩ := act_bound W hS.b.vol.few.1 u
      have HS := Lib.hid hS
      have HU := Lib.hid (And.intro fk (And.intro fa (And.intro fb fl)))
      have HW0 := Lib.hid (hLw.small (by omega) (by omega))
      obtain ⟨V', hV'⟩ : ∃ V', V' = actV V u := ⟨_, rfl⟩
      obtain ⟨W', hW'⟩ : ∃ W', Hid (W' = actV W u) := ⟨_, rfl⟩
      rw [← hV'] at HA1 hLv' b1c b1n
      rw [← hW'.out] at hLw' b2c b2n
      have HL := Lib.hid (And.intro hLv' hLw')
      clear hS hI hA1 fk fa fb fl hcells hV' hLv hLw hLv' hLw'
      go_upto_region 18 with (go_at_call 9; refine HA1.out.mono ?_; rintro e w6 ⟨⟨v, rfl⟩, hleft⟩)
      clear d0 d1 d2 d3 d4 HA1
      obtain ⟨vF', X', hS6, -, -⟩ := HS.out.goA (left_vl hleft)
      obtain ⟨d0, d1, d2, d3, d4⟩ := HCL.out w6 (H1.out.1.trans (hS6.a.below.mono H1.out.1.size))
      have hA2 := act_all (volK pd2) hS6.b.at HW0.out hS6.b.err hS6.b.lt u HU.out.1 HU.out.2.1 HU.out.2.2.1 HU.out.2.2.2
      rw [hdc.out, ← hW'.out] at hA2
      have HA2 := Lib.hid hA2
      have HS6 := Lib.hid hS6
      clear hA2 hS6 hleft
      go_wp2_with (go_at_call 9; refine HA2.out.mono ?_; rintro e w7 ⟨⟨v, rfl⟩, hleft⟩)
      obtain ⟨vF2', X2', hS7, -, -⟩ := HS6.out.goB (left_vl hleft)
      have HI7 : Hid (∃ V W R vF vF2 X X2, St2 w1 w7 p pd p2 pd2 V W vF vF2 X X2 ∧ Live V 60 R ∧ Live W 60 R ∧ (V.D.n ≤ 22 + 20 * (j + 1) ∧ V.D.C.length ≤ 20 + 20 * (j + 1)) ∧ W.D.n ≤ 22 + 20 * (j + 1) ∧ W.D.C.length ≤ 20 + 20 * (j + 1)) :=
        ⟨V', W', _, vF', vF2', X', X2', hS7, HL.out.1, HL.out.2, ⟨by omega, by omega⟩, by omega, by omega⟩
      clear d0 d1 d2 d3 d4 HA2 hS7 hleft
      go_wp2
      go_roundw
      case rel => exact ⟨j + 1, by omega, by omega, by first | rfl | go_num, HI7⟩
      case measure => simp [intOf]; omega
    · obtain ⟨V, W, R, vF, vF2, X, X2, hS, hLv, hLw, ⟨hn, hc⟩, hn2, hc2⟩ := hI.out
      have hj20' : j ≤ 20 := hj20
      obtain ⟨kf, hkf⟩ : ∃ kf, kf = pickN fuse 21 := ⟨_, rfl⟩
      have hkf21 : kf < 21 := by rw [hkf]; exact pickN_lt _ (by decide)
      have hpk := pick_any fuse 21 wr HFu.out (by decide) (by decide)
      rw [← hkf, show ((21 : Nat) : Int) = 21 from rfl] at hpk
      have HP := Lib.hid hpk
      obtain ⟨Xdv, hAv, hXv⟩ := hS.a.vol
      have HFz := Lib.hid (pFuse (kf : Int) wr w1.heap.size pd V.D Xdv hAv.dsk)
      have hwm : Hid (∃ j0 : Nat, j0 ≤ 20 ∧ V.D.n ≤ 422 ∧ V.D.C.length ≤ 420 ∧ W.D.n ≤ 422 ∧ W.D.C.length ≤ 420) := ⟨j, hj20, by omega, by omega, by omega, by omega⟩
      have HA := Lib.hid (And.intro hAv (And.intro hXv (And.intro hS (And.intro hLv hLw))))
      clear hpk hkf hAv hXv hS hLv hLw hn hc hn2 hc2 hI
      by_cases hjl1 : (j : Int) < (len0 : Int)
      case' pos =>
        have hjl2 : decide ((j : Int) < 20) = false := by rw [decide_eq_false_iff_not]; omega
      all_goals
        go_wp2_with fail
        refine HP.out.mono ?_
        rintro e wp ⟨rfl, rfl⟩
        go_wp2_with fail
        refine HFz.out.mono ?_
        clear HFz HP
        rintro e w6 ⟨rfl, hd6, hk6⟩
        obtain ⟨hv6, hg6, hkx6⟩ := VlP.disk HA.out.1 HA.out.2.1 hd6 (Grows.refl _ _) hk6 (Dsk.setFuse_ok HA.out.1.ok (kf : Int) (by omega)) rfl
        have hl6 : VlLeft wr w1.heap.size p pd ⟨V.D.setFuse (kf : Int), V.R, V.gone⟩ vF X w6 := ⟨_, vF, hv6, hg6, fun b hb => .inl hb, hkx6⟩
        obtain ⟨vF6, X6, hS6, -, -⟩ := HA.out.2.2.1.goA hl6
        have hAl6 := HA.out.2.2.2.1.alive.setFuse (kf : Int) (by omega)
        have hR6 := rootP w6 w1.heap.size p pd _ vF6 X6 hS6.a.vol
        have hfw6 := hS6.a.vol.few
        simp only at hR6 hfw6
        rw [HA.out.2.2.2.1.root] at hR6 hfw6
        have HR6 := Lib.hid hR6
        have H6 := Lib.hid (And.intro hS6 (And.intro hAl6 hfw6))
        clear hd6 hk6 hv6 hg6 hkx6 hl6 hS6 hAl6 hR6 hfw6
        go_wp2_with fail
        refine HR6.out.mono ?_
        clear HR6
        rintro e w7 ⟨hk7, va, rfl, ho7⟩
        obtain ⟨r1, r2, r3, rf⟩ := R
        simp only at ho7 ⊢
        obtain ⟨av, cv, rfl⟩ : ∃ av cv, va = .slice av rf.length cv := by
          rcases ho7.2 with ⟨rfl, h0⟩ | ⟨g, c', cur, rfl, _⟩
          · exact ⟨none, 0, by rw [h0]⟩
          · exact ⟨_, c', rfl⟩
        obtain ⟨nr, hnr⟩ : ∃ nr, Hid (nr = rf.length) := ⟨_, rfl⟩
        rw [← hnr.out] at ho7 ⊢
        have hlo7 := ho7.lt
        have hN8 := (Holds.new w7 [.int .i64 (r1 : Int), .int .i64 (r2 : Int), .int .i64 (r3 : Int), .slice av nr cv] 40).alloc (.cells #[.int .i64 (r1 : Int), .int .i64 (r2 : Int), .int .i64 (r3 : Int), .slice av nr cv] 40)
        have s8 : (w7.alloc (.cells #[.int .i64 (r1 : Int), .int .i64 (r2 : Int), .int .i64 (r3 : Int), .slice av nr cv] 40)).heap.size = w7.heap.size + 1 := by simp
        have hN9 := Holds.new (w7.alloc (.cells #[.int .i64 (r1 : Int), .int .i64 (r2 : Int), .int .i64 (r3 : Int), .slice av nr cv] 40)) [.int .i64 (r1 : Int), .int .i64 (r2 : Int), .int .i64 (r3 : Int), .slice av nr cv] 40
        rw [s8] at hN9
        change Holds ((w7.alloc (.cells #[.int .i64 (r1 : Int), .int .i64 (r2 : Int), .int .i64 (r3 : Int), .slice av nr cv] 40)).alloc (.cells #[.int .i64 (r1 : Int), .int .i64 (r2 : Int), .int .i64 (r3 : Int), .slice av nr cv] 40)) _ _ _ at hN8
        change Holds ((w7.alloc (.cells #[.int .i64 (r1 : Int), .int .i64 (r2 : Int), .int .i64 (r3 : Int), .slice av nr cv] 40)).alloc (.cells #[.int .i64 (r1 : Int), .int .i64 (r2 : Int), .int .i64 (r3 : Int), .slice av nr cv] 40)) _ _ _ at hN9
        have hk79 : Kept (fun _ => False) w7 ((w7.alloc (.cells #[.int .i64 (r1 : Int), .int .i64 (r2 : Int), .int .i64 (r3 : Int), .slice av nr cv] 40)).alloc (.cells #[.int .i64 (r1 : Int), .int .i64 (r2 : Int), .int .i64 (r3 : Int), .slice av nr cv] 40)) := ((Kept.refl _ _).alloc _).alloc _
        have hk69 := hk7.trans hk79 (fun _ hf => hf.elim)
        have hs67 := hk7.size
        obtain ⟨q1, hq1⟩ : ∃ q1, Hid (q1 = w7.heap.size) := ⟨_, rfl⟩
        obtain ⟨q2, hq2⟩ : ∃ q2, Hid (q2 = w7.heap.size + 1) := ⟨_, rfl⟩
        clear s8
        go_upto_region 22 with (fail)
        rw [← hq2.out] at hN9 ⊢
        rw [← hq1.out] at hN8 ⊢
        generalize (w7.alloc (.cells #[.int .i64 (r1 : Int), .int .i64 (r2 : Int), .int .i64 (r3 : Int), .slice av nr cv] 40)).alloc (.cells #[.int .i64 (r1 : Int), .int .i64 (r2 : Int), .int .i64 (r3 : Int), .slice av nr cv] 40) = w9 at hN8 hN9 hk79 hk69 ⊢
        have ho9 : w9.ownsRow 0 49 3 (.slice av nr cv) rf.length (cellsF rf) := by
          rw [← hnr.out]
          exact owns_base (owns_of_block ho7 fun g hgb => hk79.block g (hlo7 g hgb).2 (fun hf => hf)) (Nat.zero_le _)
        have hz6 := fun k hk => (H6.out.1.a.zlt k hk).2
        have hz6b := fun k hk => (H6.out.1.b.zlt k hk).2
        have hw16 : w1.heap.size ≤ w6.heap.size := H6.out.1.a.below.size
        have hRBw : RB w9 q1 (r1, r2, r3, rf) (.slice av nr cv) := ⟨hN8, ho9, fun f hf => (H6.out.2.2.2.2.2.2 f hf).1, H6.out.2.2.1, fun hx => by have := (hlo7 q1 hx).2; have := hq1.out; omega⟩
        have hRBn : RB w9 q2 (r1, r2, r3, rf) (.slice av nr cv) := ⟨hN9, ho9, fun f hf => (H6.out.2.2.2.2.2.2 f hf).1, H6.out.2.2.1, fun hx => by have := (hlo7 q2 hx).2; have := hq2.out; omega⟩
        have hzr : ∀ k, (ZR q1 (.slice av nr cv) k ∨ ZR q2 (.slice av nr cv) k) → w6.heap.size ≤ k := by
          rintro k ((hk | hk) | (hk | hk))
          · have := hq1.out; omega
          · exact (hlo7 k hk).1
          · have := hq2.out; omega
          · exact (hlo7 k hk).1
        have hSt : St w1 w9 p pd p2 pd2 q1 q2 ⟨V.D.setFuse (kf : Int), V.R, V.gone⟩ W (r1, r2, r3, rf) (r1, r2, r3, rf) vF6 vF2 (.slice av nr cv) (.slice av nr cv) X6 X2 :=
          ⟨H6.out.1.still hk69, hRBw, hRBn, fun k ha hc => by have := hz6 k ha; have := hzr k (.inl hc); omega, fun k ha hc => by have := hz6 k ha; have := hzr k (.inr hc); omega,
            fun k ha hc => by have := hz6b k ha; have := hzr k (.inl hc); omega, fun k ha hc => by have := hz6b k ha; have := hzr k (.inr hc); omega,
            ⟨by have := hq1.out; have := hq2.out; omega, fun hx => by have := (hlo7 q1 hx).2; have := hq1.out; omega, fun hx => by have := (hlo7 q2 hx).2; have := hq2.out; omega⟩, by have := hq1.out; omega, by have := hq2.out; omega⟩
        obtain ⟨_, _, hb1, hb2, hb3, hb4⟩ := hwm.out
        have hVR : V.R = (r1, r2, r3, rf) := HA.out.2.2.2.1.root
        have HI9 : Hid (∃ V W Q Rw Rn RW vF vF2 va vb X X2, CrashAt w1 w9 p pd p2 pd2 q1 q2 0 V W Q Rw Rn RW vF vF2 va vb X X2) :=
          ⟨_, W, (r1, r2, r3, rf), _, _, (r1, r2, r3, rf), vF6, vF2, _, _, X6, X2, hSt, by have := H6.out.2.1.safe; rw [hVR] at this; exact this, fun _ => ⟨H6.out.2.1, hVR, rfl, rfl⟩, HA.out.2.2.2.2, .inl rfl, HA.out.2.2.2.1.size, ⟨by show V.D.n ≤ _; omega, by show V.D.C.length ≤ _; omega⟩, by omega, by omega⟩
        clear hSt hRBw hRBn hN8 hN9 hk79 hk69 hk7 ho7 ho9 hlo7 hzr hz6 hz6b hVR hb1 hb2 hb3 hb4 hs67 hw16
        go_wp2
        go_loopw [25] (fun i wr => ∃ j : Nat, j ≤ len2 ∧ j ≤ 40 ∧ i = .int .i64 (j : Int) ∧ Hid (∃ V W Q Rw Rn RW vF vF2 va vb X X2, CrashAt w1 wr p pd p2 pd2 q1 q2 j V W Q Rw Rn RW vF vF2 va vb X X2)) (fun i _ => 40 - (intOf i).toNat)
        case atStart => exact ⟨0, Nat.zero_le _, by omega, rfl, HI9⟩
        case round =>
          obtain ⟨j2, hj2, hj40, rfl, hI2⟩ := hrel
          obtain ⟨Vc, Wc, Q, Rw, Rn, RW, vFc, vF2c, vac, vbc, Xc, X2c, hA2⟩ := hI2.out
          by_cases hgo : ((j2 : Int) < (len2 : Int) ∧ (j2 : Int) < 40) ∧ Vc.gone = false
          · obtain ⟨⟨hlt1, hlt2⟩, hgone⟩ := hgo
            have hj2l : j2 < len2 := by omega
            have hj39 : j2 < 40 := by omega
            obtain ⟨b, off, u, rfl, ⟨fk, fa, fb, fl⟩, hcells⟩ := deedsW_all HD2.out j2 hj2l
            have HCL := Lib.hid hcells
            have HU := Lib.hid (And.intro fk (And.intro fa (And.intro fb fl)))
            have hj0 : (0 : Int) ≤ (j2 : Int) := by omega
            have hwj : IntKind.i64.wrap ((j2 : Int) + 1) = (j2 : Int) + 1 := IntWalk.i64_in _ (by omega)
            have hdc : Hid ((dcW u).toArray = #[.int .i64 u.kind, .int .i64 u.a, .int .i64 u.b, .string ⟨u.s.toArray⟩, .slice u.kad u.klen u.kcap]) := rfl
            obtain ⟨hAl, hVQ, hRnQ, hRWQ⟩ := hA2.live hgone
            have hDd := deadP wr w1.heap.size p pd Vc vFc Xc hA2.st.two.a.vol
            rw [hgone] at hDd
            have HDd := Lib.hid hDd
            have HRt := Lib.hid (rootP wr w1.heap.size p pd Vc vFc Xc hA2.st.two.a.vol)
            have hfwV := hA2.st.two.a.vol.few
            have hfwW := hA2.st.two.b.vol.few
            have hgoV := act_goes hAl u
            have hLw' := hA2.other.of_goes (act_goes hA2.other.alive u)
            rw [hA2.other.size, hA2.other.root] at hLw'
            rw [hA2.size, hVQ] at hgoV
            obtain ⟨b1c, b1n, b1l⟩ := act_bound Vc hfwV.1 u
            obtain ⟨b2c, b2n, _⟩ := act_bound Wc hfwW.1 u
            obtain ⟨Vd, hVd⟩ : ∃ Vd, Hid (Vd = actV Vc u) := ⟨_, rfl⟩
            obtain ⟨Wd, hWd⟩ : ∃ Wd, Hid (Wd = actV Wc u) := ⟨_, rfl⟩
            rw [← hVd.out] at hgoV b1c b1n b1l
            rw [← hWd.out] at hLw' b2c b2n
            have HM := Lib.hid (And.intro hgoV (And.intro hLw' (And.intro b1c (And.intro b1n (And.intro b1l (And.intro b2c b2n))))))
            have HA2 := Lib.hid (And.intro hA2 (And.intro hAl (And.intro hVQ (And.intro hRnQ hRWQ))))
            have HFW := Lib.hid (And.intro hfwV hfwW)
            have hSmV : Small Vc := ⟨by have := hA2.n.1; omega, by have := hA2.n.2; omega, fun _ => hAl.safe.right⟩
            have hSmW := hA2.other.small (by have := hA2.n2.1; omega) (by have := hA2.n2.2; omega)
            have HSm := Lib.hid (And.intro hSmV hSmW)
            clear hgoV hLw' b1c b1n b1l b2c b2n hDd hA2 hI2 hAl hVQ hRnQ hRWQ hcells fk fa fb fl hSmV hSmW hgone hfwV hfwW HI9
            go_upto_region 25 with (go_at_call 13; refine HDd.out.mono ?_; rintro e wd ⟨rfl, rfl⟩)
            go_wp2_with fail
            refine HRt.out.mono ?_
            clear HRt
            rintro e w10 ⟨hk10, vR, rfl, ho10⟩
            rw [HA2.out.2.2.1] at ho10 ⊢
            have hfitQ : ∀ f ∈ Q.2.2.2, FitF (fileI f) := by
              have := HFW.out.1.2.2.2.2
              rw [HA2.out.2.2.1] at this
              exact fun f hf => (this f hf).1
            have hfewQ : Q.2.2.2.length ≤ 24 := by
              have := HFW.out.1.1
              rwa [HA2.out.2.2.1] at this
            obtain ⟨avR, cvR, rfl, _⟩ := own_files ho10 rfl hfitQ
            have hS11 := HA2.out.1.st.setC hk10 Q _ ho10 hfitQ hfewQ
            have hbx := (HA2.out.1.st.still hk10).c.box
            have b0 := hbx.cell 0 _ rfl
            have b1 := hbx.cell 1 _ rfl
            have b2 := hbx.cell 2 _ rfl
            have b3 := hbx.cell 3 _ rfl
            have f0 := hbx.free 0
            have f1 := hbx.free 1
            have f2 := hbx.free 2
            have f3 := hbx.free 3
            clear hbx ho10 hk10
            go_upto_region 26 with (fail)
            clear b0 b1 b2 b3 f0 f1 f2 f3
            generalize (((w10.setCell ⟨q1, 0, none⟩ (.int .i64 (Q.1 : Int))).setCell ⟨q1, 1, none⟩ (.int .i64 (Q.2.1 : Int))).setCell ⟨q1, 2, none⟩ (.int .i64 (Q.2.2.1 : Int))).setCell ⟨q1, 3, none⟩ (.slice avR Q.2.2.2.length cvR) = w11 at hS11 ⊢
            obtain ⟨d0, d1, d2, d3, d4⟩ := HCL.out w11 (H1.out.1.trans (hS11.two.a.below.mono H1.out.1.size))
            have hAc1 := act_all (volK pd) hS11.two.a.at HSm.out.1 hS11.two.a.err hS11.two.a.lt u HU.out.1 HU.out.2.1 HU.out.2.2.1 HU.out.2.2.2
            rw [hdc.out, ← hVd.out] at hAc1
            have HAc1 := Lib.hid hAc1
            have HS11 := Lib.hid hS11
            clear hAc1 hS11 hfitQ hfewQ
            go_upto_region 27 with (go_at_call 9; refine HAc1.out.mono ?_; rintro e w12 ⟨⟨v, rfl⟩, hleft⟩)
            clear d0 d1 d2 d3 d4 HAc1
            obtain ⟨vF12, X12, hS12⟩ := HS11.out.goA (left_vl hleft)
            obtain ⟨d0, d1, d2, d3, d4⟩ := HCL.out w12 (H1.out.1.trans (hS12.two.a.below.mono H1.out.1.size))
            have hAc2 := act_all (volK pd2) hS12.two.b.at HSm.out.2 hS12.two.b.err hS12.two.b.lt u HU.out.1 HU.out.2.1 HU.out.2.2.1 HU.out.2.2.2
            rw [hdc.out, ← hWd.out] at hAc2
            have HAc2 := Lib.hid hAc2
            have HS12 := Lib.hid hS12
            clear hAc2 hS12 hleft HS11
            go_upto_region 28 with (go_at_call 9; refine HAc2.out.mono ?_; rintro e w13 ⟨⟨v, rfl⟩, hleft⟩)
            clear d0 d1 d2 d3 d4 HAc2
            obtain ⟨vF13, X13, hS13⟩ := HS12.out.goB (left_vl hleft)
            have HRt2 := Lib.hid (rootP w13 w1.heap.size p2 pd2 Wd vF13 X13 hS13.two.b.vol)
            have HS13 := Lib.hid hS13
            clear hS13 hleft HS12
            go_wp2_with fail
            refine HRt2.out.mono ?_
            clear HRt2
            rintro e w14 ⟨hk14, vR2, rfl, ho14⟩
            have hfwd := HS13.out.two.b.vol.few
            obtain ⟨avR2, cvR2, rfl, _⟩ := own_files ho14 rfl (fun f hf => (hfwd.2.2.2.2 f hf).1)
            have hS15 := HS13.out.setD hk14 Wd.R _ ho14 (fun f hf => (hfwd.2.2.2.2 f hf).1) hfwd.1
            have hbx := (HS13.out.still hk14).d.box
            have b0 := hbx.cell 0 _ rfl
            have b1 := hbx.cell 1 _ rfl
            have b2 := hbx.cell 2 _ rfl
            have b3 := hbx.cell 3 _ rfl
            have f0 := hbx.free 0
            have f1 := hbx.free 1
            have f2 := hbx.free 2
            have f3 := hbx.free 3
            have hHI : Hid (∃ V W Q' Rw Rn RW vF vF2 va vb X X2, CrashAt w1 ((((w14.setCell ⟨q2, 0, none⟩ (.int .i64 (Wd.R.1 : Int))).setCell ⟨q2, 1, none⟩ (.int .i64 (Wd.R.2.1 : Int))).setCell ⟨q2, 2, none⟩ (.int .i64 (Wd.R.2.2.1 : Int))).setCell ⟨q2, 3, none⟩ (.slice avR2 Wd.R.2.2.2.length cvR2)) p pd p2 pd2 q1 q2 (j2 + 1) V W Q' Rw Rn RW vF vF2 va vb X X2) := by
              obtain ⟨hgoV, hLw', b1c, b1n, b1l, b2c, b2n⟩ := HM.out
              obtain ⟨hAt, hAl, hVQ, hRnQ, hRWQ⟩ := HA2.out
              have hn1 := hAt.n
              have hn2 := hAt.n2
              rcases hgoV.fate with ⟨hA', hR', _⟩ | ⟨hg', _, _, hs', _⟩
              · refine ⟨Vd, Wd, Vd.R, Q, Wd.R, Wd.R, vF12, vF13, _, _, X12, X13, hS15, hA'.safe, fun _ => ⟨hA', rfl, ?_, ?_⟩, ?_, .inr ?_, by rw [b1l, hAt.size], ⟨by omega, by omega⟩, ⟨by omega, by omega⟩⟩
                · rw [hLw'.root, hR', hRWQ]
                · rw [hLw'.root, hR', hRWQ]
                · exact ⟨hLw'.alive, hLw'.fuse, hLw'.size, rfl⟩
                · rw [hLw'.root, hR', hRWQ]
              · exact ⟨Vd, Wd, Q, Q, Wd.R, Wd.R, vF12, vF13, _, _, X12, X13, hS15, by rw [← hVQ]; exact hs', (fun h0 => by rw [hg'] at h0; cases h0), ⟨hLw'.alive, hLw'.fuse, hLw'.size, rfl⟩, .inl rfl, by rw [b1l, hAt.size], ⟨by omega, by omega⟩, ⟨by omega, by omega⟩⟩
            clear hS15 hbx ho14 hk14 hfwd HS13 HM HSm HFW
            go_wp2
            go_roundw
            case rel => exact ⟨j2 + 1, by omega, by omega, by first | rfl | go_num, hHI⟩
            case measure => simp [intOf]; omega
          · have hB : Hid (Below w.heap.size w wr) := H1.out.1.trans (hA2.st.two.a.below.mono H1.out.1.size)
            obtain ⟨Xdc, hAc, hXc⟩ := hA2.st.two.a.vol
            have hargK : Ints wr ad3 len3 ks := HK.out.kept (Kept.of_below (fun _ => False) hB.out) (ks.eq_nil_or_concat.elim .inl (fun _ => .inr (fun _ _ _ hf => hf)))
            have hoffK : ks = [] ∨ IntsOff Xdc ad3 := by
              rcases HK.out.2 with h0 | ⟨bk, ok, hbk, hbl, _⟩
              · exact .inl h0
              · refine .inr fun b' off' hb' hx => ?_
                rw [hbk] at hb'
                injection hb' with hb'
                injection hb' with hb1 _ _
                subst hb1
                have h1 := (hAc.dsk.lt bk hx).1
                have h2 := H1.out.1.size
                omega
            have hCr := pCr wr w1.heap.size pd Vc.D Xdc hAc.dsk hAc.ok ad3 len3 cap3 ks torn bytes hargK hoffK
            have HCr := Lib.hid hCr
            have hcok := Dsk.crash_ok hAc.ok ks torn bytes
            have hclen : (Vc.D.crash ks torn bytes).L.length = 60 := by
              rw [← hA2.size]; exact crashL_length ks torn bytes _ _ _
            have hop := open_crash hA2.safe ks torn bytes
            have hDd := deadP wr w1.heap.size p pd Vc vFc Xc hA2.st.two.a.vol
            have HDd := Lib.hid hDd
            have hfitQ : ∀ f ∈ Q.2.2.2, FitF (fileI f) := fun f hf => ((right_few hA2.safe.right).2.2.2.2.1 f hf).1
            have hfewQ : Q.2.2.2.length ≤ 24 := (right_few hA2.safe.right).1
            have HA2 := Lib.hid (And.intro hA2 hXc)
            clear hCr hDd hA2 hI2 hargK hoffK hAc hXc HI9
            have hexit : ¬(j2 : Int) < (len2 : Int) ∨ (j2 : Int) < (len2 : Int) ∧ decide ((j2 : Int) < 40) = false ∨ (j2 : Int) < (len2 : Int) ∧ (j2 : Int) < 40 ∧ Vc.gone = true := by
              by_cases e1 : (j2 : Int) < (len2 : Int)
              · by_cases e2 : (j2 : Int) < 40
                · refine .inr (.inr ⟨e1, e2, ?_⟩)
                  cases hgc : Vc.gone with
                  | true => rfl
                  | false => exact absurd ⟨⟨e1, e2⟩, hgc⟩ hgo
                · exact .inr (.inl ⟨e1, by rw [decide_eq_false_iff_not]; exact e2⟩)
              · exact .inl e1
            clear hgo
            rcases hexit with e1 | ⟨e1, e2⟩ | ⟨e1, e2, e3⟩
            case' inr.inr =>
              rw [e3] at HDd
            all_goals
              go_upto_region 29 with (go_at_call 13; refine HDd.out.mono ?_; rintro e wd ⟨rfl, rfl⟩)
              go_wp2_with fail
              refine HCr.out.mono ?_
              clear HCr HDd
              rintro e w10 ⟨rfl, X', hd10, hg10, hk10⟩
              have hc10 : RB w10 q1 Rw vac := HA2.out.1.st.c.kept hk10 (fun k hc hx => HA2.out.1.st.ac k (.inl ((HA2.out.2 k).2 (.inr hx))) hc)
              have hdd10 : RB w10 q2 Rn vbc := HA2.out.1.st.d.kept hk10 (fun k hc hx => HA2.out.1.st.ad k (.inl ((HA2.out.2 k).2 (.inr hx))) hc)
              have hb10 : Below w.heap.size w w10 := hB.out.trans (hk10.below (by have := hB.out.size; omega) (fun k hx => by have h1 := (HA2.out.1.st.two.a.zlt k (.inl ((HA2.out.2 k).2 (.inr hx)))).1; have h2 := H1.out.1.size; omega))
              have hw10 : w1.heap.size ≤ w10.heap.size := by have h1 := hk10.size; have h2 := HA2.out.1.st.two.a.below.size; omega
              have hOp := openP w10 w1.heap.size pd (Vc.D.crash ks torn bytes) X' hd10 hcok rfl (by omega) hw10
              have HOp := Lib.hid hOp
              have HRB := Lib.hid (And.intro hc10 (And.intro hdd10 hb10))
              have HOne := Lib.hid HA2.out.1.one
              clear hOp hc10 hdd10 hb10 hw10 hd10 hg10 hk10 HA2 hcok hclen hB
              go_wp2_with fail
              refine HOp.out.mono ?_
              clear HOp
              rintro e w11 ⟨hk11, ⟨R5, q5, vF5, X5', ho5, rfl, hv5, -, -, -⟩ | ⟨ho5, -⟩⟩
              case inr => rw [hop] at ho5; cases ho5
              rw [hop] at ho5
              obtain rfl : Q = R5 := Option.some.inj ho5
              clear ho5 hop
              have hc11 := HRB.out.1.kept hk11 (fun _ _ hf => hf)
              have hd11 := HRB.out.2.1.kept hk11 (fun _ _ hf => hf)
              have hb11 : Below w.heap.size w w11 := HRB.out.2.2.trans (hk11.below HRB.out.2.2.size (fun _ hf => hf.elim))
              obtain ⟨aw, cw, rfl, hfw⟩ := hc11.files
              obtain ⟨an, cn, rfl, hfn⟩ := hd11.files
              have HR5 := Lib.hid (And.intro hv5 (And.intro hc11 (And.intro hd11 (And.intro hb11 (And.intro hfw hfn)))))
              clear hv5 hc11 hd11 hb11 hfw hfn HRB hk11
              go_upto_region 33 with (fail)
              refine wp_region_until (fun w' => w'.cell? ⟨q1, 0, none⟩ = some (.int .i64 (Rw.1 : Int)) ∧ w'.cell? ⟨q1, 1, none⟩ = some (.int .i64 (Rw.2.1 : Int)) ∧ w'.cell? ⟨q1, 2, none⟩ = some (.int .i64 (Rw.2.2.1 : Int)) ∧ w'.cell? ⟨q1, 3, none⟩ = some (.slice aw Rw.2.2.2.length cw)) 4 (by kernel_rfl) ?_
              have hbx5 := HR5.out.2.1.box
              have hS5 : w11.drew.cell? ⟨q1, 0, none⟩ = some (.int .i64 (Rw.1 : Int)) ∧ w11.drew.cell? ⟨q1, 1, none⟩ = some (.int .i64 (Rw.2.1 : Int)) ∧ w11.drew.cell? ⟨q1, 2, none⟩ = some (.int .i64 (Rw.2.2.1 : Int)) ∧ w11.drew.cell? ⟨q1, 3, none⟩ = some (.slice aw Rw.2.2.2.length cw) := ⟨hbx5.cell 0 _ rfl, hbx5.cell 1 _ rfl, hbx5.cell 2 _ rfl, hbx5.cell 3 _ rfl⟩
              refine wpAnyU_take (i := 0) (v := (.pointer (some ⟨q5, 0, none⟩))) (some 141) rfl rfl (by kernel_rfl) (by kernel_rfl) (by kernel_rfl) (by kernel_rfl) (fun _ _ _ h => h) hS5 (yields_of (by kernel_rfl) (fun w hw => by kernel_rfl)) ?_
              refine wpAnyU_take (i := 2) (v := (.agg #[.int .i64 (Rw.1 : Int), .int .i64 (Rw.2.1 : Int), .int .i64 (Rw.2.2.1 : Int), .slice aw Rw.2.2.2.length cw])) (some 143) rfl rfl (by kernel_rfl) (by kernel_rfl) (by kernel_rfl) (by kernel_rfl) (fun _ _ _ h => h) hS5 (yields_of (by kernel_rfl) (fun w hw => by have h1 := hw.1; have h2 := hw.2.1; have h3 := hw.2.2.1; have h4 := hw.2.2.2; go_simp)) ?_
              refine wpAnyU_call (i := 1) (f := 12) (args := #[.pointer (some ⟨q5, 0, none⟩)]) (some 142) rfl rfl (by kernel_rfl) (by kernel_rfl) (by kernel_rfl) ?_
              have hkd5 : Kept (fun _ => False) w11 w11.drew := (Kept.refl _ _).drewN 1
              refine (rootP w11.drew w1.heap.size q5 pd _ vF5 X5' (HR5.out.1.still hkd5)).mono ?_
              rintro e wa5 ⟨hka5, vR5, rfl, hoR5⟩
              obtain ⟨aR5, cR5, rfl, hfR5⟩ := own_files hoR5 rfl hfitQ
              have hk5a := hkd5.trans hka5 (fun _ hf => hf.elim)
              have hSa5 := (hbx5.of_block (hk5a.block _ hbx5.lt (fun hf => hf)))
              refine ⟨_, rfl, fun _ => ⟨hSa5.cell 0 _ rfl, hSa5.cell 1 _ rfl, hSa5.cell 2 _ rfl, hSa5.cell 3 _ rfl⟩, ?_⟩
              refine wpAnyU_call (i := 3) (f := 16) (args := #[.agg #[.int .i64 (Q.1 : Int), .int .i64 (Q.2.1 : Int), .int .i64 (Q.2.2.1 : Int), .slice aR5 Q.2.2.2.length cR5], .agg #[.int .i64 (Rw.1 : Int), .int .i64 (Rw.2.1 : Int), .int .i64 (Rw.2.2.1 : Int), .slice aw Rw.2.2.2.length cw]]) (some 144) rfl rfl (by kernel_rfl) (by kernel_rfl) (by kernel_rfl) ?_
              refine (same_any Q Rw aR5 aw cR5 cw wa5 hfR5 (Files.below HR5.out.2.2.2.2.1 (hk5a.below (Nat.le_refl _) (fun _ hf => hf.elim))) hfewQ).mono ?_
              rintro e wb5 ⟨b1, rfl, hb1, hbl5⟩
              have hkb5 := hk5a.trans (Kept.of_below (fun _ => False) hbl5) (fun _ hf => hf.elim)
              have hSb5 := (hbx5.of_block (hkb5.block _ hbx5.lt (fun hf => hf)))
              refine ⟨_, rfl, fun _ => ⟨hSb5.cell 0 _ rfl, hSb5.cell 1 _ rfl, hSb5.cell 2 _ rfl, hSb5.cell 3 _ rfl⟩, ?_⟩
              refine wpAnyU_run (i := 4) (v := .bool b1) (w' := wb5) (some 28) rfl rfl (by kernel_rfl) (by kernel_rfl) (by kernel_rfl) (fun h => absurd h (by decide)) ?_
              refine wpAnyU_done (by kernel_rfl) ?_ _
              simp only [put_lit, List.set_cons_succ, List.set_cons_zero]
              have hf6 := Files.below HR5.out.2.2.2.2.2 (hkb5.below (Nat.le_refl _) (fun _ hf => hf.elim))
              have hR6 := And.intro (HR5.out.1.still hkb5) (And.intro (HR5.out.2.2.1.kept hkb5 (fun _ _ hf => hf)) (And.intro (HR5.out.2.2.2.1.trans (hkb5.below HR5.out.2.2.2.1.size (fun _ hf => hf.elim))) hf6))
              have HR6 := Lib.hid hR6
              clear hf6 hR6 HR5 hkb5 hSb5 hbl5 hSa5 hk5a hfR5 hoR5 hka5 hkd5 hS5 hbx5
              go_upto_region 34 with (fail)
              refine wp_region_until (fun w' => w'.cell? ⟨q2, 0, none⟩ = some (.int .i64 (Rn.1 : Int)) ∧ w'.cell? ⟨q2, 1, none⟩ = some (.int .i64 (Rn.2.1 : Int)) ∧ w'.cell? ⟨q2, 2, none⟩ = some (.int .i64 (Rn.2.2.1 : Int)) ∧ w'.cell? ⟨q2, 3, none⟩ = some (.slice an Rn.2.2.2.length cn)) 4 (by kernel_rfl) ?_
              have hbx6 := HR6.out.2.1.box
              have hS6 : wb5.drew.cell? ⟨q2, 0, none⟩ = some (.int .i64 (Rn.1 : Int)) ∧ wb5.drew.cell? ⟨q2, 1, none⟩ = some (.int .i64 (Rn.2.1 : Int)) ∧ wb5.drew.cell? ⟨q2, 2, none⟩ = some (.int .i64 (Rn.2.2.1 : Int)) ∧ wb5.drew.cell? ⟨q2, 3, none⟩ = some (.slice an Rn.2.2.2.length cn) := ⟨hbx6.cell 0 _ rfl, hbx6.cell 1 _ rfl, hbx6.cell 2 _ rfl, hbx6.cell 3 _ rfl⟩
              refine wpAnyU_take (i := 0) (v := (.pointer (some ⟨q5, 0, none⟩))) (some 145) rfl rfl (by kernel_rfl) (by kernel_rfl) (by kernel_rfl) (by kernel_rfl) (fun _ _ _ h => h) hS6 (yields_of (by kernel_rfl) (fun w hw => by kernel_rfl)) ?_
              refine wpAnyU_take (i := 2) (v := (.agg #[.int .i64 (Rn.1 : Int), .int .i64 (Rn.2.1 : Int), .int .i64 (Rn.2.2.1 : Int), .slice an Rn.2.2.2.length cn])) (some 147) rfl rfl (by kernel_rfl) (by kernel_rfl) (by kernel_rfl) (by kernel_rfl) (fun _ _ _ h => h) hS6 (yields_of (by kernel_rfl) (fun w hw => by have h1 := hw.1; have h2 := hw.2.1; have h3 := hw.2.2.1; have h4 := hw.2.2.2; go_simp)) ?_
              refine wpAnyU_call (i := 1) (f := 12) (args := #[.pointer (some ⟨q5, 0, none⟩)]) (some 146) rfl rfl (by kernel_rfl) (by kernel_rfl) (by kernel_rfl) ?_
              have hkd6 : Kept (fun _ => False) wb5 wb5.drew := (Kept.refl _ _).drewN 1
              refine (rootP wb5.drew w1.heap.size q5 pd _ vF5 X5' (HR6.out.1.still hkd6)).mono ?_
              rintro e wa6 ⟨hka6, vR6, rfl, hoR6⟩
              obtain ⟨aR6, cR6, rfl, hfR6⟩ := own_files hoR6 rfl hfitQ
              have hk6a := hkd6.trans hka6 (fun _ hf => hf.elim)
              have hSa6 := (hbx6.of_block (hk6a.block _ hbx6.lt (fun hf => hf)))
              refine ⟨_, rfl, fun _ => ⟨hSa6.cell 0 _ rfl, hSa6.cell 1 _ rfl, hSa6.cell 2 _ rfl, hSa6.cell 3 _ rfl⟩, ?_⟩
              refine wpAnyU_call (i := 3) (f := 16) (args := #[.agg #[.int .i64 (Q.1 : Int), .int .i64 (Q.2.1 : Int), .int .i64 (Q.2.2.1 : Int), .slice aR6 Q.2.2.2.length cR6], .agg #[.int .i64 (Rn.1 : Int), .int .i64 (Rn.2.1 : Int), .int .i64 (Rn.2.2.1 : Int), .slice an Rn.2.2.2.length cn]]) (some 148) rfl rfl (by kernel_rfl) (by kernel_rfl) (by kernel_rfl) ?_
              refine (same_any Q Rn aR6 an cR6 cn wa6 hfR6 (Files.below HR6.out.2.2.2 (hk6a.below (Nat.le_refl _) (fun _ hf => hf.elim))) hfewQ).mono ?_
              rintro e wb6 ⟨b2, rfl, hb2, hbl6⟩
              have hkb6 := hk6a.trans (Kept.of_below (fun _ => False) hbl6) (fun _ hf => hf.elim)
              have hSb6 := (hbx6.of_block (hkb6.block _ hbx6.lt (fun hf => hf)))
              refine ⟨_, rfl, fun _ => ⟨hSb6.cell 0 _ rfl, hSb6.cell 1 _ rfl, hSb6.cell 2 _ rfl, hSb6.cell 3 _ rfl⟩, ?_⟩
              refine wpAnyU_run (i := 4) (v := .bool b2) (w' := wb6) (some 29) rfl rfl (by kernel_rfl) (by kernel_rfl) (by kernel_rfl) (fun h => absurd h (by decide)) ?_
              refine wpAnyU_done (by kernel_rfl) ?_ _
              simp only [put_lit, List.set_cons_succ, List.set_cons_zero]
              have hEnd := HR6.out.2.2.1.trans (hkb6.below HR6.out.2.2.1.size (fun _ hf => hf.elim))
              have hOr : b1 = true ∨ b2 = true := HOne.out.elim (fun h => .inl (hb1 h)) (fun h => .inr (hb2 h))
              clear HR6 hkb6 hSb6 hbl6 hSa6 hk6a hfR6 hoR6 hka6 hkd6 hS6 hbx6 hb1 hb2 HOne
              cases b1
              case' false =>
                obtain rfl : b2 = true := hOr.elim (fun h => by cases h) id
              all_goals
                go_wp2
                go_ret
                exact ⟨rfl, hEnd⟩

end Go.Proofs.YtlgdfalbhpgllaaGreatDoor
