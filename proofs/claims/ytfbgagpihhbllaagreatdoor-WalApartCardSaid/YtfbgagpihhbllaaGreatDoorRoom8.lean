/- The law WalRoom, walked over the contract of the program's log. -/
import Derived.Test.YtfbgagpihhbllaaGreatDoorApart8
import Derived.Test.YtfbgagpihhbllaaGreatDoorJ41
import Derived.Test.YtfbgagpihhbllaaGreatDoorJ05
namespace Go.Proofs.YtfbgagpihhbllaaGreatDoor
open Go.RowKit Go.Proofs Go.Proofs.Pk
set_option maxRecDepth 10000
attribute [local simp] mk_get wrap64_u8 mk_extract ByteArray.mk_append_mk get_1k

theorem info9W : (Tryz.prog.info? 9).map (fun i => (i.zero, i.size, i.bytes)) = some (some (.string ⟨#[]⟩), 1, 16) := by kernel_rfl
/-- The texts that the law keeps: a slice of its own, apart from the volume and the log. -/
structure KL (w1 wr : World) (pl : Nat) (vF : Value) (X : Nat → Prop) (v : Value) (T : List (List UInt8)) : Prop where
  own : wr.ownsRow w1.heap.size 9 1 v T.length (T.map strV)
  off : ∀ k, v.ownBlock = some k → ¬X k ∧ k ≠ pl ∧ vF.ownBlock ≠ some k
theorem KL.step {w1 wr w2 : World} {pl : Nat} {vF vF' v : Value} {X X' Y : Nat → Prop} {T : List (List UInt8)} (h : KL w1 wr pl vF X v T) (hk : Kept Y wr w2) (hY : ∀ k, v.ownBlock = some k → ¬Y k) (hg : GrowsV wr X X' vF vF') : KL w1 w2 pl vF' X' v T :=
  ⟨owns_of_block h.own fun g hgb => hk.block g (h.own.lt g hgb).2 (hY g hgb), fun k hkb => by
    have h1 := h.off k hkb
    have h2 := (h.own.lt k hkb).2
    refine ⟨fun hx => ?_, h1.2.1, fun hv => ?_⟩
    · rcases hg.1 k hx with h3 | h3
      · exact h1.1 h3
      · omega
    · rcases hg.2 k hv with h3 | h3
      · exact h1.2.2 h3
      · omega⟩
theorem KL.still {w1 wr w2 : World} {pl : Nat} {vF v : Value} {X : Nat → Prop} {T : List (List UInt8)} (h : KL w1 wr pl vF X v T) (hk : Kept (fun _ => False) wr w2) : KL w1 w2 pl vF X v T :=
  ⟨owns_of_block h.own fun g hgb => hk.block g (h.own.lt g hgb).2 (fun hf => hf), h.off⟩
theorem KL.strs {w1 wr : World} {pl : Nat} {vF v : Value} {X : Nat → Prop} {T : List (List UInt8)} (h : KL w1 wr pl vF X v T) : ∃ ad cap, v = .slice ad T.length cap ∧ Strs wr ad T.length T := by
  rcases h.own.2 with ⟨rfl, h0⟩ | ⟨g, cap, cur, rfl, _, h2, _⟩
  · have : T = [] := by simpa using h0
    subst this
    exact ⟨none, 0, rfl, rfl, .inl rfl⟩
  · refine ⟨_, cap, rfl, rfl, .inr ⟨g, 0, rfl, (Array.getElem?_eq_some_iff.1 h2).1, fun i hi => ?_⟩⟩
    have := h.own.cells rfl i (strV T[i]) (by simp [hi])
    rw [show ((⟨g, 0, none⟩ : Addr).add i) = ⟨g, 0 + i, none⟩ from by unfold Addr.add; split <;> simp_all] at this
    simpa [strV] using this
theorem On.other8 {w w1 w2 : World} {p pd : Nat} {V : Vol} {vF : Value} {X Y : Nat → Prop} (h : On w w1 p pd V vF X) (hk : Kept Y w1 w2) (hd : ∀ k, X k ∨ vF.ownBlock = some k → ¬Y k) (hY : ∀ k, Y k → w.heap.size ≤ k) : On w w2 p pd V vF X :=
  ⟨h.vol.kept hk hd, h.below.trans (hk.below h.below.size hY), h.err.kept hk (fun hx => by have := hY _ hx; have := h.lt; omega), h.lt⟩

/-- A text more among those kept. -/
theorem On8.more {At : LogOf} (K : WalK At) {w w8 w9 w' : World} {p pd pl : Nat} {V : Vol} {vF v v' : Value} {X : Nat → Prop} {R : RootN} {g : FileN} {recs T : List (List UInt8)} (s : List UInt8) (h : On8 At w w8 p pd pl V vF X R g recs) (hk0 : KL w w8 pl vF X v T)
    (hkA : Kept (fun _ => False) w8 w9) (hgrow : w9.grownBy w' v.ownBlock) (hown : w'.ownsRow w.heap.size 9 1 v' (T.length + 1) (T.map strV ++ [.string ⟨s.toArray⟩])) (hor : v'.ownBlock = v.ownBlock ∨ v'.ownBlock = some w9.heap.size) :
    On8 At w w' p pd pl V vF X R g recs ∧ KL w w' pl vF X v' (T ++ [s]) := by
  have h9 := h.still K hkA
  have hk9 := hk0.still hkA
  have hk : Kept (fun k => v.ownBlock = some k) w9 w' := kept_grown (Kept.refl _ _) hgrow (fun b hb => .inl hb)
  refine ⟨⟨h9.on.other8 hk (fun k hx hv => ?_) (fun k hv => (hk9.own.lt k hv).1), h9.log, K.kept h9.held hk (fun hv => (hk9.off pl hv).2.1 rfl), h9.off, h9.offF, h9.low⟩, ?_, fun k hv => ?_⟩
  · rcases hx with hx | hx
    · exact (hk9.off k hv).1 hx
    · exact (hk9.off k hv).2.2 hx
  · rw [List.length_append, List.map_append]; exact hown
  · rcases hor with h1 | h1
    · exact hk9.off k (by rw [← h1]; exact hv)
    · rw [h1] at hv
      have hkw : k = w9.heap.size := (Option.some.inj hv).symm
      have hlt := K.lt h9.held
      exact ⟨fun hx => by have := (h9.on.vol.lt k (.inl hx)).2; omega, by omega, fun hx => by have := (h9.on.vol.lt k (.inr hx)).2; omega⟩

set_option maxHeartbeats 4000000 in
theorem roomW8 {At : LogOf} (K : WalK At) (many : Int) (ad : Option Addr) (len cap : Nat) (l : List (List UInt8)) (w : World) (hg : ErrTy w) (hmf : -9223372036854775808 ≤ many ∧ many ≤ 9223372036854775807) (h0 : Strs w ad len l) (b0 : (len : Int) ≤ 140737488351232 ∧ ∀ s ∈ l, s.length ≤ 140737488351232) :
    Calls Tryz.prog 5 #[.int .i64 many, .slice ad len cap] w fun e w' => e = .returned (.bool true) ∧ Below w.heap.size w w' := by
  have HE := Lib.hid (examples8 K w hg)
  have HS := Lib.hid h0
  have HB0 := Lib.hid b0
  have HG := Lib.hid hg
  obtain ⟨k0, hk0⟩ : ∃ k0, k0 = pickN many 40 := ⟨_, rfl⟩
  have hk40 : k0 < 40 := by rw [hk0]; exact pickN_lt _ (by decide)
  obtain ⟨i0, hi, hz0, hz1, hz2⟩ := info_parts info9W
  have HP := Lib.hid (fun (w0 : World) => by have := pick_any many 40 w0 hmf (by decide) (by decide); rw [← hk0, show ((40 : Nat) : Int) = 40 from rfl] at this; exact this)
  obtain ⟨m, hm⟩ : ∃ m, m = 1 + k0 := ⟨_, rfl⟩
  have hm40 : 1 ≤ m ∧ m ≤ 40 := by omega
  have hwm : IntKind.i64.wrap (1 + (k0 : Int)) = (m : Int) := by rw [show (1 : Int) + (k0 : Int) = (m : Int) from by omega]; exact IntWalk.i64_in _ (by omega)
  have hwm1 : IntKind.i64.wrap ((m : Int) - 1) = (k0 : Int) := by rw [show (m : Int) - 1 = (k0 : Int) from by omega]; exact IntWalk.i64_in _ (by omega)
  obtain ⟨r0, hr0⟩ : ∃ r0 : Int, Hid (r0 = roomW m 0) := ⟨_, rfl⟩
  have hwm2 : IntKind.i64.wrap (64 * (k0 : Int)) = r0 := by
    have : r0 = 64 * (k0 : Int) := by rw [hr0.out]; unfold roomW; rw [if_neg (by omega)]; omega
    rw [this]; exact IntWalk.i64_in _ (by omega)
  have HM := Lib.hid hm40
  clear h0 b0 hg hk0 hmf hm hm40
  go_enter Tryz.func5, Tryz.ntmps5
  go_wp2_with fail
  refine HE.out.mono ?_
  clear HE
  rintro e w1 ⟨rfl, hb1⟩
  have HB1 := Lib.hid hb1
  have hE1 := HG.out.kept (Kept.of_below (fun _ => False) hb1) (fun hf => hf)
  have HMd := Lib.hid (madeP m ⟨HM.out.1, by have := HM.out.2; omega⟩ w1 hE1)
  clear hb1 hE1
  go_wp2_with fail
  refine (HP.out w1).mono ?_
  rintro e wp ⟨rfl, rfl⟩
  clear HP
  go_wp2_with fail
  refine HMd.out.mono ?_
  clear HMd
  rintro e w2 ⟨p, pd, V, vF, X, rfl, hOn, hNew⟩
  have hgm : ((1, 18, m) : FileN) ∈ V.R.2.2.2 := by rw [hNew.root]; exact List.mem_cons_self ..
  have hLy := lay8 K hOn hNew.alive hNew.fuse (by have := hNew.n; omega) (by rw [hNew.calm]; simp) (1, 18, m) hgm
  change Calls _ _ #[.pointer (some ⟨p, 0, none⟩), .int .i64 1] _ _ at hLy
  rw [hNew.root] at hLy
  have HLy := Lib.hid hLy
  have HNw := Lib.hid hNew
  clear hLy hOn hgm hNew
  go_wp2_with fail
  refine HLy.out.mono ?_
  clear HLy
  rintro e w3 ⟨pl, V3, vF3, X3, rfl, h3, hL3, hn3, hf3, -, -⟩
  have HLn := Lib.hid (K.len h3.held)
  have H3 := Lib.hid (And.intro h3 (And.intro hn3 (And.intro hf3 hL3)))
  clear h3 hn3 hf3 hL3
  go_wp2_with fail
  refine HLn.out.mono ?_
  clear HLn
  rintro e w4 ⟨rfl, hk4⟩
  have h4 := H3.out.1.still K hk4
  have hR := K.room h4.held h4.log.log.fits (by show m ≤ 4000; have := HM.out.2; omega)
  rw [show roomW ((1, 18, m) : FileN).2.2 (recN []) = r0 from hr0.out.symm] at hR
  have HR := Lib.hid hR
  have H4 := Lib.hid h4
  clear hR h4 hk4
  go_wp2_with fail
  refine HR.out.mono ?_
  clear HR
  rintro e w5 ⟨rfl, hk5⟩
  have h5 := H4.out.still K hk5
  have HI : Hid (∃ V vF X recs, On8 At w1 w5 p pd pl V vF X (oneR 2 1 m) (1, 18, m) recs ∧ KL w1 w5 pl vF X (.slice none 0 0) recs ∧ recs.length ≤ 0 ∧ V.D.fuse < 0 ∧ V.D.n ≤ 120 + 60 * 0 ∧ V.D.L.length = 18 + m) :=
    ⟨V3, vF3, X3, [], h5, ⟨⟨rfl, .inl ⟨rfl, rfl⟩⟩, fun k hk => by cases hk⟩, Nat.le_refl _, H3.out.2.2.1, by have := HNw.out.n; have := HM.out.2; have : V3.D.n ≤ V.D.n + m := H3.out.2.1; omega, by rw [H3.out.2.2.2, HNw.out.size]⟩
  clear h5 hk5 H4 H3 HNw
  go_wp2
  go_loopw [11, 12] (fun v i wr => ∃ j : Nat, j ≤ len ∧ j ≤ 30 ∧ i = .int .i64 (j : Int) ∧ Hid (∃ V vF X recs, On8 At w1 wr p pd pl V vF X (oneR 2 1 m) (1, 18, m) recs ∧ KL w1 wr pl vF X v recs ∧ recs.length ≤ j ∧ V.D.fuse < 0 ∧ V.D.n ≤ 120 + 60 * j ∧ V.D.L.length = 18 + m)) (fun _ i _ => 30 - (intOf i).toNat)
  case atStart => exact ⟨0, Nat.zero_le _, by omega, rfl, HI⟩
  case round =>
    obtain ⟨j, hj, hj30, rfl, hI⟩ := hrel
    clear HI
    obtain ⟨V4, vF4, X4, recs, h4, hkl, hlen, hf4, hn4, hL4⟩ := hI.out
    have hbw : Below w.heap.size w wr := HB1.out.trans (h4.on.below.mono HB1.out.size)
    by_cases hlt : (j : Int) < (len : Int) ∧ (j : Int) < 30
    · obtain ⟨hlt1, hlt2⟩ := hlt
      obtain ⟨b, off, rfl, hbl, hjl, hcell⟩ := strs_at HS.out hbw j (by omega)
      obtain ⟨s, hs⟩ : ∃ s, s = l[j] := ⟨_, rfl⟩
      have hsl : s.length ≤ 140737488351232 := by rw [hs]; exact HB0.out.2 _ (List.getElem_mem _)
      rw [← hs] at hcell
      have hj0 : (0 : Int) ≤ (j : Int) := by omega
      have hwj : IntKind.i64.wrap ((j : Int) + 1) = (j : Int) + 1 := IntWalk.i64_in _ (by omega)
      have hbr : b < wr.heap.size := by have := hbw.size; omega
      have hXb : ∀ k, (X4 k ∨ k = pl) → k ≠ b := by
        rintro k (hk | rfl)
        · have h1 := (h4.on.vol.lt k (.inl hk)).1; have h2 := HB1.out.size; omega
        · have h1 := h4.low; have h2 := HB1.out.size; omega
      obtain ⟨r1, hr1⟩ : ∃ r1 : Int, Hid (r1 = roomW m (recN recs)) := ⟨_, rfl⟩
      have hR := K.room h4.held h4.log.log.fits (by show m ≤ 4000; have := HM.out.2; omega)
      change Calls _ _ _ _ (fun r w' => r = .returned (.int .i64 (roomW m (recN recs))) ∧ _) at hR
      rw [← hr1.out] at hR
      have HR := Lib.hid hR
      have HV := Lib.hid (And.intro h4 (And.intro hkl (And.intro hlen (And.intro hf4 (And.intro hn4 (And.intro hL4 (And.intro hsl (And.intro hcell (And.intro hbr hXb)))))))))
      clear hR h4 hkl hlen hf4 hn4 hL4 hs hI hcell hbr hXb hbl hbw
      go_wp2_with fail
      refine HR.out.mono ?_
      clear HR
      rintro e w6 ⟨rfl, hk6⟩
      obtain ⟨h4, hkl, hlen, hf4, hn4, hL4, hsl', hcell, hbr, hXb⟩ := HV.out
      have hcell6 : w6.cell? ⟨b, off + j, none⟩ = some (.string ⟨s.toArray⟩) := by rw [hk6.cell (p := ⟨b, off + j, none⟩) hbr (fun hf => hf)]; exact hcell
      have hbr6 : b < w6.heap.size := Nat.lt_of_lt_of_le hbr hk6.size
      have HA := Lib.hid (append8 K (h4.still K hk6) (by omega) (by omega) s hsl)
      have HK6 := Lib.hid (And.intro (hkl.still hk6) hbr6)
      clear h4 hkl hlen hf4 hn4 hL4 hsl' hcell hbr hXb hbr6 hk6 hsl
      go_wp2_with fail
      refine HA.out.mono ?_
      clear HA
      rintro e w7 ⟨v7, rfl, hk7, h7⟩
      have hcell7 : w7.cell? ⟨b, off + j, none⟩ = some (.string ⟨s.toArray⟩) := by rw [hk7.cell (p := ⟨b, off + j, none⟩) HK6.out.2 (fun hx => HV.out.2.2.2.2.2.2.2.2.2 b hx rfl)]; exact hcell6
      have hYk : ∀ k v0, KL w1 w6 pl vF4 X4 v0 recs → v0.ownBlock = some k → ¬(X4 k ∨ k = pl) := fun k v0 h hb hx => hx.elim (h.off k hb).1 (h.off k hb).2.1
      rcases h7 with ⟨hfit, rfl, V7, vF7, X7, h7, hL7, hn7, hf7, hg7⟩ | ⟨hno, he7, vF7, X7, h7, hov7, hg7⟩ | ⟨hfu, _⟩
      case inr.inr => have := HV.out.2.2.2.1; omega
      · have hle : (s.length : Int) ≤ r1 := by rw [hr1.out]; exact (room_iff HV.out.1.log.log.fits s.length).1 hfit
        have hkl7 := HK6.out.1.step hk7 (fun k hb => hYk k _ HK6.out.1 hb) hg7
        have H7 := Lib.hid (And.intro h7 (And.intro hkl7 (And.intro hL7 (And.intro hn7 (hf7 HV.out.2.2.2.1)))))
        clear h7 hkl7 hL7 hn7 hf7 hg7 hk7 hYk hcell6 HK6 hfit
        go_upto_region 15 with (fail)
        go_quiet (fail)
        have hkd : Kept (fun _ => False) w7 (w7.drewN nq) := (Kept.refl _ _).drewN nq
        have hc8 : (w7.drewN nq).cell? ⟨b, off + j, none⟩ = some (.string ⟨s.toArray⟩) := hcell7
        obtain ⟨w8, hw8⟩ : ∃ w8, w8 = w7.drewN nq := ⟨_, rfl⟩
        rw [← hw8] at hkd hc8 ⊢
        have h8 := H7.out.1.still K hkd
        have hkl8 := H7.out.2.1.still hkd
        have hk89 : Kept (fun _ => False) w8 (w8.alloc (.cells #[.string ⟨s.toArray⟩] 9)) := (Kept.refl _ _).alloc _
        have hlen8 := HV.out.2.2.1
        have hsz8 := h8.on.below.size
        have H8 := Lib.hid (And.intro h8 (And.intro hkl8 (And.intro hlen8 (And.intro hsz8 hk89))))
        clear hw8 hkd h8 hkl8 hlen8 hsz8 hk89 hcell7
        go_wp2_with (at_builtin; refine wpList_append_at _ rfl (.tmp 95) (.tmp 100) 46 rfl w1.heap.size 9 i0 (.string ⟨#[]⟩) 1 16 Tryz.underlying46 hi hz0 hz1 hz2 rfl (by decide) _ _ _ rfl (H8.out.2.1.own.alloc _) ⟨w8.heap.size, 0, none⟩ 1 1 [.string ⟨s.toArray⟩] rfl rfl ?d1 ?d2 ?d3 ?d4 ?d5 (by decide) ?_)
        case d1 =>
          intro j u hj
          match j, hj with
          | 0, hj => simp at hj; subst hj; simp [Addr.add]
        case d2 => intro u hu; simp at hu; subst hu; rfl
        case d3 => have := H8.out.2.2.1; unfold maxLen; omega
        case d4 => have := H8.out.2.2.1; omega
        case d5 => have := H8.out.2.2.2.1; simp; omega
        · intro v' w9 hown' hgrow hor
          obtain ⟨h10, hk10⟩ := H8.out.1.more K s H8.out.2.1 H8.out.2.2.2.2 hgrow hown' (by simpa using hor)
          have HI9 : Hid (∃ V vF X recs, On8 At w1 w9 p pd pl V vF X (oneR 2 1 m) (1, 18, m) recs ∧ KL w1 w9 pl vF X v' recs ∧ recs.length ≤ j + 1 ∧ V.D.fuse < 0 ∧ V.D.n ≤ 120 + 60 * (j + 1) ∧ V.D.L.length = 18 + m) := by
            obtain ⟨_, _, q1, q2, q3, q4, _⟩ := HV.out
            obtain ⟨_, _, q5, q6, q7⟩ := H7.out
            refine ⟨V7, vF7, X7, _, h10, hk10, by rw [List.length_append]; simp only [List.length_cons, List.length_nil]; omega, q7, ?_, by rw [q5, q4]⟩
            have : V7.D.n ≤ V4.D.n + m := q6
            have := HM.out.2
            omega
          clear hown' hgrow hor h10 hk10 H8 H7 HV
          go_wp2
          go_roundw
          case rel => exact ⟨j + 1, by omega, by omega, by first | rfl | go_num, HI9⟩
          case measure => simp [intOf]; omega
      · have hnle : ¬(s.length : Int) ≤ r1 := by rw [hr1.out]; exact fun h => hno ((room_iff HV.out.1.log.log.fits s.length).2 h)
        obtain ⟨b5, i5, hb5, rfl, hf5, hi5⟩ := fault_code he7 (by decide)
        have hkl7 := HK6.out.1.step hk7 (fun k hb => hYk k _ HK6.out.1 hb) hg7
        have HIS : Hid (∀ n : Nat, Calls Tryz.prog 25 #[.iface 81 (.pointer (some ⟨b5, 0, none⟩)), .int .i64 7, .bool false] (w7.drewN n) fun e w' => e = .returned (.bool true) ∧ ∃ k, w' = (w7.drewN n).drewN k) := fun n =>
          law_is_yes b5 7 i5 false (w7.drewN n) (by decide) (faultAt8_kept hf5 ((Kept.refl (fun _ => False) w7).drewN n) hb5 (fun hf => hf)) (by rcases hi5 with ⟨_, h⟩ | ⟨h, _⟩; exact .inl ⟨h, rfl⟩; cases h)
        have H7 := Lib.hid (And.intro h7 hkl7)
        clear h7 hkl7 hg7 hk7 hYk hcell6 HK6 hno he7 hf5 hi5 hov7 hb5
        go_upto_region 15 with (fail)
        go_quiet (first | (go_at_call 25; refine Calls.quiet_of (HIS.out _)))
        have hkd : Kept (fun _ => False) w7 (w7.drewN nq) := (Kept.refl _ _).drewN nq
        have HI9 : Hid (∃ V vF X recs, On8 At w1 (w7.drewN nq) p pd pl V vF X (oneR 2 1 m) (1, 18, m) recs ∧ KL w1 (w7.drewN nq) pl vF X u11 recs ∧ recs.length ≤ j + 1 ∧ V.D.fuse < 0 ∧ V.D.n ≤ 120 + 60 * (j + 1) ∧ V.D.L.length = 18 + m) := by
          obtain ⟨_, _, q1, q2, q3, q4, _⟩ := HV.out
          exact ⟨V4, vF7, X7, recs, H7.out.1.still K hkd, H7.out.2.still hkd, by omega, q2, by omega, q4⟩
        clear H7 HV hkd HIS
        go_wp2
        go_roundw
        case rel => exact ⟨j + 1, by omega, by omega, by first | rfl | go_num, HI9⟩
        case measure => simp [intOf]; omega
    · obtain ⟨adk, capk, rfl, _⟩ := hkl.strs
      have hrl : (recs.length : Int) ≤ 140737488351232 := by omega
      have hop := open8 K h4.on h4.log.alive hf4 h4.log.calm (by omega) (1, 18, m) (by rw [h4.log.root]; exact h4.log.file) recs h4.log.log.half
      change Calls _ _ #[.pointer (some ⟨p, 0, none⟩), .int .i64 1] _ _ at hop
      have HOp := Lib.hid hop
      have HV := Lib.hid (And.intro h4 (And.intro hkl hrl))
      obtain ⟨r1, hr1⟩ : ∃ r1 : Int, Hid (r1 = roomW m (recN recs)) := ⟨_, rfl⟩
      obtain ⟨nn, hnn⟩ : ∃ nn, Hid (nn = recs.length) := ⟨_, rfl⟩
      rw [← hnn.out] at HOp ⊢
      clear hop h4 hkl hrl hI hlen hf4 hn4 hL4 hbw
      by_cases hjl1 : (j : Int) < (len : Int)
      case' pos =>
        have hjl2 : decide ((j : Int) < 30) = false := by rw [decide_eq_false_iff_not]; omega
      all_goals
        go_wp2_with fail
        refine HOp.out.mono ?_
        clear HOp
        rintro e w8 ⟨pl8, ad8, cap8, V8, vF8, X8, rfl, hst8, h8, hL8, hn8, hf8, hk8, hpl8, hg8, hap8⟩
        have hkl8 := HV.out.2.1.step hk8 (fun k hb => (HV.out.2.1.off k hb).1) hg8
        have hAt8 := K.kept HV.out.1.held hk8 HV.out.1.off
        obtain ⟨adz, capz, hz, hst9⟩ := hkl8.strs
        have hza : adz = adk := by injection hz with h1 _ _; exact h1.symm
        rw [hza, ← hnn.out] at hst9
        have hT := texts_any ad8 adk nn cap8 nn capk recs recs w8 hst8 hst9 (by rw [hnn.out]; exact HV.out.2.2)
        rw [decide_eq_true rfl] at hT
        have HT := Lib.hid hT
        have hfits := HV.out.1.log.log.fits
        have HC := Lib.hid (fun (w0 : World) (hk : Kept (fun _ => False) w8 w0) => And.intro (K.len (K.kept h8.held hk (fun hf => hf))) (And.intro (K.room (K.kept h8.held hk (fun hf => hf)) h8.log.log.fits (by show m ≤ 4000; have := HM.out.2; omega)) (K.room (K.kept hAt8 hk (fun hf => hf)) hfits (by show m ≤ 4000; have := HM.out.2; omega))))
        have HBw := Lib.hid (HB1.out.trans (h8.on.below.mono HB1.out.size))
        clear hT hst8 hst9 hAt8 hkl8 h8 hL8 hn8 hf8 hk8 hpl8 hg8 hap8 hz hza hfits
        go_wp2_with fail
        refine HT.out.mono ?_
        clear HT
        rintro e w9 ⟨rfl, hb9⟩
        have hk9 : Kept (fun _ => False) w8 w9 := Kept.of_below _ hb9
        have hc1 := (HC.out w9 hk9).1
        rw [← hnn.out] at hc1
        have HC1 := Lib.hid hc1
        have HK9 := Lib.hid hk9
        clear hc1 hb9 hk9
        go_wp2_with fail
        refine HC1.out.mono ?_
        clear HC1
        rintro e w10 ⟨rfl, hk10⟩
        have hk10' := HK9.out.trans hk10 (fun _ hf => hf.elim)
        have hc2 := (HC.out w10 hk10').2.1
        change Calls _ _ _ _ (fun r w' => r = .returned (.int .i64 (roomW m (recN recs))) ∧ _) at hc2
        rw [← hr1.out] at hc2
        have HC2 := Lib.hid hc2
        have HK10 := Lib.hid hk10'
        clear hc2 hk10 hk10' HK9
        go_wp2_with fail
        refine HC2.out.mono ?_
        clear HC2
        rintro e w11 ⟨rfl, hk11⟩
        have hk11' := HK10.out.trans hk11 (fun _ hf => hf.elim)
        have hc3 := (HC.out w11 hk11').2.2
        change Calls _ _ _ _ (fun r w' => r = .returned (.int .i64 (roomW m (recN recs))) ∧ _) at hc3
        rw [← hr1.out] at hc3
        have HC3 := Lib.hid hc3
        have HK11 := Lib.hid hk11'
        clear hc3 hk11 hk11' HK10
        go_wp2_with fail
        refine HC3.out.mono ?_
        clear HC3
        rintro e w12 ⟨rfl, hk12⟩
        have hk12' := HK11.out.trans hk12 (fun _ hf => hf.elim)
        have hBe := HBw.out.trans (hk12'.below HBw.out.size (fun _ hf => hf.elim))
        clear hk12 hk12' HC HK11
        go_wp2
        go_ret
        exact ⟨rfl, hBe⟩

end Go.Proofs.YtfbgagpihhbllaaGreatDoor
