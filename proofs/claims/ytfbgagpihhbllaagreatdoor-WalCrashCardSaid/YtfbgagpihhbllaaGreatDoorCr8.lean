/- The law WalCrash, walked. -/
import Derived.Test.YtfbgagpihhbllaaGreatDoorCr8a
import Derived.Test.YtfbgagpihhbllaaGreatDoorJ08
import Derived.Deep.Cut
import Derived.Deep.CutRange
namespace Go.Proofs.YtfbgagpihhbllaaGreatDoor
open Go.RowKit Go.Proofs Go.Proofs.Pk
set_option maxRecDepth 10000
attribute [local simp] mk_get wrap64_u8 mk_extract ByteArray.mk_append_mk get_1k

theorem ints_at {w w' : World} {ad : Option Addr} {len : Nat} {l : List Int} (h : Ints w ad len l) (hb : Below w.heap.size w w') (i : Nat) (hi : i < len) : ∃ b off x, ad = some ⟨b, off, none⟩ ∧ b < w.heap.size ∧ w'.cell? ⟨b, off + i, none⟩ = some (.int .i64 x) ∧ x ∈ l := by
  have hl := h.1
  rcases h.2 with h0 | ⟨b, off, h1, h2, h3⟩
  · rw [h0] at hl; simp at hl; omega
  · exact ⟨b, off, l[i]'(by omega), h1, h2, by rw [hb.cell (p := ⟨b, off + i, none⟩) h2]; exact h3 i (by omega), List.getElem_mem _⟩
theorem rowsS_at {w w' : World} {ad : Option Addr} {len : Nat} {L : List RowS} (h : RowsS w ad len L) (hb : Below w.heap.size w w') (i : Nat) (hi : i < len) : ∃ (b off : Nat) (r : RowS), ad = some ⟨b, off, none⟩ ∧ b < w.heap.size ∧ w'.cell? ⟨b, off + i, none⟩ = some (.slice r.ad r.len r.cap) ∧ Strs w r.ad r.len r.l ∧ (r.len : Int) ≤ 140737488351232 ∧ ∀ s ∈ r.l, s.length ≤ 140737488351232 := by
  have hl := h.1
  rcases h.2 with h0 | ⟨b, off, h1, h2, h3⟩
  · rw [h0] at hl; simp at hl; omega
  · have := h3 i (by omega)
    exact ⟨b, off, L[i]'(by omega), h1, h2, by rw [hb.cell (p := ⟨b, off + i, none⟩) h2]; exact this.cell, this.strs, this.few, this.short⟩
theorem rowsI_at {w w' : World} {ad : Option Addr} {len : Nat} {L : List RowI} (h : RowsI w ad len L) (hb : Below w.heap.size w w') (i : Nat) (hi : i < len) : ∃ (b off : Nat) (r : RowI), ad = some ⟨b, off, none⟩ ∧ b < w.heap.size ∧ w'.cell? ⟨b, off + i, none⟩ = some (.slice r.ad r.len r.cap) ∧ Ints w r.ad r.len r.l := by
  have hl := h.1
  rcases h.2 with h0 | ⟨b, off, h1, h2, h3⟩
  · rw [h0] at hl; simp at hl; omega
  · have := h3 i (by omega)
    exact ⟨b, off, L[i]'(by omega), h1, h2, by rw [hb.cell (p := ⟨b, off + i, none⟩) h2]; exact this.cell, this.ints⟩
theorem ints_under {w w' : World} {ad : Option Addr} {len : Nat} {l : List Int} (h : Ints w ad len l) (hb : Below w.heap.size w w') : Ints w' ad len l ∧ (l = [] ∨ ∀ b o, ad = some ⟨b, o, none⟩ → b < w.heap.size) := by
  rcases h.2 with h0 | ⟨b, off, h1, h2, h3⟩
  · exact ⟨⟨h.1, .inl h0⟩, .inl h0⟩
  · refine ⟨⟨h.1, .inr ⟨b, off, h1, Nat.lt_of_lt_of_le h2 hb.size, fun i hi => by rw [hb.cell (p := ⟨b, off + i, none⟩) h2]; exact h3 i hi⟩⟩, .inr fun b' o hb' => ?_⟩
    rw [h1] at hb'
    injection hb' with hb'
    injection hb' with e1 _ _
    omega

theorem Live8.more {w wr : World} {p pd pl n m : Nat} {V : Vol} {vF vk : Value} {X : Nat → Prop} {recs : List (List UInt8)} (h : Live8 w wr p pd pl V vF X vk recs n) (hn : n ≤ m) : Live8 w wr p pd pl V vF X vk recs m := ⟨h.on, h.kl, Nat.le_trans h.n hn, h.size⟩
/-- The second loop's state: what is under way, and whether the power went. -/
def In8 (w1 wr : World) (p pd pl : Nat) (vk : Value) (n : Nat) (s : List UInt8) (t : Bool) : Prop := ∃ V vF X recs, (t = false ∧ s = [] ∧ Live8 w1 wr p pd pl V vF X vk recs n) ∨ (t = true ∧ V.gone = true ∧ Dead8 w1 wr p pd pl V vF X vk recs n)
/-- The log goes on. -/
theorem Live8.kept {w wr w' : World} {p pd pl n : Nat} {V : Vol} {vF vk : Value} {X : Nat → Prop} {recs : List (List UInt8)} (h : Live8 w wr p pd pl V vF X vk recs n) (hk : Kept (fun _ => False) wr w') : Live8 w w' p pd pl V vF X vk recs n :=
  ⟨h.on.still walK hk, h.kl.still hk, h.n, h.size⟩

set_option maxHeartbeats 4000000 in
theorem crashK (ad0 : Option Addr) (len0 cap0 : Nat) (l0 : List RowS) (ad1 : Option Addr) (len1 cap1 : Nat) (l1 : List Int) (ad2 : Option Addr) (len2 cap2 : Nat) (l2 : List RowI) (ad3 : Option Addr) (len3 cap3 : Nat) (l3 : List Int) (ad4 : Option Addr) (len4 cap4 : Nat) (l4 : List Int) (w : World) (hg : ErrTy w)
    (h0 : RowsS w ad0 len0 l0) (h1 : Ints w ad1 len1 l1) (f1 : Fit64 l1) (h2 : RowsI w ad2 len2 l2) (h3 : Ints w ad3 len3 l3) (_f3 : Fit64 l3) (h4 : Ints w ad4 len4 l4) (_f4 : Fit64 l4) :
    Calls Tryz.prog 4 #[.slice ad0 len0 cap0, .slice ad1 len1 cap1, .slice ad2 len2 cap2, .slice ad3 len3 cap3, .slice ad4 len4 cap4] w fun e w' => e = .returned (.bool true) ∧ Below w.heap.size w w' := by
  have HE := Lib.hid (examples8 walK w hg)
  have HG := Lib.hid hg
  have HA := Lib.hid (And.intro h0 (And.intro h1 (And.intro f1 (And.intro h2 (And.intro h3 h4)))))
  obtain ⟨i0, hi, hz0, hz1, hz2⟩ := info_parts info9W
  clear hg h0 h1 f1 h2 h3 _f3 h4 _f4
  go_enter Tryz.func4, Tryz.ntmps4
  go_wp2_with fail
  refine HE.out.mono ?_
  clear HE
  rintro e w1 ⟨rfl, hb1⟩
  have HB1 := Lib.hid hb1
  have hE1 := HG.out.kept (Kept.of_below (fun _ => False) hb1) (fun hf => hf)
  have hMd := madeP 60 ⟨by omega, by omega⟩ w1 hE1
  rw [show ((60 : Nat) : Int) = 60 from rfl] at hMd
  have HMd := Lib.hid hMd
  clear hb1 hE1 hMd
  go_wp2_with fail
  refine HMd.out.mono ?_
  clear HMd
  rintro e w2 ⟨p, pd, V, vF, X, rfl, hOn, hNew⟩
  have hgm : g60 ∈ V.R.2.2.2 := by rw [hNew.root]; exact List.mem_cons_self ..
  have hLy := lay8 walK hOn hNew.alive hNew.fuse (by have := hNew.n; omega) (by rw [hNew.calm]; simp) g60 hgm
  change Calls _ _ #[.pointer (some ⟨p, 0, none⟩), .int .i64 1] _ _ at hLy
  rw [hNew.root] at hLy
  have HLy := Lib.hid hLy
  have HNw := Lib.hid hNew
  clear hLy hOn hgm hNew
  go_wp2_with fail
  refine HLy.out.mono ?_
  clear HLy
  rintro e w3 ⟨pl, V3, vF3, X3, rfl, h3, hL3, hn3, hf3, -, -⟩
  have HI : Hid (∃ V vF X recs, Live8 w1 w3 p pd pl V vF X (.slice none 0 0) recs (120 + 600 * 0) ∧ V.D.fuse < 0) :=
    ⟨V3, vF3, X3, [], ⟨h3, ⟨⟨rfl, .inl ⟨rfl, rfl⟩⟩, fun k hk => by cases hk⟩, by have := HNw.out.n; have : V3.D.n ≤ V.D.n + 60 := hn3; omega, by rw [hL3, HNw.out.size]⟩, hf3⟩
  clear h3 hL3 hn3 hf3 HNw
  go_wp2
  go_loopw [13, 15, 17, 18] (fun v l vk i wr => ∃ j p pl : Nat, j ≤ 6 ∧ i = .int .i64 (j : Int) ∧ v = .pointer (some ⟨p, 0, none⟩) ∧ l = .pointer (some ⟨pl, 0, none⟩) ∧ Hid (∃ V vF X recs, Live8 w1 wr p pd pl V vF X vk recs (120 + 600 * j) ∧ V.D.fuse < 0)) (fun _ _ _ i _ => 6 - (intOf i).toNat)
  case atStart => exact ⟨0, p, pl, by omega, rfl, rfl, rfl, HI⟩
  case round =>
    obtain ⟨j, p, pl, hj6, rfl, rfl, rfl, hI⟩ := hrel
    clear HI
    obtain ⟨V, vF, X, recs, hL, hfu⟩ := hI.out
    have hbw : Below w.heap.size w wr := HB1.out.trans (hL.on.on.below.mono HB1.out.size)
    have HBW := Lib.hid hbw
    by_cases hgo : ((((j < len0 ∧ j < len1) ∧ j < len2) ∧ j < len3) ∧ j < len4) ∧ j < 6
    · obtain ⟨⟨⟨⟨⟨g0, g1⟩, g2⟩, g3⟩, g4⟩, g6⟩ := hgo
      obtain ⟨br, or', ⟨ra, rn, rc, rl⟩, rfl, hbr, hcr, hsr, hfr, hshr⟩ := rowsS_at HA.out.1 hbw j g0
      obtain ⟨bf, of, fz, rfl, hbf, hcf, hmf⟩ := ints_at HA.out.2.1 hbw j g1
      obtain ⟨bk, ok, ⟨ka, kn, kc, kl⟩, rfl, hbk, hck, hik⟩ := rowsI_at HA.out.2.2.2.1 hbw j g2
      simp only at hcr hsr hfr hshr hck hik
      obtain ⟨bt, ot, torn, rfl, hbt, hct, _⟩ := ints_at HA.out.2.2.2.2.1 hbw j g3
      obtain ⟨bb, ob, byt, rfl, hbb, hcb, _⟩ := ints_at HA.out.2.2.2.2.2 hbw j g4
      have hffit := HA.out.2.2.1 fz hmf
      have HCells : Hid (∀ W, Below w.heap.size w W → W.cell? ⟨br, or' + j, none⟩ = some (.slice ra rn rc) ∧ W.cell? ⟨bk, ok + j, none⟩ = some (.slice ka kn kc) ∧ W.cell? ⟨bt, ot + j, none⟩ = some (.int .i64 torn) ∧ W.cell? ⟨bb, ob + j, none⟩ = some (.int .i64 byt)) := fun W hb => by
        have e := fun (b o : Nat) (hb0 : b < w.heap.size) => (hb.cell (p := ⟨b, o, none⟩) hb0).trans (hbw.cell (p := ⟨b, o, none⟩) hb0).symm
        exact ⟨(e br _ hbr).trans hcr, (e bk _ hbk).trans hck, (e bt _ hbt).trans hct, (e bb _ hbb).trans hcb⟩
      have HArg := Lib.hid (And.intro hsr (And.intro hfr (And.intro hshr hik)))
      have k0 : (j : Int) < (len0 : Int) := by omega
      have k1 : (j : Int) < (len1 : Int) := by omega
      have k2 : (j : Int) < (len2 : Int) := by omega
      have k3 : (j : Int) < (len3 : Int) := by omega
      have k4 : (j : Int) < (len4 : Int) := by omega
      have k6 : (j : Int) < 6 := by omega
      have hj0 : (0 : Int) ≤ (j : Int) := by omega
      have hwj : IntKind.i64.wrap ((j : Int) + 1) = (j : Int) + 1 := IntWalk.i64_in _ (by omega)
      obtain ⟨kf, hkf⟩ : ∃ kf, kf = pickN fz 31 := ⟨_, rfl⟩
      have hkf31 : kf < 31 := by rw [hkf]; exact pickN_lt _ (by decide)
      have hpk := pick_any fz 31 wr hffit (by decide) (by decide)
      rw [← hkf, show ((31 : Nat) : Int) = 31 from rfl] at hpk
      have HP := Lib.hid hpk
      have HFz := Lib.hid (fuse8 hL.on (kf : Int) (by omega))
      have HL0 := Lib.hid (And.intro hL hj6)
      clear hpk hkf hkf31 hL hfu hI hbw hcr hck hct hcb hsr hfr hshr hik hmf hffit hbr hbf hbk hbt hbb g0 g1 g2 g3 g4 g6
      go_wp2_with fail
      refine HP.out.mono ?_
      clear HP
      rintro e wp ⟨rfl, rfl⟩
      go_wp2_with fail
      refine HFz.out.mono ?_
      clear HFz hcf
      rintro e w4 ⟨rfl, X4, h4, hg4, hk4⟩
      have HI4 : Hid (In8 w1 w4 p pd pl u17 (120 + 600 * j + 60 * 0) [] false) := by
        have hkl := HL0.out.1.kl.step hk4 (fun k hb => (HL0.out.1.kl.off k hb).1) hg4
        exact ⟨_, vF, X4, recs, .inl ⟨rfl, rfl, h4, hkl, by have := HL0.out.1.n; show V.D.n ≤ _; omega, HL0.out.1.size⟩⟩
      clear h4 hg4 hk4 HL0
      go_wp2
      rename World => wOut
      go_loopw [17, 19, 20, 21] (fun vk u b i wr => ∃ (k : Nat) (s : List UInt8) (t : Bool), k ≤ 8 ∧ i = .int .i64 (k : Int) ∧ u = .string ⟨s.toArray⟩ ∧ b = .bool t ∧ Hid (In8 w1 wr p pd pl vk (120 + 600 * j + 60 * k) s t)) (fun _ _ _ i _ => 8 - (intOf i).toNat)
      case atStart => exact ⟨0, [], false, by omega, rfl, rfl, rfl, HI4⟩
      case round =>
        obtain ⟨k, s, t, hk8, rfl, rfl, rfl, hI2⟩ := hrel
        clear HI4
        have hon : ∃ V vF X, On w1 wr p pd V vF X ∧ (V.gone = false ∨ t = true ∧ V.gone = true) := by
          obtain ⟨V, vF, X, recs, ⟨h1, _, h2⟩ | ⟨h1, h2, h3⟩⟩ := hI2.out
          · exact ⟨V, vF, X, h2.on.on, .inl h2.on.log.alive.gone⟩
          · exact ⟨V, vF, X, h3.on, .inr ⟨h1, h2⟩⟩
        obtain ⟨V, vF, X, recs, hcase⟩ := hI2.out
        have hOnV : On w1 wr p pd V vF X := by rcases hcase with ⟨_, _, h⟩ | ⟨_, _, h⟩; exact h.on.on; exact h.on
        have hbw2 : Below w.heap.size w wr := HB1.out.trans (hOnV.below.mono HB1.out.size)
        obtain ⟨c0, -, -, -⟩ := HCells.out wr hbw2
        have HDd := Lib.hid (deadP wr w1.heap.size p pd V vF X hOnV.vol)
        by_cases hin : (k < rn ∧ k < 8) ∧ t = false
        · obtain ⟨⟨i1, i2⟩, rfl⟩ := hin
          rcases hcase with ⟨-, rfl, hLv⟩ | ⟨h, _⟩
          case inr => cases h
          obtain ⟨bs, os, hra, hbs, hil, hcs⟩ := strs_at HArg.out.1 hbw2 k i1
          subst hra
          obtain ⟨x, hx⟩ : ∃ x, x = rl[k] := ⟨_, rfl⟩
          have hxl : x.length ≤ 140737488351232 := by rw [hx]; exact HArg.out.2.2.1 _ (List.getElem_mem _)
          rw [← hx] at hcs
          have hrl60 : recs.length ≤ 60 := by have h1 := recN_many recs; have h2 : recN recs ≤ 60 := hLv.on.log.log.fits; omega
          have HAp := Lib.hid (append8 walK hLv.on (by have := hLv.n; omega) (by omega) x hxl)
          have j1 : (k : Int) < (rn : Int) := by omega
          have j2 : (k : Int) < 8 := by omega
          have hk0 : (0 : Int) ≤ (k : Int) := by omega
          have hwk : IntKind.i64.wrap ((k : Int) + 1) = (k : Int) + 1 := IntWalk.i64_in _ (by omega)
          have hgn := hLv.on.log.alive.gone
          have HLv := Lib.hid (And.intro hLv hrl60)
          rw [hgn] at HDd
          clear hLv hx hxl hgn hOnV hon hI2 hrl60 hbs hil i1 i2
          go_upto_region 18 with (go_at_call 17; refine HDd.out.mono ?_; rintro e wd ⟨rfl, rfl⟩)
          clear HDd
          go_wp2_with fail
          refine HAp.out.mono ?_
          clear HAp c0 hcs
          rintro e w5 ⟨v5, rfl, hk5, h5⟩
          have hY : ∀ b, u17.ownBlock = some b → ¬(X b ∨ b = pl) := fun b hb hx => hx.elim (HLv.out.1.kl.off b hb).1 (HLv.out.1.kl.off b hb).2.1
          have hn8 := HLv.out.1.n
          have hs8 := HLv.out.1.size
          rcases h5 with ⟨-, rfl, V5, vF5, X5, h5, hL5, hn5, -, hg5⟩ | ⟨-, he5, vF5, X5, h5, hov5, hg5⟩ | ⟨-, he5, V5, vF5, X5, h5, hX5, hL5, hn5, hg5⟩
          · have hkl5 := HLv.out.1.kl.step hk5 hY hg5
            have hsz5 : w1.heap.size ≤ w5.heap.size := h5.on.below.size
            have H5 := Lib.hid (And.intro h5 (And.intro hkl5 (And.intro hsz5 (And.intro (show V5.D.n ≤ V.D.n + 60 from hn5) (hL5.trans hs8)))))
            clear h5 hkl5 hsz5 hn5 hL5 hg5 hk5 hY hs8
            go_wp2_with (at_builtin; refine wpList_append_at _ rfl (.tmp 124) (.tmp 126) 46 rfl w1.heap.size 9 i0 (.string ⟨#[]⟩) 1 16 Tryz.underlying46 hi hz0 hz1 hz2 rfl (by decide) _ _ _ rfl (H5.out.2.1.own.alloc _) ⟨w5.heap.size, 0, none⟩ 1 1 [.string ⟨x.toArray⟩] rfl rfl ?d1 ?d2 ?d3 ?d4 ?d5 (by decide) ?_)
            case d1 =>
              intro j u hj
              match j, hj with
              | 0, hj => simp at hj; subst hj; simp [Addr.add]
            case d2 => intro u hu; simp at hu; subst hu; rfl
            case d3 => have := HLv.out.2; unfold maxLen; omega
            case d4 => have := HLv.out.2; omega
            case d5 => have := H5.out.2.2.1; simp; omega
            · intro v' w9 hown' hgrow hor
              obtain ⟨h10, hk10⟩ := H5.out.1.more walK x H5.out.2.1 ((Kept.refl _ _).alloc _) hgrow hown' (by simpa using hor)
              have HI9 : Hid (In8 w1 w9 p pd pl v' (120 + 600 * j + 60 * (k + 1)) [] false) := ⟨V5, vF5, X5, _, .inl ⟨rfl, rfl, h10, hk10, by have := H5.out.2.2.2.1; omega, H5.out.2.2.2.2⟩⟩
              clear hown' hgrow hor h10 hk10 H5 HLv
              go_wp2
              go_roundw
              case rel => exact ⟨k + 1, [], false, by omega, by first | rfl | go_num, rfl, rfl, HI9⟩
              case measure => simp [intOf]; omega
          · obtain ⟨b5, i5, -, rfl, -, -⟩ := fault_code he5 (by decide)
            have hkl5 := HLv.out.1.kl.step hk5 hY hg5
            have hDd5 := deadP w5 w1.heap.size p pd V vF5 X5 h5.on.vol
            rw [h5.log.alive.gone] at hDd5
            have HDd5 := Lib.hid hDd5
            have HI9 : Hid (In8 w1 w5 p pd pl u17 (120 + 600 * j + 60 * (k + 1)) [] false) := ⟨V, vF5, X5, recs, .inl ⟨rfl, rfl, h5, hkl5, by omega, hs8⟩⟩
            clear h5 hkl5 hg5 hk5 hY hs8 hn8 he5 hov5 hDd5 HLv
            go_wp2_with (go_at_call 17; refine HDd5.out.mono ?_; rintro e wd5 ⟨rfl, rfl⟩)
            go_roundw
            case rel => exact ⟨k + 1, [], false, by omega, by first | rfl | go_num, rfl, rfl, HI9⟩
            case measure => simp [intOf]; omega
          · obtain ⟨b5, i5, -, rfl, -, -⟩ := fault_code he5 (by decide)
            have hkl5 := HLv.out.1.kl.step hk5 hY hg5
            have hDd5 := deadP w5 w1.heap.size p pd V5 vF5 X5 h5.vol
            rw [hX5.gone] at hDd5
            have HDd5 := Lib.hid hDd5
            have HI9 : Hid (In8 w1 w5 p pd pl u17 (120 + 600 * j + 60 * (k + 1)) x true) := ⟨V5, vF5, X5, recs, .inr ⟨rfl, hX5.gone, h5, hX5, hkl5, HLv.out.1.on.log.log.fits, by have : V5.D.n ≤ V.D.n + 60 := hn5; omega, hL5.trans hs8⟩⟩
            clear h5 hkl5 hg5 hk5 hY hs8 hn8 he5 hX5 hL5 hn5 hDd5 HLv
            go_wp2_with (go_at_call 17; refine HDd5.out.mono ?_; rintro e wd5 ⟨rfl, rfl⟩)
            go_roundw
            case rel => exact ⟨k + 1, x, true, by omega, by first | rfl | go_num, rfl, rfl, HI9⟩
            case measure => simp [intOf]; omega
        · have hMid : ∃ V vF X recs, Mid8 w1 wr p pd V vF X u17 recs (120 + 600 * j + 480) ∧ (t = true → V.gone = true) ∧ (V.gone = true → t = true) := by
            obtain ⟨V, vF, X, recs, ⟨h1, _, h2⟩ | ⟨h1, h2, h3⟩⟩ := hI2.out
            · exact ⟨V, vF, X, recs, (h2.more (by omega)).mid, (fun h => by rw [h1] at h; cases h), (fun h => by rw [h2.on.log.alive.gone] at h; cases h)⟩
            · exact ⟨V, vF, X, recs, ⟨h3.mid.on, h3.mid.last, h3.mid.own, h3.mid.off, h3.mid.fits, Nat.le_trans h3.mid.n (by omega)⟩, fun _ => h2, fun _ => h1⟩
          clear hcase hOnV HDd
          obtain ⟨V, vF, X, recs, hM, hgt, htg⟩ := hMid
          have hexit : ¬(k : Int) < (rn : Int) ∨ ((k : Int) < (rn : Int) ∧ decide ((k : Int) < 8) = false) ∨ ((k : Int) < (rn : Int) ∧ (k : Int) < 8 ∧ V.gone = true) := by
            by_cases e1 : k < rn
            · by_cases e2 : k < 8
              · refine .inr (.inr ⟨by omega, by omega, ?_⟩)
                cases ht : t with
                | false => exact absurd ⟨⟨e1, e2⟩, ht⟩ hin
                | true => exact hgt ht
              · exact .inr (.inl ⟨by omega, by rw [decide_eq_false_iff_not]; omega⟩)
            · exact .inl (by omega)
          have hDd := deadP wr w1.heap.size p pd V vF X hM.on.vol
          obtain ⟨-, q1, q2, q3⟩ := HCells.out wr hbw2
          have hkd : Kept (fun _ => False) wr wr.drew := (Kept.refl _ wr).drewN 1
          obtain ⟨u1, u2⟩ := ints_under HArg.out.2.2.2 (hbw2.trans (hkd.below hbw2.size (fun _ hf => hf.elim)))
          have HCr := Lib.hid (crash8 (hM.still hkd) ka kn kc kl torn byt u1 (u2.imp (fun x => x) (fun ho b o hb => by have h1 := ho b o hb; have h2 := HB1.out.size; omega)))
          have HDd := Lib.hid hDd
          have HRec := Lib.hid (And.intro hM.fits (And.intro hj6 (recN_many recs)))
          clear hon hI2 hin hM hgt htg hDd hkd u1 u2 hk8 hbw2
          clear hj6
          go_upto_region 16 with (fail)
          go_cut [108] from 93 to 131 (fun s108 wx => s108 = .bool false ∧ wx = wr)
          case first =>
            clear HCr q1 q2 q3 HRec
            rcases hexit with e1 | ⟨e1, e2⟩ | ⟨e1, e2, e3⟩
            case' inr.inr =>
              rw [e3] at HDd
            all_goals
              go_wp2_with (go_at_call 17; refine HDd.out.mono ?_; rintro e wd ⟨rfl, hwd⟩; rw [hwd]; clear hwd)
              go_meet
              case rel => exact ⟨rfl, rfl⟩
          case rest =>
            obtain ⟨rfl, hwc⟩ := hcut
            rw [hwc]
            clear hwc hexit
            go_upto_region 25 with (fail)
            refine wp_region_until (fun w' => w'.cell? ⟨bk, ok + j, none⟩ = some (.slice ka kn kc) ∧ w'.cell? ⟨bt, ot + j, none⟩ = some (.int .i64 torn) ∧ w'.cell? ⟨bb, ob + j, none⟩ = some (.int .i64 byt)) 14 (by kernel_rfl) ?_
            have hS0 : (fun w' => w'.cell? ⟨bk, ok + j, none⟩ = some (.slice ka kn kc) ∧ w'.cell? ⟨bt, ot + j, none⟩ = some (.int .i64 torn) ∧ w'.cell? ⟨bb, ob + j, none⟩ = some (.int .i64 byt)) wr.drew := ⟨q1, q2, q3⟩
            refine wpAnyU_take (i := 0) (v := (.pointer (some ⟨pd, 0, none⟩))) (some 132) rfl rfl (by kernel_rfl) (by kernel_rfl) (by kernel_rfl) (by kernel_rfl) (fun _ _ _ h => h) hS0 (yields_of (by kernel_rfl) (fun w ⟨h0, h1, h2⟩ => by go_simp)) ?_
            refine wpAnyU_take (i := 1) (v := (.slice (some ⟨bk, ok, none⟩) len2 cap2)) (some 133) rfl rfl (by kernel_rfl) (by kernel_rfl) (by kernel_rfl) (by kernel_rfl) (fun _ _ _ h => h) hS0 (yields_of (by kernel_rfl) (fun w ⟨h0, h1, h2⟩ => by go_simp)) ?_
            refine wpAnyU_take (i := 2) (v := (.int .i64 (j : Int))) (some 134) rfl rfl (by kernel_rfl) (by kernel_rfl) (by kernel_rfl) (by kernel_rfl) (fun _ _ _ h => h) hS0 (yields_of (by kernel_rfl) (fun w ⟨h0, h1, h2⟩ => by go_simp)) ?_
            refine wpAnyU_take (i := 3) (v := (.pointer (some ⟨bk, ok + j, none⟩))) (some 135) rfl rfl (by kernel_rfl) (by kernel_rfl) (by kernel_rfl) (by kernel_rfl) (fun _ _ _ h => h) hS0 (yields_of (by kernel_rfl) (fun w ⟨h0, h1, h2⟩ => by go_simp)) ?_
            refine wpAnyU_take (i := 4) (v := (.slice ka kn kc)) (some 136) rfl rfl (by kernel_rfl) (by kernel_rfl) (by kernel_rfl) (by kernel_rfl) (fun _ _ _ h => h) hS0 (yields_of (by kernel_rfl) (fun w ⟨h0, h1, h2⟩ => by go_simp)) ?_
            refine wpAnyU_take (i := 5) (v := (.slice (some ⟨bt, ot, none⟩) len3 cap3)) (some 137) rfl rfl (by kernel_rfl) (by kernel_rfl) (by kernel_rfl) (by kernel_rfl) (fun _ _ _ h => h) hS0 (yields_of (by kernel_rfl) (fun w ⟨h0, h1, h2⟩ => by go_simp)) ?_
            refine wpAnyU_take (i := 6) (v := (.int .i64 (j : Int))) (some 138) rfl rfl (by kernel_rfl) (by kernel_rfl) (by kernel_rfl) (by kernel_rfl) (fun _ _ _ h => h) hS0 (yields_of (by kernel_rfl) (fun w ⟨h0, h1, h2⟩ => by go_simp)) ?_
            refine wpAnyU_take (i := 7) (v := (.pointer (some ⟨bt, ot + j, none⟩))) (some 139) rfl rfl (by kernel_rfl) (by kernel_rfl) (by kernel_rfl) (by kernel_rfl) (fun _ _ _ h => h) hS0 (yields_of (by kernel_rfl) (fun w ⟨h0, h1, h2⟩ => by go_simp)) ?_
            refine wpAnyU_take (i := 8) (v := (.int .i64 torn)) (some 140) rfl rfl (by kernel_rfl) (by kernel_rfl) (by kernel_rfl) (by kernel_rfl) (fun _ _ _ h => h) hS0 (yields_of (by kernel_rfl) (fun w ⟨h0, h1, h2⟩ => by go_simp)) ?_
            refine wpAnyU_take (i := 9) (v := (.slice (some ⟨bb, ob, none⟩) len4 cap4)) (some 141) rfl rfl (by kernel_rfl) (by kernel_rfl) (by kernel_rfl) (by kernel_rfl) (fun _ _ _ h => h) hS0 (yields_of (by kernel_rfl) (fun w ⟨h0, h1, h2⟩ => by go_simp)) ?_
            refine wpAnyU_take (i := 10) (v := (.int .i64 (j : Int))) (some 142) rfl rfl (by kernel_rfl) (by kernel_rfl) (by kernel_rfl) (by kernel_rfl) (fun _ _ _ h => h) hS0 (yields_of (by kernel_rfl) (fun w ⟨h0, h1, h2⟩ => by go_simp)) ?_
            refine wpAnyU_take (i := 11) (v := (.pointer (some ⟨bb, ob + j, none⟩))) (some 143) rfl rfl (by kernel_rfl) (by kernel_rfl) (by kernel_rfl) (by kernel_rfl) (fun _ _ _ h => h) hS0 (yields_of (by kernel_rfl) (fun w ⟨h0, h1, h2⟩ => by go_simp)) ?_
            refine wpAnyU_take (i := 12) (v := (.int .i64 byt)) (some 144) rfl rfl (by kernel_rfl) (by kernel_rfl) (by kernel_rfl) (by kernel_rfl) (fun _ _ _ h => h) hS0 (yields_of (by kernel_rfl) (fun w ⟨h0, h1, h2⟩ => by go_simp)) ?_
            refine wpAnyU_call (i := 13) (f := 19) (args := #[.pointer (some ⟨pd, 0, none⟩), .slice ka kn kc, .int .i64 torn, .int .i64 byt]) (some 145) rfl rfl (by kernel_rfl) (by kernel_rfl) (by kernel_rfl) ?_
            refine HCr.out.mono ?_
            clear HCr
            rintro e w5 ⟨rfl, ⟨X5, hDn⟩, hk5⟩
            obtain ⟨-, p1, p2, p3⟩ := HCells.out w5 (HB1.out.trans (hDn.below.mono HB1.out.size))
            refine ⟨_, rfl, fun _ => ⟨p1, p2, p3⟩, ?_⟩
            refine wpAnyU_done (by kernel_rfl) ?_ _
            simp only [put_lit, List.set_cons_succ, List.set_cons_zero]
            have HUp := Lib.hid (up8 hDn)
            clear hS0 p1 p2 p3 hDn hk5 q1 q2 q3 HDd c0
            go_wp2_with fail
            refine HUp.out.mono ?_
            clear HUp
            rintro e w6 ⟨q, vF6, X6, rfl, hUp, hk6⟩
            have HAg := Lib.hid (again8 hUp (by omega))
            clear hUp hk6
            go_wp2_with fail
            refine HAg.out.mono ?_
            clear HAg
            rintro e w7 ⟨pl', ad, cap, V7, vF7, X7, rfl, hst7, hL7, hf7, hk7⟩
            obtain ⟨N, hN⟩ : ∃ N, N = recs.length := ⟨_, rfl⟩
            have hown7 := hL7.kl.own
            rw [← hN] at hst7 hown7 ⊢
            have HN : Hid (N = recs.length ∧ N ≤ 60) := ⟨hN, by have h1 := HRec.out.1; have h2 := HRec.out.2.2; omega⟩
            clear hN
            obtain ⟨advk, capvk, rfl, hstk7, -⟩ := own_strs hown7 HN.out.1
            have HL7 := Lib.hid (And.intro hL7 (And.intro hst7 (And.intro hstk7 hf7)))
            clear hL7 hst7 hstk7 hf7 hk7
            rcases hown7.2 with ⟨hvk, hN0⟩ | ⟨gk, capk, cur, hvk, hcl, _⟩
            · have HVK := Lib.hid hvk
              clear hvk
              have HV1 : Hid (w7.ownsRow w7.heap.size 9 1 (.slice none 0 0) N (recs.map strV) ∧ Kept (fun _ => False) w7 w7) := ⟨⟨hown7.1, .inl ⟨rfl, hN0⟩⟩, Kept.refl _ _⟩
              clear hown7 hN0
              go_wp2_with (at_builtin; first | (refine wpList_append_own_none rfl (.const (.slice none 0 0)) (.tmp 170) 46 rfl w7.heap.size 9 i0 1 Tryz.underlying46 hi (.slice none 0 0) 0 [] rfl (World.ownsRow_nil _ _ _ _) HVK.out ?_) | (refine wpList_append_own _ rfl (.tmp 171) (.tmp 173) 46 rfl w7.heap.size 9 i0 (.string ⟨#[]⟩) 1 16 Tryz.underlying46 hi hz0 hz1 hz2 rfl (by decide) _ _ _ rfl (HV1.out.1.alloc _) ⟨w7.heap.size, 0, none⟩ 1 1 [.string ⟨s.toArray⟩] rfl rfl ?d1 ?d2 ?d3 ?d4 ?d5 ?_))
              clear HVK
              case d1 =>
                intro j u hj
                match j, hj with
                | 0, hj => simp at hj; subst hj; simp [Addr.add]
              case d2 => intro u hu; simp at hu; subst hu; rfl
              case d3 => have := HN.out.2; unfold maxLen; omega
              case d4 => have := HN.out.2; omega
              case d5 => have := HV1.out.2.size; first | (simp; done) | (simp; omega)
              intro v2 wB hown2 hgr2 _
              have hkB : Kept (fun _ => False) w7 wB := kept_grown (HV1.out.2.alloc _) hgr2 (fun b hb => .inr (HV1.out.1.lt b hb).1)
              have hown2' : wB.ownsRow w7.heap.size 9 1 v2 (N + 1) ((recs ++ [s]).map strV) := by rw [List.map_append]; exact hown2
              obtain ⟨ad2', cap2', rfl, hst2, -⟩ := own_strs hown2' (by rw [List.length_append, HN.out.1]; rfl)
              have hbB : Below w7.heap.size w7 wB := hkB.below (Nat.le_refl _) (fun _ hf => hf.elim)
              have hLB := HL7.out.1.kept hkB
              have hstB := HL7.out.2.1.below hbB
              have hstk := HL7.out.2.2.1.below hbB
              have hNl : (N : Int) ≤ 140737488351232 := by have := HN.out.2; omega
              have hT := texts_any ad advk N cap N capvk recs recs wB hstB hstk hNl
              rw [show decide (recs = recs) = true from by simp] at hT
              have HT := Lib.hid hT
              have HT2 := Lib.hid (fun (W : World) (hb : Below wB.heap.size wB W) => texts_any ad ad2' N cap (N + 1) cap2' recs (recs ++ [s]) W (hstB.below hb) (hst2.below hb) hNl)
              have HLB := Lib.hid hLB
              clear hown2 hgr2 hkB hown2' hst2 hLB hstB hstk hT hbB hNl
              go_wp2_with fail
              refine HT.out.mono ?_
              clear HT
              rintro e wC ⟨rfl, hbC⟩
              have HLC := Lib.hid (HLB.out.kept (Kept.of_below (fun _ => False) hbC))
              have HT3 := Lib.hid (HT2.out wC hbC)
              clear hbC HT2 HLB
              cases t
              case' true =>
                generalize decide (recs = recs ++ [s]) = b2 at HT3
                go_wp2_with (go_at_call 22; refine HT3.out.mono ?_; rintro e wD ⟨rfl, hbD⟩)
                have HIE : Hid (∃ V vF X recs, Live8 w1 wD q pd pl' V vF X (.slice advk N capvk) recs (120 + 600 * (j + 1)) ∧ V.D.fuse < 0) :=
                  ⟨V7, vF7, X7, recs, (HLC.out.kept (Kept.of_below (fun _ => False) hbD)).more (by omega), HL7.out.2.2.2⟩
              case' false =>
                go_wp2
                have HIE : Hid (∃ V vF X recs, Live8 w1 wC q pd pl' V vF X (.slice advk N capvk) recs (120 + 600 * (j + 1)) ∧ V.D.fuse < 0) :=
                  ⟨V7, vF7, X7, recs, HLC.out.more (by omega), HL7.out.2.2.2⟩
              all_goals
                go_roundw
                case rel => exact ⟨j + 1, q, pl', by omega, by first | rfl | go_num, rfl, rfl, HIE⟩
                case measure => simp [intOf]; omega
            · have hcells := hown7.cells (show (Value.slice advk N capvk).ownBlock = some gk from by rw [hvk]; rfl)
              have HVK := Lib.hid hvk
              clear hvk
              have hl7 := hown7.1
              clear hown7 hcl
              go_wp2_with (at_builtin; refine wpList_append_own _ rfl (.const (.slice none 0 0)) (.tmp 170) 46 rfl w7.heap.size 9 i0 (.string ⟨#[]⟩) 1 16 Tryz.underlying46 hi hz0 hz1 hz2 rfl (by decide) (.slice none 0 0) 0 [] rfl (World.ownsRow_nil _ _ _ _) ⟨gk, 0, none⟩ N capk (recs.map strV) HVK.out hl7 ?e1 ?e2 ?e3 ?e4 (Nat.le_refl _) ?_)
              case e1 => exact hcells
              case e2 => intro u hu; obtain ⟨r, _, rfl⟩ := List.mem_map.1 hu; rfl
              case e3 => have := HN.out.2; unfold maxLen; omega
              case e4 => have := HN.out.2; omega
              intro v1 wA hown1 hgr1 _
              have HV1 : Hid (wA.ownsRow w7.heap.size 9 1 v1 N (recs.map strV) ∧ Kept (fun _ => False) w7 wA) := ⟨by first | exact hown1 | (rw [Nat.zero_add] at hown1; exact hown1), kept_grown (Kept.refl _ _) hgr1 (fun b hb => by cases hb)⟩
              clear hown1 hgr1 hcells hl7 HVK
              go_wp2_with (at_builtin; refine wpList_append_own _ rfl (.tmp 171) (.tmp 173) 46 rfl w7.heap.size 9 i0 (.string ⟨#[]⟩) 1 16 Tryz.underlying46 hi hz0 hz1 hz2 rfl (by decide) _ _ _ rfl (HV1.out.1.alloc _) ⟨wA.heap.size, 0, none⟩ 1 1 [.string ⟨s.toArray⟩] rfl rfl ?d1 ?d2 ?d3 ?d4 ?d5 ?_)
              case d1 =>
                intro j u hj
                match j, hj with
                | 0, hj => simp at hj; subst hj; simp [Addr.add]
              case d2 => intro u hu; simp at hu; subst hu; rfl
              case d3 => have := HN.out.2; unfold maxLen; omega
              case d4 => have := HN.out.2; omega
              case d5 => have := HV1.out.2.size; first | (simp; done) | (simp; omega)
              intro v2 wB hown2 hgr2 _
              have hkB : Kept (fun _ => False) w7 wB := kept_grown (HV1.out.2.alloc _) hgr2 (fun b hb => .inr (HV1.out.1.lt b hb).1)
              have hown2' : wB.ownsRow w7.heap.size 9 1 v2 (N + 1) ((recs ++ [s]).map strV) := by rw [List.map_append]; exact hown2
              obtain ⟨ad2', cap2', rfl, hst2, -⟩ := own_strs hown2' (by rw [List.length_append, HN.out.1]; rfl)
              have hbB : Below w7.heap.size w7 wB := hkB.below (Nat.le_refl _) (fun _ hf => hf.elim)
              have hLB := HL7.out.1.kept hkB
              have hstB := HL7.out.2.1.below hbB
              have hstk := HL7.out.2.2.1.below hbB
              have hNl : (N : Int) ≤ 140737488351232 := by have := HN.out.2; omega
              have hT := texts_any ad advk N cap N capvk recs recs wB hstB hstk hNl
              rw [show decide (recs = recs) = true from by simp] at hT
              have HT := Lib.hid hT
              have HT2 := Lib.hid (fun (W : World) (hb : Below wB.heap.size wB W) => texts_any ad ad2' N cap (N + 1) cap2' recs (recs ++ [s]) W (hstB.below hb) (hst2.below hb) hNl)
              have HLB := Lib.hid hLB
              clear hown2 hgr2 hkB hown2' hst2 hLB hstB hstk hT hbB hNl
              go_wp2_with fail
              refine HT.out.mono ?_
              clear HT
              rintro e wC ⟨rfl, hbC⟩
              have HLC := Lib.hid (HLB.out.kept (Kept.of_below (fun _ => False) hbC))
              have HT3 := Lib.hid (HT2.out wC hbC)
              clear hbC HT2 HLB
              cases t
              case' true =>
                generalize decide (recs = recs ++ [s]) = b2 at HT3
                go_wp2_with (go_at_call 22; refine HT3.out.mono ?_; rintro e wD ⟨rfl, hbD⟩)
                have HIE : Hid (∃ V vF X recs, Live8 w1 wD q pd pl' V vF X (.slice advk N capvk) recs (120 + 600 * (j + 1)) ∧ V.D.fuse < 0) :=
                  ⟨V7, vF7, X7, recs, (HLC.out.kept (Kept.of_below (fun _ => False) hbD)).more (by omega), HL7.out.2.2.2⟩
              case' false =>
                go_wp2
                have HIE : Hid (∃ V vF X recs, Live8 w1 wC q pd pl' V vF X (.slice advk N capvk) recs (120 + 600 * (j + 1)) ∧ V.D.fuse < 0) :=
                  ⟨V7, vF7, X7, recs, HLC.out.more (by omega), HL7.out.2.2.2⟩
              all_goals
                go_roundw
                case rel => exact ⟨j + 1, q, pl', by omega, by first | rfl | go_num, rfl, rfl, HIE⟩
                case measure => simp [intOf]; omega
    · have hex : ¬(j : Int) < (len0 : Int) ∨ ((j : Int) < (len0 : Int) ∧ ¬(j : Int) < (len1 : Int)) ∨ ((j : Int) < (len0 : Int) ∧ (j : Int) < (len1 : Int) ∧ ¬(j : Int) < (len2 : Int)) ∨ ((j : Int) < (len0 : Int) ∧ (j : Int) < (len1 : Int) ∧ (j : Int) < (len2 : Int) ∧ ¬(j : Int) < (len3 : Int)) ∨
          ((j : Int) < (len0 : Int) ∧ (j : Int) < (len1 : Int) ∧ (j : Int) < (len2 : Int) ∧ (j : Int) < (len3 : Int) ∧ ¬(j : Int) < (len4 : Int)) ∨ ((j : Int) < (len0 : Int) ∧ (j : Int) < (len1 : Int) ∧ (j : Int) < (len2 : Int) ∧ (j : Int) < (len3 : Int) ∧ (j : Int) < (len4 : Int) ∧ decide ((j : Int) < 6) = false) := by
        simp only [decide_eq_false_iff_not]; omega
      clear hgo hL hfu hI hbw
      rcases hex with e1 | ⟨e1, e2⟩ | ⟨e1, e2, e3⟩ | ⟨e1, e2, e3, e4⟩ | ⟨e1, e2, e3, e4, e5⟩ | ⟨e1, e2, e3, e4, e5, e6⟩
      all_goals
        go_wp2
        go_ret
        exact ⟨rfl, HBW.out⟩

end Go.Proofs.YtfbgagpihhbllaaGreatDoor
