/- The law MemPlays, walked over the contract of the program's table (printed by genpl10.py). -/
import Derived.Test.YtlmlldcpllagbaaDu10
import Derived.Laws.StructEq
import Derived.Laws.AppendOwnNone
import Derived.Deep.CutRange
namespace Go.Proofs.Ytlmlldcpllagbaa
open Go.RowKit Go.Proofs Go.Proofs.Pk
set_option maxRecDepth 10000
attribute [local simp] mk_get wrap64_u8 mk_extract ByteArray.mk_append_mk get_1k

theorem infoP : (Try.prog.info? 3).map (fun i => (i.zero, i.size, i.bytes)) = some (some (.int .i64 0), 1, 8) := by kernel_rfl
def intW (n : Int) : Value := .int .i64 n
/-- A row of numbers of its own as what a call reads. -/
theorem own_ints {w : World} {B n : Nat} {v : Value} {hs : List Int} (h : w.ownsRow B 3 1 v n (hs.map intW)) : ∃ ad cap, v = .slice ad n cap ∧ Ints w ad n hs ∧ n ≤ cap ∧ (ad = none → n = 0 ∧ cap = 0) := by
  have hl : hs.length = n := by have := h.1; simpa using this
  rcases h.2 with ⟨rfl, rfl⟩ | ⟨g, cap, cur, rfl, _, h2, h3, _⟩
  · exact ⟨none, 0, rfl, ⟨hl, .inl (List.length_eq_zero_iff.1 hl)⟩, Nat.le_refl _, fun _ => ⟨rfl, rfl⟩⟩
  · refine ⟨_, cap, rfl, ⟨hl, .inr ⟨g, 0, rfl, (Array.getElem?_eq_some_iff.1 h2).1, fun i hi => ?_⟩⟩, h3, fun e => by cases e⟩
    have := h.cells rfl i (intW hs[i]) (by simp [hi])
    rw [show ((⟨g, 0, none⟩ : Addr).add i) = ⟨g, 0 + i, none⟩ from by unfold Addr.add; split <;> simp_all] at this
    simpa [intW] using this

set_option maxHeartbeats 16000000 in
theorem plays10 {At : MmOf} (K : MmK At) (hd : Option Addr) (hlen hcap : Nat) (hs : List Int) (ad : Option Addr) (len cap : Nat) (l : List MEnt) (key : Txt) (seq : Int) (w : World)
    (i1 : Ints w hd hlen hs) (f1 : Fit64 hs) (b1 : (hlen : Int) * 8 ≤ 140737488351232) (z1 : hd = none → hlen = 0 ∧ hcap = 0) (h0 : EntsW w ad len l) (hfs : FitN seq) :
    Calls Try.prog 3 #[.slice hd hlen hcap, .slice ad len cap, .string ⟨key.toArray⟩, .int .i64 seq] w fun e w' => e = .returned (.bool true) ∧ Below w.heap.size w w' := by
  have HE := Lib.hid (examples10 K w)
  have HA := Lib.hid (And.intro h0 hfs)
  have HI1 := Lib.hid (And.intro i1 (And.intro f1 (And.intro b1 z1)))
  obtain ⟨iI, hiI, hzI, hsI, hbI⟩ := info_parts infoP
  clear h0 hfs i1 f1 b1 z1
  go_enter Try.func3, Try.ntmps3
  go_wp2_with fail
  refine HE.out.mono ?_
  clear HE
  rintro e w1 ⟨rfl, hb1⟩
  have HB1 := Lib.hid hb1
  have hi1 : Ints w1 hd hlen hs := ⟨HI1.out.1.1, HI1.out.1.2.elim .inl fun ⟨b, off, g1, g2, g3⟩ => .inr ⟨b, off, g1, Nat.lt_of_lt_of_le g2 hb1.size, fun i hi => (hb1.cell (p := ⟨b, off + i, none⟩) g2).trans (g3 i hi)⟩⟩
  have hhl := hi1.1
  have hb8 := HI1.out.2.2.1
  clear hb1
  go_upto_region 2 with (fail)
  go_cut [10] from 30 to 31 (fun s10 wx => Hid (wx.ownsRow w1.heap.size 3 1 s10 hlen (hs.map intW) ∧ Kept (fun _ => False) w1 wx))
  case first =>
    rcases hd with _ | a
    · obtain ⟨rfl, rfl⟩ := HI1.out.2.2.2 rfl
      have hnil : hs = [] := List.length_eq_zero_iff.1 hhl
      have HO : Hid (w1.ownsRow w1.heap.size 3 1 (.slice none 0 0) 0 (hs.map intW) ∧ Kept (fun _ => False) w1 w1) := ⟨by rw [hnil]; exact World.ownsRow_nil _ _ _ _, Kept.refl _ _⟩
      clear hi1 hb8 HI1
      go_wp2_with (at_builtin; refine wpList_append_own_none rfl (.const (.slice none 0 0)) (.tmp 30) 22 rfl w1.heap.size 3 iI 1 Try.underlying22 hiI (.slice none 0 0) 0 [] rfl (World.ownsRow_nil _ _ _ _) rfl ?_)
      go_meet
      case rel => exact HO
    · have hcell : ∀ j (h : j < hs.length), w1.cell? (a.add j) = some (.int .i64 hs[j]) := fun j hj => by
        rcases hi1.2 with h0 | ⟨b, off, ha, _, hc⟩
        · rw [h0] at hj; simp at hj
        · obtain rfl : a = ⟨b, off, none⟩ := by injection ha
          rw [Addr.add_mid]; exact hc j hj
      clear hi1 HI1
      go_wp2_with (at_builtin; refine wpList_append_own _ rfl (.const (.slice none 0 0)) (.tmp 30) 22 rfl w1.heap.size 3 iI (.int .i64 0) 1 8 Try.underlying22 hiI hzI hsI hbI rfl (by decide) (.slice none 0 0) 0 [] rfl (World.ownsRow_nil _ _ _ _) a hlen hcap (hs.map intW) rfl (by rw [List.length_map, hhl]; simp) ?d1 ?d2 ?d3 ?d4 ?d5 ?_)
      case d1 =>
        intro j u hj
        obtain ⟨hjl, hu⟩ := List.getElem?_eq_some_iff.1 hj
        rw [List.length_map] at hjl
        rw [hcell j hjl, ← hu, List.getElem_map]; rfl
      case d2 =>
        intro u hu
        obtain ⟨x, _, rfl⟩ := List.mem_map.1 hu
        rfl
      case d3 => unfold maxLen; omega
      case d4 => omega
      case d5 => exact Nat.le_refl _
      intro v' w2 hown hgr _
      have HO : Hid (w2.ownsRow w1.heap.size 3 1 v' hlen (hs.map intW) ∧ Kept (fun _ => False) w1 w2) := ⟨hown, kept_grown (Kept.refl _ w1) hgr (fun b hb => by cases hb)⟩
      clear hown hgr hcell
      go_wp2
      go_meet
      case rel => exact HO
  case rest =>
    obtain ⟨hown, hk2⟩ := hcut.out
    obtain ⟨ado, capo, rfl, hIo, hle, hz⟩ := own_ints hown
    have hH := owns_holds hown
    have HN := Lib.hid (K.new wc w1.heap.size ado hlen capo hs hk2.size hIo HI1.out.2.1 hle HI1.out.2.2.1 hz)
    have HH := Lib.hid hH
    have HK2 := Lib.hid hk2
    have hhb : (hlen : Int) ≤ 17592186043904 := by omega
    clear hcut hown hk2 hIo hle hz hH hi1 hhl hb8
    go_wp2_with fail
    refine HN.out.mono ?_
    clear HN
    rintro e w3 ⟨t, X3, rfl, h3, hx3, hk3⟩
    have hN3 := Holds.new w3 [.slice none 0 0] 29
    have hk4 : Kept (fun _ => False) w3 (w3.alloc (.cells #[.slice none 0 0] 29)) := (Kept.refl _ _).alloc _
    obtain ⟨q, hq⟩ : ∃ q, Hid (q = w3.heap.size) := ⟨_, rfl⟩
    have hlt2 : ∀ k, X3 k → k < w3.heap.size := fun k hk => (K.lt h3 k hk).2
    have h13 : Kept (fun _ => False) w1 w3 := HK2.out.trans hk3 (fun _ f => f.elim)
    have hD : ∀ W, W = w3.alloc (.cells #[.slice none 0 0] 29) → Dm At w1 W t q [] [] X3 (.slice none 0 0) ∧ (hlen = 0 ∨ ∃ g C, ado = some ⟨g, 0, none⟩ ∧ w1.heap.size ≤ g ∧ Holds W g C 3 ∧ hlen ≤ C.length ∧ ¬X3 g ∧ g ≠ q) := fun W hW => by
      subst hW
      rw [hq.out]
      refine ⟨⟨⟨K.still h3 hk4, (h13.below (Nat.le_refl _) (fun _ f => f.elim)).trans (hk4.below h13.size (fun _ f => f.elim))⟩, ⟨hN3, World.ownsRow_nil _ _ _ _, h13.size, fun e => by cases e⟩, fun k hk => ⟨fun e => by have := hlt2 k hk; omega, fun e => by cases e⟩⟩, ?_⟩
      rcases HH.out with ⟨_, h0⟩ | ⟨g, cap2, C, hv, hB, hC, hc1, hc2⟩
      · exact .inl h0
      · have hgl := hC.lt
        refine .inr ⟨g, C, by injection hv, hB, hC.of_block ((hk3.trans hk4 (fun _ f => f.elim)).block g hgl (fun f => f)), by omega, fun hx => by have := hx3 g hx; omega, by have := hk3.size; omega⟩
    have HD := Lib.hid (hD _ rfl)
    clear h3 hx3 hk3 hN3 hk4 hlt2 h13 hD HH
    go_wp2
    rw [← hq.out]
    generalize w3.alloc (.cells #[.slice none 0 0] 29) = wq at HD ⊢
    go_loopw [13] (fun i wr => ∃ j : Nat, j ≤ hlen ∧ i = .int .i64 (j : Int) ∧ Hid (Dm At w1 wr t q [] [] X3 (.slice none 0 0) ∧ (hlen = 0 ∨ ∃ g C, ado = some ⟨g, 0, none⟩ ∧ w1.heap.size ≤ g ∧ Holds wr g C 3 ∧ hlen ≤ C.length ∧ ¬X3 g ∧ g ≠ q))) (fun i _ => hlen - (intOf i).toNat)
    case atStart => exact ⟨0, Nat.zero_le _, rfl, HD⟩
    case round =>
      obtain ⟨j, hj, rfl, hI⟩ := hrel
      clear HD
      have j0 : (0 : Int) ≤ (j : Int) := by omega
      have hwj : IntKind.i64.wrap ((j : Int) + 1) = (j : Int) + 1 := IntWalk.i64_in _ (by omega)
      by_cases hlt : j < hlen
      · obtain ⟨hDm, hOw⟩ := hI.out
        rcases hOw with h0 | ⟨g, C, rfl, hB, hC, hcl, hgx, hgq⟩
        · omega
        · have hjC : j < C.length := by omega
          obtain ⟨u, hu⟩ : ∃ u, C[j]? = some u := ⟨C[j], List.getElem?_eq_getElem hjC⟩
          have c0 := hC.cell j u hu
          have f0 := hC.free j
          have k1 : (j : Int) < (hlen : Int) := by omega
          have HNx : Hid (Dm At w1 (wr.setCell ⟨g, j, none⟩ (.int .i64 (-7))) t q [] [] X3 (.slice none 0 0) ∧ (hlen = 0 ∨ ∃ g' C, some (⟨g, 0, none⟩ : Addr) = some ⟨g', 0, none⟩ ∧ w1.heap.size ≤ g' ∧ Holds (wr.setCell ⟨g, j, none⟩ (.int .i64 (-7))) g' C 3 ∧ hlen ≤ C.length ∧ ¬X3 g' ∧ g' ≠ q)) := by
            refine ⟨hDm.kept K ((Kept.refl (fun k => k = g) wr).setCell (p := ⟨g, j, none⟩) (show g = g from rfl) _) (fun k hk => ?_), .inr ⟨g, C.set j (.int .i64 (-7)), rfl, hB, hC.set j _, by rw [List.length_set]; exact hcl, hgx, hgq⟩⟩
            subst hk
            exact ⟨hB, hgx, hgq, fun e => by cases e⟩
          clear hDm hI hB hC hcl hgx hgq hjC hu
          go_wp2
          go_roundw
          case rel => exact ⟨j + 1, by omega, by first | rfl | go_num, HNx⟩
          case measure => simp [intOf]; omega
      · have hjl : j = hlen := by omega
        subst hjl
        have k1 : ¬(j : Int) < (j : Int) := by omega
        obtain ⟨wp, hwp⟩ : ∃ wp, wp = wr := ⟨_, rfl⟩
        have HI : Hid (∃ T X vL, Dm At w1 wp t q T T X vL ∧ T.length ≤ 0) := by rw [hwp]; exact ⟨[], X3, _, hI.out.1, Nat.le_refl _⟩
        rw [← hwp]
        clear hI hwp hlt hwj j0
        go_wp2
        go_loopw [14] (fun i wr => ∃ j : Nat, j ≤ 150 ∧ i = .int .i64 (j : Int) ∧ Hid (∃ T X vL, Dm At w1 wr t q T T X vL ∧ T.length ≤ j)) (fun i _ => 150 - (intOf i).toNat)
        case atStart => exact ⟨0, by omega, rfl, HI⟩
        case round =>
          obtain ⟨j, hj, rfl, hI⟩ := hrel
          clear HI
          obtain ⟨T, X, vL, hDm, hTl⟩ := hI.out
          have j0 : (0 : Int) ≤ (j : Int) := by omega
          have hwj : IntKind.i64.wrap ((j : Int) + 1) = (j : Int) + 1 := IntWalk.i64_in _ (by omega)
          by_cases hlt : j < len ∧ j < 150
          · obtain ⟨g1, g2⟩ := hlt
            obtain ⟨bp, op, rfl, hbp, hjl, hfx, hcs⟩ := entsW_S HA.out.1 j g1
            have hprev : ∀ m, j = m + 1 → ∃ y : MEnt, FitN y.2.1 ∧ ∀ W, Below w.heap.size w W → SEnt bp (op + m * 4) y W := fun m hm => by
              obtain ⟨bp2, op2, he, _, hml, hfy, hcy⟩ := entsW_S HA.out.1 m (by omega)
              obtain ⟨rfl, rfl⟩ : bp = bp2 ∧ op = op2 := by injection he with he; injection he with h1 h2; exact ⟨h1, h2⟩
              exact ⟨_, hfy, hcy⟩
            obtain ⟨x, hx⟩ : ∃ x, x = l[j] := ⟨_, rfl⟩
            rw [← hx] at hfx hcs
            have k1 : (j : Int) < (len : Int) := by omega
            have k2 : (j : Int) < 150 := by omega
            have HS := Lib.hid (fun (W : World) (hb : Below w1.heap.size w1 W) => hcs W (HB1.out.trans (hb.mono HB1.out.size)))
            have HPv := Lib.hid hprev
            have HFX := Lib.hid (And.intro hfx (And.intro hTl (And.intro hj g2)))
            have HPt := Lib.hid (hDm.put K (by omega) x hfx)
            obtain ⟨c5, c0, c1, c2, c3⟩ := HS.out wr hDm.mt.below
            clear hDm hI hcs hx hjl g1 hfx hTl hprev hbp c5
            go_wp2_with fail
            refine HPt.out.mono ?_
            clear HPt c0 c1 c2 c3
            rintro e w3 ⟨rfl, X4, h4⟩
            have HPr := Lib.hid (h4.putR K (by have := HFX.out.2.1; omega) x)
            obtain ⟨c5, c0, c1, c2, c3⟩ := HS.out w3 h4.mt.below
            clear h4 c5
            obtain ⟨ev, hev⟩ : ∃ ev, Hid (ev = errV 55 (putC T x)) := ⟨_, rfl⟩
            rw [← hev.out]
            obtain ⟨kc, hkc⟩ : ∃ kc, Hid (kc = putC T x) := ⟨_, rfl⟩
            rw [← hkc.out] at HPr
            go_wp2_with fail
            refine HPr.out.mono ?_
            clear HPr c0 c1 c2 c3
            rintro e w4 ⟨rfl, vL4, h4⟩
            have hIs := is_any kc kc w4
            rw [beq_self_eq_true] at hIs
            have HIs : Hid (Calls Try.prog 11 #[ev, .int .i64 (kc : Int)] w4 fun e w' => e = .returned (.bool true) ∧ w4 = w') := by
              show Calls _ _ _ _ _
              rw [hev.out, ← hkc.out]; exact hIs
            clear hIs
            have hT2l := put_len_le T x HFX.out.2.1
            obtain ⟨T2, hT2⟩ : ∃ T2, T2 = putM T x := ⟨_, rfl⟩
            rw [← hT2] at h4 hT2l
            have HD4 := Lib.hid h4
            have HT2 := Lib.hid hT2l
            clear h4 hT2 hT2l
            go_wp2_with fail
            refine HIs.out.mono ?_
            clear HIs
            rintro e wx ⟨rfl, rfl⟩
            obtain ⟨rx, hrx⟩ : ∃ rx, Hid (rx = rightM x) := ⟨rightM x, rfl⟩
            have HRi : Hid (∀ W, Kept (fun _ => False) w4 W → Calls Try.prog 12 #[.agg (entC x).toArray] W fun r w' => r = .returned (.bool rx) ∧ Kept (fun _ => False) W w') := fun W _ => by rw [hrx.out]; exact K.right x W HFX.out.1
            have HRr : Hid (∀ W, Kept (fun _ => False) w4 W → Calls Try.prog 13 #[.agg (entC x).toArray] W fun r w' => r = .returned (.bool rx) ∧ Kept (fun _ => False) W w') := fun W _ => by rw [hrx.out]; exact rightR x W
            have HBel : Hid (∀ W, Kept (fun _ => False) w4 W → Below w1.heap.size w1 W) := fun W hk => (HD4.out.still K hk).mt.below
            go_upto_region 17 with (fail)
            go_cut [113] from 72 to 112 (fun s113 wx => s113 = .bool false ∧ Hid (Kept (fun _ => False) w4 wx))
            case first =>
              have HKA : Hid (Kept (fun _ => False) w4 w4.drew) := (Kept.refl _ w4).drewN 1
              by_cases hpos : 0 < j
              · obtain ⟨m, hm⟩ : ∃ m, Hid (j = m + 1) := ⟨j - 1, by show _ = _; omega⟩
                obtain ⟨y, hfy, hcy⟩ := HPv.out m hm.out
                have hp1 : (0 : Int) < (j : Int) := by omega
                have hjm : IntKind.i64.wrap ((j : Int) - 1) = (m : Int) := by have := hm.out; rw [IntWalk.i64_in _ (by omega)]; omega
                have hm0 : (0 : Int) ≤ (m : Int) := by omega
                have hml : (m : Int) < (len : Int) := by have := hm.out; omega
                obtain ⟨bx, hbx⟩ : ∃ bx, Hid (bx = befM x y) := ⟨befM x y, rfl⟩
                have HBi : Hid (∀ W, Kept (fun _ => False) w4 W → Calls Try.prog 14 #[.agg (entC x).toArray, .agg (entC y).toArray] W fun r w' => r = .returned (.bool bx) ∧ Kept (fun _ => False) W w') := fun W _ => by rw [hbx.out]; exact K.before x y W HFX.out.1 hfy
                have HBr : Hid (∀ W, Kept (fun _ => False) w4 W → Calls Try.prog 15 #[.agg (entC x).toArray, .agg (entC y).toArray] W fun r w' => r = .returned (.bool bx) ∧ Kept (fun _ => False) W w') := fun W _ => by rw [hbx.out]; exact beforeR x y W
                have HSF : Hid (∀ W, Kept (fun _ => False) w4 W → W.rangeAt bp (op + j * 4) (entC x) ∧ W.rangeAt bp (op + m * 4) (entC y)) := fun W hk => ⟨(HS.out W (HBel.out W hk)).1, (hcy W (HB1.out.trans ((HBel.out W hk).mono HB1.out.size))).1⟩
                have hS := HSF.out _ HKA.out
                clear hcy hfy
                refine wp_region_until (fun W => W.rangeAt bp (op + j * 4) (entC x) ∧ W.rangeAt bp (op + m * 4) (entC y)) 42 (by kernel_rfl) ?_
                refine wpAnyU_take (i := 0) (v := (.bool true)) (some 72) rfl rfl (by kernel_rfl) (by kernel_rfl) (by kernel_rfl) (by kernel_rfl) (fun _ _ _ h => h) hS (yields_of (by kernel_rfl) (fun w ⟨hx, hy⟩ => by go_simp)) ?_
                refine wpAnyU_take (i := 1) (v := (.bool false)) (some 73) rfl rfl (by kernel_rfl) (by kernel_rfl) (by kernel_rfl) (by kernel_rfl) (fun _ _ _ h => h) hS (yields_of (by kernel_rfl) (fun w ⟨hx, hy⟩ => by go_simp)) ?_
                refine wpAnyU_take (i := 2) (v := (.bool false)) (some 74) rfl rfl (by kernel_rfl) (by kernel_rfl) (by kernel_rfl) (by kernel_rfl) (fun _ _ _ h => h) hS (yields_of (by kernel_rfl) (fun w ⟨hx, hy⟩ => by go_simp)) ?_
                refine wpAnyU_take (i := 3) (v := (.slice (some ⟨bp, op, none⟩) len cap)) (some 75) rfl rfl (by kernel_rfl) (by kernel_rfl) (by kernel_rfl) (by kernel_rfl) (fun _ _ _ h => h) hS (yields_of (by kernel_rfl) (fun w ⟨hx, hy⟩ => by go_simp)) ?_
                refine wpAnyU_take (i := 4) (v := (.int .i64 (j : Int))) (some 76) rfl rfl (by kernel_rfl) (by kernel_rfl) (by kernel_rfl) (by kernel_rfl) (fun _ _ _ h => h) hS (yields_of (by kernel_rfl) (fun w ⟨hx, hy⟩ => by go_simp)) ?_
                refine wpAnyU_take (i := 5) (v := (.pointer (some ⟨bp, op + j * 4, none⟩))) (some 77) rfl rfl (by kernel_rfl) (by kernel_rfl) (by kernel_rfl) (by kernel_rfl) (fun _ _ _ h => h) hS (yields_of (by kernel_rfl) (fun w ⟨hx, hy⟩ => by go_simp)) ?_
                refine wpAnyU_take (i := 6) (v := (.agg (entC x).toArray)) (some 78) rfl rfl (by kernel_rfl) (by kernel_rfl) (by kernel_rfl) (by kernel_rfl) (fun _ _ _ h => h) hS (yieldsIf_load_mid (by kernel_rfl) 34 (.tmp 77) rfl bp (op + j * 4) (by kernel_rfl) (entC x) _ (fun w hw => hw.1) Try.underlying34 rfl (by rw [ent_size]; rfl)) ?_
                refine wpAnyU_take (i := 8) (v := (.slice (some ⟨bp, op, none⟩) len cap)) (some 80) rfl rfl (by kernel_rfl) (by kernel_rfl) (by kernel_rfl) (by kernel_rfl) (fun _ _ _ h => h) hS (yields_of (by kernel_rfl) (fun w ⟨hx, hy⟩ => by go_simp)) ?_
                refine wpAnyU_take (i := 9) (v := (.int .i64 (j : Int))) (some 81) rfl rfl (by kernel_rfl) (by kernel_rfl) (by kernel_rfl) (by kernel_rfl) (fun _ _ _ h => h) hS (yields_of (by kernel_rfl) (fun w ⟨hx, hy⟩ => by go_simp)) ?_
                refine wpAnyU_take (i := 10) (v := (.pointer (some ⟨bp, op + j * 4, none⟩))) (some 82) rfl rfl (by kernel_rfl) (by kernel_rfl) (by kernel_rfl) (by kernel_rfl) (fun _ _ _ h => h) hS (yields_of (by kernel_rfl) (fun w ⟨hx, hy⟩ => by go_simp)) ?_
                refine wpAnyU_take (i := 11) (v := (.agg (entC x).toArray)) (some 83) rfl rfl (by kernel_rfl) (by kernel_rfl) (by kernel_rfl) (by kernel_rfl) (fun _ _ _ h => h) hS (yieldsIf_load_mid (by kernel_rfl) 34 (.tmp 82) rfl bp (op + j * 4) (by kernel_rfl) (entC x) _ (fun w hw => hw.1) Try.underlying34 rfl (by rw [ent_size]; rfl)) ?_
                refine wpAnyU_call (i := 7) (f := 12) (args := #[(.agg (entC x).toArray)]) (some 79) rfl rfl (by kernel_rfl) (by kernel_rfl) (by kernel_rfl) ?_
                refine (HRi.out _ HKA.out).mono ?_
                rintro r wa ⟨rfl, hkwa⟩
                have HKB := Lib.hid (HKA.out.trans hkwa (fun _ hf => hf.elim))
                clear hkwa hS
                have hS := HSF.out wa HKB.out
                refine ⟨_, rfl, fun _ => hS, ?_⟩
                refine wpAnyU_call (i := 12) (f := 13) (args := #[(.agg (entC x).toArray)]) (some 84) rfl rfl (by kernel_rfl) (by kernel_rfl) (by kernel_rfl) ?_
                refine (HRr.out _ HKB.out).mono ?_
                rintro r wb2 ⟨rfl, hkwb2⟩
                have HKC := Lib.hid (HKB.out.trans hkwb2 (fun _ hf => hf.elim))
                clear hkwb2 hS
                have hS := HSF.out wb2 HKC.out
                refine ⟨_, rfl, fun _ => hS, ?_⟩
                refine wpAnyU_take (i := 13) (v := (.bool false)) (some 85) rfl rfl (by kernel_rfl) (by kernel_rfl) (by kernel_rfl) (by kernel_rfl) (fun _ _ _ h => h) hS (yields_of (by kernel_rfl) (fun w ⟨hx, hy⟩ => by go_simp)) ?_
                refine wpAnyU_take (i := 14) (v := (.bool false)) (some 86) rfl rfl (by kernel_rfl) (by kernel_rfl) (by kernel_rfl) (by kernel_rfl) (fun _ _ _ h => h) hS (yields_of (by kernel_rfl) (fun w ⟨hx, hy⟩ => by go_simp)) ?_
                refine wpAnyU_take (i := 15) (v := (.bool false)) (some 87) rfl rfl (by kernel_rfl) (by kernel_rfl) (by kernel_rfl) (by kernel_rfl) (fun _ _ _ h => h) hS (yields_of (by kernel_rfl) (fun w ⟨hx, hy⟩ => by go_simp)) ?_
                refine wpAnyU_take (i := 16) (v := (.int .i64 (j : Int))) (some 88) rfl rfl (by kernel_rfl) (by kernel_rfl) (by kernel_rfl) (by kernel_rfl) (fun _ _ _ h => h) hS (yields_of (by kernel_rfl) (fun w ⟨hx, hy⟩ => by go_simp)) ?_
                refine wpAnyU_take (i := 17) (v := (.bool true)) (some 89) rfl rfl (by kernel_rfl) (by kernel_rfl) (by kernel_rfl) (by kernel_rfl) (fun _ _ _ h => h) hS (yields_of (by kernel_rfl) (fun w ⟨hx, hy⟩ => by go_simp)) ?_
                refine wpAnyU_take (i := 18) (v := (.bool true)) (some 90) rfl rfl (by kernel_rfl) (by kernel_rfl) (by kernel_rfl) (by kernel_rfl) (fun _ _ _ h => h) hS (yields_of (by kernel_rfl) (fun w ⟨hx, hy⟩ => by go_simp)) ?_
                refine wpAnyU_take (i := 19) (v := (.slice (some ⟨bp, op, none⟩) len cap)) (some 91) rfl rfl (by kernel_rfl) (by kernel_rfl) (by kernel_rfl) (by kernel_rfl) (fun _ _ _ h => h) hS (yields_of (by kernel_rfl) (fun w ⟨hx, hy⟩ => by go_simp)) ?_
                refine wpAnyU_take (i := 20) (v := (.int .i64 (j : Int))) (some 92) rfl rfl (by kernel_rfl) (by kernel_rfl) (by kernel_rfl) (by kernel_rfl) (fun _ _ _ h => h) hS (yields_of (by kernel_rfl) (fun w ⟨hx, hy⟩ => by go_simp)) ?_
                refine wpAnyU_take (i := 21) (v := (.pointer (some ⟨bp, op + j * 4, none⟩))) (some 93) rfl rfl (by kernel_rfl) (by kernel_rfl) (by kernel_rfl) (by kernel_rfl) (fun _ _ _ h => h) hS (yields_of (by kernel_rfl) (fun w ⟨hx, hy⟩ => by go_simp)) ?_
                refine wpAnyU_take (i := 22) (v := (.agg (entC x).toArray)) (some 94) rfl rfl (by kernel_rfl) (by kernel_rfl) (by kernel_rfl) (by kernel_rfl) (fun _ _ _ h => h) hS (yieldsIf_load_mid (by kernel_rfl) 34 (.tmp 93) rfl bp (op + j * 4) (by kernel_rfl) (entC x) _ (fun w hw => hw.1) Try.underlying34 rfl (by rw [ent_size]; rfl)) ?_
                refine wpAnyU_take (i := 23) (v := (.slice (some ⟨bp, op, none⟩) len cap)) (some 95) rfl rfl (by kernel_rfl) (by kernel_rfl) (by kernel_rfl) (by kernel_rfl) (fun _ _ _ h => h) hS (yields_of (by kernel_rfl) (fun w ⟨hx, hy⟩ => by go_simp)) ?_
                refine wpAnyU_take (i := 24) (v := (.int .i64 (j : Int))) (some 96) rfl rfl (by kernel_rfl) (by kernel_rfl) (by kernel_rfl) (by kernel_rfl) (fun _ _ _ h => h) hS (yields_of (by kernel_rfl) (fun w ⟨hx, hy⟩ => by go_simp)) ?_
                refine wpAnyU_take (i := 25) (v := (.int .i64 (m : Int))) (some 97) rfl rfl (by kernel_rfl) (by kernel_rfl) (by kernel_rfl) (by kernel_rfl) (fun _ _ _ h => h) hS (yields_of (by kernel_rfl) (fun w ⟨hx, hy⟩ => by go_simp)) ?_
                refine wpAnyU_take (i := 26) (v := (.pointer (some ⟨bp, op + m * 4, none⟩))) (some 98) rfl rfl (by kernel_rfl) (by kernel_rfl) (by kernel_rfl) (by kernel_rfl) (fun _ _ _ h => h) hS (yields_of (by kernel_rfl) (fun w ⟨hx, hy⟩ => by go_simp)) ?_
                refine wpAnyU_take (i := 27) (v := (.agg (entC y).toArray)) (some 99) rfl rfl (by kernel_rfl) (by kernel_rfl) (by kernel_rfl) (by kernel_rfl) (fun _ _ _ h => h) hS (yieldsIf_load_mid (by kernel_rfl) 34 (.tmp 98) rfl bp (op + m * 4) (by kernel_rfl) (entC y) _ (fun w hw => hw.2) Try.underlying34 rfl (by rw [ent_size]; rfl)) ?_
                refine wpAnyU_take (i := 29) (v := (.slice (some ⟨bp, op, none⟩) len cap)) (some 101) rfl rfl (by kernel_rfl) (by kernel_rfl) (by kernel_rfl) (by kernel_rfl) (fun _ _ _ h => h) hS (yields_of (by kernel_rfl) (fun w ⟨hx, hy⟩ => by go_simp)) ?_
                refine wpAnyU_take (i := 30) (v := (.int .i64 (j : Int))) (some 102) rfl rfl (by kernel_rfl) (by kernel_rfl) (by kernel_rfl) (by kernel_rfl) (fun _ _ _ h => h) hS (yields_of (by kernel_rfl) (fun w ⟨hx, hy⟩ => by go_simp)) ?_
                refine wpAnyU_take (i := 31) (v := (.pointer (some ⟨bp, op + j * 4, none⟩))) (some 103) rfl rfl (by kernel_rfl) (by kernel_rfl) (by kernel_rfl) (by kernel_rfl) (fun _ _ _ h => h) hS (yields_of (by kernel_rfl) (fun w ⟨hx, hy⟩ => by go_simp)) ?_
                refine wpAnyU_take (i := 32) (v := (.agg (entC x).toArray)) (some 104) rfl rfl (by kernel_rfl) (by kernel_rfl) (by kernel_rfl) (by kernel_rfl) (fun _ _ _ h => h) hS (yieldsIf_load_mid (by kernel_rfl) 34 (.tmp 103) rfl bp (op + j * 4) (by kernel_rfl) (entC x) _ (fun w hw => hw.1) Try.underlying34 rfl (by rw [ent_size]; rfl)) ?_
                refine wpAnyU_take (i := 33) (v := (.slice (some ⟨bp, op, none⟩) len cap)) (some 105) rfl rfl (by kernel_rfl) (by kernel_rfl) (by kernel_rfl) (by kernel_rfl) (fun _ _ _ h => h) hS (yields_of (by kernel_rfl) (fun w ⟨hx, hy⟩ => by go_simp)) ?_
                refine wpAnyU_take (i := 34) (v := (.int .i64 (j : Int))) (some 106) rfl rfl (by kernel_rfl) (by kernel_rfl) (by kernel_rfl) (by kernel_rfl) (fun _ _ _ h => h) hS (yields_of (by kernel_rfl) (fun w ⟨hx, hy⟩ => by go_simp)) ?_
                refine wpAnyU_take (i := 35) (v := (.int .i64 (m : Int))) (some 107) rfl rfl (by kernel_rfl) (by kernel_rfl) (by kernel_rfl) (by kernel_rfl) (fun _ _ _ h => h) hS (yields_of (by kernel_rfl) (fun w ⟨hx, hy⟩ => by go_simp)) ?_
                refine wpAnyU_take (i := 36) (v := (.pointer (some ⟨bp, op + m * 4, none⟩))) (some 108) rfl rfl (by kernel_rfl) (by kernel_rfl) (by kernel_rfl) (by kernel_rfl) (fun _ _ _ h => h) hS (yields_of (by kernel_rfl) (fun w ⟨hx, hy⟩ => by go_simp)) ?_
                refine wpAnyU_take (i := 37) (v := (.agg (entC y).toArray)) (some 109) rfl rfl (by kernel_rfl) (by kernel_rfl) (by kernel_rfl) (by kernel_rfl) (fun _ _ _ h => h) hS (yieldsIf_load_mid (by kernel_rfl) 34 (.tmp 108) rfl bp (op + m * 4) (by kernel_rfl) (entC y) _ (fun w hw => hw.2) Try.underlying34 rfl (by rw [ent_size]; rfl)) ?_
                refine wpAnyU_call (i := 28) (f := 14) (args := #[(.agg (entC x).toArray), (.agg (entC y).toArray)]) (some 100) rfl rfl (by kernel_rfl) (by kernel_rfl) (by kernel_rfl) ?_
                refine (HBi.out _ HKC.out).mono ?_
                rintro r wd2 ⟨rfl, hkwd2⟩
                have HKD := Lib.hid (HKC.out.trans hkwd2 (fun _ hf => hf.elim))
                clear hkwd2 hS
                have hS := HSF.out wd2 HKD.out
                refine ⟨_, rfl, fun _ => hS, ?_⟩
                refine wpAnyU_call (i := 38) (f := 15) (args := #[(.agg (entC x).toArray), (.agg (entC y).toArray)]) (some 110) rfl rfl (by kernel_rfl) (by kernel_rfl) (by kernel_rfl) ?_
                refine (HBr.out _ HKD.out).mono ?_
                rintro r we2 ⟨rfl, hkwe2⟩
                have HKE := Lib.hid (HKD.out.trans hkwe2 (fun _ hf => hf.elim))
                clear hkwe2 hS
                have hS := HSF.out we2 HKE.out
                refine ⟨_, rfl, fun _ => hS, ?_⟩
                refine wpAnyU_take (i := 39) (v := (.bool false)) (some 111) rfl rfl (by kernel_rfl) (by kernel_rfl) (by kernel_rfl) (by kernel_rfl) (fun _ _ _ h => h) hS (yields_of (by kernel_rfl) (fun w ⟨hx, hy⟩ => by go_simp)) ?_
                refine wpAnyU_take (i := 40) (v := (.bool false)) (some 112) rfl rfl (by kernel_rfl) (by kernel_rfl) (by kernel_rfl) (by kernel_rfl) (fun _ _ _ h => h) hS (yields_of (by kernel_rfl) (fun w ⟨hx, hy⟩ => by go_simp)) ?_
                refine wpAnyU_take (i := 41) (v := (.bool false)) (some 113) rfl rfl (by kernel_rfl) (by kernel_rfl) (by kernel_rfl) (by kernel_rfl) (fun _ _ _ h => h) hS (yields_of (by kernel_rfl) (fun w ⟨hx, hy⟩ => by go_simp)) ?_
                refine wpAnyU_done (by kernel_rfl) ?_ _
                simp only [put_lit, List.set_cons_succ, List.set_cons_zero]
                go_wp2
                go_meet
                case rel => exact ⟨rfl, HKE⟩
              · have hp1 : ¬(0 : Int) < (j : Int) := by omega
                have HSF : Hid (∀ W, Kept (fun _ => False) w4 W → W.rangeAt bp (op + j * 4) (entC x)) := fun W hk => (HS.out W (HBel.out W hk)).1
                have hS := HSF.out _ HKA.out
                refine wp_region_until (fun W => W.rangeAt bp (op + j * 4) (entC x)) 42 (by kernel_rfl) ?_
                refine wpAnyU_take (i := 0) (v := (.bool true)) (some 72) rfl rfl (by kernel_rfl) (by kernel_rfl) (by kernel_rfl) (by kernel_rfl) (fun _ _ _ h => h) hS (yields_of (by kernel_rfl) (fun w hx => by go_simp)) ?_
                refine wpAnyU_take (i := 1) (v := (.bool false)) (some 73) rfl rfl (by kernel_rfl) (by kernel_rfl) (by kernel_rfl) (by kernel_rfl) (fun _ _ _ h => h) hS (yields_of (by kernel_rfl) (fun w hx => by go_simp)) ?_
                refine wpAnyU_take (i := 2) (v := (.bool false)) (some 74) rfl rfl (by kernel_rfl) (by kernel_rfl) (by kernel_rfl) (by kernel_rfl) (fun _ _ _ h => h) hS (yields_of (by kernel_rfl) (fun w hx => by go_simp)) ?_
                refine wpAnyU_take (i := 3) (v := (.slice (some ⟨bp, op, none⟩) len cap)) (some 75) rfl rfl (by kernel_rfl) (by kernel_rfl) (by kernel_rfl) (by kernel_rfl) (fun _ _ _ h => h) hS (yields_of (by kernel_rfl) (fun w hx => by go_simp)) ?_
                refine wpAnyU_take (i := 4) (v := (.int .i64 (j : Int))) (some 76) rfl rfl (by kernel_rfl) (by kernel_rfl) (by kernel_rfl) (by kernel_rfl) (fun _ _ _ h => h) hS (yields_of (by kernel_rfl) (fun w hx => by go_simp)) ?_
                refine wpAnyU_take (i := 5) (v := (.pointer (some ⟨bp, op + j * 4, none⟩))) (some 77) rfl rfl (by kernel_rfl) (by kernel_rfl) (by kernel_rfl) (by kernel_rfl) (fun _ _ _ h => h) hS (yields_of (by kernel_rfl) (fun w hx => by go_simp)) ?_
                refine wpAnyU_take (i := 6) (v := (.agg (entC x).toArray)) (some 78) rfl rfl (by kernel_rfl) (by kernel_rfl) (by kernel_rfl) (by kernel_rfl) (fun _ _ _ h => h) hS (yieldsIf_load_mid (by kernel_rfl) 34 (.tmp 77) rfl bp (op + j * 4) (by kernel_rfl) (entC x) _ (fun w hw => hw) Try.underlying34 rfl (by rw [ent_size]; rfl)) ?_
                refine wpAnyU_take (i := 8) (v := (.slice (some ⟨bp, op, none⟩) len cap)) (some 80) rfl rfl (by kernel_rfl) (by kernel_rfl) (by kernel_rfl) (by kernel_rfl) (fun _ _ _ h => h) hS (yields_of (by kernel_rfl) (fun w hx => by go_simp)) ?_
                refine wpAnyU_take (i := 9) (v := (.int .i64 (j : Int))) (some 81) rfl rfl (by kernel_rfl) (by kernel_rfl) (by kernel_rfl) (by kernel_rfl) (fun _ _ _ h => h) hS (yields_of (by kernel_rfl) (fun w hx => by go_simp)) ?_
                refine wpAnyU_take (i := 10) (v := (.pointer (some ⟨bp, op + j * 4, none⟩))) (some 82) rfl rfl (by kernel_rfl) (by kernel_rfl) (by kernel_rfl) (by kernel_rfl) (fun _ _ _ h => h) hS (yields_of (by kernel_rfl) (fun w hx => by go_simp)) ?_
                refine wpAnyU_take (i := 11) (v := (.agg (entC x).toArray)) (some 83) rfl rfl (by kernel_rfl) (by kernel_rfl) (by kernel_rfl) (by kernel_rfl) (fun _ _ _ h => h) hS (yieldsIf_load_mid (by kernel_rfl) 34 (.tmp 82) rfl bp (op + j * 4) (by kernel_rfl) (entC x) _ (fun w hw => hw) Try.underlying34 rfl (by rw [ent_size]; rfl)) ?_
                refine wpAnyU_call (i := 7) (f := 12) (args := #[(.agg (entC x).toArray)]) (some 79) rfl rfl (by kernel_rfl) (by kernel_rfl) (by kernel_rfl) ?_
                refine (HRi.out _ HKA.out).mono ?_
                rintro r wa ⟨rfl, hkwa⟩
                have HKB := Lib.hid (HKA.out.trans hkwa (fun _ hf => hf.elim))
                clear hkwa hS
                have hS := HSF.out wa HKB.out
                refine ⟨_, rfl, fun _ => hS, ?_⟩
                refine wpAnyU_call (i := 12) (f := 13) (args := #[(.agg (entC x).toArray)]) (some 84) rfl rfl (by kernel_rfl) (by kernel_rfl) (by kernel_rfl) ?_
                refine (HRr.out _ HKB.out).mono ?_
                rintro r wb2 ⟨rfl, hkwb2⟩
                have HKC := Lib.hid (HKB.out.trans hkwb2 (fun _ hf => hf.elim))
                clear hkwb2 hS
                have hS := HSF.out wb2 HKC.out
                refine ⟨_, rfl, fun _ => hS, ?_⟩
                refine wpAnyU_take (i := 13) (v := (.bool false)) (some 85) rfl rfl (by kernel_rfl) (by kernel_rfl) (by kernel_rfl) (by kernel_rfl) (fun _ _ _ h => h) hS (yields_of (by kernel_rfl) (fun w hx => by go_simp)) ?_
                refine wpAnyU_take (i := 14) (v := (.bool false)) (some 86) rfl rfl (by kernel_rfl) (by kernel_rfl) (by kernel_rfl) (by kernel_rfl) (fun _ _ _ h => h) hS (yields_of (by kernel_rfl) (fun w hx => by go_simp)) ?_
                refine wpAnyU_take (i := 15) (v := (.bool false)) (some 87) rfl rfl (by kernel_rfl) (by kernel_rfl) (by kernel_rfl) (by kernel_rfl) (fun _ _ _ h => h) hS (yields_of (by kernel_rfl) (fun w hx => by go_simp)) ?_
                refine wpAnyU_take (i := 16) (v := (.int .i64 (j : Int))) (some 88) rfl rfl (by kernel_rfl) (by kernel_rfl) (by kernel_rfl) (by kernel_rfl) (fun _ _ _ h => h) hS (yields_of (by kernel_rfl) (fun w hx => by go_simp)) ?_
                refine wpAnyU_take (i := 17) (v := (.bool false)) (some 89) rfl rfl (by kernel_rfl) (by kernel_rfl) (by kernel_rfl) (by kernel_rfl) (fun _ _ _ h => h) hS (yields_of (by kernel_rfl) (fun w hx => by go_simp)) ?_
                refine wpAnyU_take (i := 18) (v := (.bool false)) (some 90) rfl rfl (by kernel_rfl) (by kernel_rfl) (by kernel_rfl) (by kernel_rfl) (fun _ _ _ h => h) hS (yields_of (by kernel_rfl) (fun w hx => by go_simp)) ?_
                refine wpAnyU_take (i := 19) (v := undef) (some 91) rfl rfl (by kernel_rfl) (by kernel_rfl) (by kernel_rfl) (by kernel_rfl) (fun _ _ _ h => h) hS (unwanted (by kernel_rfl)) ?_
                refine wpAnyU_take (i := 20) (v := undef) (some 92) rfl rfl (by kernel_rfl) (by kernel_rfl) (by kernel_rfl) (by kernel_rfl) (fun _ _ _ h => h) hS (unwanted (by kernel_rfl)) ?_
                refine wpAnyU_take (i := 21) (v := undef) (some 93) rfl rfl (by kernel_rfl) (by kernel_rfl) (by kernel_rfl) (by kernel_rfl) (fun _ _ _ h => h) hS (unwanted (by kernel_rfl)) ?_
                refine wpAnyU_take (i := 22) (v := undef) (some 94) rfl rfl (by kernel_rfl) (by kernel_rfl) (by kernel_rfl) (by kernel_rfl) (fun _ _ _ h => h) hS (unwanted (by kernel_rfl)) ?_
                refine wpAnyU_take (i := 23) (v := undef) (some 95) rfl rfl (by kernel_rfl) (by kernel_rfl) (by kernel_rfl) (by kernel_rfl) (fun _ _ _ h => h) hS (unwanted (by kernel_rfl)) ?_
                refine wpAnyU_take (i := 24) (v := undef) (some 96) rfl rfl (by kernel_rfl) (by kernel_rfl) (by kernel_rfl) (by kernel_rfl) (fun _ _ _ h => h) hS (unwanted (by kernel_rfl)) ?_
                refine wpAnyU_take (i := 25) (v := undef) (some 97) rfl rfl (by kernel_rfl) (by kernel_rfl) (by kernel_rfl) (by kernel_rfl) (fun _ _ _ h => h) hS (unwanted (by kernel_rfl)) ?_
                refine wpAnyU_take (i := 26) (v := undef) (some 98) rfl rfl (by kernel_rfl) (by kernel_rfl) (by kernel_rfl) (by kernel_rfl) (fun _ _ _ h => h) hS (unwanted (by kernel_rfl)) ?_
                refine wpAnyU_take (i := 27) (v := undef) (some 99) rfl rfl (by kernel_rfl) (by kernel_rfl) (by kernel_rfl) (by kernel_rfl) (fun _ _ _ h => h) hS (unwanted (by kernel_rfl)) ?_
                refine wpAnyU_take (i := 28) (v := undef) (some 100) rfl rfl (by kernel_rfl) (by kernel_rfl) (by kernel_rfl) (by kernel_rfl) (fun _ _ _ h => h) hS (unwanted (by kernel_rfl)) ?_
                refine wpAnyU_take (i := 29) (v := undef) (some 101) rfl rfl (by kernel_rfl) (by kernel_rfl) (by kernel_rfl) (by kernel_rfl) (fun _ _ _ h => h) hS (unwanted (by kernel_rfl)) ?_
                refine wpAnyU_take (i := 30) (v := undef) (some 102) rfl rfl (by kernel_rfl) (by kernel_rfl) (by kernel_rfl) (by kernel_rfl) (fun _ _ _ h => h) hS (unwanted (by kernel_rfl)) ?_
                refine wpAnyU_take (i := 31) (v := undef) (some 103) rfl rfl (by kernel_rfl) (by kernel_rfl) (by kernel_rfl) (by kernel_rfl) (fun _ _ _ h => h) hS (unwanted (by kernel_rfl)) ?_
                refine wpAnyU_take (i := 32) (v := undef) (some 104) rfl rfl (by kernel_rfl) (by kernel_rfl) (by kernel_rfl) (by kernel_rfl) (fun _ _ _ h => h) hS (unwanted (by kernel_rfl)) ?_
                refine wpAnyU_take (i := 33) (v := undef) (some 105) rfl rfl (by kernel_rfl) (by kernel_rfl) (by kernel_rfl) (by kernel_rfl) (fun _ _ _ h => h) hS (unwanted (by kernel_rfl)) ?_
                refine wpAnyU_take (i := 34) (v := undef) (some 106) rfl rfl (by kernel_rfl) (by kernel_rfl) (by kernel_rfl) (by kernel_rfl) (fun _ _ _ h => h) hS (unwanted (by kernel_rfl)) ?_
                refine wpAnyU_take (i := 35) (v := undef) (some 107) rfl rfl (by kernel_rfl) (by kernel_rfl) (by kernel_rfl) (by kernel_rfl) (fun _ _ _ h => h) hS (unwanted (by kernel_rfl)) ?_
                refine wpAnyU_take (i := 36) (v := undef) (some 108) rfl rfl (by kernel_rfl) (by kernel_rfl) (by kernel_rfl) (by kernel_rfl) (fun _ _ _ h => h) hS (unwanted (by kernel_rfl)) ?_
                refine wpAnyU_take (i := 37) (v := undef) (some 109) rfl rfl (by kernel_rfl) (by kernel_rfl) (by kernel_rfl) (by kernel_rfl) (fun _ _ _ h => h) hS (unwanted (by kernel_rfl)) ?_
                refine wpAnyU_take (i := 38) (v := undef) (some 110) rfl rfl (by kernel_rfl) (by kernel_rfl) (by kernel_rfl) (by kernel_rfl) (fun _ _ _ h => h) hS (unwanted (by kernel_rfl)) ?_
                refine wpAnyU_take (i := 39) (v := undef) (some 111) rfl rfl (by kernel_rfl) (by kernel_rfl) (by kernel_rfl) (by kernel_rfl) (fun _ _ _ h => h) hS (unwanted (by kernel_rfl)) ?_
                refine wpAnyU_take (i := 40) (v := (.bool false)) (some 112) rfl rfl (by kernel_rfl) (by kernel_rfl) (by kernel_rfl) (by kernel_rfl) (fun _ _ _ h => h) hS (yields_of (by kernel_rfl) (fun w hx => by go_simp)) ?_
                refine wpAnyU_take (i := 41) (v := (.bool false)) (some 113) rfl rfl (by kernel_rfl) (by kernel_rfl) (by kernel_rfl) (by kernel_rfl) (fun _ _ _ h => h) hS (yields_of (by kernel_rfl) (fun w hx => by go_simp)) ?_
                refine wpAnyU_done (by kernel_rfl) ?_ _
                simp only [put_lit, List.set_cons_succ, List.set_cons_zero]
                go_wp2
                go_meet
                case rel => exact ⟨rfl, HKC⟩
            case rest =>
              obtain ⟨rfl, hk5⟩ := hcut
              obtain ⟨w5, hw5⟩ : ∃ w5, w5 = wc := ⟨_, rfl⟩
              rw [← hw5] at hk5 ⊢
              clear hw5
              obtain ⟨nT, hnT⟩ : ∃ nT, Hid (nT = T2.length) := ⟨_, rfl⟩
              obtain ⟨ae, cae, hvL, -⟩ := HD4.out.rf.rows
              rw [← hnT.out] at hvL
              subst hvL
              have HD5 := Lib.hid (HD4.out.still K hk5.out)
              have HT5 : Hid (T2.length ≤ 151) := by show _ ≤ _; have := HT2.out; have := HFX.out.2.2.2; omega
              have HBel5 : Hid (∀ W, Kept (fun _ => False) w5 W → Below w1.heap.size w1 W) := fun W hk => (HD5.out.still K hk).mt.below
              clear hk5 HBel HRi HRr hrx HD4
              obtain ⟨⟨y, oy⟩, hGy⟩ : ∃ P, Hid (P = getM T2 key seq) := ⟨getM T2 key seq, rfl⟩
              obtain ⟨⟨z, oz⟩, hGz⟩ : ∃ P, Hid (P = getM T2 x.1 x.2.1) := ⟨getM T2 x.1 x.2.1, rfl⟩
              have HGa : Hid (∀ W, Kept (fun _ => False) w5 W → Calls Try.prog 16 #[(.pointer (some ⟨t, 0, none⟩)), .string ⟨key.toArray⟩, .int .i64 seq] W fun r w' => r = .returned (.tuple #[.agg #[.string ⟨y.1.toArray⟩, .int .i64 y.2.1, .bool y.2.2.1, .string ⟨y.2.2.2.toArray⟩], .bool oy]) ∧ Kept (fun _ => False) W w') := fun W hk => by
                have := HD5.out.get K (by have := HT5.out; omega) key seq HA.out.2 W hk
                rw [← hGy.out] at this; exact this
              have HGb : Hid (∀ W, Kept (fun _ => False) w5 W → Calls Try.prog 17 #[.slice ae nT cae, .string ⟨key.toArray⟩, .int .i64 seq] W fun r w' => r = .returned (.tuple #[.agg #[.string ⟨y.1.toArray⟩, .int .i64 y.2.1, .bool y.2.2.1, .string ⟨y.2.2.2.toArray⟩], .bool oy]) ∧ Kept (fun _ => False) W w') := fun W hk => by
                have := HD5.out.find K (by have := HT5.out; omega) key seq W hk
                rw [← hGy.out] at this; exact this
              have HGc : Hid (∀ W, Kept (fun _ => False) w5 W → Calls Try.prog 16 #[(.pointer (some ⟨t, 0, none⟩)), .string ⟨x.1.toArray⟩, .int .i64 x.2.1] W fun r w' => r = .returned (.tuple #[.agg #[.string ⟨z.1.toArray⟩, .int .i64 z.2.1, .bool z.2.2.1, .string ⟨z.2.2.2.toArray⟩], .bool oz]) ∧ Kept (fun _ => False) W w') := fun W hk => by
                have := HD5.out.get K (by have := HT5.out; omega) x.1 x.2.1 HFX.out.1 W hk
                rw [← hGz.out] at this; exact this
              have HGd : Hid (∀ W, Kept (fun _ => False) w5 W → Calls Try.prog 17 #[.slice ae nT cae, .string ⟨x.1.toArray⟩, .int .i64 x.2.1] W fun r w' => r = .returned (.tuple #[.agg #[.string ⟨z.1.toArray⟩, .int .i64 z.2.1, .bool z.2.2.1, .string ⟨z.2.2.2.toArray⟩], .bool oz]) ∧ Kept (fun _ => False) W w') := fun W hk => by
                have := HD5.out.find K (by have := HT5.out; omega) x.1 x.2.1 W hk
                rw [← hGz.out] at this; exact this
              clear hGy hGz
              have HQ : Hid (∀ W, Kept (fun _ => False) w5 W → W.cell? ⟨q, 0, none⟩ = some (.slice ae nT cae)) := fun W hk => (HD5.out.still K hk).rf.obj.cell 0 _ rfl
              have HSX : Hid (∀ W, Kept (fun _ => False) w5 W → SEnt bp (op + j * 4) x W) := fun W hk => HS.out W (HBel5.out W hk)
              go_wp2_with fail
              refine (HGa.out _ (Kept.refl _ _)).mono ?_
              clear HGa
              rintro e wg ⟨rfl, hkg⟩
              go_upto_region 20 with (fail)
              have hkz := hkg.alloc (.cells (entC y).toArray 34)
              have hNz := Holds.new wg (entC y) 34
              obtain ⟨w6, hww6⟩ : ∃ w6, w6 = wg.alloc (.cells (entC y).toArray 34) := ⟨_, rfl⟩
              rw [← hww6] at hkz hNz
              have hww : w6 = wg.alloc (.cells #[.string ⟨y.1.toArray⟩, .int .i64 y.2.1, .bool y.2.2.1, .string ⟨y.2.2.2.toArray⟩] 34) := hww6
              rw [← hww]
              generalize wg.heap.size = e18 at hNz ⊢
              clear hww6 hww hkg
              have HK6 := Lib.hid hkz
              have HN18 := Lib.hid hNz
              have cq := HQ.out w6 hkz
              clear hkz hNz
              go_wp2_with fail
              refine (HGb.out _ HK6.out).mono ?_
              clear HGb cq
              rintro e wh ⟨rfl, hkh⟩
              go_upto_region 21 with (fail)
              have hkz := hkh.alloc (.cells (entC y).toArray 34)
              have hNz := Holds.new wh (entC y) 34
              obtain ⟨w7, hww7⟩ : ∃ w7, w7 = wh.alloc (.cells (entC y).toArray 34) := ⟨_, rfl⟩
              rw [← hww7] at hkz hNz
              have hww : w7 = wh.alloc (.cells #[.string ⟨y.1.toArray⟩, .int .i64 y.2.1, .bool y.2.2.1, .string ⟨y.2.2.2.toArray⟩] 34) := hww7
              rw [← hww]
              generalize wh.heap.size = e20 at hNz ⊢
              clear hww7 hww hkh
              have HN20 := Lib.hid hNz
              have HN18' := Lib.hid (HN18.out.of_block (hkz.block e18 HN18.out.lt (fun f => f)))
              have HK7 := Lib.hid (HK6.out.trans hkz (fun _ f => f.elim))
              clear hkz hNz HN18 HK6
              obtain ⟨i0, hi, hz0, hz1, hz2⟩ := info_parts ent_info
              obtain ⟨wr, hwr⟩ : ∃ wr, wr = w7 := ⟨_, rfl⟩
              rw [← hwr] at HN20 HN18' HK7 ⊢
              clear hwr
              have HGc' : Hid (∀ W, Kept (fun _ => False) wr W → Calls Try.prog 16 #[(.pointer (some ⟨t, 0, none⟩)), .string ⟨x.1.toArray⟩, .int .i64 x.2.1] W fun r w' => r = .returned (.tuple #[.agg (entC z).toArray, .bool oz]) ∧ Kept (fun _ => False) W w') := fun W hk => HGc.out W (HK7.out.trans hk (fun _ f => f.elim))
              have HSF : Hid (∀ W, Kept (fun _ => False) wr W → SEnt bp (op + j * 4) x W) := fun W hk => HSX.out W (HK7.out.trans hk (fun _ f => f.elim))
              clear HGc
              go_cut [22, 23] from 131 to 145 (fun s22 s23 wx => s23 = .bool oz ∧ ∃ eb, s22 = .pointer (some ⟨eb, 0, none⟩) ∧ Hid (Kept (fun _ => False) wr wx ∧ Holds wx eb (entC z) 34))
              case first =>
                have HKA : Hid (Kept (fun _ => False) wr wr.drew) := (Kept.refl _ wr).drewN 1
                have hS := HSF.out _ HKA.out
                refine wp_region_until (SEnt bp (op + j * 4) x) 18 (by kernel_rfl) ?_
                refine wpAnyU_take (i := 0) (v := (.pointer (some ⟨t, 0, none⟩))) (some 132) rfl rfl (by kernel_rfl) (by kernel_rfl) (by kernel_rfl) (by kernel_rfl) (fun _ _ _ h => h) hS (yields_of (by kernel_rfl) (fun w ⟨hr, h0, h1, h2, h3⟩ => by go_simp)) ?_
                refine wpAnyU_take (i := 1) (v := (.slice (some ⟨bp, op, none⟩) len cap)) (some 133) rfl rfl (by kernel_rfl) (by kernel_rfl) (by kernel_rfl) (by kernel_rfl) (fun _ _ _ h => h) hS (yields_of (by kernel_rfl) (fun w ⟨hr, h0, h1, h2, h3⟩ => by go_simp)) ?_
                refine wpAnyU_take (i := 2) (v := (.int .i64 (j : Int))) (some 134) rfl rfl (by kernel_rfl) (by kernel_rfl) (by kernel_rfl) (by kernel_rfl) (fun _ _ _ h => h) hS (yields_of (by kernel_rfl) (fun w ⟨hr, h0, h1, h2, h3⟩ => by go_simp)) ?_
                refine wpAnyU_take (i := 3) (v := (.pointer (some ⟨bp, op + j * 4, none⟩))) (some 135) rfl rfl (by kernel_rfl) (by kernel_rfl) (by kernel_rfl) (by kernel_rfl) (fun _ _ _ h => h) hS (yields_of (by kernel_rfl) (fun w ⟨hr, h0, h1, h2, h3⟩ => by go_simp)) ?_
                refine wpAnyU_take (i := 4) (v := (.pointer (some ⟨bp, op + j * 4, none⟩))) (some 136) rfl rfl (by kernel_rfl) (by kernel_rfl) (by kernel_rfl) (by kernel_rfl) (fun _ _ _ h => h) hS (yields_of (by kernel_rfl) (fun w ⟨hr, h0, h1, h2, h3⟩ => by go_simp)) ?_
                refine wpAnyU_take (i := 5) (v := (.string ⟨x.1.toArray⟩)) (some 137) rfl rfl (by kernel_rfl) (by kernel_rfl) (by kernel_rfl) (by kernel_rfl) (fun _ _ _ h => h) hS (yields_of (by kernel_rfl) (fun w ⟨hr, h0, h1, h2, h3⟩ => by go_simp)) ?_
                refine wpAnyU_take (i := 6) (v := (.slice (some ⟨bp, op, none⟩) len cap)) (some 138) rfl rfl (by kernel_rfl) (by kernel_rfl) (by kernel_rfl) (by kernel_rfl) (fun _ _ _ h => h) hS (yields_of (by kernel_rfl) (fun w ⟨hr, h0, h1, h2, h3⟩ => by go_simp)) ?_
                refine wpAnyU_take (i := 7) (v := (.int .i64 (j : Int))) (some 139) rfl rfl (by kernel_rfl) (by kernel_rfl) (by kernel_rfl) (by kernel_rfl) (fun _ _ _ h => h) hS (yields_of (by kernel_rfl) (fun w ⟨hr, h0, h1, h2, h3⟩ => by go_simp)) ?_
                refine wpAnyU_take (i := 8) (v := (.pointer (some ⟨bp, op + j * 4, none⟩))) (some 140) rfl rfl (by kernel_rfl) (by kernel_rfl) (by kernel_rfl) (by kernel_rfl) (fun _ _ _ h => h) hS (yields_of (by kernel_rfl) (fun w ⟨hr, h0, h1, h2, h3⟩ => by go_simp)) ?_
                refine wpAnyU_take (i := 9) (v := (.pointer (some ⟨bp, op + j * 4 + 1, none⟩))) (some 141) rfl rfl (by kernel_rfl) (by kernel_rfl) (by kernel_rfl) (by kernel_rfl) (fun _ _ _ h => h) hS (yields_of (by kernel_rfl) (fun w ⟨hr, h0, h1, h2, h3⟩ => by go_simp)) ?_
                refine wpAnyU_take (i := 10) (v := (.int .i64 x.2.1)) (some 142) rfl rfl (by kernel_rfl) (by kernel_rfl) (by kernel_rfl) (by kernel_rfl) (fun _ _ _ h => h) hS (yields_of (by kernel_rfl) (fun w ⟨hr, h0, h1, h2, h3⟩ => by go_simp)) ?_
                refine wpAnyU_two (i := 11) (j := 15) (by kernel_rfl) ?_ ?_
                · refine wpOp_call (f := 16) (args := #[(.pointer (some ⟨t, 0, none⟩)), (.string ⟨x.1.toArray⟩), (.int .i64 x.2.1)]) (some 143) rfl rfl (by kernel_rfl) (by kernel_rfl) ?_
                  refine (HGc'.out _ HKA.out).mono ?_
                  rintro r wc ⟨rfl, hkc⟩
                  have HKC := Lib.hid (HKA.out.trans hkc (fun _ hf => hf.elim))
                  clear hkc
                  have hSc := HSF.out _ HKC.out
                  refine ⟨_, rfl, fun _ => hSc, ?_⟩
                  refine wpAnyU_take (i := 12) (v := (.tuple #[.agg (entC z).toArray, .bool oz])) (some 131) rfl rfl (by kernel_rfl) (by kernel_rfl) (by kernel_rfl) (by kernel_rfl) (fun _ _ _ h => h) hSc (yields_of (by kernel_rfl) (fun w ⟨hr, h0, h1, h2, h3⟩ => by go_simp)) ?_
                  refine wpAnyU_take (i := 13) (v := (.agg (entC z).toArray)) (some 144) rfl rfl (by kernel_rfl) (by kernel_rfl) (by kernel_rfl) (by kernel_rfl) (fun _ _ _ h => h) hSc (yields_of (by kernel_rfl) (fun w ⟨hr, h0, h1, h2, h3⟩ => by go_simp)) ?_
                  refine wpAnyU_take (i := 14) (v := (.bool oz)) (some 145) rfl rfl (by kernel_rfl) (by kernel_rfl) (by kernel_rfl) (by kernel_rfl) (fun _ _ _ h => h) hSc (yields_of (by kernel_rfl) (fun w ⟨hr, h0, h1, h2, h3⟩ => by go_simp)) ?_
                  have HKZ0 := Lib.hid (HKC.out.alloc (.cells (entC zeroM).toArray 34))
                  have HNZ0 := Holds.new wc (entC zeroM) 34
                  have hSz := HSF.out _ HKZ0.out
                  have hebw : Hid (wr.heap.size ≤ wc.heap.size) := HKC.out.size
                  obtain ⟨eb, heb⟩ : ∃ eb, Hid (eb = wc.heap.size) := ⟨_, rfl⟩
                  refine wpAnyU_run (i := 15) (v := .pointer (some ⟨wc.heap.size, 0, none⟩)) (w' := wc.alloc (.cells (entC zeroM).toArray 34)) (some 22) rfl rfl (by kernel_rfl) (by kernel_rfl) (exec_alloc 34 rfl i0 (entC zeroM) hi hz0) (fun _ => hSz) ?_
                  rw [← heb.out] at HNZ0 hebw ⊢
                  generalize wc.alloc (.cells (entC zeroM).toArray 34) = wz at HNZ0 HKZ0 hSz ⊢
                  have HKZ : Hid (Kept (fun _ => False) wr (wz.setCells eb 0 (entC z))) := Kept.setCellsN hebw.out (entC z) 0 wz HKZ0.out
                  have HNZ := HNZ0.setCells (entC z) 0 wz (entC zeroM) (Nat.le_refl _)
                  rw [lay_all (entC zeroM) (entC z) rfl] at HNZ
                  have hSw := HSF.out _ HKZ.out
                  refine wpAnyU_skip (i := 16) (w' := wz.setCells eb 0 (entC z)) none rfl rfl (by kernel_rfl) (by kernel_rfl) (exec_store_mid 34 (.tmp 22) (.tmp 144) rfl eb 0 (entC z).toArray (by kernel_rfl) (by kernel_rfl) (HNZ0.there 0 _ (Nat.le_refl _)) (by rw [ent_size]; rfl) (all_oneCell_toArray (entC_one _))) (fun _ => hSw) ?_
                  generalize wz.setCells eb 0 (entC z) = wv at HKZ HNZ hSw ⊢
                  refine wpAnyU_take (i := 17) (v := (.bool oz)) (some 23) rfl rfl (by kernel_rfl) (by kernel_rfl) (by kernel_rfl) (by kernel_rfl) (fun _ _ _ h => h) hSw (yields_of (by kernel_rfl) (fun w ⟨hr, h0, h1, h2, h3⟩ => by go_simp)) ?_
                  refine wpAnyU_done (by kernel_rfl) ?_ _
                  simp only [put_none, put_lit, List.set_cons_succ, List.set_cons_zero]
                  have HNZ := Lib.hid HNZ
                  clear hSw hSz HNZ0 HKZ0 hebw heb
                  go_wp2
                  go_meet
                  case rel => exact ⟨rfl, eb, rfl, HKZ.out, HNZ.out⟩
                · have HKZ1 := Lib.hid (HKA.out.alloc (.cells (entC zeroM).toArray 34))
                  have HNZ1 := Holds.new wr.drew (entC zeroM) 34
                  have hSz := HSF.out _ HKZ1.out
                  have hebw : Hid (wr.heap.size ≤ wr.drew.heap.size) := HKA.out.size
                  obtain ⟨eb, heb⟩ : ∃ eb, Hid (eb = wr.drew.heap.size) := ⟨_, rfl⟩
                  refine wpOp_run (v := .pointer (some ⟨wr.drew.heap.size, 0, none⟩)) (w' := wr.drew.alloc (.cells (entC zeroM).toArray 34)) (some 22) rfl rfl (by kernel_rfl) (exec_alloc 34 rfl i0 (entC zeroM) hi hz0) ⟨fun _ => hSz, ?_⟩
                  rw [← heb.out] at HNZ1 hebw ⊢
                  generalize wr.drew.alloc (.cells (entC zeroM).toArray 34) = wy at HNZ1 HKZ1 hSz ⊢
                  refine wpAnyU_call (i := 11) (f := 16) (args := #[(.pointer (some ⟨t, 0, none⟩)), (.string ⟨x.1.toArray⟩), (.int .i64 x.2.1)]) (some 143) rfl rfl (by kernel_rfl) (by kernel_rfl) (by kernel_rfl) ?_
                  refine (HGc'.out _ HKZ1.out).mono ?_
                  rintro r wz ⟨rfl, hkc⟩
                  have HKZ0 := Lib.hid (HKZ1.out.trans hkc (fun _ hf => hf.elim))
                  have HNZ0 := HNZ1.of_block (hkc.block eb HNZ1.lt (fun hf => hf))
                  clear hkc HNZ1 HKZ1 hSz
                  have hSz := HSF.out _ HKZ0.out
                  refine ⟨_, rfl, fun _ => hSz, ?_⟩
                  refine wpAnyU_take (i := 12) (v := (.tuple #[.agg (entC z).toArray, .bool oz])) (some 131) rfl rfl (by kernel_rfl) (by kernel_rfl) (by kernel_rfl) (by kernel_rfl) (fun _ _ _ h => h) hSz (yields_of (by kernel_rfl) (fun w ⟨hr, h0, h1, h2, h3⟩ => by go_simp)) ?_
                  refine wpAnyU_take (i := 13) (v := (.agg (entC z).toArray)) (some 144) rfl rfl (by kernel_rfl) (by kernel_rfl) (by kernel_rfl) (by kernel_rfl) (fun _ _ _ h => h) hSz (yields_of (by kernel_rfl) (fun w ⟨hr, h0, h1, h2, h3⟩ => by go_simp)) ?_
                  refine wpAnyU_take (i := 14) (v := (.bool oz)) (some 145) rfl rfl (by kernel_rfl) (by kernel_rfl) (by kernel_rfl) (by kernel_rfl) (fun _ _ _ h => h) hSz (yields_of (by kernel_rfl) (fun w ⟨hr, h0, h1, h2, h3⟩ => by go_simp)) ?_
                  have HKZ : Hid (Kept (fun _ => False) wr (wz.setCells eb 0 (entC z))) := Kept.setCellsN hebw.out (entC z) 0 wz HKZ0.out
                  have HNZ := HNZ0.setCells (entC z) 0 wz (entC zeroM) (Nat.le_refl _)
                  rw [lay_all (entC zeroM) (entC z) rfl] at HNZ
                  have hSw := HSF.out _ HKZ.out
                  refine wpAnyU_skip (i := 16) (w' := wz.setCells eb 0 (entC z)) none rfl rfl (by kernel_rfl) (by kernel_rfl) (exec_store_mid 34 (.tmp 22) (.tmp 144) rfl eb 0 (entC z).toArray (by kernel_rfl) (by kernel_rfl) (HNZ0.there 0 _ (Nat.le_refl _)) (by rw [ent_size]; rfl) (all_oneCell_toArray (entC_one _))) (fun _ => hSw) ?_
                  generalize wz.setCells eb 0 (entC z) = wv at HKZ HNZ hSw ⊢
                  refine wpAnyU_take (i := 17) (v := (.bool oz)) (some 23) rfl rfl (by kernel_rfl) (by kernel_rfl) (by kernel_rfl) (by kernel_rfl) (fun _ _ _ h => h) hSw (yields_of (by kernel_rfl) (fun w ⟨hr, h0, h1, h2, h3⟩ => by go_simp)) ?_
                  refine wpAnyU_done (by kernel_rfl) ?_ _
                  simp only [put_none, put_lit, List.set_cons_succ, List.set_cons_zero]
                  have HNZ := Lib.hid HNZ
                  clear hSw hSz HNZ0 HKZ0 hebw heb
                  go_wp2
                  go_meet
                  case rel => exact ⟨rfl, eb, rfl, HKZ.out, HNZ.out⟩
              case rest =>
                obtain ⟨rfl, e22, rfl, hI21⟩ := hcut
                have HK8 := Lib.hid (HK7.out.trans hI21.out.1 (fun _ f => f.elim))
                have HN := Lib.hid (And.intro (HN18'.out.of_block (hI21.out.1.block e18 HN18'.out.lt (fun f => f))) (And.intro (HN20.out.of_block (hI21.out.1.block e20 HN20.out.lt (fun f => f))) hI21.out.2))
                clear HN18' HN20 hI21 HSF HGc' HK7
                obtain ⟨wr, hwr⟩ : ∃ wr, wr = wc := ⟨_, rfl⟩
                rw [← hwr] at HN HK8 ⊢
                clear hwr
                have HGd' : Hid (∀ W, Kept (fun _ => False) wr W → Calls Try.prog 17 #[.slice ae nT cae, .string ⟨x.1.toArray⟩, .int .i64 x.2.1] W fun r w' => r = .returned (.tuple #[.agg (entC z).toArray, .bool oz]) ∧ Kept (fun _ => False) W w') := fun W hk => HGd.out W (HK8.out.trans hk (fun _ f => f.elim))
                have HSF : Hid (∀ W, Kept (fun _ => False) wr W → W.cell? ⟨q, 0, none⟩ = some (.slice ae nT cae) ∧ SEnt bp (op + j * 4) x W) := fun W hk => ⟨HQ.out W (HK8.out.trans hk (fun _ f => f.elim)), HSX.out W (HK8.out.trans hk (fun _ f => f.elim))⟩
                clear HGd
                go_upto_region 22 with (fail)
                go_cut [24, 25] from 146 to 163 (fun s24 s25 wx => s25 = .bool oz ∧ ∃ eb, s24 = .pointer (some ⟨eb, 0, none⟩) ∧ Hid (Kept (fun _ => False) wr wx ∧ Holds wx eb (entC z) 34))
                case first =>
                  have HKA : Hid (Kept (fun _ => False) wr wr.drew) := (Kept.refl _ wr).drewN 1
                  have hS := HSF.out _ HKA.out
                  refine wp_region_until (fun W => W.cell? ⟨q, 0, none⟩ = some (.slice ae nT cae) ∧ SEnt bp (op + j * 4) x W) 21 (by kernel_rfl) ?_
                  refine wpAnyU_take (i := 0) (v := (.pointer (some ⟨q, 0, none⟩))) (some 147) rfl rfl (by kernel_rfl) (by kernel_rfl) (by kernel_rfl) (by kernel_rfl) (fun _ _ _ h => h) hS (yields_of (by kernel_rfl) (fun w ⟨hq, hr, h0, h1, h2, h3⟩ => by go_simp)) ?_
                  refine wpAnyU_take (i := 1) (v := (.pointer (some ⟨q, 0, none⟩))) (some 148) rfl rfl (by kernel_rfl) (by kernel_rfl) (by kernel_rfl) (by kernel_rfl) (fun _ _ _ h => h) hS (yields_of (by kernel_rfl) (fun w ⟨hq, hr, h0, h1, h2, h3⟩ => by go_simp)) ?_
                  refine wpAnyU_take (i := 2) (v := (.pointer (some ⟨q, 0, none⟩))) (some 149) rfl rfl (by kernel_rfl) (by kernel_rfl) (by kernel_rfl) (by kernel_rfl) (fun _ _ _ h => h) hS (yields_of (by kernel_rfl) (fun w ⟨hq, hr, h0, h1, h2, h3⟩ => by go_simp)) ?_
                  refine wpAnyU_take (i := 3) (v := (.slice ae nT cae)) (some 150) rfl rfl (by kernel_rfl) (by kernel_rfl) (by kernel_rfl) (by kernel_rfl) (fun _ _ _ h => h) hS (yields_of (by kernel_rfl) (fun w ⟨hq, hr, h0, h1, h2, h3⟩ => by go_simp)) ?_
                  refine wpAnyU_take (i := 4) (v := (.slice (some ⟨bp, op, none⟩) len cap)) (some 151) rfl rfl (by kernel_rfl) (by kernel_rfl) (by kernel_rfl) (by kernel_rfl) (fun _ _ _ h => h) hS (yields_of (by kernel_rfl) (fun w ⟨hq, hr, h0, h1, h2, h3⟩ => by go_simp)) ?_
                  refine wpAnyU_take (i := 5) (v := (.int .i64 (j : Int))) (some 152) rfl rfl (by kernel_rfl) (by kernel_rfl) (by kernel_rfl) (by kernel_rfl) (fun _ _ _ h => h) hS (yields_of (by kernel_rfl) (fun w ⟨hq, hr, h0, h1, h2, h3⟩ => by go_simp)) ?_
                  refine wpAnyU_take (i := 6) (v := (.pointer (some ⟨bp, op + j * 4, none⟩))) (some 153) rfl rfl (by kernel_rfl) (by kernel_rfl) (by kernel_rfl) (by kernel_rfl) (fun _ _ _ h => h) hS (yields_of (by kernel_rfl) (fun w ⟨hq, hr, h0, h1, h2, h3⟩ => by go_simp)) ?_
                  refine wpAnyU_take (i := 7) (v := (.pointer (some ⟨bp, op + j * 4, none⟩))) (some 154) rfl rfl (by kernel_rfl) (by kernel_rfl) (by kernel_rfl) (by kernel_rfl) (fun _ _ _ h => h) hS (yields_of (by kernel_rfl) (fun w ⟨hq, hr, h0, h1, h2, h3⟩ => by go_simp)) ?_
                  refine wpAnyU_take (i := 8) (v := (.string ⟨x.1.toArray⟩)) (some 155) rfl rfl (by kernel_rfl) (by kernel_rfl) (by kernel_rfl) (by kernel_rfl) (fun _ _ _ h => h) hS (yields_of (by kernel_rfl) (fun w ⟨hq, hr, h0, h1, h2, h3⟩ => by go_simp)) ?_
                  refine wpAnyU_take (i := 9) (v := (.slice (some ⟨bp, op, none⟩) len cap)) (some 156) rfl rfl (by kernel_rfl) (by kernel_rfl) (by kernel_rfl) (by kernel_rfl) (fun _ _ _ h => h) hS (yields_of (by kernel_rfl) (fun w ⟨hq, hr, h0, h1, h2, h3⟩ => by go_simp)) ?_
                  refine wpAnyU_take (i := 10) (v := (.int .i64 (j : Int))) (some 157) rfl rfl (by kernel_rfl) (by kernel_rfl) (by kernel_rfl) (by kernel_rfl) (fun _ _ _ h => h) hS (yields_of (by kernel_rfl) (fun w ⟨hq, hr, h0, h1, h2, h3⟩ => by go_simp)) ?_
                  refine wpAnyU_take (i := 11) (v := (.pointer (some ⟨bp, op + j * 4, none⟩))) (some 158) rfl rfl (by kernel_rfl) (by kernel_rfl) (by kernel_rfl) (by kernel_rfl) (fun _ _ _ h => h) hS (yields_of (by kernel_rfl) (fun w ⟨hq, hr, h0, h1, h2, h3⟩ => by go_simp)) ?_
                  refine wpAnyU_take (i := 12) (v := (.pointer (some ⟨bp, op + j * 4 + 1, none⟩))) (some 159) rfl rfl (by kernel_rfl) (by kernel_rfl) (by kernel_rfl) (by kernel_rfl) (fun _ _ _ h => h) hS (yields_of (by kernel_rfl) (fun w ⟨hq, hr, h0, h1, h2, h3⟩ => by go_simp)) ?_
                  refine wpAnyU_take (i := 13) (v := (.int .i64 x.2.1)) (some 160) rfl rfl (by kernel_rfl) (by kernel_rfl) (by kernel_rfl) (by kernel_rfl) (fun _ _ _ h => h) hS (yields_of (by kernel_rfl) (fun w ⟨hq, hr, h0, h1, h2, h3⟩ => by go_simp)) ?_
                  refine wpAnyU_two (i := 14) (j := 18) (by kernel_rfl) ?_ ?_
                  · refine wpOp_call (f := 17) (args := #[(.slice ae nT cae), (.string ⟨x.1.toArray⟩), (.int .i64 x.2.1)]) (some 161) rfl rfl (by kernel_rfl) (by kernel_rfl) ?_
                    refine (HGd'.out _ HKA.out).mono ?_
                    rintro r wc ⟨rfl, hkc⟩
                    have HKC := Lib.hid (HKA.out.trans hkc (fun _ hf => hf.elim))
                    clear hkc
                    have hSc := HSF.out _ HKC.out
                    refine ⟨_, rfl, fun _ => hSc, ?_⟩
                    refine wpAnyU_take (i := 15) (v := (.tuple #[.agg (entC z).toArray, .bool oz])) (some 146) rfl rfl (by kernel_rfl) (by kernel_rfl) (by kernel_rfl) (by kernel_rfl) (fun _ _ _ h => h) hSc (yields_of (by kernel_rfl) (fun w ⟨hq, hr, h0, h1, h2, h3⟩ => by go_simp)) ?_
                    refine wpAnyU_take (i := 16) (v := (.agg (entC z).toArray)) (some 162) rfl rfl (by kernel_rfl) (by kernel_rfl) (by kernel_rfl) (by kernel_rfl) (fun _ _ _ h => h) hSc (yields_of (by kernel_rfl) (fun w ⟨hq, hr, h0, h1, h2, h3⟩ => by go_simp)) ?_
                    refine wpAnyU_take (i := 17) (v := (.bool oz)) (some 163) rfl rfl (by kernel_rfl) (by kernel_rfl) (by kernel_rfl) (by kernel_rfl) (fun _ _ _ h => h) hSc (yields_of (by kernel_rfl) (fun w ⟨hq, hr, h0, h1, h2, h3⟩ => by go_simp)) ?_
                    have HKZ0 := Lib.hid (HKC.out.alloc (.cells (entC zeroM).toArray 34))
                    have HNZ0 := Holds.new wc (entC zeroM) 34
                    have hSz := HSF.out _ HKZ0.out
                    have hebw : Hid (wr.heap.size ≤ wc.heap.size) := HKC.out.size
                    obtain ⟨eb, heb⟩ : ∃ eb, Hid (eb = wc.heap.size) := ⟨_, rfl⟩
                    refine wpAnyU_run (i := 18) (v := .pointer (some ⟨wc.heap.size, 0, none⟩)) (w' := wc.alloc (.cells (entC zeroM).toArray 34)) (some 24) rfl rfl (by kernel_rfl) (by kernel_rfl) (exec_alloc 34 rfl i0 (entC zeroM) hi hz0) (fun _ => hSz) ?_
                    rw [← heb.out] at HNZ0 hebw ⊢
                    generalize wc.alloc (.cells (entC zeroM).toArray 34) = wz at HNZ0 HKZ0 hSz ⊢
                    have HKZ : Hid (Kept (fun _ => False) wr (wz.setCells eb 0 (entC z))) := Kept.setCellsN hebw.out (entC z) 0 wz HKZ0.out
                    have HNZ := HNZ0.setCells (entC z) 0 wz (entC zeroM) (Nat.le_refl _)
                    rw [lay_all (entC zeroM) (entC z) rfl] at HNZ
                    have hSw := HSF.out _ HKZ.out
                    refine wpAnyU_skip (i := 19) (w' := wz.setCells eb 0 (entC z)) none rfl rfl (by kernel_rfl) (by kernel_rfl) (exec_store_mid 34 (.tmp 24) (.tmp 162) rfl eb 0 (entC z).toArray (by kernel_rfl) (by kernel_rfl) (HNZ0.there 0 _ (Nat.le_refl _)) (by rw [ent_size]; rfl) (all_oneCell_toArray (entC_one _))) (fun _ => hSw) ?_
                    generalize wz.setCells eb 0 (entC z) = wv at HKZ HNZ hSw ⊢
                    refine wpAnyU_take (i := 20) (v := (.bool oz)) (some 25) rfl rfl (by kernel_rfl) (by kernel_rfl) (by kernel_rfl) (by kernel_rfl) (fun _ _ _ h => h) hSw (yields_of (by kernel_rfl) (fun w ⟨hq, hr, h0, h1, h2, h3⟩ => by go_simp)) ?_
                    refine wpAnyU_done (by kernel_rfl) ?_ _
                    simp only [put_none, put_lit, List.set_cons_succ, List.set_cons_zero]
                    have HNZ := Lib.hid HNZ
                    clear hSw hSz HNZ0 HKZ0 hebw heb
                    go_wp2
                    go_meet
                    case rel => exact ⟨rfl, eb, rfl, HKZ.out, HNZ.out⟩
                  · have HKZ1 := Lib.hid (HKA.out.alloc (.cells (entC zeroM).toArray 34))
                    have HNZ1 := Holds.new wr.drew (entC zeroM) 34
                    have hSz := HSF.out _ HKZ1.out
                    have hebw : Hid (wr.heap.size ≤ wr.drew.heap.size) := HKA.out.size
                    obtain ⟨eb, heb⟩ : ∃ eb, Hid (eb = wr.drew.heap.size) := ⟨_, rfl⟩
                    refine wpOp_run (v := .pointer (some ⟨wr.drew.heap.size, 0, none⟩)) (w' := wr.drew.alloc (.cells (entC zeroM).toArray 34)) (some 24) rfl rfl (by kernel_rfl) (exec_alloc 34 rfl i0 (entC zeroM) hi hz0) ⟨fun _ => hSz, ?_⟩
                    rw [← heb.out] at HNZ1 hebw ⊢
                    generalize wr.drew.alloc (.cells (entC zeroM).toArray 34) = wy at HNZ1 HKZ1 hSz ⊢
                    refine wpAnyU_call (i := 14) (f := 17) (args := #[(.slice ae nT cae), (.string ⟨x.1.toArray⟩), (.int .i64 x.2.1)]) (some 161) rfl rfl (by kernel_rfl) (by kernel_rfl) (by kernel_rfl) ?_
                    refine (HGd'.out _ HKZ1.out).mono ?_
                    rintro r wz ⟨rfl, hkc⟩
                    have HKZ0 := Lib.hid (HKZ1.out.trans hkc (fun _ hf => hf.elim))
                    have HNZ0 := HNZ1.of_block (hkc.block eb HNZ1.lt (fun hf => hf))
                    clear hkc HNZ1 HKZ1 hSz
                    have hSz := HSF.out _ HKZ0.out
                    refine ⟨_, rfl, fun _ => hSz, ?_⟩
                    refine wpAnyU_take (i := 15) (v := (.tuple #[.agg (entC z).toArray, .bool oz])) (some 146) rfl rfl (by kernel_rfl) (by kernel_rfl) (by kernel_rfl) (by kernel_rfl) (fun _ _ _ h => h) hSz (yields_of (by kernel_rfl) (fun w ⟨hq, hr, h0, h1, h2, h3⟩ => by go_simp)) ?_
                    refine wpAnyU_take (i := 16) (v := (.agg (entC z).toArray)) (some 162) rfl rfl (by kernel_rfl) (by kernel_rfl) (by kernel_rfl) (by kernel_rfl) (fun _ _ _ h => h) hSz (yields_of (by kernel_rfl) (fun w ⟨hq, hr, h0, h1, h2, h3⟩ => by go_simp)) ?_
                    refine wpAnyU_take (i := 17) (v := (.bool oz)) (some 163) rfl rfl (by kernel_rfl) (by kernel_rfl) (by kernel_rfl) (by kernel_rfl) (fun _ _ _ h => h) hSz (yields_of (by kernel_rfl) (fun w ⟨hq, hr, h0, h1, h2, h3⟩ => by go_simp)) ?_
                    have HKZ : Hid (Kept (fun _ => False) wr (wz.setCells eb 0 (entC z))) := Kept.setCellsN hebw.out (entC z) 0 wz HKZ0.out
                    have HNZ := HNZ0.setCells (entC z) 0 wz (entC zeroM) (Nat.le_refl _)
                    rw [lay_all (entC zeroM) (entC z) rfl] at HNZ
                    have hSw := HSF.out _ HKZ.out
                    refine wpAnyU_skip (i := 19) (w' := wz.setCells eb 0 (entC z)) none rfl rfl (by kernel_rfl) (by kernel_rfl) (exec_store_mid 34 (.tmp 24) (.tmp 162) rfl eb 0 (entC z).toArray (by kernel_rfl) (by kernel_rfl) (HNZ0.there 0 _ (Nat.le_refl _)) (by rw [ent_size]; rfl) (all_oneCell_toArray (entC_one _))) (fun _ => hSw) ?_
                    generalize wz.setCells eb 0 (entC z) = wv at HKZ HNZ hSw ⊢
                    refine wpAnyU_take (i := 20) (v := (.bool oz)) (some 25) rfl rfl (by kernel_rfl) (by kernel_rfl) (by kernel_rfl) (by kernel_rfl) (fun _ _ _ h => h) hSw (yields_of (by kernel_rfl) (fun w ⟨hq, hr, h0, h1, h2, h3⟩ => by go_simp)) ?_
                    refine wpAnyU_done (by kernel_rfl) ?_ _
                    simp only [put_none, put_lit, List.set_cons_succ, List.set_cons_zero]
                    have HNZ := Lib.hid HNZ
                    clear hSw hSz HNZ0 HKZ0 hebw heb
                    go_wp2
                    go_meet
                    case rel => exact ⟨rfl, eb, rfl, HKZ.out, HNZ.out⟩
                case rest =>
                  obtain ⟨rfl, e24, rfl, hI22⟩ := hcut
                  have HK9 := Lib.hid (HK8.out.trans hI22.out.1 (fun _ f => f.elim))
                  have HN2 := Lib.hid (And.intro (HN.out.1.of_block (hI22.out.1.block e18 HN.out.1.lt (fun f => f))) (And.intro (HN.out.2.1.of_block (hI22.out.1.block e20 HN.out.2.1.lt (fun f => f))) (And.intro (HN.out.2.2.of_block (hI22.out.1.block e22 HN.out.2.2.lt (fun f => f))) hI22.out.2)))
                  have HD9 := Lib.hid (HD5.out.still K HK9.out)
                  have hAll := K.all HD9.out.mt.sk (by have := HT5.out; omega)
                  rw [← hnT.out] at hAll
                  have HAll := Lib.hid hAll
                  clear HN hI22 HSF HGd' HK8 HD5 HBel5 HSX HK9 HQ hAll
                  go_wp2_with fail
                  refine HAll.out.mono ?_
                  clear HAll
                  rintro e wv ⟨v, rfl, hown, hkv⟩
                  obtain ⟨ad26, cap26, rfl⟩ := owns_slice hown
                  have HDv := Lib.hid (HD9.out.still K hkv)
                  have HN3 := Lib.hid (And.intro (HN2.out.1.of_block (hkv.block e18 HN2.out.1.lt (fun f => f))) (And.intro (HN2.out.2.1.of_block (hkv.block e20 HN2.out.2.1.lt (fun f => f))) (And.intro (HN2.out.2.2.1.of_block (hkv.block e22 HN2.out.2.2.1.lt (fun f => f))) (HN2.out.2.2.2.of_block (hkv.block e24 HN2.out.2.2.2.lt (fun f => f))))))
                  have hfar := fun b (hb : (Value.slice ad26 nT cap26).ownBlock = some b) => HD9.out.far K b (hown.lt b hb).1
                  have hOwn : nT = 0 ∨ ∃ g C, ad26 = some ⟨g, 0, none⟩ ∧ Holds wv g C 34 ∧ nT * 4 ≤ C.length ∧ (w1.heap.size ≤ g ∧ ¬X4 g ∧ g ≠ q ∧ (Value.slice ae nT cae).ownBlock ≠ some g) := by
                    rcases owns_holds hown with ⟨_, h0⟩ | ⟨g, cp, C, hv, _, hC, h1, h2⟩
                    · exact .inl h0
                    · obtain rfl : ad26 = some ⟨g, 0, none⟩ := by injection hv
                      exact .inr ⟨g, C, rfl, hC, by omega, hfar g rfl⟩
                  have hEn : Calls Try.prog 19 #[.slice ad26 nT cap26, .slice ae nT cae] wv fun r w' => r = .returned (.bool true) ∧ Kept (fun _ => False) wv w' := by
                    obtain ⟨ae2, cae2, hv, hr⟩ := HDv.out.rf.rows
                    obtain rfl : ae = ae2 := by injection hv
                    have hrow : RowsM wv ad26 T2.length T2 := owns_rows (cap := cap26) (by rw [← hnT.out]; exact hown)
                    rw [hnT.out]
                    exact entsSame wv ad26 ae T2.length cap26 cae T2 hrow hr (by have := HT5.out; omega)
                  have HEn := Lib.hid hEn
                  have HOwn := Lib.hid hOwn
                  have cq := HDv.out.rf.obj.cell 0 _ rfl
                  clear hown hkv HD9 HN2 hfar hOwn hEn
                  go_wp2_with fail
                  refine HEn.out.mono ?_
                  clear HEn cq
                  rintro e we ⟨rfl, hke⟩
                  have HDe := Lib.hid (HDv.out.still K hke)
                  have HOe : Hid (nT = 0 ∨ ∃ g C, ad26 = some ⟨g, 0, none⟩ ∧ Holds we g C 34 ∧ nT * 4 ≤ C.length ∧ (w1.heap.size ≤ g ∧ ¬X4 g ∧ g ≠ q ∧ (Value.slice ae nT cae).ownBlock ≠ some g)) := HOwn.out.imp id (fun ⟨g, C, h1, h2, h3⟩ => ⟨g, C, h1, h2.of_block (hke.block g h2.lt (fun f => f)), h3⟩)
                  have HNe := Lib.hid (And.intro (HN3.out.1.of_block (hke.block e18 HN3.out.1.lt (fun f => f))) (And.intro (HN3.out.2.1.of_block (hke.block e20 HN3.out.2.1.lt (fun f => f))) (And.intro (HN3.out.2.2.1.of_block (hke.block e22 HN3.out.2.2.1.lt (fun f => f))) (HN3.out.2.2.2.of_block (hke.block e24 HN3.out.2.2.2.lt (fun f => f))))))
                  clear hke HDv HOwn HN3
                  obtain ⟨sz, hsz⟩ : ∃ sz, Hid (sz = sizeM T2) := ⟨_, rfl⟩
                  have HCs : Hid (∀ W, Kept (fun _ => False) we W → Calls Try.prog 20 #[.pointer (some ⟨t, 0, none⟩)] W fun r w' => r = .returned (.int .i64 (sz : Int)) ∧ Kept (fun _ => False) W w') := fun W hk => by
                    rw [hsz.out]; exact K.size (HDe.out.still K hk).mt.sk (by have := HT5.out; omega)
                  have HCr : Hid (∀ W, Kept (fun _ => False) we W → Calls Try.prog 21 #[.pointer (some ⟨q, 0, none⟩)] W fun r w' => r = .returned (.int .i64 (sz : Int)) ∧ Kept (fun _ => False) W w') := fun W hk => by
                    rw [hsz.out]; exact rmSize W w1.heap.size q _ T2 (HDe.out.still K hk).rf (K.ok HDe.out.mt.sk).right (by have := HT5.out; omega)
                  have HCl : Hid (∀ W, Kept (fun _ => False) we W → Calls Try.prog 22 #[.pointer (some ⟨t, 0, none⟩)] W fun r w' => r = .returned (.int .i64 (nT : Int)) ∧ Kept (fun _ => False) W w') := fun W hk => by
                    rw [hnT.out]; exact K.len (HDe.out.still K hk).mt.sk (by have := HT5.out; omega)
                  have HSF : Hid (∀ W, Kept (fun _ => False) we W → W.rangeAt e18 0 (entC y) ∧ W.rangeAt e20 0 (entC y) ∧ W.rangeAt e22 0 (entC z) ∧ W.rangeAt e24 0 (entC z) ∧ W.cell? ⟨q, 0, none⟩ = some (.slice ae nT cae)) := fun W hk =>
                    ⟨(HNe.out.1.of_block (hk.block e18 HNe.out.1.lt (fun f => f))).range 0 _ (fun j v hj => by rw [Nat.zero_add]; exact hj), (HNe.out.2.1.of_block (hk.block e20 HNe.out.2.1.lt (fun f => f))).range 0 _ (fun j v hj => by rw [Nat.zero_add]; exact hj),
                     (HNe.out.2.2.1.of_block (hk.block e22 HNe.out.2.2.1.lt (fun f => f))).range 0 _ (fun j v hj => by rw [Nat.zero_add]; exact hj), (HNe.out.2.2.2.of_block (hk.block e24 HNe.out.2.2.2.lt (fun f => f))).range 0 _ (fun j v hj => by rw [Nat.zero_add]; exact hj), (HDe.out.still K hk).rf.obj.cell 0 _ rfl⟩
                  go_upto_region 25 with (fail)
                  go_cut [210] from 172 to 209 (fun s210 wx => s210 = .bool false ∧ Hid (Kept (fun _ => False) we wx))
                  case first =>
                    have HKA : Hid (Kept (fun _ => False) we we.drew) := (Kept.refl _ we).drewN 1
                    have hS := HSF.out _ HKA.out
                    refine wp_region_until (fun W => W.rangeAt e18 0 (entC y) ∧ W.rangeAt e20 0 (entC y) ∧ W.rangeAt e22 0 (entC z) ∧ W.rangeAt e24 0 (entC z) ∧ W.cell? ⟨q, 0, none⟩ = some (.slice ae nT cae)) 39 (by kernel_rfl) ?_
                    refine wpAnyU_take (i := 0) (v := (.agg (entC y).toArray)) (some 172) rfl rfl (by kernel_rfl) (by kernel_rfl) (by kernel_rfl) (by kernel_rfl) (fun _ _ _ h => h) hS (yieldsIf_load_mid (by kernel_rfl) 34 (.tmp 18) rfl e18 (0) (by kernel_rfl) (entC y) _ (fun w hw => hw.1) Try.underlying34 rfl (by rw [ent_size]; rfl)) ?_
                    refine wpAnyU_take (i := 1) (v := (.agg (entC y).toArray)) (some 173) rfl rfl (by kernel_rfl) (by kernel_rfl) (by kernel_rfl) (by kernel_rfl) (fun _ _ _ h => h) hS (yieldsIf_load_mid (by kernel_rfl) 34 (.tmp 20) rfl e20 (0) (by kernel_rfl) (entC y) _ (fun w hw => hw.2.1) Try.underlying34 rfl (by rw [ent_size]; rfl)) ?_
                    refine wpAnyU_take (i := 2) (v := (.bool false)) (some 174) rfl rfl (by kernel_rfl) (by kernel_rfl) (by kernel_rfl) (by kernel_rfl) (fun _ _ _ h => h) hS (yields_of (by kernel_rfl) (fun w ⟨hA, hB, hC, hD, hq⟩ => by unfold entC; go_simp)) ?_
                    refine wpAnyU_take (i := 3) (v := (.bool false)) (some 175) rfl rfl (by kernel_rfl) (by kernel_rfl) (by kernel_rfl) (by kernel_rfl) (fun _ _ _ h => h) hS (yields_of (by kernel_rfl) (fun w ⟨hA, hB, hC, hD, hq⟩ => by go_simp)) ?_
                    refine wpAnyU_take (i := 4) (v := (.bool oy)) (some 176) rfl rfl (by kernel_rfl) (by kernel_rfl) (by kernel_rfl) (by kernel_rfl) (fun _ _ _ h => h) hS (yields_of (by kernel_rfl) (fun w ⟨hA, hB, hC, hD, hq⟩ => by go_simp)) ?_
                    refine wpAnyU_take (i := 5) (v := (.bool oy)) (some 177) rfl rfl (by kernel_rfl) (by kernel_rfl) (by kernel_rfl) (by kernel_rfl) (fun _ _ _ h => h) hS (yields_of (by kernel_rfl) (fun w ⟨hA, hB, hC, hD, hq⟩ => by go_simp)) ?_
                    refine wpAnyU_take (i := 6) (v := (.bool false)) (some 178) rfl rfl (by kernel_rfl) (by kernel_rfl) (by kernel_rfl) (by kernel_rfl) (fun _ _ _ h => h) hS (yields_of (by kernel_rfl) (fun w ⟨hA, hB, hC, hD, hq⟩ => by go_simp)) ?_
                    refine wpAnyU_take (i := 7) (v := (.bool false)) (some 179) rfl rfl (by kernel_rfl) (by kernel_rfl) (by kernel_rfl) (by kernel_rfl) (fun _ _ _ h => h) hS (yields_of (by kernel_rfl) (fun w ⟨hA, hB, hC, hD, hq⟩ => by go_simp)) ?_
                    refine wpAnyU_take (i := 8) (v := (.bool false)) (some 180) rfl rfl (by kernel_rfl) (by kernel_rfl) (by kernel_rfl) (by kernel_rfl) (fun _ _ _ h => h) hS (yields_of (by kernel_rfl) (fun w ⟨hA, hB, hC, hD, hq⟩ => by go_simp)) ?_
                    refine wpAnyU_take (i := 9) (v := (.agg (entC z).toArray)) (some 181) rfl rfl (by kernel_rfl) (by kernel_rfl) (by kernel_rfl) (by kernel_rfl) (fun _ _ _ h => h) hS (yieldsIf_load_mid (by kernel_rfl) 34 (.tmp 22) rfl e22 (0) (by kernel_rfl) (entC z) _ (fun w hw => hw.2.2.1) Try.underlying34 rfl (by rw [ent_size]; rfl)) ?_
                    refine wpAnyU_take (i := 10) (v := (.agg (entC z).toArray)) (some 182) rfl rfl (by kernel_rfl) (by kernel_rfl) (by kernel_rfl) (by kernel_rfl) (fun _ _ _ h => h) hS (yieldsIf_load_mid (by kernel_rfl) 34 (.tmp 24) rfl e24 (0) (by kernel_rfl) (entC z) _ (fun w hw => hw.2.2.2.1) Try.underlying34 rfl (by rw [ent_size]; rfl)) ?_
                    refine wpAnyU_take (i := 11) (v := (.bool false)) (some 183) rfl rfl (by kernel_rfl) (by kernel_rfl) (by kernel_rfl) (by kernel_rfl) (fun _ _ _ h => h) hS (yields_of (by kernel_rfl) (fun w ⟨hA, hB, hC, hD, hq⟩ => by unfold entC; go_simp)) ?_
                    refine wpAnyU_take (i := 12) (v := (.bool false)) (some 184) rfl rfl (by kernel_rfl) (by kernel_rfl) (by kernel_rfl) (by kernel_rfl) (fun _ _ _ h => h) hS (yields_of (by kernel_rfl) (fun w ⟨hA, hB, hC, hD, hq⟩ => by go_simp)) ?_
                    refine wpAnyU_take (i := 13) (v := (.bool false)) (some 185) rfl rfl (by kernel_rfl) (by kernel_rfl) (by kernel_rfl) (by kernel_rfl) (fun _ _ _ h => h) hS (yields_of (by kernel_rfl) (fun w ⟨hA, hB, hC, hD, hq⟩ => by go_simp)) ?_
                    refine wpAnyU_take (i := 14) (v := (.bool oz)) (some 186) rfl rfl (by kernel_rfl) (by kernel_rfl) (by kernel_rfl) (by kernel_rfl) (fun _ _ _ h => h) hS (yields_of (by kernel_rfl) (fun w ⟨hA, hB, hC, hD, hq⟩ => by go_simp)) ?_
                    refine wpAnyU_take (i := 15) (v := (.bool oz)) (some 187) rfl rfl (by kernel_rfl) (by kernel_rfl) (by kernel_rfl) (by kernel_rfl) (fun _ _ _ h => h) hS (yields_of (by kernel_rfl) (fun w ⟨hA, hB, hC, hD, hq⟩ => by go_simp)) ?_
                    refine wpAnyU_take (i := 16) (v := (.bool false)) (some 188) rfl rfl (by kernel_rfl) (by kernel_rfl) (by kernel_rfl) (by kernel_rfl) (fun _ _ _ h => h) hS (yields_of (by kernel_rfl) (fun w ⟨hA, hB, hC, hD, hq⟩ => by go_simp)) ?_
                    refine wpAnyU_take (i := 17) (v := (.bool false)) (some 189) rfl rfl (by kernel_rfl) (by kernel_rfl) (by kernel_rfl) (by kernel_rfl) (fun _ _ _ h => h) hS (yields_of (by kernel_rfl) (fun w ⟨hA, hB, hC, hD, hq⟩ => by go_simp)) ?_
                    refine wpAnyU_take (i := 18) (v := (.bool false)) (some 190) rfl rfl (by kernel_rfl) (by kernel_rfl) (by kernel_rfl) (by kernel_rfl) (fun _ _ _ h => h) hS (yields_of (by kernel_rfl) (fun w ⟨hA, hB, hC, hD, hq⟩ => by go_simp)) ?_
                    refine wpAnyU_take (i := 19) (v := (.bool true)) (some 191) rfl rfl (by kernel_rfl) (by kernel_rfl) (by kernel_rfl) (by kernel_rfl) (fun _ _ _ h => h) hS (yields_of (by kernel_rfl) (fun w ⟨hA, hB, hC, hD, hq⟩ => by go_simp)) ?_
                    refine wpAnyU_take (i := 20) (v := (.bool false)) (some 192) rfl rfl (by kernel_rfl) (by kernel_rfl) (by kernel_rfl) (by kernel_rfl) (fun _ _ _ h => h) hS (yields_of (by kernel_rfl) (fun w ⟨hA, hB, hC, hD, hq⟩ => by go_simp)) ?_
                    refine wpAnyU_take (i := 21) (v := (.bool false)) (some 193) rfl rfl (by kernel_rfl) (by kernel_rfl) (by kernel_rfl) (by kernel_rfl) (fun _ _ _ h => h) hS (yields_of (by kernel_rfl) (fun w ⟨hA, hB, hC, hD, hq⟩ => by go_simp)) ?_
                    refine wpAnyU_take (i := 22) (v := (.bool false)) (some 194) rfl rfl (by kernel_rfl) (by kernel_rfl) (by kernel_rfl) (by kernel_rfl) (fun _ _ _ h => h) hS (yields_of (by kernel_rfl) (fun w ⟨hA, hB, hC, hD, hq⟩ => by go_simp)) ?_
                    refine wpAnyU_take (i := 23) (v := (.pointer (some ⟨t, 0, none⟩))) (some 195) rfl rfl (by kernel_rfl) (by kernel_rfl) (by kernel_rfl) (by kernel_rfl) (fun _ _ _ h => h) hS (yields_of (by kernel_rfl) (fun w ⟨hA, hB, hC, hD, hq⟩ => by go_simp)) ?_
                    refine wpAnyU_take (i := 25) (v := (.pointer (some ⟨q, 0, none⟩))) (some 197) rfl rfl (by kernel_rfl) (by kernel_rfl) (by kernel_rfl) (by kernel_rfl) (fun _ _ _ h => h) hS (yields_of (by kernel_rfl) (fun w ⟨hA, hB, hC, hD, hq⟩ => by go_simp)) ?_
                    refine wpAnyU_call (i := 24) (f := 20) (args := #[(.pointer (some ⟨t, 0, none⟩))]) (some 196) rfl rfl (by kernel_rfl) (by kernel_rfl) (by kernel_rfl) ?_
                    refine (HCs.out _ HKA.out).mono ?_
                    rintro r wa ⟨rfl, hkwa⟩
                    have HKB := Lib.hid (HKA.out.trans hkwa (fun _ hf => hf.elim))
                    clear hkwa hS
                    have hS := HSF.out wa HKB.out
                    refine ⟨_, rfl, fun _ => hS, ?_⟩
                    refine wpAnyU_call (i := 26) (f := 21) (args := #[(.pointer (some ⟨q, 0, none⟩))]) (some 198) rfl rfl (by kernel_rfl) (by kernel_rfl) (by kernel_rfl) ?_
                    refine (HCr.out _ HKB.out).mono ?_
                    rintro r wb2 ⟨rfl, hkwb2⟩
                    have HKC := Lib.hid (HKB.out.trans hkwb2 (fun _ hf => hf.elim))
                    clear hkwb2 hS
                    have hS := HSF.out wb2 HKC.out
                    refine ⟨_, rfl, fun _ => hS, ?_⟩
                    refine wpAnyU_take (i := 27) (v := (.bool false)) (some 199) rfl rfl (by kernel_rfl) (by kernel_rfl) (by kernel_rfl) (by kernel_rfl) (fun _ _ _ h => h) hS (yields_of (by kernel_rfl) (fun w ⟨hA, hB, hC, hD, hq⟩ => by go_simp)) ?_
                    refine wpAnyU_take (i := 28) (v := (.bool false)) (some 200) rfl rfl (by kernel_rfl) (by kernel_rfl) (by kernel_rfl) (by kernel_rfl) (fun _ _ _ h => h) hS (yields_of (by kernel_rfl) (fun w ⟨hA, hB, hC, hD, hq⟩ => by go_simp)) ?_
                    refine wpAnyU_take (i := 29) (v := (.bool false)) (some 201) rfl rfl (by kernel_rfl) (by kernel_rfl) (by kernel_rfl) (by kernel_rfl) (fun _ _ _ h => h) hS (yields_of (by kernel_rfl) (fun w ⟨hA, hB, hC, hD, hq⟩ => by go_simp)) ?_
                    refine wpAnyU_take (i := 30) (v := (.pointer (some ⟨t, 0, none⟩))) (some 202) rfl rfl (by kernel_rfl) (by kernel_rfl) (by kernel_rfl) (by kernel_rfl) (fun _ _ _ h => h) hS (yields_of (by kernel_rfl) (fun w ⟨hA, hB, hC, hD, hq⟩ => by go_simp)) ?_
                    refine wpAnyU_take (i := 32) (v := (.pointer (some ⟨q, 0, none⟩))) (some 204) rfl rfl (by kernel_rfl) (by kernel_rfl) (by kernel_rfl) (by kernel_rfl) (fun _ _ _ h => h) hS (yields_of (by kernel_rfl) (fun w ⟨hA, hB, hC, hD, hq⟩ => by go_simp)) ?_
                    refine wpAnyU_take (i := 33) (v := (.pointer (some ⟨q, 0, none⟩))) (some 205) rfl rfl (by kernel_rfl) (by kernel_rfl) (by kernel_rfl) (by kernel_rfl) (fun _ _ _ h => h) hS (yields_of (by kernel_rfl) (fun w ⟨hA, hB, hC, hD, hq⟩ => by go_simp)) ?_
                    refine wpAnyU_take (i := 34) (v := (.pointer (some ⟨q, 0, none⟩))) (some 206) rfl rfl (by kernel_rfl) (by kernel_rfl) (by kernel_rfl) (by kernel_rfl) (fun _ _ _ h => h) hS (yields_of (by kernel_rfl) (fun w ⟨hA, hB, hC, hD, hq⟩ => by go_simp)) ?_
                    refine wpAnyU_take (i := 35) (v := (.slice ae nT cae)) (some 207) rfl rfl (by kernel_rfl) (by kernel_rfl) (by kernel_rfl) (by kernel_rfl) (fun _ _ _ h => h) hS (yields_of (by kernel_rfl) (fun w ⟨hA, hB, hC, hD, hq⟩ => by go_simp)) ?_
                    refine wpAnyU_take (i := 36) (v := (.int .i64 (nT : Int))) (some 208) rfl rfl (by kernel_rfl) (by kernel_rfl) (by kernel_rfl) (by kernel_rfl) (fun _ _ _ h => h) hS (yields_of (by kernel_rfl) (fun w ⟨hA, hB, hC, hD, hq⟩ => by go_simp)) ?_
                    refine wpAnyU_call (i := 31) (f := 22) (args := #[(.pointer (some ⟨t, 0, none⟩))]) (some 203) rfl rfl (by kernel_rfl) (by kernel_rfl) (by kernel_rfl) ?_
                    refine (HCl.out _ HKC.out).mono ?_
                    rintro r wd2 ⟨rfl, hkwd2⟩
                    have HKE := Lib.hid (HKC.out.trans hkwd2 (fun _ hf => hf.elim))
                    clear hkwd2 hS
                    have hS := HSF.out wd2 HKE.out
                    refine ⟨_, rfl, fun _ => hS, ?_⟩
                    refine wpAnyU_take (i := 37) (v := (.bool false)) (some 209) rfl rfl (by kernel_rfl) (by kernel_rfl) (by kernel_rfl) (by kernel_rfl) (fun _ _ _ h => h) hS (yields_of (by kernel_rfl) (fun w ⟨hA, hB, hC, hD, hq⟩ => by go_simp)) ?_
                    refine wpAnyU_take (i := 38) (v := (.bool false)) (some 210) rfl rfl (by kernel_rfl) (by kernel_rfl) (by kernel_rfl) (by kernel_rfl) (fun _ _ _ h => h) hS (yields_of (by kernel_rfl) (fun w ⟨hA, hB, hC, hD, hq⟩ => by go_simp)) ?_
                    refine wpAnyU_done (by kernel_rfl) ?_ _
                    simp only [put_lit, List.set_cons_succ, List.set_cons_zero]
                    go_wp2
                    go_meet
                    case rel => exact ⟨rfl, HKE⟩
                  case rest =>
                    obtain ⟨rfl, hI25⟩ := hcut
                    have HLo : Hid (Dm At w1 wc t q T2 T2 X4 (.slice ae nT cae) ∧ (nT = 0 ∨ ∃ g C, ad26 = some ⟨g, 0, none⟩ ∧ Holds wc g C 34 ∧ nT * 4 ≤ C.length ∧ (w1.heap.size ≤ g ∧ ¬X4 g ∧ g ≠ q ∧ (Value.slice ae nT cae).ownBlock ≠ some g))) :=
                      ⟨HDe.out.still K hI25.out, HOe.out.imp id (fun ⟨g, C, h1, h2, h3⟩ => ⟨g, C, h1, h2.of_block (hI25.out.block g h2.lt (fun f => f)), h3⟩)⟩
                    have hnb : (nT : Int) ≤ 151 := by have := HT5.out; have := hnT.out; omega
                    clear hI25 HOe HNe HSF HCs HCr HCl hsz HDe HPv hev hkc
                    go_wp2
                    obtain ⟨wp, hwp⟩ : ∃ wp, wp = wc := ⟨_, rfl⟩
                    rw [← hwp] at HLo ⊢
                    clear hwp
                    go_loopw [28] (fun i wr => ∃ k : Nat, k ≤ nT ∧ i = .int .i64 (k : Int) ∧ Hid (Dm At w1 wr t q T2 T2 X4 (.slice ae nT cae) ∧ (nT = 0 ∨ ∃ g C, ad26 = some ⟨g, 0, none⟩ ∧ Holds wr g C 34 ∧ nT * 4 ≤ C.length ∧ (w1.heap.size ≤ g ∧ ¬X4 g ∧ g ≠ q ∧ (Value.slice ae nT cae).ownBlock ≠ some g)))) (fun i _ => nT - (intOf i).toNat)
                    case atStart => exact ⟨0, Nat.zero_le _, rfl, HLo⟩
                    case round =>
                      obtain ⟨k, hk, rfl, hI3⟩ := hrel
                      clear HLo
                      have k0 : (0 : Int) ≤ (k : Int) := by omega
                      have hwk : IntKind.i64.wrap ((k : Int) + 1) = (k : Int) + 1 := IntWalk.i64_in _ (by omega)
                      by_cases hltk : k < nT
                      · obtain ⟨hDk, hOk⟩ := hI3.out
                        rcases hOk with h0 | ⟨g, C, rfl, hC, hcl, hfr⟩
                        · omega
                        · have hth : wr.there g (k * 4) 4 := hC.there _ 4 (by omega)
                          have kn : (k : Int) < (nT : Int) := by omega
                          have HNk : Hid (Dm At w1 (wr.setCells g (k * 4) (entC zeroM)) t q T2 T2 X4 (.slice ae nT cae) ∧ (nT = 0 ∨ ∃ g' C, some (⟨g, 0, none⟩ : Addr) = some ⟨g', 0, none⟩ ∧ Holds (wr.setCells g (k * 4) (entC zeroM)) g' C 34 ∧ nT * 4 ≤ C.length ∧ (w1.heap.size ≤ g' ∧ ¬X4 g' ∧ g' ≠ q ∧ (Value.slice ae nT cae).ownBlock ≠ some g'))) := by
                            refine ⟨hDk.kept K (Kept.setCells (X := fun b => b = g) (show g = g from rfl) _ _ _ (Kept.refl _ wr)) (fun b hb => hb ▸ hfr), .inr ⟨g, _, rfl, hC.setCells (entC zeroM) (k * 4) wr C (by rw [show (entC zeroM).length = 4 from rfl]; omega), ?_, hfr⟩⟩
                            rw [lay_length _ _ _ (by rw [show (entC zeroM).length = 4 from rfl]; omega)]
                            exact hcl
                          clear hDk hI3 hC hfr
                          go_wp2_with (refine wpList_store_mid rfl 34 (.tmp 220) (.tmp 219) rfl g (k * 4) (entC zeroM).toArray rfl rfl hth (by rw [ent_size]; rfl) (all_oneCell_toArray (entC_one _)) ?_)
                          refine ⟨⟨k + 1, by omega, by first | rfl | go_num, HNk⟩, ?_⟩
                          simp [intOf]
                          omega
                      · have hkn : k = nT := by omega
                        have kn : ¬(k : Int) < (nT : Int) := by omega
                        have HI2 : Hid (∃ T X vL, Dm At w1 wr t q T T X vL ∧ T.length ≤ j + 1) := ⟨T2, X4, _, hI3.out.1, HT2.out⟩
                        have hjj := HFX.out.2.2.2
                        clear hI3 hkn hltk
                        go_wp2
                        go_roundw
                        case rel => exact ⟨j + 1, by omega, by first | rfl | go_num, HI2⟩
                        case measure => simp [intOf]; omega
          · have hexit : ¬(j : Int) < (len : Int) ∨ ((j : Int) < (len : Int) ∧ ¬(j : Int) < 150) := by omega
            have HF := Lib.hid (HB1.out.trans (hDm.mt.below.mono HB1.out.size))
            clear hDm hTl hI hlt
            rcases hexit with k1 | ⟨k1, k2⟩
            all_goals
              go_wp2
              go_ret
              exact ⟨rfl, HF.out⟩

end Go.Proofs.Ytlmlldcpllagbaa
