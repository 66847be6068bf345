/- Package mem: Put (printed by genpt10.py). -/
import Derived.Test.YtlmlldcpllagbaaGt10
import Derived.StillTailTactics
namespace Go.Proofs.Ytlmlldcpllagbaa
open Go.RowKit Go.Proofs Go.Proofs.Pk
set_option maxRecDepth 10000
attribute [local simp] mk_get wrap64_u8 mk_extract ByteArray.mk_append_mk get_1k

/-- Whether an entry is there, by what Get answers. -/
theorem has_get {T : List MEnt} (hT : MmOk T) (e : MEnt) : hasM T e = ((getM T e.1 e.2.1).2 && (getM T e.1 e.2.1).1.2.1 == e.2.1) := by
  unfold getM
  cases hf : findM T e.1 e.2.1 with
  | none =>
    simp only [Bool.false_and]
    rw [Bool.eq_false_iff]
    intro hh
    obtain ⟨x, hx, hs⟩ := (hT.has e).1 hh
    obtain ⟨h1, h2⟩ := same_iff.1 hs
    exact find_none hf x hx h1 (by omega)
  | some x =>
    simp only [Bool.true_and]
    obtain ⟨h1, h2, h3, h4⟩ := find_some hT hf
    by_cases hh : hasM T e = true
    · rw [hh]
      obtain ⟨y, hy, hs⟩ := (hT.has e).1 hh
      obtain ⟨g1, g2⟩ := same_iff.1 hs
      have := h4 y hy g1 (by omega)
      have : x.2.1 = e.2.1 := by omega
      simp [this]
    · have hn : hasM T e = false := by simpa using hh
      rw [hn]
      have : ¬x.2.1 = e.2.1 := fun h => hh ((hT.has e).2 ⟨x, h1, same_iff.2 ⟨h2, h⟩⟩)
      simp [this]

theorem putM_not' {T : List MEnt} {e : MEnt} (h : putC T e ≠ 0) : putM T e = T := by unfold putM; rw [if_neg h]
/-- What the list is behind the put of a new entry. -/
theorem TbRaw.grown {At : SkOf} (K : SkJ At) {w w6 : World} {B t l g n cap : Nat} {T : List MEnt} {E : List Ent} {hs : List Int} {Xl Xn : Nat → Prop} (h : TbRaw At w B t l g n cap T E hs Xl) {e : MEnt} (hc : putC T e = 0) (hx : Int) (hk : Kept Xl w w6)
    (hl : At w6 B l (putE E (writeS e) [] hx) Xn) (hg : Grows w Xl Xn) : TbRaw At (w6.setCell ⟨t, 2, none⟩ (.int .i64 (sizeM (insM T e) : Int))) B t l g n cap (insM T e) (putE E (writeS e) [] hx) hs Xn := by
  have hw : Kept (fun k => k = t) w6 (w6.setCell ⟨t, 2, none⟩ (.int .i64 (sizeM (insM T e) : Int))) := (Kept.refl (fun k => k = t) w6).setCell (p := ⟨t, 2, none⟩) (show t = t from rfl) _
  have hnt : ¬Xn t := fun hh => by rcases hg t hh with h1 | h1; exact h.nt h1; have := h.obj.lt; omega
  have hng : ¬Xn g := fun hh => by rcases hg g hh with h1 | h1; exact h.ng h1; have := h.glt; omega
  have hg6 : g < w6.heap.size := Nat.lt_of_lt_of_le h.glt hk.size
  refine ⟨h.ok.ins hc, ?_, h.low, K.kept hl hw (fun k hk2 e => hnt (e ▸ hk2)), (put_new h.keys h.ok hc hx []).2, h.hlen, h.pos, h.few, h.fit, h.glow, Nat.lt_of_lt_of_le hg6 hw.size, fun i hi => ?_, hnt, hng, h.ne⟩
  · exact (h.obj.of_block (hk.block t h.obj.lt h.nt)).set 2 (.int .i64 (sizeM (insM T e) : Int))
  · refine (World.cell?_of_block (w := w6) (hw.block g hg6 (fun e => h.ne e))).trans ?_
    exact (World.cell?_of_block (w := w) (hk.block g h.glt h.ng)).trans (h.row i hi)

set_option maxHeartbeats 8000000 in
theorem putT {At : SkOf} (K : SkJ At) {w : World} {B t l g n cap : Nat} {T : List MEnt} {E : List Ent} {hs : List Int} {Xl : Nat → Prop} (h : TbRaw At w B t l g n cap T E hs Xl) (hl : T.length ≤ 200) (e : MEnt) (hfe : FitN e.2.1) :
    Calls Try.prog 9 #[.pointer (some ⟨t, 0, none⟩), .agg (entC e).toArray] w fun r w' => r = .returned (errV 55 (putC T e)) ∧ ∃ X', TbAt At w' B t (putM T e) X' ∧ Grows w (blocksT t g Xl) X' ∧ Kept (blocksT t g Xl) w w' := by
  have HStay : ∀ W, Kept (fun _ => False) w W → ∃ X', TbAt At W B t T X' ∧ Grows w (blocksT t g Xl) X' ∧ Kept (blocksT t g Xl) w W := fun W hk => ⟨_, ⟨l, g, n, cap, E, hs, Xl, h.still K hk, rfl⟩, fun k hk2 => .inl hk2, hk.mono (fun _ f => f.elim)⟩
  obtain ⟨ke, se, de, ve⟩ := e
  show Calls Try.prog 9 #[.pointer (some ⟨t, 0, none⟩), .agg #[.string ⟨ke.toArray⟩, .int .i64 se, .bool de, .string ⟨ve.toArray⟩]] w _
  have hX := Holds.new w [.string ⟨ke.toArray⟩, .int .i64 se, .bool de, .string ⟨ve.toArray⟩] 34
  have hk1 : Kept (fun _ => False) w (w.alloc (.cells #[.string ⟨ke.toArray⟩, .int .i64 se, .bool de, .string ⟨ve.toArray⟩] 34)) := (Kept.refl _ w).alloc _
  obtain ⟨p, hp⟩ : ∃ p, Hid (p = w.heap.size) := ⟨_, rfl⟩
  rw [← hp.out] at hX
  change Holds (w.alloc (.cells #[.string ⟨ke.toArray⟩, .int .i64 se, .bool de, .string ⟨ve.toArray⟩] 34)) p _ _ at hX
  have HRt : Hid (∀ W, Calls Try.prog 12 #[.agg #[.string ⟨ke.toArray⟩, .int .i64 se, .bool de, .string ⟨ve.toArray⟩]] W fun r w' => r = .returned (.bool (rightM (ke, se, de, ve))) ∧ Kept (fun _ => False) W w') := fun W => rightP (ke, se, de, ve) W
  cases hr : rightM (ke, se, de, ve) with
  | false =>
    rw [hr] at HRt
    have hpc : putC T (ke, se, de, ve) = 1 := by unfold putC; rw [hr]; rfl
    have hpm : putM T (ke, se, de, ve) = T := putM_not' (by rw [hpc]; decide)
    rw [hpc, hpm]
    have HSt := Lib.hid HStay
    clear HStay hpc hpm h hr hfe hl
    go_enter Try.func9, Try.ntmps9
    go_upto_region 1 with (fail)
    rw [← hp.out]
    generalize w.alloc (.cells #[.string ⟨ke.toArray⟩, .int .i64 se, .bool de, .string ⟨ve.toArray⟩] 34) = w1 at hX hk1 ⊢
    have c0 := hX.cell 0 _ rfl
    have c1 := hX.cell 1 _ rfl
    have c2 := hX.cell 2 _ rfl
    have c3 := hX.cell 3 _ rfl
    have HX := Lib.hid hX
    have HK1 := Lib.hid hk1
    clear hX hk1
    go_wp2_with fail
    refine (HRt.out _).mono ?_
    clear HRt
    rintro r w2 ⟨rfl, hk2⟩
    have HK2 := Lib.hid (HK1.out.trans hk2 (fun _ f => f.elim))
    clear hk2 HK1
    go_wp2
    go_ret
    exact ⟨rfl, HSt.out _ HK2.out⟩
  | true =>
    rw [hr] at HRt
    have hgt := has_get h.ok (ke, se, de, ve)
    have hGT := fun (W : World) (hk : Kept (fun _ => False) w W) => getT K (h.still K hk) (by omega) ke se
    obtain ⟨G, hG⟩ : ∃ G, G = getM T ke se := ⟨_, rfl⟩
    simp only at hgt
    rw [← hG] at hgt hGT
    clear hG
    obtain ⟨⟨kx, sx, dx, vx⟩, ok⟩ := G
    simp only at hgt hGT
    have HGT : Hid (∀ W, Kept (fun _ => False) w W → Calls Try.prog 16 #[.pointer (some ⟨t, 0, none⟩), .string ⟨ke.toArray⟩, .int .i64 se] W fun r w' => r = .returned (.tuple #[.agg #[.string ⟨kx.toArray⟩, .int .i64 sx, .bool dx, .string ⟨vx.toArray⟩], .bool ok]) ∧ Kept (fun _ => False) W w') := hGT
    have HH := Lib.hid hgt
    have HT := Lib.hid h
    clear hGT hgt h
    go_enter Try.func9, Try.ntmps9
    go_upto_region 1 with (fail)
    rw [← hp.out]
    generalize w.alloc (.cells #[.string ⟨ke.toArray⟩, .int .i64 se, .bool de, .string ⟨ve.toArray⟩] 34) = w1 at hX hk1 ⊢
    have c0 := hX.cell 0 _ rfl
    have c1 := hX.cell 1 _ rfl
    have c2 := hX.cell 2 _ rfl
    have c3 := hX.cell 3 _ rfl
    have HX := Lib.hid hX
    have HK1 := Lib.hid hk1
    clear hX hk1
    go_wp2_with fail
    refine (HRt.out _).mono ?_
    clear HRt
    rintro r w2 ⟨rfl, hk2⟩
    have HK2 := Lib.hid (HK1.out.trans hk2 (fun _ f => f.elim))
    have hX2 := HX.out.of_block (hk2.block p HX.out.lt (fun f => f))
    clear c0 c1 c2 c3 hk2 HK1 HX
    have c0 := hX2.cell 0 _ rfl
    have c1 := hX2.cell 1 _ rfl
    have HX2 := Lib.hid hX2
    clear hX2
    go_wp2_with fail
    refine (HGT.out w2 HK2.out).mono ?_
    clear HGT
    rintro r w3 ⟨rfl, hk3⟩
    go_upto_region 4 with (fail)
    have HN := Holds.new w3 [.string ⟨kx.toArray⟩, .int .i64 sx, .bool dx, .string ⟨vx.toArray⟩] 34
    have hk4 := hk3.alloc (.cells #[.string ⟨kx.toArray⟩, .int .i64 sx, .bool dx, .string ⟨vx.toArray⟩] 34)
    obtain ⟨q, hq⟩ : ∃ q, q = w3.heap.size := ⟨_, rfl⟩
    obtain ⟨w4, hw4⟩ : ∃ w4, w4 = w3.alloc (.cells #[.string ⟨kx.toArray⟩, .int .i64 sx, .bool dx, .string ⟨vx.toArray⟩] 34) := ⟨_, rfl⟩
    rw [← hq] at HN
    change Holds (w3.alloc (.cells #[.string ⟨kx.toArray⟩, .int .i64 sx, .bool dx, .string ⟨vx.toArray⟩] 34)) q _ _ at HN
    rw [← hw4] at HN hk4
    rw [← hw4, ← hq]
    have hX4 := HX2.out.of_block (hk4.block p HX2.out.lt (fun f => f))
    have HK4 := Lib.hid (HK2.out.trans hk4 (fun _ f => f.elim))
    have HX4 := Lib.hid hX4
    have e1 := HN.cell 1 _ rfl
    have d1 := hX4.cell 1 _ rfl
    clear HN hk4 hw4 hq hk3 hX4 HX2 HK2 c0 c1
    cases ok with
    | true =>
      by_cases hss : sx = se
      · subst hss
        have hpc : putC T (ke, sx, de, ve) = 9 := by unfold putC; rw [hr, HH.out]; simp
        have hpm : putM T (ke, sx, de, ve) = T := putM_not' (by rw [hpc]; decide)
        have HPC := Lib.hid (And.intro hpc hpm)
        have HSt := Lib.hid HStay
        clear HStay hpc hpm hr
        go_wp2
        go_ret
        exact ⟨by rw [HPC.out.1]; rfl, by rw [HPC.out.2]; exact HSt.out _ HK4.out⟩
      · have hsb : (sx == se) = false := by simpa using hss
        have hpc : putC T (ke, se, de, ve) = 0 := putC_zero.2 ⟨hr, by rw [HH.out]; simp [hss]⟩
        have hpm : putM T (ke, se, de, ve) = insM T (ke, se, de, ve) := by unfold putM; rw [if_pos hpc]
        have HPC := Lib.hid (And.intro hpc hpm)
        have HRR := Lib.hid hr
        have hT := HT.out
        have hpos := hT.pos
        have hlens := hT.lens
        obtain ⟨m, hm⟩ : ∃ m, Hid (m = T.length) := ⟨_, rfl⟩
        have hm200 : m ≤ 200 := by rw [hm.out]; exact hl
        have ix0 : m % n < n := Nat.mod_lt _ hpos
        obtain ⟨ix, hix⟩ : ∃ ix, m % n = ix := ⟨_, rfl⟩
        rw [hix] at ix0
        have hixl : ix < hs.length := by rw [hT.hlen]; exact ix0
        obtain ⟨hx, hhx⟩ : ∃ hx, hs[ix] = hx := ⟨_, rfl⟩
        have hxf : FitH hx := by rw [← hhx]; exact hT.fit _ (List.getElem_mem hixl)
        have hput := put_new hT.keys hT.ok hpc hx []
        obtain ⟨W0, hW0⟩ : ∃ W0, Hid (W0 = writeS (ke, se, de, ve)) := ⟨writeS (ke, se, de, ve), rfl⟩
        have HWR : Hid (∀ W, Kept (fun _ => False) w4 W → Calls Try.prog 27 #[.agg #[.string ⟨ke.toArray⟩, .int .i64 se, .bool de, .string ⟨ve.toArray⟩]] W fun r w' => r = .returned (.string ⟨W0.toArray⟩) ∧ Kept (fun _ => False) W w') := fun W _ => by
          rw [hW0.out]; exact writeP (ke, se, de, ve) W hr
        have HLN : Hid (∀ W, Kept (fun _ => False) w4 W → Calls Try.prog 22 #[.pointer (some ⟨t, 0, none⟩)] W fun r w' => r = .returned (.int .i64 (m : Int)) ∧ Kept (fun _ => False) W w') := fun W hk => by
          rw [hm.out]; exact lenT K (hT.still K (HK4.out.trans hk (fun _ f => f.elim))) (by omega)
        have HPU : Hid (∀ W, Kept (fun _ => False) w4 W → Calls Try.prog 26 #[.pointer (some ⟨l, 0, none⟩), .string ⟨W0.toArray⟩, .string ⟨#[]⟩, .int .i64 hx] W fun e w' => e = .returned (.bool true) ∧ ∃ X', At w' B l (putE E (writeS (ke, se, de, ve)) [] hx) X' ∧ Grows W Xl X' ∧ Kept Xl W w') := fun W hk => by
          have := K.put (hT.still K (HK4.out.trans hk (fun _ f => f.elim))).list (by rw [hlens]; omega) (writeS (ke, se, de, ve)) [] hx hxf
          rw [hput.1] at this
          rw [hW0.out]; exact this
        have hXp : ¬Xl p := fun hh => by have := (K.lt hT.list p hh).2; rw [hp.out] at this; omega
        have hpt : p ≠ t := fun hh => by have := hT.obj.lt; rw [← hh, hp.out] at this; omega
        have hW4 : ∀ W, Kept Xl w4 W → (W.cell? ⟨t, 0, none⟩ = some (.pointer (some ⟨l, 0, none⟩)) ∧ W.cell? ⟨t, 1, none⟩ = some (.slice (some ⟨g, 0, none⟩) n cap) ∧ W.rangeAt p 0 [.string ⟨ke.toArray⟩, .int .i64 se, .bool de, .string ⟨ve.toArray⟩] ∧ W.cell? ⟨g, ix, none⟩ = some (.int .i64 hx)) ∧ Holds W t (tbC l g n cap T) 54 ∧ Holds W p [.string ⟨ke.toArray⟩, .int .i64 se, .bool de, .string ⟨ve.toArray⟩] 34 := fun W hk => by
          have h4 := hT.still K HK4.out
          have ho := h4.obj.of_block (hk.block t h4.obj.lt h4.nt)
          have hxx := HX4.out.of_block (hk.block p HX4.out.lt hXp)
          refine ⟨⟨ho.cell 0 _ rfl, ho.cell 1 _ rfl, hxx.range 0 _ (fun j v hj => by rw [Nat.zero_add]; exact hj), ?_⟩, ho, hxx⟩
          refine (World.cell?_of_block (w := w4) (hk.block g h4.glt h4.ng)).trans ?_
          rw [h4.row ix hixl, hhx]
        have HS : Hid (∀ W, Kept (fun _ => False) w4 W → W.cell? ⟨t, 0, none⟩ = some (.pointer (some ⟨l, 0, none⟩)) ∧ W.cell? ⟨t, 1, none⟩ = some (.slice (some ⟨g, 0, none⟩) n cap) ∧ W.rangeAt p 0 [.string ⟨ke.toArray⟩, .int .i64 se, .bool de, .string ⟨ve.toArray⟩] ∧ W.cell? ⟨g, ix, none⟩ = some (.int .i64 hx)) := fun W hk => (hW4 W (hk.mono (fun _ f => f.elim))).1
        have HSX : Hid (∀ W W', Kept (fun _ => False) w4 W → Kept Xl W W' → W'.cell? ⟨t, 0, none⟩ = some (.pointer (some ⟨l, 0, none⟩)) ∧ W'.cell? ⟨t, 1, none⟩ = some (.slice (some ⟨g, 0, none⟩) n cap) ∧ W'.rangeAt p 0 [.string ⟨ke.toArray⟩, .int .i64 se, .bool de, .string ⟨ve.toArray⟩] ∧ W'.cell? ⟨g, ix, none⟩ = some (.int .i64 hx)) := fun W W' h1 h2 => (hW4 W' ((h1.mono (Y := Xl) (fun _ f => f.elim)).trans h2 (fun _ f => .inl f))).1
        have HW4 := Lib.hid hW4
        have r0 : ¬n = 0 := by omega
        have r1 : (m : Int).tmod (n : Int) = (ix : Int) := by rw [Int.tmod_eq_emod_of_nonneg (by omega), ← Int.natCast_emod, hix]
        have r2 : IntKind.i64.wrap (ix : Int) = (ix : Int) := IntWalk.i64_in _ (by have := hT.few; omega)
        have r3 : (ix : Int) < (n : Int) := by omega
        have r4 : (0 : Int) ≤ (ix : Int) := by omega
        have HF := Lib.hid (And.intro hpt hXp)
        clear hpc hpm hT hpos hlens hm200 ix0 hix hixl hhx hxf hput hW4 hpt hXp hr
        go_upto_region 6 with (fail)
        refine wp_region_until (fun W => W.cell? ⟨t, 0, none⟩ = some (.pointer (some ⟨l, 0, none⟩)) ∧ W.cell? ⟨t, 1, none⟩ = some (.slice (some ⟨g, 0, none⟩) n cap) ∧ W.rangeAt p 0 [.string ⟨ke.toArray⟩, .int .i64 se, .bool de, .string ⟨ve.toArray⟩] ∧ W.cell? ⟨g, ix, none⟩ = some (.int .i64 hx)) 21 (by kernel_rfl) ?_
        have HKA : Hid (Kept (fun _ => False) w4 w4.drew) := (Kept.refl _ w4).drewN 1
        have hS := HS.out _ HKA.out
        refine wpAnyU_take (i := 0) (v := (.pointer (some ⟨t, 0, none⟩))) (some 29) rfl rfl (by kernel_rfl) (by kernel_rfl) (by kernel_rfl) (by kernel_rfl) (fun _ _ _ h => h) hS (yields_of (by kernel_rfl) (fun w ⟨h0, h1, h2, h3⟩ => by go_simp)) ?_
        refine wpAnyU_take (i := 1) (v := (.pointer (some ⟨t, 0, none⟩))) (some 30) rfl rfl (by kernel_rfl) (by kernel_rfl) (by kernel_rfl) (by kernel_rfl) (fun _ _ _ h => h) hS (yields_of (by kernel_rfl) (fun w ⟨h0, h1, h2, h3⟩ => by go_simp)) ?_
        refine wpAnyU_take (i := 2) (v := (.pointer (some ⟨t, 0, none⟩))) (some 31) rfl rfl (by kernel_rfl) (by kernel_rfl) (by kernel_rfl) (by kernel_rfl) (fun _ _ _ h => h) hS (yields_of (by kernel_rfl) (fun w ⟨h0, h1, h2, h3⟩ => by go_simp)) ?_
        refine wpAnyU_take (i := 3) (v := (.pointer (some ⟨l, 0, none⟩))) (some 32) rfl rfl (by kernel_rfl) (by kernel_rfl) (by kernel_rfl) (by kernel_rfl) (fun _ _ _ h => h) hS (yields_of (by kernel_rfl) (fun w ⟨h0, h1, h2, h3⟩ => by go_simp)) ?_
        refine wpAnyU_take (i := 4) (v := (.agg #[.string ⟨ke.toArray⟩, .int .i64 se, .bool de, .string ⟨ve.toArray⟩])) (some 33) rfl rfl (by kernel_rfl) (by kernel_rfl) (by kernel_rfl) (by kernel_rfl) (fun _ _ _ h => h) hS (yieldsIf_load_mid (by kernel_rfl) 34 (.tmp 3) rfl p (0) (by kernel_rfl) [.string ⟨ke.toArray⟩, .int .i64 se, .bool de, .string ⟨ve.toArray⟩] _ (fun w hw => hw.2.2.1) Try.underlying34 rfl (by rw [ent_size]; rfl)) ?_
        refine wpAnyU_take (i := 6) (v := (.pointer (some ⟨t, 0, none⟩))) (some 35) rfl rfl (by kernel_rfl) (by kernel_rfl) (by kernel_rfl) (by kernel_rfl) (fun _ _ _ h => h) hS (yields_of (by kernel_rfl) (fun w ⟨h0, h1, h2, h3⟩ => by go_simp)) ?_
        refine wpAnyU_take (i := 7) (v := (.pointer (some ⟨t, 0, none⟩))) (some 36) rfl rfl (by kernel_rfl) (by kernel_rfl) (by kernel_rfl) (by kernel_rfl) (fun _ _ _ h => h) hS (yields_of (by kernel_rfl) (fun w ⟨h0, h1, h2, h3⟩ => by go_simp)) ?_
        refine wpAnyU_take (i := 8) (v := (.pointer (some ⟨t, 1, none⟩))) (some 37) rfl rfl (by kernel_rfl) (by kernel_rfl) (by kernel_rfl) (by kernel_rfl) (fun _ _ _ h => h) hS (yields_of (by kernel_rfl) (fun w ⟨h0, h1, h2, h3⟩ => by go_simp)) ?_
        refine wpAnyU_take (i := 9) (v := (.slice (some ⟨g, 0, none⟩) n cap)) (some 38) rfl rfl (by kernel_rfl) (by kernel_rfl) (by kernel_rfl) (by kernel_rfl) (fun _ _ _ h => h) hS (yields_of (by kernel_rfl) (fun w ⟨h0, h1, h2, h3⟩ => by go_simp)) ?_
        refine wpAnyU_take (i := 10) (v := (.pointer (some ⟨t, 0, none⟩))) (some 39) rfl rfl (by kernel_rfl) (by kernel_rfl) (by kernel_rfl) (by kernel_rfl) (fun _ _ _ h => h) hS (yields_of (by kernel_rfl) (fun w ⟨h0, h1, h2, h3⟩ => by go_simp)) ?_
        refine wpAnyU_take (i := 12) (v := (.pointer (some ⟨t, 0, none⟩))) (some 41) rfl rfl (by kernel_rfl) (by kernel_rfl) (by kernel_rfl) (by kernel_rfl) (fun _ _ _ h => h) hS (yields_of (by kernel_rfl) (fun w ⟨h0, h1, h2, h3⟩ => by go_simp)) ?_
        refine wpAnyU_take (i := 13) (v := (.pointer (some ⟨t, 0, none⟩))) (some 42) rfl rfl (by kernel_rfl) (by kernel_rfl) (by kernel_rfl) (by kernel_rfl) (fun _ _ _ h => h) hS (yields_of (by kernel_rfl) (fun w ⟨h0, h1, h2, h3⟩ => by go_simp)) ?_
        refine wpAnyU_take (i := 14) (v := (.pointer (some ⟨t, 1, none⟩))) (some 43) rfl rfl (by kernel_rfl) (by kernel_rfl) (by kernel_rfl) (by kernel_rfl) (fun _ _ _ h => h) hS (yields_of (by kernel_rfl) (fun w ⟨h0, h1, h2, h3⟩ => by go_simp)) ?_
        refine wpAnyU_take (i := 15) (v := (.slice (some ⟨g, 0, none⟩) n cap)) (some 44) rfl rfl (by kernel_rfl) (by kernel_rfl) (by kernel_rfl) (by kernel_rfl) (fun _ _ _ h => h) hS (yields_of (by kernel_rfl) (fun w ⟨h0, h1, h2, h3⟩ => by go_simp)) ?_
        refine wpAnyU_take (i := 16) (v := (.int .i64 (n : Int))) (some 45) rfl rfl (by kernel_rfl) (by kernel_rfl) (by kernel_rfl) (by kernel_rfl) (fun _ _ _ h => h) hS (yields_of (by kernel_rfl) (fun w ⟨h0, h1, h2, h3⟩ => by go_simp)) ?_
        refine wpAnyU_call (i := 5) (f := 27) (args := #[(.agg #[.string ⟨ke.toArray⟩, .int .i64 se, .bool de, .string ⟨ve.toArray⟩])]) (some 34) rfl rfl (by kernel_rfl) (by kernel_rfl) (by kernel_rfl) ?_
        refine (HWR.out _ HKA.out).mono ?_
        rintro r ww ⟨rfl, hkww⟩
        have HKW := Lib.hid (HKA.out.trans hkww (fun _ hf => hf.elim))
        clear hkww hS
        have hS := HS.out ww HKW.out
        refine ⟨_, rfl, fun _ => hS, ?_⟩
        refine wpAnyU_call (i := 11) (f := 22) (args := #[(.pointer (some ⟨t, 0, none⟩))]) (some 40) rfl rfl (by kernel_rfl) (by kernel_rfl) (by kernel_rfl) ?_
        refine (HLN.out _ HKW.out).mono ?_
        rintro r wl ⟨rfl, hkwl⟩
        have HKL := Lib.hid (HKW.out.trans hkwl (fun _ hf => hf.elim))
        clear hkwl hS
        have hS := HS.out wl HKL.out
        refine ⟨_, rfl, fun _ => hS, ?_⟩
        refine wpAnyU_take (i := 17) (v := (.int .i64 (ix : Int))) (some 46) rfl rfl (by kernel_rfl) (by kernel_rfl) (by kernel_rfl) (by kernel_rfl) (fun _ _ _ h => h) hS (yields_of (by kernel_rfl) (fun w ⟨h0, h1, h2, h3⟩ => by go_simp)) ?_
        refine wpAnyU_take (i := 18) (v := (.pointer (some ⟨g, ix, none⟩))) (some 47) rfl rfl (by kernel_rfl) (by kernel_rfl) (by kernel_rfl) (by kernel_rfl) (fun _ _ _ h => h) hS (yields_of (by kernel_rfl) (fun w ⟨h0, h1, h2, h3⟩ => by go_simp)) ?_
        refine wpAnyU_take (i := 19) (v := (.int .i64 hx)) (some 48) rfl rfl (by kernel_rfl) (by kernel_rfl) (by kernel_rfl) (by kernel_rfl) (fun _ _ _ h => h) hS (yields_of (by kernel_rfl) (fun w ⟨h0, h1, h2, h3⟩ => by go_simp)) ?_
        refine wpAnyU_call (i := 20) (f := 26) (args := #[(.pointer (some ⟨l, 0, none⟩)), (.string ⟨W0.toArray⟩), (.string ⟨#[]⟩), (.int .i64 hx)]) (some 49) rfl rfl (by kernel_rfl) (by kernel_rfl) (by kernel_rfl) ?_
        refine (HPU.out _ HKL.out).mono ?_
        rintro r wp ⟨rfl, Xn, hln, hgn, hkn⟩
        clear hS
        have hS := HSX.out wl wp HKL.out hkn
        refine ⟨_, rfl, fun _ => hS, ?_⟩
        refine wpAnyU_done (by kernel_rfl) ?_ _
        simp only [put_lit, List.set_cons_succ, List.set_cons_zero]
        clear hS
        obtain ⟨-, hO, hP⟩ := HW4.out wp ((HKL.out.mono (Y := Xl) (fun _ f => f.elim)).trans hkn (fun _ f => .inl f))
        have hKw : Kept Xl w wp := ((HK4.out.mono (Y := Xl) (fun _ f => f.elim)).trans (HKL.out.mono (Y := Xl) (fun _ f => f.elim)) (fun _ f => .inl f)).trans hkn (fun _ f => .inl f)
        have hrr := HRR.out
        unfold rightM at hrr
        simp only [decide_eq_true_eq] at hrr
        have hsb := size_bound HT.out.ok
        obtain ⟨z, hz⟩ : ∃ z, Hid (z = sizeM T) := ⟨_, rfl⟩
        obtain ⟨lk, hlk⟩ : ∃ lk, Hid (lk = ke.length) := ⟨_, rfl⟩
        obtain ⟨lv, hlv⟩ : ∃ lv, Hid (lv = ve.length) := ⟨_, rfl⟩
        have u1 : lk ≤ 80 := by rw [hlk.out]; exact hrr.2.1
        have u2 : lv ≤ 300 := by rw [hlv.out]; exact hrr.2.2.1
        have u3 : z ≤ 396 * 200 := by rw [hz.out]; omega
        have q1 : (ke.length : Int) = (lk : Int) := by rw [hlk.out]
        have q2 : (ve.length : Int) = (lv : Int) := by rw [hlv.out]
        have v1 : IntKind.i64.wrap ((lk : Int) + (lv : Int)) = (lk : Int) + (lv : Int) := IntWalk.i64_in _ (by omega)
        have v2 : IntKind.i64.wrap ((lk : Int) + (lv : Int) + 16) = (lk : Int) + (lv : Int) + 16 := IntWalk.i64_in _ (by omega)
        have v3 : IntKind.i64.wrap ((z : Int) + ((lk : Int) + (lv : Int) + 16)) = ((z + (lk + lv + 16) : Nat) : Int) := by rw [IntWalk.i64_in _ (by omega)]; omega
        have hsz : sizeM (insM T (ke, se, de, ve)) = z + (lk + lv + 16) := by rw [size_ins, hz.out, hlk.out, hlv.out]
        obtain ⟨zz, hzz⟩ : ∃ zz, zz = z + (lk + lv + 16) := ⟨_, rfl⟩
        rw [← hzz] at v3 hsz
        have t2 : wp.drew.cell? ⟨t, 2, none⟩ = some (.int .i64 (z : Int)) := by rw [hz.out]; exact hO.cell 2 _ rfl
        have ft2 : wp.drew.frozen? ⟨t, 2, none⟩ = false := hO.free 2
        have p0 : wp.cell? ⟨p, 0, none⟩ = some (.string ⟨ke.toArray⟩) := hP.cell 0 _ rfl
        have p3 : wp.cell? ⟨p, 3, none⟩ = some (.string ⟨ve.toArray⟩) := hP.cell 3 _ rfl
        have t20 : wp.cell? ⟨t, 2, none⟩ = some (.int .i64 (z : Int)) := t2
        have hG := HT.out.grown K HPC.out.1 hx (w6 := wp.drew) (hKw.drewN 1) (K.still hln ((Kept.refl _ wp).drewN 1)) (fun k hk => (hgn k hk).imp (fun h => h) (fun h => by have := HK4.out.size; have := HKL.out.size; omega))
        rw [hsz] at hG
        have HG : Hid (TbAt At (wp.drew.setCell ⟨t, 2, none⟩ (.int .i64 (zz : Int))) B t (insM T (ke, se, de, ve)) (blocksT t g Xn) ∧ Grows w (blocksT t g Xl) (blocksT t g Xn) ∧ Kept (blocksT t g Xl) w (wp.drew.setCell ⟨t, 2, none⟩ (.int .i64 (zz : Int)))) := by
          refine ⟨⟨l, g, n, cap, _, hs, Xn, hG, rfl⟩, ?_, ?_⟩
          · rintro k (rfl | rfl | hk)
            · exact .inl (.inl rfl)
            · exact .inl (.inr (.inl rfl))
            · rcases hgn k hk with h1 | h1
              · exact .inl (.inr (.inr h1))
              · right; have := HK4.out.size; have := HKL.out.size; omega
          · exact ((hKw.drewN 1).mono (Y := blocksT t g Xl) (fun k hk => .inr (.inr hk))).setCell (p := ⟨t, 2, none⟩) (.inl rfl) _
        clear hO hP hKw hrr hsb hsz hzz hG hln hgn hkn HKL HKW HKA HW4 HSX HS HPU HLN HWR r0 r1 r2 r3 r4 u1 u2 u3
        go_upto_region 7 with (fail)
        go_still_tail 15, (by kernel_rfl)
        change wpList _ _ _ _ _ wp.drew
        go_wp2
        go_ret
        exact ⟨by rw [HPC.out.1]; rfl, by rw [HPC.out.2]; exact ⟨_, HG.out⟩⟩
    | false =>
      have hpc : putC T (ke, se, de, ve) = 0 := putC_zero.2 ⟨hr, by rw [HH.out]; simp⟩
      have hpm : putM T (ke, se, de, ve) = insM T (ke, se, de, ve) := by unfold putM; rw [if_pos hpc]
      have HPC := Lib.hid (And.intro hpc hpm)
      have HRR := Lib.hid hr
      have hT := HT.out
      have hpos := hT.pos
      have hlens := hT.lens
      obtain ⟨m, hm⟩ : ∃ m, Hid (m = T.length) := ⟨_, rfl⟩
      have hm200 : m ≤ 200 := by rw [hm.out]; exact hl
      have ix0 : m % n < n := Nat.mod_lt _ hpos
      obtain ⟨ix, hix⟩ : ∃ ix, m % n = ix := ⟨_, rfl⟩
      rw [hix] at ix0
      have hixl : ix < hs.length := by rw [hT.hlen]; exact ix0
      obtain ⟨hx, hhx⟩ : ∃ hx, hs[ix] = hx := ⟨_, rfl⟩
      have hxf : FitH hx := by rw [← hhx]; exact hT.fit _ (List.getElem_mem hixl)
      have hput := put_new hT.keys hT.ok hpc hx []
      obtain ⟨W0, hW0⟩ : ∃ W0, Hid (W0 = writeS (ke, se, de, ve)) := ⟨writeS (ke, se, de, ve), rfl⟩
      have HWR : Hid (∀ W, Kept (fun _ => False) w4 W → Calls Try.prog 27 #[.agg #[.string ⟨ke.toArray⟩, .int .i64 se, .bool de, .string ⟨ve.toArray⟩]] W fun r w' => r = .returned (.string ⟨W0.toArray⟩) ∧ Kept (fun _ => False) W w') := fun W _ => by
        rw [hW0.out]; exact writeP (ke, se, de, ve) W hr
      have HLN : Hid (∀ W, Kept (fun _ => False) w4 W → Calls Try.prog 22 #[.pointer (some ⟨t, 0, none⟩)] W fun r w' => r = .returned (.int .i64 (m : Int)) ∧ Kept (fun _ => False) W w') := fun W hk => by
        rw [hm.out]; exact lenT K (hT.still K (HK4.out.trans hk (fun _ f => f.elim))) (by omega)
      have HPU : Hid (∀ W, Kept (fun _ => False) w4 W → Calls Try.prog 26 #[.pointer (some ⟨l, 0, none⟩), .string ⟨W0.toArray⟩, .string ⟨#[]⟩, .int .i64 hx] W fun e w' => e = .returned (.bool true) ∧ ∃ X', At w' B l (putE E (writeS (ke, se, de, ve)) [] hx) X' ∧ Grows W Xl X' ∧ Kept Xl W w') := fun W hk => by
        have := K.put (hT.still K (HK4.out.trans hk (fun _ f => f.elim))).list (by rw [hlens]; omega) (writeS (ke, se, de, ve)) [] hx hxf
        rw [hput.1] at this
        rw [hW0.out]; exact this
      have hXp : ¬Xl p := fun hh => by have := (K.lt hT.list p hh).2; rw [hp.out] at this; omega
      have hpt : p ≠ t := fun hh => by have := hT.obj.lt; rw [← hh, hp.out] at this; omega
      have hW4 : ∀ W, Kept Xl w4 W → (W.cell? ⟨t, 0, none⟩ = some (.pointer (some ⟨l, 0, none⟩)) ∧ W.cell? ⟨t, 1, none⟩ = some (.slice (some ⟨g, 0, none⟩) n cap) ∧ W.rangeAt p 0 [.string ⟨ke.toArray⟩, .int .i64 se, .bool de, .string ⟨ve.toArray⟩] ∧ W.cell? ⟨g, ix, none⟩ = some (.int .i64 hx)) ∧ Holds W t (tbC l g n cap T) 54 ∧ Holds W p [.string ⟨ke.toArray⟩, .int .i64 se, .bool de, .string ⟨ve.toArray⟩] 34 := fun W hk => by
        have h4 := hT.still K HK4.out
        have ho := h4.obj.of_block (hk.block t h4.obj.lt h4.nt)
        have hxx := HX4.out.of_block (hk.block p HX4.out.lt hXp)
        refine ⟨⟨ho.cell 0 _ rfl, ho.cell 1 _ rfl, hxx.range 0 _ (fun j v hj => by rw [Nat.zero_add]; exact hj), ?_⟩, ho, hxx⟩
        refine (World.cell?_of_block (w := w4) (hk.block g h4.glt h4.ng)).trans ?_
        rw [h4.row ix hixl, hhx]
      have HS : Hid (∀ W, Kept (fun _ => False) w4 W → W.cell? ⟨t, 0, none⟩ = some (.pointer (some ⟨l, 0, none⟩)) ∧ W.cell? ⟨t, 1, none⟩ = some (.slice (some ⟨g, 0, none⟩) n cap) ∧ W.rangeAt p 0 [.string ⟨ke.toArray⟩, .int .i64 se, .bool de, .string ⟨ve.toArray⟩] ∧ W.cell? ⟨g, ix, none⟩ = some (.int .i64 hx)) := fun W hk => (hW4 W (hk.mono (fun _ f => f.elim))).1
      have HSX : Hid (∀ W W', Kept (fun _ => False) w4 W → Kept Xl W W' → W'.cell? ⟨t, 0, none⟩ = some (.pointer (some ⟨l, 0, none⟩)) ∧ W'.cell? ⟨t, 1, none⟩ = some (.slice (some ⟨g, 0, none⟩) n cap) ∧ W'.rangeAt p 0 [.string ⟨ke.toArray⟩, .int .i64 se, .bool de, .string ⟨ve.toArray⟩] ∧ W'.cell? ⟨g, ix, none⟩ = some (.int .i64 hx)) := fun W W' h1 h2 => (hW4 W' ((h1.mono (Y := Xl) (fun _ f => f.elim)).trans h2 (fun _ f => .inl f))).1
      have HW4 := Lib.hid hW4
      have r0 : ¬n = 0 := by omega
      have r1 : (m : Int).tmod (n : Int) = (ix : Int) := by rw [Int.tmod_eq_emod_of_nonneg (by omega), ← Int.natCast_emod, hix]
      have r2 : IntKind.i64.wrap (ix : Int) = (ix : Int) := IntWalk.i64_in _ (by have := hT.few; omega)
      have r3 : (ix : Int) < (n : Int) := by omega
      have r4 : (0 : Int) ≤ (ix : Int) := by omega
      have HF := Lib.hid (And.intro hpt hXp)
      clear hpc hpm hT hpos hlens hm200 ix0 hix hixl hhx hxf hput hW4 hpt hXp hr
      go_upto_region 6 with (fail)
      refine wp_region_until (fun W => W.cell? ⟨t, 0, none⟩ = some (.pointer (some ⟨l, 0, none⟩)) ∧ W.cell? ⟨t, 1, none⟩ = some (.slice (some ⟨g, 0, none⟩) n cap) ∧ W.rangeAt p 0 [.string ⟨ke.toArray⟩, .int .i64 se, .bool de, .string ⟨ve.toArray⟩] ∧ W.cell? ⟨g, ix, none⟩ = some (.int .i64 hx)) 21 (by kernel_rfl) ?_
      have HKA : Hid (Kept (fun _ => False) w4 w4.drew) := (Kept.refl _ w4).drewN 1
      have hS := HS.out _ HKA.out
      refine wpAnyU_take (i := 0) (v := (.pointer (some ⟨t, 0, none⟩))) (some 29) rfl rfl (by kernel_rfl) (by kernel_rfl) (by kernel_rfl) (by kernel_rfl) (fun _ _ _ h => h) hS (yields_of (by kernel_rfl) (fun w ⟨h0, h1, h2, h3⟩ => by go_simp)) ?_
      refine wpAnyU_take (i := 1) (v := (.pointer (some ⟨t, 0, none⟩))) (some 30) rfl rfl (by kernel_rfl) (by kernel_rfl) (by kernel_rfl) (by kernel_rfl) (fun _ _ _ h => h) hS (yields_of (by kernel_rfl) (fun w ⟨h0, h1, h2, h3⟩ => by go_simp)) ?_
      refine wpAnyU_take (i := 2) (v := (.pointer (some ⟨t, 0, none⟩))) (some 31) rfl rfl (by kernel_rfl) (by kernel_rfl) (by kernel_rfl) (by kernel_rfl) (fun _ _ _ h => h) hS (yields_of (by kernel_rfl) (fun w ⟨h0, h1, h2, h3⟩ => by go_simp)) ?_
      refine wpAnyU_take (i := 3) (v := (.pointer (some ⟨l, 0, none⟩))) (some 32) rfl rfl (by kernel_rfl) (by kernel_rfl) (by kernel_rfl) (by kernel_rfl) (fun _ _ _ h => h) hS (yields_of (by kernel_rfl) (fun w ⟨h0, h1, h2, h3⟩ => by go_simp)) ?_
      refine wpAnyU_take (i := 4) (v := (.agg #[.string ⟨ke.toArray⟩, .int .i64 se, .bool de, .string ⟨ve.toArray⟩])) (some 33) rfl rfl (by kernel_rfl) (by kernel_rfl) (by kernel_rfl) (by kernel_rfl) (fun _ _ _ h => h) hS (yieldsIf_load_mid (by kernel_rfl) 34 (.tmp 3) rfl p (0) (by kernel_rfl) [.string ⟨ke.toArray⟩, .int .i64 se, .bool de, .string ⟨ve.toArray⟩] _ (fun w hw => hw.2.2.1) Try.underlying34 rfl (by rw [ent_size]; rfl)) ?_
      refine wpAnyU_take (i := 6) (v := (.pointer (some ⟨t, 0, none⟩))) (some 35) rfl rfl (by kernel_rfl) (by kernel_rfl) (by kernel_rfl) (by kernel_rfl) (fun _ _ _ h => h) hS (yields_of (by kernel_rfl) (fun w ⟨h0, h1, h2, h3⟩ => by go_simp)) ?_
      refine wpAnyU_take (i := 7) (v := (.pointer (some ⟨t, 0, none⟩))) (some 36) rfl rfl (by kernel_rfl) (by kernel_rfl) (by kernel_rfl) (by kernel_rfl) (fun _ _ _ h => h) hS (yields_of (by kernel_rfl) (fun w ⟨h0, h1, h2, h3⟩ => by go_simp)) ?_
      refine wpAnyU_take (i := 8) (v := (.pointer (some ⟨t, 1, none⟩))) (some 37) rfl rfl (by kernel_rfl) (by kernel_rfl) (by kernel_rfl) (by kernel_rfl) (fun _ _ _ h => h) hS (yields_of (by kernel_rfl) (fun w ⟨h0, h1, h2, h3⟩ => by go_simp)) ?_
      refine wpAnyU_take (i := 9) (v := (.slice (some ⟨g, 0, none⟩) n cap)) (some 38) rfl rfl (by kernel_rfl) (by kernel_rfl) (by kernel_rfl) (by kernel_rfl) (fun _ _ _ h => h) hS (yields_of (by kernel_rfl) (fun w ⟨h0, h1, h2, h3⟩ => by go_simp)) ?_
      refine wpAnyU_take (i := 10) (v := (.pointer (some ⟨t, 0, none⟩))) (some 39) rfl rfl (by kernel_rfl) (by kernel_rfl) (by kernel_rfl) (by kernel_rfl) (fun _ _ _ h => h) hS (yields_of (by kernel_rfl) (fun w ⟨h0, h1, h2, h3⟩ => by go_simp)) ?_
      refine wpAnyU_take (i := 12) (v := (.pointer (some ⟨t, 0, none⟩))) (some 41) rfl rfl (by kernel_rfl) (by kernel_rfl) (by kernel_rfl) (by kernel_rfl) (fun _ _ _ h => h) hS (yields_of (by kernel_rfl) (fun w ⟨h0, h1, h2, h3⟩ => by go_simp)) ?_
      refine wpAnyU_take (i := 13) (v := (.pointer (some ⟨t, 0, none⟩))) (some 42) rfl rfl (by kernel_rfl) (by kernel_rfl) (by kernel_rfl) (by kernel_rfl) (fun _ _ _ h => h) hS (yields_of (by kernel_rfl) (fun w ⟨h0, h1, h2, h3⟩ => by go_simp)) ?_
      refine wpAnyU_take (i := 14) (v := (.pointer (some ⟨t, 1, none⟩))) (some 43) rfl rfl (by kernel_rfl) (by kernel_rfl) (by kernel_rfl) (by kernel_rfl) (fun _ _ _ h => h) hS (yields_of (by kernel_rfl) (fun w ⟨h0, h1, h2, h3⟩ => by go_simp)) ?_
      refine wpAnyU_take (i := 15) (v := (.slice (some ⟨g, 0, none⟩) n cap)) (some 44) rfl rfl (by kernel_rfl) (by kernel_rfl) (by kernel_rfl) (by kernel_rfl) (fun _ _ _ h => h) hS (yields_of (by kernel_rfl) (fun w ⟨h0, h1, h2, h3⟩ => by go_simp)) ?_
      refine wpAnyU_take (i := 16) (v := (.int .i64 (n : Int))) (some 45) rfl rfl (by kernel_rfl) (by kernel_rfl) (by kernel_rfl) (by kernel_rfl) (fun _ _ _ h => h) hS (yields_of (by kernel_rfl) (fun w ⟨h0, h1, h2, h3⟩ => by go_simp)) ?_
      refine wpAnyU_call (i := 5) (f := 27) (args := #[(.agg #[.string ⟨ke.toArray⟩, .int .i64 se, .bool de, .string ⟨ve.toArray⟩])]) (some 34) rfl rfl (by kernel_rfl) (by kernel_rfl) (by kernel_rfl) ?_
      refine (HWR.out _ HKA.out).mono ?_
      rintro r ww ⟨rfl, hkww⟩
      have HKW := Lib.hid (HKA.out.trans hkww (fun _ hf => hf.elim))
      clear hkww hS
      have hS := HS.out ww HKW.out
      refine ⟨_, rfl, fun _ => hS, ?_⟩
      refine wpAnyU_call (i := 11) (f := 22) (args := #[(.pointer (some ⟨t, 0, none⟩))]) (some 40) rfl rfl (by kernel_rfl) (by kernel_rfl) (by kernel_rfl) ?_
      refine (HLN.out _ HKW.out).mono ?_
      rintro r wl ⟨rfl, hkwl⟩
      have HKL := Lib.hid (HKW.out.trans hkwl (fun _ hf => hf.elim))
      clear hkwl hS
      have hS := HS.out wl HKL.out
      refine ⟨_, rfl, fun _ => hS, ?_⟩
      refine wpAnyU_take (i := 17) (v := (.int .i64 (ix : Int))) (some 46) rfl rfl (by kernel_rfl) (by kernel_rfl) (by kernel_rfl) (by kernel_rfl) (fun _ _ _ h => h) hS (yields_of (by kernel_rfl) (fun w ⟨h0, h1, h2, h3⟩ => by go_simp)) ?_
      refine wpAnyU_take (i := 18) (v := (.pointer (some ⟨g, ix, none⟩))) (some 47) rfl rfl (by kernel_rfl) (by kernel_rfl) (by kernel_rfl) (by kernel_rfl) (fun _ _ _ h => h) hS (yields_of (by kernel_rfl) (fun w ⟨h0, h1, h2, h3⟩ => by go_simp)) ?_
      refine wpAnyU_take (i := 19) (v := (.int .i64 hx)) (some 48) rfl rfl (by kernel_rfl) (by kernel_rfl) (by kernel_rfl) (by kernel_rfl) (fun _ _ _ h => h) hS (yields_of (by kernel_rfl) (fun w ⟨h0, h1, h2, h3⟩ => by go_simp)) ?_
      refine wpAnyU_call (i := 20) (f := 26) (args := #[(.pointer (some ⟨l, 0, none⟩)), (.string ⟨W0.toArray⟩), (.string ⟨#[]⟩), (.int .i64 hx)]) (some 49) rfl rfl (by kernel_rfl) (by kernel_rfl) (by kernel_rfl) ?_
      refine (HPU.out _ HKL.out).mono ?_
      rintro r wp ⟨rfl, Xn, hln, hgn, hkn⟩
      clear hS
      have hS := HSX.out wl wp HKL.out hkn
      refine ⟨_, rfl, fun _ => hS, ?_⟩
      refine wpAnyU_done (by kernel_rfl) ?_ _
      simp only [put_lit, List.set_cons_succ, List.set_cons_zero]
      clear hS
      obtain ⟨-, hO, hP⟩ := HW4.out wp ((HKL.out.mono (Y := Xl) (fun _ f => f.elim)).trans hkn (fun _ f => .inl f))
      have hKw : Kept Xl w wp := ((HK4.out.mono (Y := Xl) (fun _ f => f.elim)).trans (HKL.out.mono (Y := Xl) (fun _ f => f.elim)) (fun _ f => .inl f)).trans hkn (fun _ f => .inl f)
      have hrr := HRR.out
      unfold rightM at hrr
      simp only [decide_eq_true_eq] at hrr
      have hsb := size_bound HT.out.ok
      obtain ⟨z, hz⟩ : ∃ z, Hid (z = sizeM T) := ⟨_, rfl⟩
      obtain ⟨lk, hlk⟩ : ∃ lk, Hid (lk = ke.length) := ⟨_, rfl⟩
      obtain ⟨lv, hlv⟩ : ∃ lv, Hid (lv = ve.length) := ⟨_, rfl⟩
      have u1 : lk ≤ 80 := by rw [hlk.out]; exact hrr.2.1
      have u2 : lv ≤ 300 := by rw [hlv.out]; exact hrr.2.2.1
      have u3 : z ≤ 396 * 200 := by rw [hz.out]; omega
      have q1 : (ke.length : Int) = (lk : Int) := by rw [hlk.out]
      have q2 : (ve.length : Int) = (lv : Int) := by rw [hlv.out]
      have v1 : IntKind.i64.wrap ((lk : Int) + (lv : Int)) = (lk : Int) + (lv : Int) := IntWalk.i64_in _ (by omega)
      have v2 : IntKind.i64.wrap ((lk : Int) + (lv : Int) + 16) = (lk : Int) + (lv : Int) + 16 := IntWalk.i64_in _ (by omega)
      have v3 : IntKind.i64.wrap ((z : Int) + ((lk : Int) + (lv : Int) + 16)) = ((z + (lk + lv + 16) : Nat) : Int) := by rw [IntWalk.i64_in _ (by omega)]; omega
      have hsz : sizeM (insM T (ke, se, de, ve)) = z + (lk + lv + 16) := by rw [size_ins, hz.out, hlk.out, hlv.out]
      obtain ⟨zz, hzz⟩ : ∃ zz, zz = z + (lk + lv + 16) := ⟨_, rfl⟩
      rw [← hzz] at v3 hsz
      have t2 : wp.drew.cell? ⟨t, 2, none⟩ = some (.int .i64 (z : Int)) := by rw [hz.out]; exact hO.cell 2 _ rfl
      have ft2 : wp.drew.frozen? ⟨t, 2, none⟩ = false := hO.free 2
      have p0 : wp.cell? ⟨p, 0, none⟩ = some (.string ⟨ke.toArray⟩) := hP.cell 0 _ rfl
      have p3 : wp.cell? ⟨p, 3, none⟩ = some (.string ⟨ve.toArray⟩) := hP.cell 3 _ rfl
      have t20 : wp.cell? ⟨t, 2, none⟩ = some (.int .i64 (z : Int)) := t2
      have hG := HT.out.grown K HPC.out.1 hx (w6 := wp.drew) (hKw.drewN 1) (K.still hln ((Kept.refl _ wp).drewN 1)) (fun k hk => (hgn k hk).imp (fun h => h) (fun h => by have := HK4.out.size; have := HKL.out.size; omega))
      rw [hsz] at hG
      have HG : Hid (TbAt At (wp.drew.setCell ⟨t, 2, none⟩ (.int .i64 (zz : Int))) B t (insM T (ke, se, de, ve)) (blocksT t g Xn) ∧ Grows w (blocksT t g Xl) (blocksT t g Xn) ∧ Kept (blocksT t g Xl) w (wp.drew.setCell ⟨t, 2, none⟩ (.int .i64 (zz : Int)))) := by
        refine ⟨⟨l, g, n, cap, _, hs, Xn, hG, rfl⟩, ?_, ?_⟩
        · rintro k (rfl | rfl | hk)
          · exact .inl (.inl rfl)
          · exact .inl (.inr (.inl rfl))
          · rcases hgn k hk with h1 | h1
            · exact .inl (.inr (.inr h1))
            · right; have := HK4.out.size; have := HKL.out.size; omega
        · exact ((hKw.drewN 1).mono (Y := blocksT t g Xl) (fun k hk => .inr (.inr hk))).setCell (p := ⟨t, 2, none⟩) (.inl rfl) _
      clear hO hP hKw hrr hsb hsz hzz hG hln hgn hkn HKL HKW HKA HW4 HSX HS HPU HLN HWR r0 r1 r2 r3 r4 u1 u2 u3
      go_upto_region 7 with (fail)
      go_still_tail 15, (by kernel_rfl)
      change wpList _ _ _ _ _ wp.drew
      go_wp2
      go_ret
      exact ⟨by rw [HPC.out.1]; rfl, by rw [HPC.out.2]; exact ⟨_, HG.out⟩⟩

end Go.Proofs.Ytlmlldcpllagbaa
