/- The law SkipPlays, walked over the contract of the program's list. -/
import Derived.Test.YtiglkadejbjdcaaEx9
import Derived.Test.YtiglkadejbjdcaaTxt9
import Derived.Test.YtiglkadejbjdcaaOpenP
import Derived.Test.YtiglkadejbjdcaaRSp
import Derived.Test.YtiglkadejbjdcaaOrd
namespace Go.Proofs.Ytiglkadejbjdcaa
open Go.RowKit Go.Proofs Go.Proofs.Pk
set_option maxRecDepth 10000
attribute [local simp] mk_get wrap64_u8 mk_extract ByteArray.mk_append_mk get_1k

/-- The program's list and the reference's, of the same entries. -/
structure Du9 (At : SkOf) (w1 wr : World) (l q : Nat) (E F : List Ent) (X : Nat → Prop) (vL : Value) : Prop where
  sk : At wr w1.heap.size l E X
  rf : RfAt wr w1.heap.size q vL F
  apart : ∀ k, X k → k ≠ q ∧ vL.ownBlock ≠ some k
  below : Below w1.heap.size w1 wr
theorem Du9.kept {At : SkOf} (K : SkK At) {w1 wr w' : World} {l q : Nat} {E F : List Ent} {X Y : Nat → Prop} {vL : Value} (h : Du9 At w1 wr l q E F X vL) (hk : Kept Y wr w') (hY : ∀ k, Y k → w1.heap.size ≤ k ∧ ¬X k ∧ k ≠ q ∧ vL.ownBlock ≠ some k) : Du9 At w1 w' l q E F X vL :=
  ⟨K.kept h.sk hk (fun k hx hy => (hY k hy).2.1 hx), h.rf.kept hk (fun k hk2 hy => by rcases hk2 with rfl | hk2; exact (hY _ hy).2.2.1 rfl; exact (hY k hy).2.2.2 hk2), h.apart, h.below.trans (hk.below h.below.size (fun k hy => (hY k hy).1))⟩
theorem Du9.still {At : SkOf} (K : SkK At) {w1 wr w' : World} {l q : Nat} {E F : List Ent} {X : Nat → Prop} {vL : Value} (h : Du9 At w1 wr l q E F X vL) (hk : Kept (fun _ => False) wr w') : Du9 At w1 w' l q E F X vL := h.kept K hk (fun _ hf => hf.elim)
/-- The program's Put. -/
theorem Du9.put {At : SkOf} (K : SkK At) {w1 wr : World} {l q : Nat} {E F : List Ent} {X : Nat → Prop} {vL : Value} (h : Du9 At w1 wr l q E F X vL) (hl : E.length ≤ 1000) (k v : Txt) (ht : Int) (hf : FitH ht) :
    Calls Try.prog 9 #[.pointer (some ⟨l, 0, none⟩), .string ⟨k.toArray⟩, .string ⟨v.toArray⟩, .int .i64 ht] wr fun e w' => e = .returned (.bool (!hasE E k)) ∧ Kept X wr w' ∧ ∃ X', Du9 At w1 w' l q (putE E k v ht) F X' vL := by
  refine (K.put h.sk hl k v ht hf).mono ?_
  rintro e w' ⟨rfl, X', hs, hg, hk⟩
  refine ⟨rfl, hk, X', hs, h.rf.kept hk (fun b hb hx => ?_), fun b hx => ?_, h.below.trans (hk.below h.below.size (fun k hx => (K.lt h.sk k hx).1))⟩
  · have := h.apart b hx
    rcases hb with rfl | hb
    · exact this.1 rfl
    · exact this.2 hb
  · rcases hg b hx with h1 | h1
    · exact h.apart b h1
    · exact ⟨fun e => by subst e; have := h.rf.obj.lt; omega, fun e => by have := (h.rf.row.lt b e).2; omega⟩
/-- The reference's Put. -/
theorem Du9.putR {At : SkOf} (K : SkK At) {w1 wr : World} {l q : Nat} {E F : List Ent} {X : Nat → Prop} {vL : Value} (h : Du9 At w1 wr l q E F X vL) (hl : F.length ≤ 1000) (k v : Txt) (ht : Int) :
    Calls Try.prog 10 #[.pointer (some ⟨q, 0, none⟩), .string ⟨k.toArray⟩, .string ⟨v.toArray⟩, .int .i64 ht] wr fun e w' => e = .returned (.bool (!hasE F k)) ∧ Kept (fun b => b = q ∨ vL.ownBlock = some b) wr w' ∧ ∃ vL', Du9 At w1 w' l q E (putE F k v ht) X vL' := by
  refine (rPut wr w1.heap.size q vL F k v ht h.rf h.below.size hl).mono ?_
  rintro e w' ⟨rfl, vL', hr, ho, hk⟩
  refine ⟨rfl, hk, vL', K.kept h.sk hk (fun b hx hb => ?_), hr, fun b hx => ⟨(h.apart b hx).1, fun e => ?_⟩, h.below.trans (hk.below h.below.size (fun b hb => ?_))⟩
  · rcases hb with rfl | hb
    · exact (h.apart _ hx).1 rfl
    · exact (h.apart b hx).2 hb
  · rcases ho b e with h1 | h1
    · exact (h.apart b hx).2 h1
    · have := (K.lt h.sk b hx).2; omega
  · rcases hb with rfl | hb
    · exact h.rf.base
    · exact (h.rf.row.lt b hb).1
theorem own_strs9 {w : World} {B n : Nat} {v : Value} {T : List (List UInt8)} (h : w.ownsRow B 9 1 v n (T.map strV)) (hn : n = T.length) : ∃ ad cap, v = .slice ad n cap ∧ Strs w ad n T ∧ ∀ b, v.ownBlock = some b → B ≤ b ∧ b < w.heap.size := by
  subst hn
  have hlt := h.lt
  rcases h.2 with ⟨rfl, h0⟩ | ⟨g, cap, cur, rfl, _, h2, _⟩
  · have : T = [] := by simpa using h0
    subst this
    exact ⟨none, 0, rfl, ⟨rfl, .inl rfl⟩, hlt⟩
  · refine ⟨_, cap, rfl, ⟨rfl, .inr ⟨g, 0, rfl, (Array.getElem?_eq_some_iff.1 h2).1, fun i hi => ?_⟩⟩, hlt⟩
    have := h.cells rfl i (strV T[i]) (by simp [hi])
    rw [show ((⟨g, 0, none⟩ : Addr).add i) = ⟨g, 0 + i, none⟩ from by unfold Addr.add; split <;> simp_all] at this
    simpa [strV] using this

set_option maxHeartbeats 8000000 in
theorem plays9 {At : SkOf} (K : SkK At) (ad : Option Addr) (len cap : Nat) (ps : List PutW) (key : List UInt8) (hh : Int) (w : World) (h0 : PutsW w ad len ps) (hfh : FitH hh) :
    Calls Try.prog 3 #[.slice ad len cap, .string ⟨key.toArray⟩, .int .i64 hh] w fun e w' => e = .returned (.bool true) ∧ Below w.heap.size w w' := by
  have HE := Lib.hid (examples9 K w)
  have HA := Lib.hid (And.intro h0 hfh)
  clear h0 hfh
  go_enter Try.func3, Try.ntmps3
  go_wp2_with fail
  refine HE.out.mono ?_
  clear HE
  rintro e w1 ⟨rfl, hb1⟩
  have HB1 := Lib.hid hb1
  have HN := Lib.hid (K.new w1 w1.heap.size (Nat.le_refl _))
  clear hb1
  go_wp2_with fail
  refine HN.out.mono ?_
  clear HN
  rintro e w2 ⟨l, X2, rfl, h2, hx2, hk2⟩
  have hN3 := Holds.new w2 [.slice none 0 0] 29
  have hk3 : Kept (fun _ => False) w2 (w2.alloc (.cells #[.slice none 0 0] 29)) := (Kept.refl _ _).alloc _
  obtain ⟨q, hq⟩ : ∃ q, Hid (q = w2.heap.size) := ⟨_, rfl⟩
  have hlt2 : ∀ k, X2 k → k < w2.heap.size := fun k hk => (K.lt h2 k hk).2
  have hD : ∀ W, W = w2.alloc (.cells #[.slice none 0 0] 29) → Du9 At w1 W l q [] [] X2 (.slice none 0 0) := fun W hW => by
    subst hW
    rw [hq.out]
    exact ⟨K.still h2 hk3, ⟨hN3, World.ownsRow_nil _ _ _ _, hk2.size, fun e => by cases e⟩, fun k hk => ⟨fun e => by have := hlt2 k hk; omega, fun e => by cases e⟩, hk2.below (Nat.le_refl _) (fun _ hf => hf.elim) |>.trans (hk3.below hk2.size (fun _ hf => hf.elim))⟩
  have HD := Lib.hid (hD _ rfl)
  clear h2 hx2 hN3 hk3 hlt2 hD
  go_wp2
  rw [← hq.out]
  generalize w2.alloc (.cells #[.slice none 0 0] 29) = wq at HD ⊢
  have HI : Hid (∃ E X vL, Du9 At w1 wq l q E E X vL ∧ E.length ≤ 0) := ⟨[], X2, _, HD.out, Nat.le_refl _⟩
  clear HD hk2 hq
  go_loopw [10] (fun i wr => ∃ j : Nat, j ≤ 150 ∧ i = .int .i64 (j : Int) ∧ Hid (∃ E X vL, Du9 At w1 wr l q E E X vL ∧ E.length ≤ j)) (fun i _ => 150 - (intOf i).toNat)
  case atStart => exact ⟨0, by omega, rfl, HI⟩
  case round =>
    obtain ⟨j, hj, rfl, hI⟩ := hrel
    clear HI
    obtain ⟨E, X, vL, hDu, hEl⟩ := hI.out
    have hbw : Below w.heap.size w wr := HB1.out.trans (hDu.below.mono HB1.out.size)
    by_cases hlt : j < len ∧ j < 150
    · obtain ⟨g1, g2⟩ := hlt
      obtain ⟨bp, op, rfl, hbp, hjl, hfu, d0, d1, d2⟩ := putsW_at HA.out.1 hbw j g1
      obtain ⟨pk, hpk⟩ : ∃ pk, pk = (ps[j]).key := ⟨_, rfl⟩
      obtain ⟨pv, hpv⟩ : ∃ pv, pv = (ps[j]).value := ⟨_, rfl⟩
      obtain ⟨ph, hph⟩ : ∃ ph, ph = (ps[j]).h := ⟨_, rfl⟩
      rw [← hpk] at d0
      rw [← hpv] at d1
      rw [← hph] at d2 hfu
      have k1 : (j : Int) < (len : Int) := by omega
      have k2 : (j : Int) < 150 := by omega
      have k0 : (0 : Int) ≤ (j : Int) := by omega
      have hwj : IntKind.i64.wrap ((j : Int) + 1) = (j : Int) + 1 := IntWalk.i64_in _ (by omega)
      have hNP := Holds.new wr [.string ⟨pk.toArray⟩, .string ⟨pv.toArray⟩, .int .i64 ph] 31
      have hkP : Kept (fun _ => False) wr (wr.alloc (.cells #[.string ⟨pk.toArray⟩, .string ⟨pv.toArray⟩, .int .i64 ph] 31)) := (Kept.refl _ _).alloc _
      have hDP := hDu.still K hkP
      obtain ⟨pb, hpb⟩ : ∃ pb, Hid (pb = wr.heap.size) := ⟨_, rfl⟩
      have hpo : Hid (w1.heap.size ≤ pb ∧ ¬X pb ∧ pb ≠ q ∧ vL.ownBlock ≠ some pb) := by
        have e := hpb.out
        refine ⟨by have := hDu.below.size; omega, fun hx => by have := (K.lt hDu.sk pb hx).2; omega, fun e2 => by have := hDu.rf.obj.lt; omega, fun e2 => by have := (hDu.rf.row.lt pb e2).2; omega⟩
      have HF := Lib.hid (And.intro hfu hEl)
      have HBW := Lib.hid hbw
      clear hDu hI hEl hpk hpv hph hbw hbp hjl hfu g1 g2
      go_upto_region 10 with (fail)
      rw [← hpb.out] at hNP ⊢
      change Holds (wr.alloc (.cells #[.string ⟨pk.toArray⟩, .string ⟨pv.toArray⟩, .int .i64 ph] 31)) _ _ _ at hNP
      generalize wr.alloc (.cells #[.string ⟨pk.toArray⟩, .string ⟨pv.toArray⟩, .int .i64 ph] 31) = w3 at hNP hkP hDP ⊢
      clear d0 d1 d2
      have HPu := Lib.hid ((hDP.still K ((Kept.refl _ w3).drewN 1)).put K (by have := HF.out.2; omega) pk pv ph HF.out.1)
      refine wp_region_until (fun w' => w'.cell? ⟨pb, 0, none⟩ = some (.string ⟨pk.toArray⟩) ∧ w'.cell? ⟨pb, 1, none⟩ = some (.string ⟨pv.toArray⟩) ∧ w'.cell? ⟨pb, 2, none⟩ = some (.int .i64 ph)) 17 (by kernel_rfl) ?_
      have hS0 : (fun w' => w'.cell? ⟨pb, 0, none⟩ = some (.string ⟨pk.toArray⟩) ∧ w'.cell? ⟨pb, 1, none⟩ = some (.string ⟨pv.toArray⟩) ∧ w'.cell? ⟨pb, 2, none⟩ = some (.int .i64 ph)) w3.drew := ⟨hNP.cell 0 _ rfl, hNP.cell 1 _ rfl, hNP.cell 2 _ rfl⟩
      refine wpAnyU_take (i := 0) (v := (.pointer (some ⟨l, 0, none⟩))) (some 48) rfl rfl (by kernel_rfl) (by kernel_rfl) (by kernel_rfl) (by kernel_rfl) (fun _ _ _ h => h) hS0 (yields_of (by kernel_rfl) (fun w ⟨h0, h1, h2⟩ => by go_simp)) ?_
      refine wpAnyU_take (i := 1) (v := (.pointer (some ⟨pb, 0, none⟩))) (some 49) rfl rfl (by kernel_rfl) (by kernel_rfl) (by kernel_rfl) (by kernel_rfl) (fun _ _ _ h => h) hS0 (yields_of (by kernel_rfl) (fun w ⟨h0, h1, h2⟩ => by go_simp)) ?_
      refine wpAnyU_take (i := 2) (v := (.string ⟨pk.toArray⟩)) (some 50) rfl rfl (by kernel_rfl) (by kernel_rfl) (by kernel_rfl) (by kernel_rfl) (fun _ _ _ h => h) hS0 (yields_of (by kernel_rfl) (fun w ⟨h0, h1, h2⟩ => by go_simp)) ?_
      refine wpAnyU_take (i := 3) (v := (.pointer (some ⟨pb, 1, none⟩))) (some 51) rfl rfl (by kernel_rfl) (by kernel_rfl) (by kernel_rfl) (by kernel_rfl) (fun _ _ _ h => h) hS0 (yields_of (by kernel_rfl) (fun w ⟨h0, h1, h2⟩ => by go_simp)) ?_
      refine wpAnyU_take (i := 4) (v := (.string ⟨pv.toArray⟩)) (some 52) rfl rfl (by kernel_rfl) (by kernel_rfl) (by kernel_rfl) (by kernel_rfl) (fun _ _ _ h => h) hS0 (yields_of (by kernel_rfl) (fun w ⟨h0, h1, h2⟩ => by go_simp)) ?_
      refine wpAnyU_take (i := 5) (v := (.pointer (some ⟨pb, 2, none⟩))) (some 53) rfl rfl (by kernel_rfl) (by kernel_rfl) (by kernel_rfl) (by kernel_rfl) (fun _ _ _ h => h) hS0 (yields_of (by kernel_rfl) (fun w ⟨h0, h1, h2⟩ => by go_simp)) ?_
      refine wpAnyU_take (i := 6) (v := (.int .i64 ph)) (some 54) rfl rfl (by kernel_rfl) (by kernel_rfl) (by kernel_rfl) (by kernel_rfl) (fun _ _ _ h => h) hS0 (yields_of (by kernel_rfl) (fun w ⟨h0, h1, h2⟩ => by go_simp)) ?_
      refine wpAnyU_take (i := 8) (v := (.pointer (some ⟨q, 0, none⟩))) (some 56) rfl rfl (by kernel_rfl) (by kernel_rfl) (by kernel_rfl) (by kernel_rfl) (fun _ _ _ h => h) hS0 (yields_of (by kernel_rfl) (fun w ⟨h0, h1, h2⟩ => by go_simp)) ?_
      refine wpAnyU_take (i := 9) (v := (.pointer (some ⟨pb, 0, none⟩))) (some 57) rfl rfl (by kernel_rfl) (by kernel_rfl) (by kernel_rfl) (by kernel_rfl) (fun _ _ _ h => h) hS0 (yields_of (by kernel_rfl) (fun w ⟨h0, h1, h2⟩ => by go_simp)) ?_
      refine wpAnyU_take (i := 10) (v := (.string ⟨pk.toArray⟩)) (some 58) rfl rfl (by kernel_rfl) (by kernel_rfl) (by kernel_rfl) (by kernel_rfl) (fun _ _ _ h => h) hS0 (yields_of (by kernel_rfl) (fun w ⟨h0, h1, h2⟩ => by go_simp)) ?_
      refine wpAnyU_take (i := 11) (v := (.pointer (some ⟨pb, 1, none⟩))) (some 59) rfl rfl (by kernel_rfl) (by kernel_rfl) (by kernel_rfl) (by kernel_rfl) (fun _ _ _ h => h) hS0 (yields_of (by kernel_rfl) (fun w ⟨h0, h1, h2⟩ => by go_simp)) ?_
      refine wpAnyU_take (i := 12) (v := (.string ⟨pv.toArray⟩)) (some 60) rfl rfl (by kernel_rfl) (by kernel_rfl) (by kernel_rfl) (by kernel_rfl) (fun _ _ _ h => h) hS0 (yields_of (by kernel_rfl) (fun w ⟨h0, h1, h2⟩ => by go_simp)) ?_
      refine wpAnyU_take (i := 13) (v := (.pointer (some ⟨pb, 2, none⟩))) (some 61) rfl rfl (by kernel_rfl) (by kernel_rfl) (by kernel_rfl) (by kernel_rfl) (fun _ _ _ h => h) hS0 (yields_of (by kernel_rfl) (fun w ⟨h0, h1, h2⟩ => by go_simp)) ?_
      refine wpAnyU_take (i := 14) (v := (.int .i64 ph)) (some 62) rfl rfl (by kernel_rfl) (by kernel_rfl) (by kernel_rfl) (by kernel_rfl) (fun _ _ _ h => h) hS0 (yields_of (by kernel_rfl) (fun w ⟨h0, h1, h2⟩ => by go_simp)) ?_
      refine wpAnyU_call (i := 7) (f := 9) (args := #[.pointer (some ⟨l, 0, none⟩), .string ⟨pk.toArray⟩, .string ⟨pv.toArray⟩, .int .i64 ph]) (some 55) rfl rfl (by kernel_rfl) (by kernel_rfl) (by kernel_rfl) ?_
      refine HPu.out.mono ?_
      clear HPu
      rintro e w4 ⟨rfl, hk4, X4, h4⟩
      have hN4 : Holds w4 pb [.string ⟨pk.toArray⟩, .string ⟨pv.toArray⟩, .int .i64 ph] 31 := hNP.drew.of_block (hk4.block pb hNP.lt hpo.out.2.1)
      refine ⟨_, rfl, fun _ => ⟨hN4.cell 0 _ rfl, hN4.cell 1 _ rfl, hN4.cell 2 _ rfl⟩, ?_⟩
      have HPr := Lib.hid (h4.putR K (by have := HF.out.2; omega) pk pv ph)
      refine wpAnyU_call (i := 15) (f := 10) (args := #[.pointer (some ⟨q, 0, none⟩), .string ⟨pk.toArray⟩, .string ⟨pv.toArray⟩, .int .i64 ph]) (some 63) rfl rfl (by kernel_rfl) (by kernel_rfl) (by kernel_rfl) ?_
      refine HPr.out.mono ?_
      clear HPr
      rintro e w5 ⟨rfl, hk5, vL5, h5⟩
      have hN5 : Holds w5 pb [.string ⟨pk.toArray⟩, .string ⟨pv.toArray⟩, .int .i64 ph] 31 := hN4.of_block (hk5.block pb hN4.lt (fun h => h.elim hpo.out.2.2.1 hpo.out.2.2.2))
      refine ⟨_, rfl, fun _ => ⟨hN5.cell 0 _ rfl, hN5.cell 1 _ rfl, hN5.cell 2 _ rfl⟩, ?_⟩
      refine wpAnyU_run (i := 16) (v := .bool false) (w' := w5) (some 64) rfl rfl (by kernel_rfl) (by kernel_rfl) (by go_simp) (fun _ => ⟨hN5.cell 0 _ rfl, hN5.cell 1 _ rfl, hN5.cell 2 _ rfl⟩) ?_
      refine wpAnyU_done (by kernel_rfl) ?_ _
      simp only [put_lit, List.set_cons_succ, List.set_cons_zero]
      clear hS0
      obtain ⟨E1, hE1⟩ : ∃ E1, E1 = putE E pk pv ph := ⟨_, rfl⟩
      rw [← hE1] at h5
      have hE1l : E1.length ≤ j + 1 := by
        rw [hE1, putE_length]
        have := HF.out.2
        split <;> omega
      have HL1 : Hid (E1.length ≤ 1000 ∧ E1.length ≤ 1001 ∧ E1.length ≤ j + 1) := ⟨by omega, by omega, hE1l⟩
      have HDu := Lib.hid (fun (W : World) (hk : Kept (fun _ => False) w5 W) => h5.still K hk)
      have HPK : Hid (∀ W : World, Kept (fun _ => False) w5 W → W.cell? ⟨pb, 0, none⟩ = some (.string ⟨pk.toArray⟩)) := fun W hk => by rw [hk.cell (p := ⟨pb, 0, none⟩) hN5.lt (fun hf => hf)]; exact hN5.cell 0 _ rfl
      have HX4 : Hid (∀ k, X4 k → w1.heap.size ≤ k ∧ k < w5.heap.size) := fun k hk => K.lt h5.sk k hk
      have HR5 := Lib.hid h5.rf
      have HW15 := Lib.hid h5.below
      have hpl := Lib.hid hN5.lt
      clear h4 hk4 hN4 hk5 h5 hN5 hE1 hE1l hDP hkP hNP hpb hpo HF
      have HI5 : Hid (Kept (fun _ => False) w5 w5) := Kept.refl _ _
      go_wp2
      rename World => w5'
      go_loopw [12] (fun i wr => ∃ t : Nat, t ≤ 2 ∧ i = .int .i64 (t : Int) ∧ Hid (Kept (fun _ => False) w5' wr)) (fun i _ => 2 - (intOf i).toNat)
      case atStart => exact ⟨0, by omega, rfl, HI5⟩
      case round =>
        obtain ⟨t, ht2, rfl, hIk⟩ := hrel
        have hcp := HPK.out wr hIk.out
        by_cases ht : t < 2
        · have ht01 : t = 0 ∨ t = 1 := by omega
          clear ht2 ht
          rcases ht01 with rfl | rfl
          · have HKt := Lib.hid hIk.out
            have HC1 := Lib.hid (K.get (HDu.out wr HKt.out).sk HL1.out.2.1 key)
            go_wp2_with fail
            refine HC1.out.mono ?_
            clear HC1 hcp
            rintro e x1 ⟨rfl, hx1⟩
            have HK1 := Lib.hid (HKt.out.trans hx1 (fun _ hf => hf.elim))
            clear hx1
            have HC2 := Lib.hid (rGet x1 w1.heap.size q vL5 E1 key (HDu.out x1 HK1.out).rf HL1.out.1)
            go_wp2_with fail
            refine HC2.out.mono ?_
            clear HC2
            rintro e x2 ⟨rfl, hx2⟩
            have HK2 := Lib.hid (HK1.out.trans hx2 (fun _ hf => hf.elim))
            clear hx2
            have HC3 := Lib.hid (K.seek (HDu.out x2 HK2.out).sk HL1.out.2.1 key)
            go_wp2_with fail
            refine HC3.out.mono ?_
            clear HC3
            rintro e x3 ⟨rfl, hx3⟩
            have HK3 := Lib.hid (HK2.out.trans hx3 (fun _ hf => hf.elim))
            clear hx3
            have HC4 := Lib.hid (rSeek x3 w1.heap.size q vL5 E1 key (HDu.out x3 HK3.out).rf HL1.out.1)
            go_wp2_with fail
            refine HC4.out.mono ?_
            clear HC4
            rintro e x4 ⟨rfl, hx4⟩
            have HK4 := Lib.hid (HK3.out.trans hx4 (fun _ hf => hf.elim))
            clear hx4
            have HC5 := Lib.hid (K.height (HDu.out x4 HK4.out).sk HL1.out.2.1 key)
            generalize getE E1 key = ge
            generalize seekE E1 key = se
            go_wp2_with fail
            refine HC5.out.mono ?_
            clear HC5
            rintro e x5 ⟨rfl, hx5⟩
            have HK5 := Lib.hid (HK4.out.trans hx5 (fun _ hf => hf.elim))
            clear hx5
            have HC6 := Lib.hid (rHeight x5 w1.heap.size q vL5 E1 key (HDu.out x5 HK5.out).rf HL1.out.1)
            generalize heightE E1 key = he at HC6 ⊢
            go_wp2_with fail
            refine HC6.out.mono ?_
            clear HC6
            rintro e x6 ⟨rfl, hx6⟩
            have HK6 := Lib.hid (HK5.out.trans hx6 (fun _ hf => hf.elim))
            clear hx6
            go_wp2
            go_roundw
            case rel => exact ⟨1, by omega, by first | rfl | go_num, HK6⟩
            case measure => simp [intOf]
          · have HKt := Lib.hid hIk.out
            have HC1 := Lib.hid (K.get (HDu.out wr HKt.out).sk HL1.out.2.1 pk)
            go_wp2_with fail
            refine HC1.out.mono ?_
            clear HC1 hcp
            rintro e x1 ⟨rfl, hx1⟩
            have HK1 := Lib.hid (HKt.out.trans hx1 (fun _ hf => hf.elim))
            clear hx1
            have HC2 := Lib.hid (rGet x1 w1.heap.size q vL5 E1 pk (HDu.out x1 HK1.out).rf HL1.out.1)
            go_wp2_with fail
            refine HC2.out.mono ?_
            clear HC2
            rintro e x2 ⟨rfl, hx2⟩
            have HK2 := Lib.hid (HK1.out.trans hx2 (fun _ hf => hf.elim))
            clear hx2
            have HC3 := Lib.hid (K.seek (HDu.out x2 HK2.out).sk HL1.out.2.1 pk)
            go_wp2_with fail
            refine HC3.out.mono ?_
            clear HC3
            rintro e x3 ⟨rfl, hx3⟩
            have HK3 := Lib.hid (HK2.out.trans hx3 (fun _ hf => hf.elim))
            clear hx3
            have HC4 := Lib.hid (rSeek x3 w1.heap.size q vL5 E1 pk (HDu.out x3 HK3.out).rf HL1.out.1)
            go_wp2_with fail
            refine HC4.out.mono ?_
            clear HC4
            rintro e x4 ⟨rfl, hx4⟩
            have HK4 := Lib.hid (HK3.out.trans hx4 (fun _ hf => hf.elim))
            clear hx4
            have HC5 := Lib.hid (K.height (HDu.out x4 HK4.out).sk HL1.out.2.1 pk)
            generalize getE E1 pk = ge
            generalize seekE E1 pk = se
            go_wp2_with fail
            refine HC5.out.mono ?_
            clear HC5
            rintro e x5 ⟨rfl, hx5⟩
            have HK5 := Lib.hid (HK4.out.trans hx5 (fun _ hf => hf.elim))
            clear hx5
            have HC6 := Lib.hid (rHeight x5 w1.heap.size q vL5 E1 pk (HDu.out x5 HK5.out).rf HL1.out.1)
            generalize heightE E1 pk = he at HC6 ⊢
            go_wp2_with fail
            refine HC6.out.mono ?_
            clear HC6
            rintro e x6 ⟨rfl, hx6⟩
            have HK6 := Lib.hid (HK5.out.trans hx6 (fun _ hf => hf.elim))
            clear hx6
            go_wp2
            go_roundw
            case rel => exact ⟨2, by omega, by first | rfl | go_num, HK6⟩
            case measure => simp [intOf]
        · have ht3 : t = 2 := by omega
          subst ht3
          clear ht2 ht hcp
          have HLa := Lib.hid (K.lane (HDu.out wr hIk.out).sk HL1.out.2.1 hh HA.out.2)
          go_wp2_with fail
          refine HLa.out.mono ?_
          clear HLa
          rintro e w6 ⟨vl, rfl, ho6, hk6⟩
          have hk56 := hIk.out.trans hk6 (fun _ hf => hf.elim)
          obtain ⟨adl, capl, rfl, hst6, hob6⟩ := own_strs9 ho6 (by rw [])
          have HRl := Lib.hid (rLane w6 w1.heap.size q vL5 E1 hh (HDu.out w6 hk56).rf HL1.out.1)
          have H6 := Lib.hid (And.intro ho6 (And.intro hst6 (And.intro hob6 hk56)))
          clear ho6 hst6 hob6 hk56 hk6
          obtain ⟨T, hT⟩ : ∃ T, T = laneE E1 hh := ⟨_, rfl⟩
          rw [← hT] at HRl H6 ⊢
          have hTl : (T.length : Int) ≤ 140737488351232 := by
            have h1 : T.length ≤ E1.length := by rw [hT]; unfold laneE; rw [List.length_map]; exact List.length_filter_le _ _
            have := HL1.out.1
            omega
          clear hT
          go_wp2_with fail
          refine HRl.out.mono ?_
          clear HRl
          rintro e w7 ⟨vr, rfl, ho7, hk7⟩
          obtain ⟨adr, capr, rfl, hst7, -⟩ := own_strs9 ho7 (by rw [])
          have hst67 := H6.out.2.1.below (hk7.below (Nat.le_refl _) (fun _ hf => hf.elim))
          have hTx := texts9_any adl adr T.length capl T.length capr T T w7 hst67 hst7 hTl
          rw [show decide (T = T) = true from by simp] at hTx
          have HTx := Lib.hid hTx
          have hk57 := H6.out.2.2.2.trans hk7 (fun _ hf => hf.elim)
          have HK7 := Lib.hid (And.intro hk57 hk7)
          clear ho7 hst7 hst67 hTx hk57 hk7
          go_wp2_with fail
          refine HTx.out.mono ?_
          clear HTx
          rintro e w8 ⟨rfl, hb8⟩
          have hk78 := Kept.of_below (fun _ => False) hb8
          have hk58 := HK7.out.1.trans hk78 (fun _ hf => hf.elim)
          have hk68 := HK7.out.2.trans hk78 (fun _ hf => hf.elim)
          have hmod : ((j : Int)).tmod 13 = ((j % 13 : Nat) : Int) := by rw [Int.tmod_eq_emod_of_nonneg (by omega)]; rfl
          have hmw : IntKind.i64.wrap ((j % 13 : Nat) : Int) = ((j % 13 : Nat) : Int) := IntWalk.i64_in _ (by omega)
          have hfm : FitH ((j % 13 : Nat) : Int) := by unfold FitH; omega
          have HLb := Lib.hid (K.lane (HDu.out w8 hk58).sk HL1.out.2.1 ((j % 13 : Nat) : Int) hfm)
          have HK8 := Lib.hid (And.intro hk58 hk68)
          have HRb := Lib.hid (fun (W : World) (hk : Kept (fun _ => False) w5' W) => rLane W w1.heap.size q vL5 E1 ((j % 13 : Nat) : Int) (HDu.out W hk).rf HL1.out.1)
          obtain ⟨T2, hT2⟩ : ∃ T2, T2 = laneE E1 ((j % 13 : Nat) : Int) := ⟨_, rfl⟩
          rw [← hT2] at HLb HRb
          have hTl2 : (T2.length : Int) ≤ 140737488351232 := by
            have h1 : T2.length ≤ E1.length := by rw [hT2]; unfold laneE; rw [List.length_map]; exact List.length_filter_le _ _
            have := HL1.out.1
            omega
          clear hb8 hk78 hk58 hk68 hfm hT2 HK7
          generalize j % 13 = jm at hmod hmw HLb HRb
          go_wp2_with fail
          refine HLb.out.mono ?_
          clear HLb
          rintro e w9 ⟨vb, rfl, ho9, hk9⟩
          have hk59 := HK8.out.1.trans hk9 (fun _ hf => hf.elim)
          have hk69 := HK8.out.2.trans hk9 (fun _ hf => hf.elim)
          obtain ⟨adb, capb, rfl, hst9, -⟩ := own_strs9 ho9 (by rw [])
          have HRb9 := Lib.hid (HRb.out w9 hk59)
          have H9 := Lib.hid (And.intro hst9 (And.intro hk59 hk69))
          clear ho9 hst9 hk59 hk69 hk9 HRb HK8
          go_wp2_with fail
          refine HRb9.out.mono ?_
          clear HRb9
          rintro e w10 ⟨vc, rfl, ho10, hk10⟩
          obtain ⟨adc, capc, rfl, hst10, -⟩ := own_strs9 ho10 (by rw [])
          have hst910 := H9.out.1.below (hk10.below (Nat.le_refl _) (fun _ hf => hf.elim))
          have hTy := texts9_any adb adc T2.length capb T2.length capc T2 T2 w10 hst910 hst10 hTl2
          rw [show decide (T2 = T2) = true from by simp] at hTy
          have HTy := Lib.hid hTy
          have hk510 := H9.out.2.1.trans hk10 (fun _ hf => hf.elim)
          have hk610 := H9.out.2.2.trans hk10 (fun _ hf => hf.elim)
          have HK10 := Lib.hid (And.intro hk510 hk610)
          clear ho10 hst10 hst910 hTy hk510 hk610 hk10 H9
          go_wp2_with fail
          refine HTy.out.mono ?_
          clear HTy
          rintro e w11 ⟨rfl, hb11⟩
          have hk1011 := Kept.of_below (fun _ => False) hb11
          have hk511 := HK10.out.1.trans hk1011 (fun _ hf => hf.elim)
          have hk611 := HK10.out.2.trans hk1011 (fun _ hf => hf.elim)
          have hD11 := HDu.out w11 hk511
          obtain ⟨adL, capL, hvL, _⟩ := hD11.rf.form
          have cq := hD11.rf.obj.cell 0 _ rfl
          rw [hvL] at cq
          have HLe := Lib.hid (K.len ((hD11.still K ((Kept.refl _ w11).drewN 1)).sk) HL1.out.2.1)
          have hql := hD11.rf.obj.lt
          have HK11 := Lib.hid (And.intro hk511 hk611)
          obtain ⟨N1, hN1⟩ : ∃ N1, Hid (N1 = E1.length) := ⟨_, rfl⟩
          rw [← hN1.out] at cq HLe
          clear hb11 hk1011 hk511 hk611 hD11 HK10 hmod hmw
          go_upto_region 27 with (fail)
          refine wp_region_until (fun w' => w'.cell? ⟨q, 0, none⟩ = some (.slice adL N1 capL)) 16 (by kernel_rfl) ?_
          have hS0 : (fun w' => w'.cell? ⟨q, 0, none⟩ = some (.slice adL N1 capL)) w11.drew := cq
          refine wpAnyU_take (i := 0) (v := (.bool true)) (some 149) rfl rfl (by kernel_rfl) (by kernel_rfl) (by kernel_rfl) (by kernel_rfl) (fun _ _ _ h => h) hS0 (yields_of (by kernel_rfl) (fun w h0 => by go_simp)) ?_
          refine wpAnyU_take (i := 1) (v := (.bool false)) (some 150) rfl rfl (by kernel_rfl) (by kernel_rfl) (by kernel_rfl) (by kernel_rfl) (fun _ _ _ h => h) hS0 (yields_of (by kernel_rfl) (fun w h0 => by go_simp)) ?_
          refine wpAnyU_take (i := 2) (v := (.bool false)) (some 151) rfl rfl (by kernel_rfl) (by kernel_rfl) (by kernel_rfl) (by kernel_rfl) (fun _ _ _ h => h) hS0 (yields_of (by kernel_rfl) (fun w h0 => by go_simp)) ?_
          refine wpAnyU_take (i := 3) (v := (.bool true)) (some 152) rfl rfl (by kernel_rfl) (by kernel_rfl) (by kernel_rfl) (by kernel_rfl) (fun _ _ _ h => h) hS0 (yields_of (by kernel_rfl) (fun w h0 => by go_simp)) ?_
          refine wpAnyU_take (i := 4) (v := (.bool false)) (some 153) rfl rfl (by kernel_rfl) (by kernel_rfl) (by kernel_rfl) (by kernel_rfl) (fun _ _ _ h => h) hS0 (yields_of (by kernel_rfl) (fun w h0 => by go_simp)) ?_
          refine wpAnyU_take (i := 5) (v := (.bool false)) (some 154) rfl rfl (by kernel_rfl) (by kernel_rfl) (by kernel_rfl) (by kernel_rfl) (fun _ _ _ h => h) hS0 (yields_of (by kernel_rfl) (fun w h0 => by go_simp)) ?_
          refine wpAnyU_take (i := 6) (v := (.bool false)) (some 155) rfl rfl (by kernel_rfl) (by kernel_rfl) (by kernel_rfl) (by kernel_rfl) (fun _ _ _ h => h) hS0 (yields_of (by kernel_rfl) (fun w h0 => by go_simp)) ?_
          refine wpAnyU_take (i := 7) (v := (.pointer (some ⟨l, 0, none⟩))) (some 156) rfl rfl (by kernel_rfl) (by kernel_rfl) (by kernel_rfl) (by kernel_rfl) (fun _ _ _ h => h) hS0 (yields_of (by kernel_rfl) (fun w h0 => by go_simp)) ?_
          refine wpAnyU_take (i := 9) (v := (.pointer (some ⟨q, 0, none⟩))) (some 158) rfl rfl (by kernel_rfl) (by kernel_rfl) (by kernel_rfl) (by kernel_rfl) (fun _ _ _ h => h) hS0 (yields_of (by kernel_rfl) (fun w h0 => by go_simp)) ?_
          refine wpAnyU_take (i := 10) (v := (.pointer (some ⟨q, 0, none⟩))) (some 159) rfl rfl (by kernel_rfl) (by kernel_rfl) (by kernel_rfl) (by kernel_rfl) (fun _ _ _ h => h) hS0 (yields_of (by kernel_rfl) (fun w h0 => by go_simp)) ?_
          refine wpAnyU_take (i := 11) (v := (.pointer (some ⟨q, 0, none⟩))) (some 160) rfl rfl (by kernel_rfl) (by kernel_rfl) (by kernel_rfl) (by kernel_rfl) (fun _ _ _ h => h) hS0 (yields_of (by kernel_rfl) (fun w h0 => by go_simp)) ?_
          refine wpAnyU_take (i := 12) (v := (.slice adL N1 capL)) (some 161) rfl rfl (by kernel_rfl) (by kernel_rfl) (by kernel_rfl) (by kernel_rfl) (fun _ _ _ h => h) hS0 (yields_of (by kernel_rfl) (fun w h0 => by go_simp)) ?_
          refine wpAnyU_take (i := 13) (v := (.int .i64 (N1 : Int))) (some 162) rfl rfl (by kernel_rfl) (by kernel_rfl) (by kernel_rfl) (by kernel_rfl) (fun _ _ _ h => h) hS0 (yields_of (by kernel_rfl) (fun w h0 => by go_simp)) ?_
          refine wpAnyU_call (i := 8) (f := 20) (args := #[.pointer (some ⟨l, 0, none⟩)]) (some 157) rfl rfl (by kernel_rfl) (by kernel_rfl) (by kernel_rfl) ?_
          refine HLe.out.mono ?_
          clear HLe
          rintro e w12 ⟨rfl, hk12⟩
          have hS12 : w12.cell? ⟨q, 0, none⟩ = some (.slice adL N1 capL) := by rw [hk12.cell (p := ⟨q, 0, none⟩) hql (fun hf => hf)]; exact cq
          refine ⟨_, rfl, fun _ => hS12, ?_⟩
          refine wpAnyU_run (i := 14) (v := .bool false) (w' := w12) (some 163) rfl rfl (by kernel_rfl) (by kernel_rfl) (by go_simp) (fun _ => hS12) ?_
          refine wpAnyU_run (i := 15) (v := .bool false) (w' := w12) (some 164) rfl rfl (by kernel_rfl) (by kernel_rfl) (by kernel_rfl) (fun _ => hS12) ?_
          refine wpAnyU_done (by kernel_rfl) ?_ _
          simp only [put_lit, List.set_cons_succ, List.set_cons_zero]
          have hk1112 : Kept (fun _ => False) w11 w12 := ((Kept.refl _ w11).drewN 1).trans hk12 (fun _ hf => hf.elim)
          have hk512 := HK11.out.1.trans hk1112 (fun _ hf => hf.elim)
          have hk612 := HK11.out.2.trans hk1112 (fun _ hf => hf.elim)
          have hown12 := owns_of_block H6.out.1 (w' := w12) fun b hb => hk612.block b (H6.out.1.lt b hb).2 (fun hf => hf)
          have hB5 : w5'.heap.size ≤ wr.heap.size := hIk.out.size
          obtain ⟨Bz, hBz⟩ : ∃ Bz, Bz = wr.heap.size := ⟨_, rfl⟩
          rw [← hBz] at hown12 hB5
          obtain ⟨nT, hnT⟩ : ∃ nT, nT = T.length := ⟨_, rfl⟩
          rw [← hnT] at hown12 ⊢
          have hTn : (nT : Int) ≤ 140737488351232 := by omega
          have HD12 := Lib.hid (HDu.out w12 hk512)
          have HB5 : Hid (w5'.heap.size ≤ Bz) := hB5
          have HIz : Hid (∃ C, w12.ownsRow Bz 9 1 (.slice adl nT capl) nT C ∧ Kept (fun b => (Value.slice adl nT capl).ownBlock = some b) w12 w12) := ⟨_, hown12, Kept.refl _ _⟩
          clear hS0 hk12 hS12 hk1112 hk512 hk612 hown12 hB5 hBz hnT hTl hTl2 cq hql HK11 H6 hN1 hvL hIk HDu HPK
          go_wp2
          rename World => wS
          go_loopw [27] (fun i wz => ∃ m : Nat, m ≤ nT ∧ i = .int .i64 (m : Int) ∧ Hid (∃ C, wz.ownsRow Bz 9 1 (.slice adl nT capl) nT C ∧ Kept (fun b => (Value.slice adl nT capl).ownBlock = some b) wS wz)) (fun i _ => nT - (intOf i).toNat)
          case atStart => exact ⟨0, Nat.zero_le _, rfl, HIz⟩
          case round =>
            obtain ⟨m, hm, rfl, hIz⟩ := hrel
            clear HIz
            obtain ⟨C, hown, hkz⟩ := hIz.out
            have hm0 : (0 : Int) ≤ (m : Int) := by omega
            by_cases hml : m < nT
            · obtain ⟨g, cap', hv, hBg, hgl⟩ := hown.form (by omega)
              injection hv with e1 e2 e3
              subst e1
              have hC : C.length = nT * 1 := hown.1
              have hc := hown.cellAt m (by omega)
              obtain ⟨u, hu⟩ : ∃ u, C[m]? = some u := ⟨C[m]'(by omega), List.getElem?_eq_getElem (by omega)⟩
              rw [hu] at hc
              have hf := hown.frozenAt m
              have hst := (hown.stored m (.string ⟨#[63]⟩)).1
              have hm1 : (m : Int) < (nT : Int) := by omega
              have hwm : IntKind.i64.wrap ((m : Int) + 1) = (m : Int) + 1 := IntWalk.i64_in _ (by omega)
              have HIz2 : Hid (∃ C, (wr.setCell ⟨g, m, none⟩ (.string ⟨#[63]⟩)).ownsRow Bz 9 1 (.slice (some ⟨g, 0, none⟩) nT capl) nT C ∧ Kept (fun b => (Value.slice (some ⟨g, 0, none⟩) nT capl).ownBlock = some b) wS (wr.setCell ⟨g, m, none⟩ (.string ⟨#[63]⟩))) :=
                ⟨_, hst, Kept.setCell (X := fun b => (Value.slice (some ⟨g, 0, none⟩) nT capl).ownBlock = some b) (p := ⟨g, m, none⟩) hkz rfl _⟩
              clear hown hkz hst hIz hu hC e2 e3 hBg hgl
              go_wp2
              go_roundw
              case rel => exact ⟨m + 1, by omega, by first | rfl | go_num, HIz2⟩
              case measure => simp [intOf]; omega
            · have hm1 : ¬(m : Int) < (nT : Int) := by omega
              have hDz : Du9 At w1 wr l q E1 E1 X4 vL5 := HD12.out.kept K hkz (fun k hk => by
                have h1 := (hown.lt k hk).1
                have h2 := HB5.out
                have h3 := HW15.out.size
                refine ⟨by omega, fun hx => by have := (HX4.out k hx).2; omega, fun e => by have := HR5.out.obj.lt; omega, fun e => by have := (HR5.out.row.lt k e).2; omega⟩)
              have HIE : Hid (∃ E X vL, Du9 At w1 wr l q E E X vL ∧ E.length ≤ j + 1) := ⟨E1, X4, vL5, hDz, HL1.out.2.2⟩
              clear hown hkz hIz hDz HD12
              go_wp2
              go_roundw
              case rel => exact ⟨j + 1, by omega, by first | rfl | go_num, HIE⟩
              case measure => simp [intOf]; omega
    · have hex : ¬(j : Int) < (len : Int) ∨ ((j : Int) < (len : Int) ∧ decide ((j : Int) < 150) = false) := by
        rw [decide_eq_false_iff_not]; omega
      have HBW := Lib.hid hbw
      clear hlt hDu hI hbw
      rcases hex with e1 | ⟨e1, e2⟩
      all_goals
        go_wp2
        go_ret
        exact ⟨rfl, HBW.out⟩

end Go.Proofs.Ytiglkadejbjdcaa
