/- The law SkipHeights, walked over the contract of the program's list (printed by genhe9.py). -/
import Derived.Test.YtiglkadejbjdcaaLi9
import Derived.Test.YtiglkadejbjdcaaTxt9
import Derived.Test.YtiglkadejbjdcaaOpenI
import Derived.Deep.Cut
import Derived.Deep.CutRange
namespace Go.Proofs.Ytiglkadejbjdcaa
open Go.RowKit Go.Proofs Go.Proofs.Pk
set_option maxRecDepth 10000
attribute [local simp] mk_get wrap64_u8 mk_extract ByteArray.mk_append_mk get_1k

/-- Two lists, apart from one another. -/
structure Tw9 (At : SkOf) (w1 wr : World) (l m : Nat) (E F : List Ent) (X Y : Nat → Prop) : Prop where
  a : Li9 At w1 wr l E X
  b : Li9 At w1 wr m F Y
  apart : ∀ k, X k → ¬Y k
theorem Tw9.still {At : SkOf} (K : SkK At) {w1 wr w' : World} {l m : Nat} {E F : List Ent} {X Y : Nat → Prop} (h : Tw9 At w1 wr l m E F X Y) (hk : Kept (fun _ => False) wr w') : Tw9 At w1 w' l m E F X Y := ⟨h.a.still K hk, h.b.still K hk, h.apart⟩
theorem Tw9.putA {At : SkOf} (K : SkK At) {w1 wr : World} {l m : Nat} {E F : List Ent} {X Y : Nat → Prop} (h : Tw9 At w1 wr l m E F X Y) (hl : E.length ≤ 1000) (k v : Txt) (ht : Int) (hf : FitH ht) :
    Calls Try.prog 9 #[.pointer (some ⟨l, 0, none⟩), .string ⟨k.toArray⟩, .string ⟨v.toArray⟩, .int .i64 ht] wr fun e w' => e = .returned (.bool (!hasE E k)) ∧ ∃ X', Tw9 At w1 w' l m (putE E k v ht) F X' Y := by
  refine (h.a.put K hl k v ht hf).mono ?_
  rintro e w' ⟨rfl, hk, X', h1, hg⟩
  refine ⟨rfl, X', h1, h.b.kept K hk (fun b hb => ⟨(K.lt h.a.sk b hb).1, h.apart b hb⟩), fun b hb hy => ?_⟩
  rcases hg b hb with h2 | h2
  · exact h.apart b h2 hy
  · have := (K.lt h.b.sk b hy).2; omega
theorem Tw9.swap {At : SkOf} {w1 wr : World} {l m : Nat} {E F : List Ent} {X Y : Nat → Prop} (h : Tw9 At w1 wr l m E F X Y) : Tw9 At w1 wr m l F E Y X := ⟨h.b, h.a, fun k hy hx => h.apart k hx hy⟩
theorem Tw9.putB {At : SkOf} (K : SkK At) {w1 wr : World} {l m : Nat} {E F : List Ent} {X Y : Nat → Prop} (h : Tw9 At w1 wr l m E F X Y) (hl : F.length ≤ 1000) (k v : Txt) (ht : Int) (hf : FitH ht) :
    Calls Try.prog 9 #[.pointer (some ⟨m, 0, none⟩), .string ⟨k.toArray⟩, .string ⟨v.toArray⟩, .int .i64 ht] wr fun e w' => e = .returned (.bool (!hasE F k)) ∧ ∃ Y', Tw9 At w1 w' l m E (putE F k v ht) X Y' := by
  refine (h.swap.putA K hl k v ht hf).mono ?_
  rintro e w' ⟨rfl, Y', h1⟩
  exact ⟨rfl, Y', h1.swap⟩
/-- A number of a slice among the arguments. -/
theorem ints_all {w : World} {ad : Option Addr} {len : Nat} {l : List Int} (h : Ints w ad len l) (hf : Fit64 l) (i : Nat) (hi : i < len) : ∃ b off z, ad = some ⟨b, off, none⟩ ∧ FitH z ∧ ∀ w', Below w.heap.size w w' → w'.cell? ⟨b, off + i, none⟩ = some (.int .i64 z) := by
  have hl := h.1
  rcases h.2 with h0 | ⟨b, off, h1, h2, h3⟩
  · rw [h0] at hl; simp at hl; omega
  · exact ⟨b, off, l[i]'(by omega), h1, hf _ (List.getElem_mem _), fun w' hb => (hb.cell (p := ⟨b, off + i, none⟩) h2).trans (h3 i (by omega))⟩

set_option maxHeartbeats 8000000 in
theorem heights9 {At : SkOf} (K : SkK At) (ad : Option Addr) (len cap : Nat) (ps : List PutW) (hd : Option Addr) (hl hc : Nat) (hs : List Int) (key : List UInt8) (w : World) (h0 : PutsW w ad len ps) (h1 : Ints w hd hl hs) (h2 : Fit64 hs) :
    Calls Try.prog 5 #[.slice ad len cap, .slice hd hl hc, .string ⟨key.toArray⟩] w fun e w' => e = .returned (.bool true) ∧ Below w.heap.size w w' := by
  have HE := Lib.hid (examples9 K w)
  have HA := Lib.hid (And.intro h0 (And.intro h1 h2))
  clear h0 h1 h2
  go_enter Try.func5, Try.ntmps5
  go_wp2_with fail
  refine HE.out.mono ?_
  clear HE
  rintro e w1 ⟨rfl, hb1⟩
  have HB1 := Lib.hid hb1
  have HN := Lib.hid (Li9.new K w1)
  clear hb1
  go_wp2_with fail
  refine HN.out.mono ?_
  clear HN
  rintro e w2 ⟨l, X2, rfl, h2, -⟩
  have HN := Lib.hid (K.new w2 w1.heap.size h2.below.size)
  have H2 := Lib.hid h2
  clear h2
  go_wp2_with fail
  refine HN.out.mono ?_
  clear HN
  rintro e w3 ⟨m, Y3, rfl, h3, hy3, hk3⟩
  have HI : Hid (∃ E F X Y, Tw9 At w1 w3 l m E F X Y ∧ kvE E = kvE F ∧ (E.length ≤ 0 ∧ F.length ≤ 0)) :=
    ⟨[], [], X2, Y3, ⟨H2.out.still K hk3, ⟨h3, (H2.out.still K hk3).below⟩, fun k hx hy => by have := (K.lt H2.out.sk k hx).2; have := hy3 k hy; omega⟩, rfl, Nat.le_refl _, Nat.le_refl _⟩
  clear h3 hy3 hk3 H2
  go_wp2
  rename World => wq
  go_loopw [10] (fun i wr => ∃ j : Nat, j ≤ 100 ∧ i = .int .i64 (j : Int) ∧ Hid (∃ E F X Y, Tw9 At w1 wr l m E F X Y ∧ kvE E = kvE F ∧ (E.length ≤ j ∧ F.length ≤ j))) (fun i _ => 100 - (intOf i).toNat)
  case atStart => exact ⟨0, by omega, rfl, HI⟩
  case round =>
    obtain ⟨j, hj, rfl, hI⟩ := hrel
    clear HI
    obtain ⟨E, F, X, Y, hTw, hkv, hEl⟩ := hI.out
    by_cases hlt : j < len ∧ j < 100
    · obtain ⟨g1, g2⟩ := hlt
      obtain ⟨bp, op, rfl, hjl, hfu, hcs⟩ := putsW_all HA.out.1 j g1
      obtain ⟨pk, hpk⟩ : ∃ pk, pk = (ps[j]).key := ⟨_, rfl⟩
      obtain ⟨pv, hpv⟩ : ∃ pv, pv = (ps[j]).value := ⟨_, rfl⟩
      obtain ⟨ph, hph⟩ : ∃ ph, ph = (ps[j]).h := ⟨_, rfl⟩
      rw [← hpk, ← hpv, ← hph] at hcs
      rw [← hph] at hfu
      have k1 : (j : Int) < (len : Int) := by omega
      have k2 : (j : Int) < 100 := by omega
      have k0 : (0 : Int) ≤ (j : Int) := by omega
      have hwj : IntKind.i64.wrap ((j : Int) + 1) = (j : Int) + 1 := IntWalk.i64_in _ (by omega)
      have HS := Lib.hid (fun (W : World) (hb : Below w1.heap.size w1 W) => hcs W (HB1.out.trans (hb.mono HB1.out.size)))
      obtain ⟨c0, c1, c2⟩ := HS.out wr hTw.a.below
      have hbw : Below w.heap.size w wr := HB1.out.trans (hTw.a.below.mono HB1.out.size)
      clear hcs hpk hpv hph hjl g1 g2 hj
      by_cases hjh : j < hl
      · obtain ⟨bh, oh, ih, rfl, hih, hci⟩ := ints_all HA.out.2.1 HA.out.2.2 j hjh
        have ci := hci wr hbw
        have k3 : (j : Int) < (hl : Int) := by omega
        clear hjh hci hbw
        have HPa := Lib.hid ((hTw.still K ((Kept.refl _ wr).drewN 1)).putA K (by omega) pk pv ph hfu)
        have hS0 : (fun w' => w'.cell? ⟨bp, op + j * 3, none⟩ = some (.string ⟨pk.toArray⟩) ∧ w'.cell? ⟨bp, op + j * 3 + 1, none⟩ = some (.string ⟨pv.toArray⟩) ∧ w'.cell? ⟨bp, op + j * 3 + 2, none⟩ = some (.int .i64 ph)) wr.drew := HS.out wr.drew (hTw.a.below.trans (((Kept.refl (fun _ => False) wr).drewN 1).below hTw.a.below.size (fun _ hf => hf.elim)))
        have HV := Lib.hid (And.intro hkv (And.intro hEl hih))
        clear hTw hI hEl hkv hih hfu
        go_upto_region 12 with (fail)
        clear c0 c1 c2 ci
        refine wp_region_until (fun w' => w'.cell? ⟨bp, op + j * 3, none⟩ = some (.string ⟨pk.toArray⟩) ∧ w'.cell? ⟨bp, op + j * 3 + 1, none⟩ = some (.string ⟨pv.toArray⟩) ∧ w'.cell? ⟨bp, op + j * 3 + 2, none⟩ = some (.int .i64 ph)) 31 (by kernel_rfl) ?_
        refine wpAnyU_take (i := 0) (v := (.pointer (some ⟨l, 0, none⟩))) (some 50) rfl rfl (by kernel_rfl) (by kernel_rfl) (by kernel_rfl) (by kernel_rfl) (fun _ _ _ h => h) hS0 (yields_of (by kernel_rfl) (fun w ⟨h0, h1, h2⟩ => by go_simp)) ?_
        refine wpAnyU_take (i := 1) (v := (.slice (some ⟨bp, op, none⟩) len cap)) (some 51) rfl rfl (by kernel_rfl) (by kernel_rfl) (by kernel_rfl) (by kernel_rfl) (fun _ _ _ h => h) hS0 (yields_of (by kernel_rfl) (fun w ⟨h0, h1, h2⟩ => by go_simp)) ?_
        refine wpAnyU_take (i := 2) (v := (.int .i64 (j : Int))) (some 52) rfl rfl (by kernel_rfl) (by kernel_rfl) (by kernel_rfl) (by kernel_rfl) (fun _ _ _ h => h) hS0 (yields_of (by kernel_rfl) (fun w ⟨h0, h1, h2⟩ => by go_simp)) ?_
        refine wpAnyU_take (i := 3) (v := (.pointer (some ⟨bp, op + j * 3, none⟩))) (some 53) rfl rfl (by kernel_rfl) (by kernel_rfl) (by kernel_rfl) (by kernel_rfl) (fun _ _ _ h => h) hS0 (yields_of (by kernel_rfl) (fun w ⟨h0, h1, h2⟩ => by go_simp)) ?_
        refine wpAnyU_take (i := 4) (v := (.pointer (some ⟨bp, op + j * 3, none⟩))) (some 54) rfl rfl (by kernel_rfl) (by kernel_rfl) (by kernel_rfl) (by kernel_rfl) (fun _ _ _ h => h) hS0 (yields_of (by kernel_rfl) (fun w ⟨h0, h1, h2⟩ => by go_simp)) ?_
        refine wpAnyU_take (i := 5) (v := (.string ⟨pk.toArray⟩)) (some 55) rfl rfl (by kernel_rfl) (by kernel_rfl) (by kernel_rfl) (by kernel_rfl) (fun _ _ _ h => h) hS0 (yields_of (by kernel_rfl) (fun w ⟨h0, h1, h2⟩ => by go_simp)) ?_
        refine wpAnyU_take (i := 6) (v := (.slice (some ⟨bp, op, none⟩) len cap)) (some 56) rfl rfl (by kernel_rfl) (by kernel_rfl) (by kernel_rfl) (by kernel_rfl) (fun _ _ _ h => h) hS0 (yields_of (by kernel_rfl) (fun w ⟨h0, h1, h2⟩ => by go_simp)) ?_
        refine wpAnyU_take (i := 7) (v := (.int .i64 (j : Int))) (some 57) rfl rfl (by kernel_rfl) (by kernel_rfl) (by kernel_rfl) (by kernel_rfl) (fun _ _ _ h => h) hS0 (yields_of (by kernel_rfl) (fun w ⟨h0, h1, h2⟩ => by go_simp)) ?_
        refine wpAnyU_take (i := 8) (v := (.pointer (some ⟨bp, op + j * 3, none⟩))) (some 58) rfl rfl (by kernel_rfl) (by kernel_rfl) (by kernel_rfl) (by kernel_rfl) (fun _ _ _ h => h) hS0 (yields_of (by kernel_rfl) (fun w ⟨h0, h1, h2⟩ => by go_simp)) ?_
        refine wpAnyU_take (i := 9) (v := (.pointer (some ⟨bp, op + j * 3 + 1, none⟩))) (some 59) rfl rfl (by kernel_rfl) (by kernel_rfl) (by kernel_rfl) (by kernel_rfl) (fun _ _ _ h => h) hS0 (yields_of (by kernel_rfl) (fun w ⟨h0, h1, h2⟩ => by go_simp)) ?_
        refine wpAnyU_take (i := 10) (v := (.string ⟨pv.toArray⟩)) (some 60) rfl rfl (by kernel_rfl) (by kernel_rfl) (by kernel_rfl) (by kernel_rfl) (fun _ _ _ h => h) hS0 (yields_of (by kernel_rfl) (fun w ⟨h0, h1, h2⟩ => by go_simp)) ?_
        refine wpAnyU_take (i := 11) (v := (.slice (some ⟨bp, op, none⟩) len cap)) (some 61) rfl rfl (by kernel_rfl) (by kernel_rfl) (by kernel_rfl) (by kernel_rfl) (fun _ _ _ h => h) hS0 (yields_of (by kernel_rfl) (fun w ⟨h0, h1, h2⟩ => by go_simp)) ?_
        refine wpAnyU_take (i := 12) (v := (.int .i64 (j : Int))) (some 62) rfl rfl (by kernel_rfl) (by kernel_rfl) (by kernel_rfl) (by kernel_rfl) (fun _ _ _ h => h) hS0 (yields_of (by kernel_rfl) (fun w ⟨h0, h1, h2⟩ => by go_simp)) ?_
        refine wpAnyU_take (i := 13) (v := (.pointer (some ⟨bp, op + j * 3, none⟩))) (some 63) rfl rfl (by kernel_rfl) (by kernel_rfl) (by kernel_rfl) (by kernel_rfl) (fun _ _ _ h => h) hS0 (yields_of (by kernel_rfl) (fun w ⟨h0, h1, h2⟩ => by go_simp)) ?_
        refine wpAnyU_take (i := 14) (v := (.pointer (some ⟨bp, op + j * 3 + 2, none⟩))) (some 64) rfl rfl (by kernel_rfl) (by kernel_rfl) (by kernel_rfl) (by kernel_rfl) (fun _ _ _ h => h) hS0 (yields_of (by kernel_rfl) (fun w ⟨h0, h1, h2⟩ => by go_simp)) ?_
        refine wpAnyU_take (i := 15) (v := (.int .i64 ph)) (some 65) rfl rfl (by kernel_rfl) (by kernel_rfl) (by kernel_rfl) (by kernel_rfl) (fun _ _ _ h => h) hS0 (yields_of (by kernel_rfl) (fun w ⟨h0, h1, h2⟩ => by go_simp)) ?_
        refine wpAnyU_take (i := 17) (v := (.pointer (some ⟨m, 0, none⟩))) (some 67) rfl rfl (by kernel_rfl) (by kernel_rfl) (by kernel_rfl) (by kernel_rfl) (fun _ _ _ h => h) hS0 (yields_of (by kernel_rfl) (fun w ⟨h0, h1, h2⟩ => by go_simp)) ?_
        refine wpAnyU_take (i := 18) (v := (.slice (some ⟨bp, op, none⟩) len cap)) (some 68) rfl rfl (by kernel_rfl) (by kernel_rfl) (by kernel_rfl) (by kernel_rfl) (fun _ _ _ h => h) hS0 (yields_of (by kernel_rfl) (fun w ⟨h0, h1, h2⟩ => by go_simp)) ?_
        refine wpAnyU_take (i := 19) (v := (.int .i64 (j : Int))) (some 69) rfl rfl (by kernel_rfl) (by kernel_rfl) (by kernel_rfl) (by kernel_rfl) (fun _ _ _ h => h) hS0 (yields_of (by kernel_rfl) (fun w ⟨h0, h1, h2⟩ => by go_simp)) ?_
        refine wpAnyU_take (i := 20) (v := (.pointer (some ⟨bp, op + j * 3, none⟩))) (some 70) rfl rfl (by kernel_rfl) (by kernel_rfl) (by kernel_rfl) (by kernel_rfl) (fun _ _ _ h => h) hS0 (yields_of (by kernel_rfl) (fun w ⟨h0, h1, h2⟩ => by go_simp)) ?_
        refine wpAnyU_take (i := 21) (v := (.pointer (some ⟨bp, op + j * 3, none⟩))) (some 71) rfl rfl (by kernel_rfl) (by kernel_rfl) (by kernel_rfl) (by kernel_rfl) (fun _ _ _ h => h) hS0 (yields_of (by kernel_rfl) (fun w ⟨h0, h1, h2⟩ => by go_simp)) ?_
        refine wpAnyU_take (i := 22) (v := (.string ⟨pk.toArray⟩)) (some 72) rfl rfl (by kernel_rfl) (by kernel_rfl) (by kernel_rfl) (by kernel_rfl) (fun _ _ _ h => h) hS0 (yields_of (by kernel_rfl) (fun w ⟨h0, h1, h2⟩ => by go_simp)) ?_
        refine wpAnyU_take (i := 23) (v := (.slice (some ⟨bp, op, none⟩) len cap)) (some 73) rfl rfl (by kernel_rfl) (by kernel_rfl) (by kernel_rfl) (by kernel_rfl) (fun _ _ _ h => h) hS0 (yields_of (by kernel_rfl) (fun w ⟨h0, h1, h2⟩ => by go_simp)) ?_
        refine wpAnyU_take (i := 24) (v := (.int .i64 (j : Int))) (some 74) rfl rfl (by kernel_rfl) (by kernel_rfl) (by kernel_rfl) (by kernel_rfl) (fun _ _ _ h => h) hS0 (yields_of (by kernel_rfl) (fun w ⟨h0, h1, h2⟩ => by go_simp)) ?_
        refine wpAnyU_take (i := 25) (v := (.pointer (some ⟨bp, op + j * 3, none⟩))) (some 75) rfl rfl (by kernel_rfl) (by kernel_rfl) (by kernel_rfl) (by kernel_rfl) (fun _ _ _ h => h) hS0 (yields_of (by kernel_rfl) (fun w ⟨h0, h1, h2⟩ => by go_simp)) ?_
        refine wpAnyU_take (i := 26) (v := (.pointer (some ⟨bp, op + j * 3 + 1, none⟩))) (some 76) rfl rfl (by kernel_rfl) (by kernel_rfl) (by kernel_rfl) (by kernel_rfl) (fun _ _ _ h => h) hS0 (yields_of (by kernel_rfl) (fun w ⟨h0, h1, h2⟩ => by go_simp)) ?_
        refine wpAnyU_take (i := 27) (v := (.string ⟨pv.toArray⟩)) (some 77) rfl rfl (by kernel_rfl) (by kernel_rfl) (by kernel_rfl) (by kernel_rfl) (fun _ _ _ h => h) hS0 (yields_of (by kernel_rfl) (fun w ⟨h0, h1, h2⟩ => by go_simp)) ?_
        refine wpAnyU_take (i := 28) (v := (.int .i64 ih)) (some 78) rfl rfl (by kernel_rfl) (by kernel_rfl) (by kernel_rfl) (by kernel_rfl) (fun _ _ _ h => h) hS0 (yields_of (by kernel_rfl) (fun w ⟨h0, h1, h2⟩ => by go_simp)) ?_
        refine wpAnyU_call (i := 16) (f := 9) (args := #[.pointer (some ⟨l, 0, none⟩), .string ⟨pk.toArray⟩, .string ⟨pv.toArray⟩, .int .i64 ph]) (some 66) rfl rfl (by kernel_rfl) (by kernel_rfl) (by kernel_rfl) ?_
        refine HPa.out.mono ?_
        clear HPa
        rintro e w4 ⟨rfl, X4, h4⟩
        have hS4 := HS.out w4 h4.a.below
        refine ⟨_, rfl, fun _ => hS4, ?_⟩
        have HPb := Lib.hid (h4.putB K (by have := HV.out.2.1; omega) pk pv ih HV.out.2.2)
        refine wpAnyU_call (i := 29) (f := 9) (args := #[.pointer (some ⟨m, 0, none⟩), .string ⟨pk.toArray⟩, .string ⟨pv.toArray⟩, .int .i64 ih]) (some 79) rfl rfl (by kernel_rfl) (by kernel_rfl) (by kernel_rfl) ?_
        refine HPb.out.mono ?_
        clear HPb
        rintro e w5 ⟨rfl, Y5, h5⟩
        have hS5 := HS.out w5 h5.a.below
        refine ⟨_, rfl, fun _ => hS5, ?_⟩
        have hhe := kv_has HV.out.1 pk
        refine wpAnyU_run (i := 30) (v := .bool false) (w' := w5) (some 80) rfl rfl (by kernel_rfl) (by kernel_rfl) (by rw [hhe]; go_simp) (fun _ => hS5) ?_
        refine wpAnyU_done (by kernel_rfl) ?_ _
        simp only [put_lit, List.set_cons_succ, List.set_cons_zero]
        have HIE : Hid (∃ E F X Y, Tw9 At w1 w5 l m E F X Y ∧ kvE E = kvE F ∧ (E.length ≤ j + 1 ∧ F.length ≤ j + 1)) := ⟨_, _, X4, Y5, h5, kv_put HV.out.1 pk pv ph ih, putE_len_le E pk pv ph HV.out.2.1.1, putE_len_le F pk pv ih HV.out.2.1.2⟩
        clear hS0 hS4 hS5 hhe h4 h5
        go_wp2
        go_roundw
        case rel => exact ⟨j + 1, by omega, by first | rfl | go_num, HIE⟩
        case measure => simp [intOf]; omega
      · have k3 : ¬(j : Int) < (hl : Int) := by omega
        have hih : FitH 1 := by unfold FitH; omega
        clear hjh hbw
        have HPa := Lib.hid ((hTw.still K ((Kept.refl _ wr).drewN 1)).putA K (by omega) pk pv ph hfu)
        have hS0 : (fun w' => w'.cell? ⟨bp, op + j * 3, none⟩ = some (.string ⟨pk.toArray⟩) ∧ w'.cell? ⟨bp, op + j * 3 + 1, none⟩ = some (.string ⟨pv.toArray⟩) ∧ w'.cell? ⟨bp, op + j * 3 + 2, none⟩ = some (.int .i64 ph)) wr.drew := HS.out wr.drew (hTw.a.below.trans (((Kept.refl (fun _ => False) wr).drewN 1).below hTw.a.below.size (fun _ hf => hf.elim)))
        have HV := Lib.hid (And.intro hkv (And.intro hEl hih))
        clear hTw hI hEl hkv hih hfu
        go_upto_region 12 with (fail)
        clear c0 c1 c2
        refine wp_region_until (fun w' => w'.cell? ⟨bp, op + j * 3, none⟩ = some (.string ⟨pk.toArray⟩) ∧ w'.cell? ⟨bp, op + j * 3 + 1, none⟩ = some (.string ⟨pv.toArray⟩) ∧ w'.cell? ⟨bp, op + j * 3 + 2, none⟩ = some (.int .i64 ph)) 31 (by kernel_rfl) ?_
        refine wpAnyU_take (i := 0) (v := (.pointer (some ⟨l, 0, none⟩))) (some 50) rfl rfl (by kernel_rfl) (by kernel_rfl) (by kernel_rfl) (by kernel_rfl) (fun _ _ _ h => h) hS0 (yields_of (by kernel_rfl) (fun w ⟨h0, h1, h2⟩ => by go_simp)) ?_
        refine wpAnyU_take (i := 1) (v := (.slice (some ⟨bp, op, none⟩) len cap)) (some 51) rfl rfl (by kernel_rfl) (by kernel_rfl) (by kernel_rfl) (by kernel_rfl) (fun _ _ _ h => h) hS0 (yields_of (by kernel_rfl) (fun w ⟨h0, h1, h2⟩ => by go_simp)) ?_
        refine wpAnyU_take (i := 2) (v := (.int .i64 (j : Int))) (some 52) rfl rfl (by kernel_rfl) (by kernel_rfl) (by kernel_rfl) (by kernel_rfl) (fun _ _ _ h => h) hS0 (yields_of (by kernel_rfl) (fun w ⟨h0, h1, h2⟩ => by go_simp)) ?_
        refine wpAnyU_take (i := 3) (v := (.pointer (some ⟨bp, op + j * 3, none⟩))) (some 53) rfl rfl (by kernel_rfl) (by kernel_rfl) (by kernel_rfl) (by kernel_rfl) (fun _ _ _ h => h) hS0 (yields_of (by kernel_rfl) (fun w ⟨h0, h1, h2⟩ => by go_simp)) ?_
        refine wpAnyU_take (i := 4) (v := (.pointer (some ⟨bp, op + j * 3, none⟩))) (some 54) rfl rfl (by kernel_rfl) (by kernel_rfl) (by kernel_rfl) (by kernel_rfl) (fun _ _ _ h => h) hS0 (yields_of (by kernel_rfl) (fun w ⟨h0, h1, h2⟩ => by go_simp)) ?_
        refine wpAnyU_take (i := 5) (v := (.string ⟨pk.toArray⟩)) (some 55) rfl rfl (by kernel_rfl) (by kernel_rfl) (by kernel_rfl) (by kernel_rfl) (fun _ _ _ h => h) hS0 (yields_of (by kernel_rfl) (fun w ⟨h0, h1, h2⟩ => by go_simp)) ?_
        refine wpAnyU_take (i := 6) (v := (.slice (some ⟨bp, op, none⟩) len cap)) (some 56) rfl rfl (by kernel_rfl) (by kernel_rfl) (by kernel_rfl) (by kernel_rfl) (fun _ _ _ h => h) hS0 (yields_of (by kernel_rfl) (fun w ⟨h0, h1, h2⟩ => by go_simp)) ?_
        refine wpAnyU_take (i := 7) (v := (.int .i64 (j : Int))) (some 57) rfl rfl (by kernel_rfl) (by kernel_rfl) (by kernel_rfl) (by kernel_rfl) (fun _ _ _ h => h) hS0 (yields_of (by kernel_rfl) (fun w ⟨h0, h1, h2⟩ => by go_simp)) ?_
        refine wpAnyU_take (i := 8) (v := (.pointer (some ⟨bp, op + j * 3, none⟩))) (some 58) rfl rfl (by kernel_rfl) (by kernel_rfl) (by kernel_rfl) (by kernel_rfl) (fun _ _ _ h => h) hS0 (yields_of (by kernel_rfl) (fun w ⟨h0, h1, h2⟩ => by go_simp)) ?_
        refine wpAnyU_take (i := 9) (v := (.pointer (some ⟨bp, op + j * 3 + 1, none⟩))) (some 59) rfl rfl (by kernel_rfl) (by kernel_rfl) (by kernel_rfl) (by kernel_rfl) (fun _ _ _ h => h) hS0 (yields_of (by kernel_rfl) (fun w ⟨h0, h1, h2⟩ => by go_simp)) ?_
        refine wpAnyU_take (i := 10) (v := (.string ⟨pv.toArray⟩)) (some 60) rfl rfl (by kernel_rfl) (by kernel_rfl) (by kernel_rfl) (by kernel_rfl) (fun _ _ _ h => h) hS0 (yields_of (by kernel_rfl) (fun w ⟨h0, h1, h2⟩ => by go_simp)) ?_
        refine wpAnyU_take (i := 11) (v := (.slice (some ⟨bp, op, none⟩) len cap)) (some 61) rfl rfl (by kernel_rfl) (by kernel_rfl) (by kernel_rfl) (by kernel_rfl) (fun _ _ _ h => h) hS0 (yields_of (by kernel_rfl) (fun w ⟨h0, h1, h2⟩ => by go_simp)) ?_
        refine wpAnyU_take (i := 12) (v := (.int .i64 (j : Int))) (some 62) rfl rfl (by kernel_rfl) (by kernel_rfl) (by kernel_rfl) (by kernel_rfl) (fun _ _ _ h => h) hS0 (yields_of (by kernel_rfl) (fun w ⟨h0, h1, h2⟩ => by go_simp)) ?_
        refine wpAnyU_take (i := 13) (v := (.pointer (some ⟨bp, op + j * 3, none⟩))) (some 63) rfl rfl (by kernel_rfl) (by kernel_rfl) (by kernel_rfl) (by kernel_rfl) (fun _ _ _ h => h) hS0 (yields_of (by kernel_rfl) (fun w ⟨h0, h1, h2⟩ => by go_simp)) ?_
        refine wpAnyU_take (i := 14) (v := (.pointer (some ⟨bp, op + j * 3 + 2, none⟩))) (some 64) rfl rfl (by kernel_rfl) (by kernel_rfl) (by kernel_rfl) (by kernel_rfl) (fun _ _ _ h => h) hS0 (yields_of (by kernel_rfl) (fun w ⟨h0, h1, h2⟩ => by go_simp)) ?_
        refine wpAnyU_take (i := 15) (v := (.int .i64 ph)) (some 65) rfl rfl (by kernel_rfl) (by kernel_rfl) (by kernel_rfl) (by kernel_rfl) (fun _ _ _ h => h) hS0 (yields_of (by kernel_rfl) (fun w ⟨h0, h1, h2⟩ => by go_simp)) ?_
        refine wpAnyU_take (i := 17) (v := (.pointer (some ⟨m, 0, none⟩))) (some 67) rfl rfl (by kernel_rfl) (by kernel_rfl) (by kernel_rfl) (by kernel_rfl) (fun _ _ _ h => h) hS0 (yields_of (by kernel_rfl) (fun w ⟨h0, h1, h2⟩ => by go_simp)) ?_
        refine wpAnyU_take (i := 18) (v := (.slice (some ⟨bp, op, none⟩) len cap)) (some 68) rfl rfl (by kernel_rfl) (by kernel_rfl) (by kernel_rfl) (by kernel_rfl) (fun _ _ _ h => h) hS0 (yields_of (by kernel_rfl) (fun w ⟨h0, h1, h2⟩ => by go_simp)) ?_
        refine wpAnyU_take (i := 19) (v := (.int .i64 (j : Int))) (some 69) rfl rfl (by kernel_rfl) (by kernel_rfl) (by kernel_rfl) (by kernel_rfl) (fun _ _ _ h => h) hS0 (yields_of (by kernel_rfl) (fun w ⟨h0, h1, h2⟩ => by go_simp)) ?_
        refine wpAnyU_take (i := 20) (v := (.pointer (some ⟨bp, op + j * 3, none⟩))) (some 70) rfl rfl (by kernel_rfl) (by kernel_rfl) (by kernel_rfl) (by kernel_rfl) (fun _ _ _ h => h) hS0 (yields_of (by kernel_rfl) (fun w ⟨h0, h1, h2⟩ => by go_simp)) ?_
        refine wpAnyU_take (i := 21) (v := (.pointer (some ⟨bp, op + j * 3, none⟩))) (some 71) rfl rfl (by kernel_rfl) (by kernel_rfl) (by kernel_rfl) (by kernel_rfl) (fun _ _ _ h => h) hS0 (yields_of (by kernel_rfl) (fun w ⟨h0, h1, h2⟩ => by go_simp)) ?_
        refine wpAnyU_take (i := 22) (v := (.string ⟨pk.toArray⟩)) (some 72) rfl rfl (by kernel_rfl) (by kernel_rfl) (by kernel_rfl) (by kernel_rfl) (fun _ _ _ h => h) hS0 (yields_of (by kernel_rfl) (fun w ⟨h0, h1, h2⟩ => by go_simp)) ?_
        refine wpAnyU_take (i := 23) (v := (.slice (some ⟨bp, op, none⟩) len cap)) (some 73) rfl rfl (by kernel_rfl) (by kernel_rfl) (by kernel_rfl) (by kernel_rfl) (fun _ _ _ h => h) hS0 (yields_of (by kernel_rfl) (fun w ⟨h0, h1, h2⟩ => by go_simp)) ?_
        refine wpAnyU_take (i := 24) (v := (.int .i64 (j : Int))) (some 74) rfl rfl (by kernel_rfl) (by kernel_rfl) (by kernel_rfl) (by kernel_rfl) (fun _ _ _ h => h) hS0 (yields_of (by kernel_rfl) (fun w ⟨h0, h1, h2⟩ => by go_simp)) ?_
        refine wpAnyU_take (i := 25) (v := (.pointer (some ⟨bp, op + j * 3, none⟩))) (some 75) rfl rfl (by kernel_rfl) (by kernel_rfl) (by kernel_rfl) (by kernel_rfl) (fun _ _ _ h => h) hS0 (yields_of (by kernel_rfl) (fun w ⟨h0, h1, h2⟩ => by go_simp)) ?_
        refine wpAnyU_take (i := 26) (v := (.pointer (some ⟨bp, op + j * 3 + 1, none⟩))) (some 76) rfl rfl (by kernel_rfl) (by kernel_rfl) (by kernel_rfl) (by kernel_rfl) (fun _ _ _ h => h) hS0 (yields_of (by kernel_rfl) (fun w ⟨h0, h1, h2⟩ => by go_simp)) ?_
        refine wpAnyU_take (i := 27) (v := (.string ⟨pv.toArray⟩)) (some 77) rfl rfl (by kernel_rfl) (by kernel_rfl) (by kernel_rfl) (by kernel_rfl) (fun _ _ _ h => h) hS0 (yields_of (by kernel_rfl) (fun w ⟨h0, h1, h2⟩ => by go_simp)) ?_
        refine wpAnyU_take (i := 28) (v := (.int .i64 1)) (some 78) rfl rfl (by kernel_rfl) (by kernel_rfl) (by kernel_rfl) (by kernel_rfl) (fun _ _ _ h => h) hS0 (yields_of (by kernel_rfl) (fun w ⟨h0, h1, h2⟩ => by go_simp)) ?_
        refine wpAnyU_call (i := 16) (f := 9) (args := #[.pointer (some ⟨l, 0, none⟩), .string ⟨pk.toArray⟩, .string ⟨pv.toArray⟩, .int .i64 ph]) (some 66) rfl rfl (by kernel_rfl) (by kernel_rfl) (by kernel_rfl) ?_
        refine HPa.out.mono ?_
        clear HPa
        rintro e w4 ⟨rfl, X4, h4⟩
        have hS4 := HS.out w4 h4.a.below
        refine ⟨_, rfl, fun _ => hS4, ?_⟩
        have HPb := Lib.hid (h4.putB K (by have := HV.out.2.1; omega) pk pv 1 HV.out.2.2)
        refine wpAnyU_call (i := 29) (f := 9) (args := #[.pointer (some ⟨m, 0, none⟩), .string ⟨pk.toArray⟩, .string ⟨pv.toArray⟩, .int .i64 1]) (some 79) rfl rfl (by kernel_rfl) (by kernel_rfl) (by kernel_rfl) ?_
        refine HPb.out.mono ?_
        clear HPb
        rintro e w5 ⟨rfl, Y5, h5⟩
        have hS5 := HS.out w5 h5.a.below
        refine ⟨_, rfl, fun _ => hS5, ?_⟩
        have hhe := kv_has HV.out.1 pk
        refine wpAnyU_run (i := 30) (v := .bool false) (w' := w5) (some 80) rfl rfl (by kernel_rfl) (by kernel_rfl) (by rw [hhe]; go_simp) (fun _ => hS5) ?_
        refine wpAnyU_done (by kernel_rfl) ?_ _
        simp only [put_lit, List.set_cons_succ, List.set_cons_zero]
        have HIE : Hid (∃ E F X Y, Tw9 At w1 w5 l m E F X Y ∧ kvE E = kvE F ∧ (E.length ≤ j + 1 ∧ F.length ≤ j + 1)) := ⟨_, _, X4, Y5, h5, kv_put HV.out.1 pk pv ph 1, putE_len_le E pk pv ph HV.out.2.1.1, putE_len_le F pk pv 1 HV.out.2.1.2⟩
        clear hS0 hS4 hS5 hhe h4 h5
        go_wp2
        go_roundw
        case rel => exact ⟨j + 1, by omega, by first | rfl | go_num, HIE⟩
        case measure => simp [intOf]; omega
    · have hexit : ¬(j : Int) < (len : Int) ∨ ((j : Int) < (len : Int) ∧ ¬(j : Int) < 100) := by omega
      obtain ⟨T, hT⟩ : ∃ T, Hid (T = E.map (·.1)) := ⟨_, rfl⟩
      have hokE := K.ok hTw.a.sk
      have hokF := K.ok hTw.b.sk
      have hN : F.length = E.length := by have := congrArg List.length hkv; simpa [kvE] using this.symm
      obtain ⟨n, hn⟩ : ∃ n, n = E.length := ⟨_, rfl⟩
      have hTn : T.length = n := by rw [hT.out, hn]; simp
      have HGA : Hid (∀ W, Kept (fun _ => False) wr W → Calls Try.prog 11 #[.pointer (some ⟨l, 0, none⟩), .string ⟨key.toArray⟩] W fun e w' => e = .returned (.tuple #[.string ⟨(getE E key).1.toArray⟩, .bool (getE E key).2]) ∧ Kept (fun _ => False) W w') := fun W hk => K.get (hTw.still K hk).a.sk (by omega) key
      have HGB : Hid (∀ W, Kept (fun _ => False) wr W → Calls Try.prog 11 #[.pointer (some ⟨m, 0, none⟩), .string ⟨key.toArray⟩] W fun e w' => e = .returned (.tuple #[.string ⟨(getE E key).1.toArray⟩, .bool (getE E key).2]) ∧ Kept (fun _ => False) W w') := fun W hk => by
        have := K.get (hTw.still K hk).b.sk (by omega) key
        rw [← kv_getE hkv key] at this
        exact this
      have HSA : Hid (∀ W, Kept (fun _ => False) wr W → Calls Try.prog 13 #[.pointer (some ⟨l, 0, none⟩), .string ⟨key.toArray⟩] W fun e w' => e = .returned (.tuple #[.string ⟨(seekE E key).1.toArray⟩, .string ⟨(seekE E key).2.1.toArray⟩, .bool (seekE E key).2.2]) ∧ Kept (fun _ => False) W w') := fun W hk => K.seek (hTw.still K hk).a.sk (by omega) key
      have HSB : Hid (∀ W, Kept (fun _ => False) wr W → Calls Try.prog 13 #[.pointer (some ⟨m, 0, none⟩), .string ⟨key.toArray⟩] W fun e w' => e = .returned (.tuple #[.string ⟨(seekE E key).1.toArray⟩, .string ⟨(seekE E key).2.1.toArray⟩, .bool (seekE E key).2.2]) ∧ Kept (fun _ => False) W w') := fun W hk => by
        have := K.seek (hTw.still K hk).b.sk (by omega) key
        rw [← kv_seek hkv key] at this
        exact this
      have HLA : Hid (∀ W, Kept (fun _ => False) wr W → Calls Try.prog 17 #[.pointer (some ⟨l, 0, none⟩), .int .i64 0] W fun e w' => ∃ v, e = .returned v ∧ w'.ownsRow W.heap.size 9 1 v n (T.map strV) ∧ Kept (fun _ => False) W w') := fun W hk => by
        have := K.lane (hTw.still K hk).a.sk (by omega) 0 (by unfold FitH; omega)
        rw [hokE.lane0 0 (Int.le_refl 0), ← hT.out, hTn] at this
        exact this
      have HLB : Hid (∀ W, Kept (fun _ => False) wr W → Calls Try.prog 17 #[.pointer (some ⟨m, 0, none⟩), .int .i64 0] W fun e w' => ∃ v, e = .returned v ∧ w'.ownsRow W.heap.size 9 1 v n (T.map strV) ∧ Kept (fun _ => False) W w') := fun W hk => by
        have := K.lane (hTw.still K hk).b.sk (by omega) 0 (by unfold FitH; omega)
        rw [hokF.lane0 0 (Int.le_refl 0), ← kv_keys hkv, ← hT.out, hTn] at this
        exact this
      have HNA : Hid (∀ W, Kept (fun _ => False) wr W → Calls Try.prog 20 #[.pointer (some ⟨l, 0, none⟩)] W fun e w' => e = .returned (.int .i64 (n : Int)) ∧ Kept (fun _ => False) W w') := fun W hk => by
        have := K.len (hTw.still K hk).a.sk (by omega)
        rw [← hn] at this
        exact this
      have HNB : Hid (∀ W, Kept (fun _ => False) wr W → Calls Try.prog 20 #[.pointer (some ⟨m, 0, none⟩)] W fun e w' => e = .returned (.int .i64 (n : Int)) ∧ Kept (fun _ => False) W w') := fun W hk => by
        have := K.len (hTw.still K hk).b.sk (by omega)
        rw [hN, ← hn] at this
        exact this
      have HT2 : Hid (T.length = n ∧ (n : Int) ≤ 140737488351232) := ⟨hTn, by omega⟩
      have HTw := Lib.hid hTw
      generalize getE E key = ge at HGA HGB
      generalize seekE E key = se at HSA HSB
      clear hlt hTw hI hEl hkv hokE hokF hN hTn hn hT hj
      go_upto_region 7 with (fail)
      go_cut [39] from 32 to 80 (fun s39 wx => s39 = .bool false ∧ wx = wr)
      case first =>
        rcases hexit with e1 | ⟨e1, e2⟩
        all_goals
          go_wp2
          go_meet
          case rel => exact ⟨rfl, rfl⟩
      case rest =>
        obtain ⟨rfl, hwc⟩ := hcut
        rw [hwc]
        clear hwc hexit
        have H1 := Lib.hid (HGA.out wr (Kept.refl _ _))
        clear HGA
        go_wp2_with fail
        refine H1.out.mono ?_
        clear H1
        rintro e x1 ⟨rfl, hx1⟩
        have H2 := Lib.hid (HGB.out x1 hx1)
        have HK1 := Lib.hid hx1
        clear hx1 HGB
        go_wp2_with fail
        refine H2.out.mono ?_
        clear H2
        rintro e x2 ⟨rfl, hx2⟩
        have HK2 := Lib.hid (HK1.out.trans hx2 (fun _ hf => hf.elim))
        have H3 := Lib.hid (HSA.out x2 HK2.out)
        clear hx2 HSA
        go_wp2_with fail
        refine H3.out.mono ?_
        clear H3
        rintro e x3 ⟨rfl, hx3⟩
        have HK3 := Lib.hid (HK2.out.trans hx3 (fun _ hf => hf.elim))
        have H4 := Lib.hid (HSB.out x3 HK3.out)
        clear hx3 HSB
        go_wp2_with fail
        refine H4.out.mono ?_
        clear H4
        rintro e x4 ⟨rfl, hx4⟩
        have HK4 := Lib.hid (HK3.out.trans hx4 (fun _ hf => hf.elim))
        have H5 := Lib.hid (HLA.out x4 HK4.out)
        clear hx4 HLA
        go_wp2_with fail
        refine H5.out.mono ?_
        clear H5
        rintro e x5 ⟨v5, rfl, ho5, hx5⟩
        obtain ⟨ad5, cap5, rfl, hst5⟩ := own_strsL ho5 (by have := HT2.out.1; omega)
        have HK5 := Lib.hid (HK4.out.trans hx5 (fun _ hf => hf.elim))
        have H6 := Lib.hid (HLB.out x5 HK5.out)
        have HSt5 := Lib.hid hst5
        clear hx5 HLB ho5 hst5
        go_wp2_with fail
        refine H6.out.mono ?_
        clear H6
        rintro e x6 ⟨v6, rfl, ho6, hx6⟩
        obtain ⟨ad6, cap6, rfl, hst6⟩ := own_strsL ho6 (by have := HT2.out.1; omega)
        have HK6 := Lib.hid (HK5.out.trans hx6 (fun _ hf => hf.elim))
        have hst56 := HSt5.out.below (hx6.below (Nat.le_refl _) (fun _ hf => hf.elim))
        have htx := texts9_any ad5 ad6 n cap5 n cap6 T T x6 hst56 hst6 HT2.out.2
        rw [show decide (T = T) = true from by simp] at htx
        have H7 := Lib.hid htx
        clear hx6 ho6 hst6 hst56 htx HSt5
        go_wp2_with fail
        refine H7.out.mono ?_
        clear H7
        rintro e x7 ⟨rfl, hb7⟩
        have HK7 := Lib.hid (HK6.out.trans (Kept.of_below (fun _ => False) hb7) (fun _ hf => hf.elim))
        have H8 := Lib.hid (HNA.out x7 HK7.out)
        clear hb7 HNA
        go_wp2_with fail
        refine H8.out.mono ?_
        clear H8
        rintro e x8 ⟨rfl, hx8⟩
        have HK8 := Lib.hid (HK7.out.trans hx8 (fun _ hf => hf.elim))
        have H9 := Lib.hid (HNB.out x8 HK8.out)
        clear hx8 HNB
        go_wp2_with fail
        refine H9.out.mono ?_
        clear H9
        rintro e x9 ⟨rfl, hx9⟩
        have hbf := HB1.out.trans (((HTw.out.a.still K HK8.out).still K hx9).below.mono HB1.out.size)
        clear hx9
        go_wp2
        go_ret
        exact ⟨rfl, hbf⟩

end Go.Proofs.Ytiglkadejbjdcaa
