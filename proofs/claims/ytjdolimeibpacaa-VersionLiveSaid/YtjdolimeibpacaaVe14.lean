/- Layer 14's landed program: Whole. -/
import Derived.Test.YtjdolimeibpacaaVd14
import Derived.Test.YtjdolimeibpacaaOrd
import Derived.Laws.ResultCell
namespace Go.Proofs.Ytjdolimeibpacaa
open Go.RowKit Go.Proofs Go.Proofs.Pk
set_option maxRecDepth 10000

theorem metas_keptX {w w' : World} {ad : Option Addr} {len : Nat} {T : List MetaV} {X : Nat → Prop} (h : MetasW w ad len T) (hk : Kept X w w') (hx : ∀ b off sp, ad = some ⟨b, off, sp⟩ → ¬X b) : MetasW w' ad len T := by
  refine ⟨h.1, h.2.imp_right ?_⟩
  rintro ⟨b, off, h1, h2, h3⟩
  exact ⟨b, off, h1, Nat.lt_of_lt_of_le h2 hk.size, fun i hi => ⟨fun j v hv => (hk.cell (p := ⟨b, off + i * 5 + j, none⟩) h2 (hx b off none h1)).trans ((h3 i hi).row j v hv), (h3 i hi).fit⟩⟩
theorem own_off {w : World} {B sz n : Nat} {e : TypeId} {ad : Option Addr} {len cap : Nat} {X : List Value} (h : w.ownsRow B e sz (.slice ad len cap) n X) : ∀ b off sp, ad = some ⟨b, off, sp⟩ → B ≤ b := fun b off sp hb => by
  subst hb
  exact (h.lt b rfl).1

set_option maxHeartbeats 4000000 in
theorem whole14p (ad : Option Addr) (len cap : Nat) (ad2 : Option Addr) (len2 cap2 : Nat) (v : VerV) (w : World) (h : VerW w ad len cap ad2 len2 cap2 v) :
    Calls Try.prog 11 #[verC ad len cap ad2 len2 cap2 v.2.2] w fun r w' => ∃ bd bl bc bd2 bl2 bc2 bd3 bl3 bc3 bd4 bl4 bc4, r = .returned (edC bd bl bc bd2 bl2 bc2 bd3 bl3 bc3 bd4 bl4 bc4 v.2.2) ∧
      EdW w' bd bl bc bd2 bl2 bc2 bd3 bl3 bc3 bd4 bl4 bc4 (wholeV v) ∧ Kept (fun _ => False) w w' := by
  show Calls Try.prog 11 #[.agg #[.slice ad len cap, .slice ad2 len2 cap2, .int .i64 v.2.2]] w _
  have HV := Lib.hid h
  obtain ⟨T, l, s⟩ := v
  simp only
  go_enter Try.func11, Try.ntmps11
  go_upto_region 1 with (fail)
  have hk0 : Kept (fun _ => False) w ((w.alloc (.cells #[.slice ad len cap, .slice ad2 len2 cap2, .int .i64 s] 25)).alloc (.cells #[.slice none 0 0, .slice none 0 0, .slice none 0 0, .slice none 0 0, .int .i64 0] 33)) := ((Kept.refl _ _).alloc _).alloc _
  have hB0 : Holds ((w.alloc (.cells #[.slice ad len cap, .slice ad2 len2 cap2, .int .i64 s] 25)).alloc (.cells #[.slice none 0 0, .slice none 0 0, .slice none 0 0, .slice none 0 0, .int .i64 0] 33)) w.heap.size [.slice ad len cap, .slice ad2 len2 cap2, .int .i64 s] 25 :=
    Holds.of_block (Holds.new w _ _) (((Kept.refl (fun _ => False) (w.alloc _)).alloc _).block _ (by simp) (fun f => f))
  have hR0 : Holds ((w.alloc (.cells #[.slice ad len cap, .slice ad2 len2 cap2, .int .i64 s] 25)).alloc (.cells #[.slice none 0 0, .slice none 0 0, .slice none 0 0, .slice none 0 0, .int .i64 0] 33)) (w.heap.size + 1) [.slice none 0 0, .slice none 0 0, .slice none 0 0, .slice none 0 0, .int .i64 0] 33 := by
    have := Holds.new (w.alloc (.cells #[.slice ad len cap, .slice ad2 len2 cap2, .int .i64 s] 25)) [.slice none 0 0, .slice none 0 0, .slice none 0 0, .slice none 0 0, .int .i64 0] 33
    rwa [show (w.alloc (.cells #[.slice ad len cap, .slice ad2 len2 cap2, .int .i64 s] 25)).heap.size = w.heap.size + 1 from Array.size_push _] at this
  generalize (w.alloc (.cells #[.slice ad len cap, .slice ad2 len2 cap2, .int .i64 s] 25)).alloc (.cells #[.slice none 0 0, .slice none 0 0, .slice none 0 0, .slice none 0 0, .int .i64 0] 33) = w2 at hk0 hB0 hR0 ⊢
  have hkd : Kept (fun _ => False) w w2.drew := hk0.drewN 1
  have hBd : Holds w2.drew w.heap.size [.slice ad len cap, .slice ad2 len2 cap2, .int .i64 s] 25 := hB0
  have hRd : Holds w2.drew (w.heap.size + 1) [.slice none 0 0, .slice none 0 0, .slice none 0 0, .slice none 0 0, .int .i64 0] 33 := hR0
  have hS : (fun W : World => W.cell? ⟨w.heap.size, 0, none⟩ = some (.slice ad len cap) ∧ W.cell? ⟨w.heap.size, 1, none⟩ = some (.slice ad2 len2 cap2) ∧ W.cell? ⟨w.heap.size, 2, none⟩ = some (.int .i64 s)) w2.drew := ⟨Holds.cell hBd 0 _ rfl, Holds.cell hBd 1 _ rfl, Holds.cell hBd 2 _ rfl⟩
  refine wp_region_until (fun W : World => W.cell? ⟨w.heap.size, 0, none⟩ = some (.slice ad len cap) ∧ W.cell? ⟨w.heap.size, 1, none⟩ = some (.slice ad2 len2 cap2) ∧ W.cell? ⟨w.heap.size, 2, none⟩ = some (.int .i64 s)) 9 (by kernel_rfl) ?_
  generalize w2.drew = w3 at hkd hBd hRd hS ⊢
  clear hk0 hB0 hR0
  refine wpAnyU_take (i := 0) (v := (.pointer (some ⟨w.heap.size, 0, none⟩))) (some 3) rfl rfl (by kernel_rfl) (by kernel_rfl) (by kernel_rfl) (by kernel_rfl) (fun _ _ _ h => h) hS (yields_of (by kernel_rfl) (fun w hw => by obtain ⟨h0, h1, h2⟩ := hw; go_simp)) ?_
  refine wpAnyU_take (i := 1) (v := (.slice ad len cap)) (some 4) rfl rfl (by kernel_rfl) (by kernel_rfl) (by kernel_rfl) (by kernel_rfl) (fun _ _ _ h => h) hS (yields_of (by kernel_rfl) (fun w hw => by obtain ⟨h0, h1, h2⟩ := hw; go_simp)) ?_
  refine wpAnyU_take (i := 3) (v := (.pointer (some ⟨w.heap.size, 1, none⟩))) (some 6) rfl rfl (by kernel_rfl) (by kernel_rfl) (by kernel_rfl) (by kernel_rfl) (fun _ _ _ h => h) hS (yields_of (by kernel_rfl) (fun w hw => by obtain ⟨h0, h1, h2⟩ := hw; go_simp)) ?_
  refine wpAnyU_take (i := 4) (v := (.slice ad2 len2 cap2)) (some 7) rfl rfl (by kernel_rfl) (by kernel_rfl) (by kernel_rfl) (by kernel_rfl) (fun _ _ _ h => h) hS (yields_of (by kernel_rfl) (fun w hw => by obtain ⟨h0, h1, h2⟩ := hw; go_simp)) ?_
  refine wpAnyU_take (i := 6) (v := (.pointer (some ⟨w.heap.size, 2, none⟩))) (some 9) rfl rfl (by kernel_rfl) (by kernel_rfl) (by kernel_rfl) (by kernel_rfl) (fun _ _ _ h => h) hS (yields_of (by kernel_rfl) (fun w hw => by obtain ⟨h0, h1, h2⟩ := hw; go_simp)) ?_
  refine wpAnyU_take (i := 7) (v := (.int .i64 s)) (some 10) rfl rfl (by kernel_rfl) (by kernel_rfl) (by kernel_rfl) (by kernel_rfl) (fun _ _ _ h => h) hS (yields_of (by kernel_rfl) (fun w hw => by obtain ⟨h0, h1, h2⟩ := hw; go_simp)) ?_
  refine wpAnyU_call (i := 2) (f := 32) (args := #[.slice ad len cap]) (some 5) rfl rfl (by kernel_rfl) (by kernel_rfl) (by kernel_rfl) ?_
  refine (cloneMetas ad len cap T w3 (metas_kept HV.out.1 hkd) HV.out.2.1).mono ?_
  rintro e w4 ⟨v1, rfl, hown1, hb1⟩
  obtain ⟨a1, p1, rfl, hM1, hlc1, hfl1, hn1⟩ := owns_metas hown1 HV.out.1.1 (fits_of HV.out.1)
  have hkc := Kept.of_below (fun _ => False) hb1
  have hB4 : Holds w4 w.heap.size [.slice ad len cap, .slice ad2 len2 cap2, .int .i64 s] 25 := Holds.of_block hBd (hkc.block _ (Holds.lt hBd) (fun f => f))
  have hR4 := Holds.of_block hRd (hkc.block _ (Holds.lt hRd) (fun f => f))
  have hk4 := hkd.trans hkc (fun _ f => f.elim)
  refine ⟨.slice a1 len p1, rfl, fun _ => ⟨Holds.cell hB4 0 _ rfl, Holds.cell hB4 1 _ rfl, Holds.cell hB4 2 _ rfl⟩, ?_⟩
  refine wpAnyU_call (i := 5) (f := 33) (args := #[.slice ad2 len2 cap2]) (some 8) rfl rfl (by kernel_rfl) (by kernel_rfl) (by kernel_rfl) ?_
  refine (cloneInts ad2 len2 cap2 l w4 (ints_keptV HV.out.2.2.1 hk4) HV.out.2.2.2.1.2.2.2 (by have := HV.out.2.2.2.1.2.2.1; omega)).mono ?_
  rintro e w5 ⟨v2, rfl, hown2, hb2⟩
  obtain ⟨a2, p2, rfl, hM2, hlc2, hn2⟩ := owns_ints hown2 HV.out.2.2.1.1
  have hkc2 := Kept.of_below (fun _ => False) hb2
  have hB5 : Holds w5 w.heap.size [.slice ad len cap, .slice ad2 len2 cap2, .int .i64 s] 25 := Holds.of_block hB4 (hkc2.block _ (Holds.lt hB4) (fun f => f))
  have hR5 := Holds.of_block hR4 (hkc2.block _ (Holds.lt hR4) (fun f => f))
  have hk5 := hk4.trans hkc2 (fun _ f => f.elim)
  have hM1' := metas_kept hM1 hkc2
  refine ⟨.slice a2 len2 p2, rfl, fun _ => ⟨Holds.cell hB5 0 _ rfl, Holds.cell hB5 1 _ rfl, Holds.cell hB5 2 _ rfl⟩, ?_⟩
  refine wpAnyU_run (i := 8) (v := .agg #[.slice a1 len p1, .slice none 0 0, .slice a2 len2 p2, .slice none 0 0, .int .i64 s]) (w' := w5) (some 11) rfl rfl (by kernel_rfl) (by kernel_rfl) (by kernel_rfl) (fun _ => ⟨Holds.cell hB5 0 _ rfl, Holds.cell hB5 1 _ rfl, Holds.cell hB5 2 _ rfl⟩) ?_
  have r0 := Holds.cell hR5 0 _ rfl
  have r1 := Holds.cell hR5 1 _ rfl
  have r2 := Holds.cell hR5 2 _ rfl
  have r3 := Holds.cell hR5 3 _ rfl
  have r4 := Holds.cell hR5 4 _ rfl
  have q0 := Holds.free hR5 0
  have q1 := Holds.free hR5 1
  have q2 := Holds.free hR5 2
  have q3 := Holds.free hR5 3
  have q4 := Holds.free hR5 4
  have hkN : Kept (fun _ => False) w (w5.setCells (w.heap.size + 1) 0 [.slice a1 len p1, .slice none 0 0, .slice a2 len2 p2, .slice none 0 0, .int .i64 s]) := Kept.setCellsN (Nat.le_succ _) _ 0 w5 hk5
  have hkr : Kept (fun k => k = w.heap.size + 1) w5 (w5.setCells (w.heap.size + 1) 0 [.slice a1 len p1, .slice none 0 0, .slice a2 len2 p2, .slice none 0 0, .int .i64 s]) := Kept.setCells (X := fun k => k = w.heap.size + 1) rfl _ 0 w5 (Kept.refl _ _)
  have hPN := hR5.setCells [.slice a1 len p1, .slice none 0 0, .slice a2 len2 p2, .slice none 0 0, .int .i64 s] 0 w5 [.slice none 0 0, .slice none 0 0, .slice none 0 0, .slice none 0 0, .int .i64 0] (Nat.le_refl _)
  rw [lay_all [.slice none 0 0, .slice none 0 0, .slice none 0 0, .slice none 0 0, .int .i64 0] [.slice a1 len p1, .slice none 0 0, .slice a2 len2 p2, .slice none 0 0, .int .i64 s] rfl] at hPN
  refine wpAnyU_skip (i := 9) (w' := w5.setCells (w.heap.size + 1) 0 [.slice a1 len p1, .slice none 0 0, .slice a2 len2 p2, .slice none 0 0, .int .i64 s]) none rfl rfl (by kernel_rfl) (by kernel_rfl) (by simp only [put_lit, List.set_cons_succ, List.set_cons_zero]; go_simp; rfl) (fun h => absurd h (by decide)) ?_
  refine wpAnyU_done (by kernel_rfl) ?_ _
  simp only [put_lit, List.set_cons_succ, List.set_cons_zero]
  generalize w5.setCells (w.heap.size + 1) 0 [.slice a1 len p1, .slice none 0 0, .slice a2 len2 p2, .slice none 0 0, .int .i64 s] = w6 at hkN hkr hPN ⊢
  go_wp2
  have hsz := Holds.lt hRd
  have hsz4 := hkc.size
  have hM6 : MetasW w6 a1 len T := metas_keptX hM1' hkr (fun b off sp hb => by have := own_off hown1 b off sp hb; omega)
  have hI6 : Ints w6 a2 len2 l := hM2.kept hkr (.inr fun b off hb => by have := own_off hown2 b off none hb; omega)
  refine bodyPost_ret (v := edC a1 len p1 none 0 0 a2 len2 p2 none 0 0 s) ?_ rfl ⟨a1, len, p1, none, 0, 0, a2, len2, p2, none, 0, 0, rfl, ⟨hM6, ⟨hfl1, hlc1, HV.out.2.1.2.2.1, hn1⟩, (ints_none w6).1, (ints_none w6).2, hI6, ⟨HV.out.2.2.2.1.1, hlc2, HV.out.2.2.2.1.2.2.1, hn2⟩, (ints_none w6).1, (ints_none w6).2, HV.out.2.2.2.2⟩, hkN⟩
  exact results_cell_row rfl _ _ (w.heap.size + 1) 33 #[.slice a1 len p1, .slice none 0 0, .slice a2 len2 p2, .slice none 0 0, .int .i64 s] _ _ rfl hPN Try.underlying33 rfl (by kernel_rfl)

end Go.Proofs.Ytjdolimeibpacaa
