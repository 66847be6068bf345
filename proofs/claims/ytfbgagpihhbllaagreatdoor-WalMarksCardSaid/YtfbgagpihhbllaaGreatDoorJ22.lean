/- RtV. -/
import Derived.Test.YtfbgagpihhbllaaGreatDoorJ20
import Derived.Test.YtfbgagpihhbllaaGreatDoorJ21
import Derived.Test.YtfbgagpihhbllaaGreatDoorJ09
import Derived.Test.YtfbgagpihhbllaaGreatDoorJ08
import Derived.Laws.ResultCell

/- Package root: Decode. -/
namespace Go.Proofs.YtfbgagpihhbllaaGreatDoor
open Go.RowKit Go.Proofs Go.Proofs.Pk
set_option maxRecDepth 10000
attribute [local simp] mk_get wrap64_u8 mk_extract ByteArray.mk_append_mk get_1k

/-- What the program's Decode answers. -/
def DP (w : World) (r : RootN × Nat) (e : Ending) (w' : World) : Prop :=
  Below w.heap.size w w' ∧ ∃ v, e = .returned (.tuple #[.agg #[.int .i64 (r.1.1 : Int), .int .i64 (r.1.2.1 : Int), .int .i64 (r.1.2.2.1 : Int), v], errV 33 r.2]) ∧ w'.ownsRow w.heap.size 102 3 v r.1.2.2.2.length (cellsF r.1.2.2.2)
theorem DP.zero {w w' : World} (c : Nat) (v : Value) (hv : v = errV 33 c) (h : Below w.heap.size w w') : DP w (rootZ, c) (.returned (.tuple #[.agg #[.int .i64 0, .int .i64 0, .int .i64 0, .slice none 0 0], v])) w' := by
  subst hv; exact ⟨h, _, rfl, World.ownsRow_nil _ _ _ _⟩
theorem rdNums_add : ∀ (a k : Nat) (c : List UInt8), rdNums (a + k) c = if (rdNums a c).2.2 ≠ 0 then ([], [], (rdNums a c).2.2) else addN (rdNums a c).1 (rdNums k (rdNums a c).2.1)
  | 0, k, c => by
    rw [Nat.zero_add]
    show rdNums k c = if (0 : Nat) ≠ 0 then _ else addN [] (rdNums k c)
    rw [if_neg (by decide)]; exact addN_nil k c
  | a + 1, k, c => by
    rw [show a + 1 + k = (a + k) + 1 from by omega, rdNums, rdNums, rdNums_add a k]
    by_cases h : (rdNum c).2.2 = 0
    · by_cases h2 : (rdNums a (rdNum c).2.1).2.2 = 0
      · by_cases h3 : (rdNums k (rdNums a (rdNum c).2.1).2.1).2.2 = 0 <;> simp [h, h2, h3, addN]
      · simp [h, h2]
    · simp [h]
theorem addN_more (P : List Nat) (a k : Nat) (c : List UInt8) (h : (rdNums a c).2.2 = 0) : addN P (rdNums (a + k) c) = addN (P ++ (rdNums a c).1) (rdNums k (rdNums a c).2.1) := by
  rw [rdNums_add, if_neg (by simp [h])]
  by_cases h3 : (rdNums k (rdNums a c).2.1).2.2 = 0 <;> simp [addN, h3]
theorem addN_fail (P : List Nat) (a k : Nat) (c : List UInt8) (h : (rdNums a c).2.2 ≠ 0) : addN P (rdNums (a + k) c) = ([], [], (rdNums a c).2.2) := by
  rw [rdNums_add, if_pos h]
  simp [addN, h]

set_option maxHeartbeats 2000000 in
theorem pDecode (T : Int) (b : List UInt8) (w : World) (ht : Fit T) (hbl : (b.length : Int) ≤ 140737488351232) :
    Calls Tryz.prog 58 #[.int .i64 T, .string ⟨b.toArray⟩] w (DP w (decV T b)) := by
  by_cases h512 : 512 < b.length
  · have HV : Hid (decV T b = (rootZ, 5)) := by show _ = _; unfold decV; rw [if_pos h512]
    rw [HV.out]
    have hi : (512 : Int) < (b.length : Int) := by omega
    clear HV ht
    go_enter Tryz.func58, Tryz.ntmps58
    go_wp2
    refine bodyPost_ret (v := .tuple #[.agg #[.int .i64 0, .int .i64 0, .int .i64 0, .slice none 0 0], .iface 33 (.int .i64 5)]) ?_ rfl ?_
    · rw [results_cell_tmp rfl]; go_simp
    · exact DP.zero 5 _ rfl ((Below.refl _ _).alloc (Nat.le_refl _) _)
  · have hi : ¬(512 : Int) < (b.length : Int) := by omega
    have HX := Holds.new w [.int .i64 0, .int .i64 0, .int .i64 0, .slice none 0 0] 78
    have hb0 := (Below.refl w.heap.size w).alloc (Nat.le_refl _) (.cells #[.int .i64 0, .int .i64 0, .int .i64 0, .slice none 0 0] 78)
    go_enter Tryz.func58, Tryz.ntmps58
    go_wp2_with fail
    obtain ⟨p, hp⟩ : ∃ p, Hid (p = w.heap.size) := ⟨_, rfl⟩
    have hsz1 : (w.alloc (.cells #[.int .i64 0, .int .i64 0, .int .i64 0, .slice none 0 0] 78)).heap.size = w.heap.size + 1 := by simp
    rw [← hp.out] at HX hsz1 ⊢
    change Holds (w.alloc (.cells #[.int .i64 0, .int .i64 0, .int .i64 0, .slice none 0 0] 78)) p _ _ at HX
    generalize w.alloc (.cells #[.int .i64 0, .int .i64 0, .int .i64 0, .slice none 0 0] 78) = w1 at HX hb0 hsz1 ⊢
    have HA := Holds.new w1 [.int .i64 0, .int .i64 0, .int .i64 0, .int .i64 0] 140
    have HXA := HX.alloc (.cells #[.int .i64 0, .int .i64 0, .int .i64 0, .int .i64 0] 140)
    have hbA := hb0.alloc hb0.size (.cells #[.int .i64 0, .int .i64 0, .int .i64 0, .int .i64 0] 140)
    obtain ⟨g4, hg4⟩ : ∃ g4, Hid (g4 = p + 1) := ⟨_, rfl⟩
    rw [hsz1, ← hg4.out] at HA
    rw [← hg4.out]
    change Holds (w1.alloc (.cells #[.int .i64 0, .int .i64 0, .int .i64 0, .int .i64 0] 140)) g4 _ _ at HA
    generalize w1.alloc (.cells #[.int .i64 0, .int .i64 0, .int .i64 0, .int .i64 0] 140) = w2 at HA HXA hbA ⊢
    have HWP : Hid (w.heap.size ≤ p) := Nat.le_of_eq hp.out.symm
    have HPG : Hid (p < g4) := by show p < g4; rw [hg4.out]; omega
    have HN1 := pReadL b 4 g4 4 _ _ w2 HA rfl (by omega) (by omega)
    have hle := rdNums_le 4 b
    have hll := rdNums_length 4 b
    have hrs := rdNums_rest 4 b
    have hKB : ∀ w' : World, Kept (fun k => k = g4) w2 w' → Holds w' p [.int .i64 0, .int .i64 0, .int .i64 0, .slice none 0 0] 78 ∧ Below w.heap.size w w' := fun w' hk =>
      ⟨HXA.of_block (hk.block p HXA.lt (by have := HPG.out; omega)), hbA.trans (hk.below hbA.size (fun n hn => by have := HPG.out; have := HWP.out; omega))⟩
    clear HX hb0 HA HXA hbA hsz1
    by_cases hz : (rdNums 4 b).2.2 = 0
    · rw [hz] at HN1
      obtain ⟨a0, a1, a2, a3, hl4⟩ : ∃ a0 a1 a2 a3, (rdNums 4 b).1 = [a0, a1, a2, a3] := by
        have h4 := hll hz
        match h5 : (rdNums 4 b).1, h4 with
        | [x0, x1, x2, x3], _ => exact ⟨x0, x1, x2, x3, rfl⟩
      have hV0 : decV T b = (if 24 < a3 then (rootZ, 5) else if (rdNums (3 * a3) (rdNums 4 b).2.1).2.2 ≠ 0 then (rootZ, (rdNums (3 * a3) (rdNums 4 b).2.1).2.2) else if (rdNums (3 * a3) (rdNums 4 b).2.1).2.1 ≠ [] then (rootZ, 3) else
          if rightV T (a0 : Nat) (a1 : Nat) (a2 : Nat) ((group (rdNums (3 * a3) (rdNums 4 b).2.1).1).map fileI) then ((a0, a1, a2, group (rdNums (3 * a3) (rdNums 4 b).2.1).1), 0) else (rootZ, 1)) := by
        unfold decV
        rw [if_neg h512]
        simp only [hl4]
        rw [if_neg (by rw [hz]; decide)]
        rfl
      rw [hl4] at HN1 hle
      have ha3 : (a3 : Int) ≤ 9007199254740991 := by have := hle a3 (by simp); unfold MaxN at this; omega
      have HV0 := Lib.hid hV0
      have hrest : (rdNums 4 b).2.1.length ≤ 4096 := by omega
      generalize (rdNums 4 b).2.1 = rest at *
      clear hl4 hll hz hV0 hrs hle
      refine HN1.mono ?_
      rintro e w3 ⟨rfl, hk3, hh3⟩
      have HF := hh3 rfl
      obtain ⟨HX3, hb3⟩ := hKB w3 hk3
      have e0 := HF.cell 0 _ rfl
      have e1 := HF.cell 1 _ rfl
      have e2 := HF.cell 2 _ rfl
      have e3 := HF.cell 3 _ rfl
      have hS0 : w3.drew.cell? ⟨g4, 0, none⟩ = some (.int .i64 (a0 : Int)) ∧ w3.drew.cell? ⟨g4, 1, none⟩ = some (.int .i64 (a1 : Int)) ∧ w3.drew.cell? ⟨g4, 2, none⟩ = some (.int .i64 (a2 : Int)) ∧ w3.drew.cell? ⟨g4, 3, none⟩ = some (.int .i64 (a3 : Int)) := ⟨e0, e1, e2, e3⟩
      obtain ⟨iT, hiT, hzT, hsT, hbT⟩ := info_parts root_info
      simp only [errV, if_pos]
      clear HN1 hKB hh3 hk3 HF e0 e1 e2 e3
      go_upto_region 7 with (fail)
      refine wp_region_until (fun w' => w'.cell? ⟨g4, 0, none⟩ = some (.int .i64 (a0 : Int)) ∧ w'.cell? ⟨g4, 1, none⟩ = some (.int .i64 (a1 : Int)) ∧ w'.cell? ⟨g4, 2, none⟩ = some (.int .i64 (a2 : Int)) ∧ w'.cell? ⟨g4, 3, none⟩ = some (.int .i64 (a3 : Int))) 12 (by kernel_rfl) ?_
      refine wpAnyU_take (i := 0) (v := (.pointer (some ⟨g4, 0, none⟩))) (some 27) rfl rfl (by kernel_rfl) (by kernel_rfl) (by kernel_rfl) (by kernel_rfl) (fun _ _ _ h => h) hS0 (yields_of (by kernel_rfl) (fun w hw => by obtain ⟨z0, z1, z2, z3⟩ := hw; go_simp)) ?_
      refine wpAnyU_take (i := 1) (v := (.int .i64 (a0 : Int))) (some 28) rfl rfl (by kernel_rfl) (by kernel_rfl) (by kernel_rfl) (by kernel_rfl) (fun _ _ _ h => h) hS0 (yields_of (by kernel_rfl) (fun w hw => by obtain ⟨z0, z1, z2, z3⟩ := hw; go_simp)) ?_
      refine wpAnyU_take (i := 2) (v := (.pointer (some ⟨g4, 1, none⟩))) (some 29) rfl rfl (by kernel_rfl) (by kernel_rfl) (by kernel_rfl) (by kernel_rfl) (fun _ _ _ h => h) hS0 (yields_of (by kernel_rfl) (fun w hw => by obtain ⟨z0, z1, z2, z3⟩ := hw; go_simp)) ?_
      refine wpAnyU_take (i := 3) (v := (.int .i64 (a1 : Int))) (some 30) rfl rfl (by kernel_rfl) (by kernel_rfl) (by kernel_rfl) (by kernel_rfl) (fun _ _ _ h => h) hS0 (yields_of (by kernel_rfl) (fun w hw => by obtain ⟨z0, z1, z2, z3⟩ := hw; go_simp)) ?_
      refine wpAnyU_take (i := 4) (v := (.pointer (some ⟨g4, 2, none⟩))) (some 31) rfl rfl (by kernel_rfl) (by kernel_rfl) (by kernel_rfl) (by kernel_rfl) (fun _ _ _ h => h) hS0 (yields_of (by kernel_rfl) (fun w hw => by obtain ⟨z0, z1, z2, z3⟩ := hw; go_simp)) ?_
      refine wpAnyU_take (i := 5) (v := (.int .i64 (a2 : Int))) (some 32) rfl rfl (by kernel_rfl) (by kernel_rfl) (by kernel_rfl) (by kernel_rfl) (fun _ _ _ h => h) hS0 (yields_of (by kernel_rfl) (fun w hw => by obtain ⟨z0, z1, z2, z3⟩ := hw; go_simp)) ?_
      refine wpAnyU_take (i := 6) (v := (.agg [.int .i64 (a0 : Int), .int .i64 (a1 : Int), .int .i64 (a2 : Int), .slice none 0 0].toArray)) (some 33) rfl rfl (by kernel_rfl) (by kernel_rfl) (by kernel_rfl) (by kernel_rfl) (fun _ _ _ h => h) hS0 (yields_of (by kernel_rfl) (fun w hw => by obtain ⟨z0, z1, z2, z3⟩ := hw; go_simp)) ?_
      refine wpAnyU_take (i := 7) (v := (.pointer (some ⟨g4, 3, none⟩))) (some 34) rfl rfl (by kernel_rfl) (by kernel_rfl) (by kernel_rfl) (by kernel_rfl) (fun _ _ _ h => h) hS0 (yields_of (by kernel_rfl) (fun w hw => by obtain ⟨z0, z1, z2, z3⟩ := hw; go_simp)) ?_
      refine wpAnyU_take (i := 8) (v := (.int .i64 (a3 : Int))) (some 35) rfl rfl (by kernel_rfl) (by kernel_rfl) (by kernel_rfl) (by kernel_rfl) (fun _ _ _ h => h) hS0 (yields_of (by kernel_rfl) (fun w hw => by obtain ⟨z0, z1, z2, z3⟩ := hw; go_simp)) ?_
      obtain ⟨q, hq⟩ : ∃ q, Hid (q = w3.drew.heap.size) := ⟨_, rfl⟩
      refine wpAnyU_run (i := 9) (v := .pointer (some ⟨w3.drew.heap.size, 0, none⟩)) (w' := w3.drew.alloc (.cells [.int .i64 0, .int .i64 0, .int .i64 0, .slice none 0 0].toArray 78)) (some 9) rfl rfl (by kernel_rfl) (by kernel_rfl) (exec_alloc iT _ hiT hzT rfl) (fun _ => ⟨Lib.cell?_alloc_some _ hS0.1, Lib.cell?_alloc_some _ hS0.2.1, Lib.cell?_alloc_some _ hS0.2.2.1, Lib.cell?_alloc_some _ hS0.2.2.2⟩) ?_
      have HQ := Holds.new w3.drew [.int .i64 0, .int .i64 0, .int .i64 0, .slice none 0 0] 78
      have HXQ := (Holds.drew HX3).alloc (.cells [Value.int .i64 0, .int .i64 0, .int .i64 0, .slice none 0 0].toArray 78)
      have hbQ := (belowN hb3 1).alloc (belowN hb3 1).size (.cells [Value.int .i64 0, .int .i64 0, .int .i64 0, .slice none 0 0].toArray 78)
      change Below w.heap.size w (w3.drew.alloc _) at hbQ
      have hpq : p < q := by rw [hq.out]; exact HX3.lt
      have hgq : g4 < q := by rw [hq.out]; exact World.block_lt_of_cell? w3.drew _ hS0.1
      have hS1 : (w3.drew.alloc (.cells [Value.int .i64 0, .int .i64 0, .int .i64 0, .slice none 0 0].toArray 78)).cell? ⟨g4, 0, none⟩ = some (.int .i64 (a0 : Int)) ∧ (w3.drew.alloc (.cells [Value.int .i64 0, .int .i64 0, .int .i64 0, .slice none 0 0].toArray 78)).cell? ⟨g4, 1, none⟩ = some (.int .i64 (a1 : Int)) ∧ (w3.drew.alloc (.cells [Value.int .i64 0, .int .i64 0, .int .i64 0, .slice none 0 0].toArray 78)).cell? ⟨g4, 2, none⟩ = some (.int .i64 (a2 : Int)) ∧ (w3.drew.alloc (.cells [Value.int .i64 0, .int .i64 0, .int .i64 0, .slice none 0 0].toArray 78)).cell? ⟨g4, 3, none⟩ = some (.int .i64 (a3 : Int)) :=
        ⟨Lib.cell?_alloc_some _ hS0.1, Lib.cell?_alloc_some _ hS0.2.1, Lib.cell?_alloc_some _ hS0.2.2.1, Lib.cell?_alloc_some _ hS0.2.2.2⟩
      rw [← hq.out] at HQ ⊢
      generalize w3.drew.alloc (.cells [Value.int .i64 0, .int .i64 0, .int .i64 0, .slice none 0 0].toArray 78) = wa at HQ HXQ hbQ hS1 ⊢
      have hS2 : ∀ k v, wa.cell? ⟨g4, k, none⟩ = some v → (wa.setCells q 0 [.int .i64 (a0 : Int), .int .i64 (a1 : Int), .int .i64 (a2 : Int), .slice none 0 0]).cell? ⟨g4, k, none⟩ = some v := fun k v h => by
        rw [World.cell?_of_block (w := wa) (a := ⟨g4, k, none⟩) (setCells_other q g4 (by omega) _ _ _)]; exact h
      have hS3 := And.intro (hS2 _ _ hS1.1) (And.intro (hS2 _ _ hS1.2.1) (And.intro (hS2 _ _ hS1.2.2.1) (hS2 _ _ hS1.2.2.2)))
      refine wpAnyU_skip (i := 10) (w' := wa.setCells q 0 [.int .i64 (a0 : Int), .int .i64 (a1 : Int), .int .i64 (a2 : Int), .slice none 0 0]) none rfl rfl (by kernel_rfl) (by kernel_rfl) (exec_store_mid 78 (.tmp 9) (.tmp 33) rfl q 0 _ (by kernel_rfl) (by kernel_rfl) (HQ.there 0 _ (by simp)) (by kernel_rfl) (by simp [Value.oneCell'])) (fun _ => hS3) ?_
      refine wpAnyU_run (i := 11) (v := .int .i64 (a3 : Int)) (w' := wa.setCells q 0 [.int .i64 (a0 : Int), .int .i64 (a1 : Int), .int .i64 (a2 : Int), .slice none 0 0]) (some 10) rfl rfl (by kernel_rfl) (by kernel_rfl) (by go_simp) (fun _ => hS3) ?_
      refine wpAnyU_done (by kernel_rfl) ?_ _
      have HQ2 := Holds.setCells [.int .i64 (a0 : Int), .int .i64 (a1 : Int), .int .i64 (a2 : Int), .slice none 0 0] 0 wa _ HQ (by simp)
      rw [lay_all _ _ (by simp)] at HQ2
      have HX6 := HXQ.setOther (g := q) (o := 0) (vs := [.int .i64 (a0 : Int), .int .i64 (a1 : Int), .int .i64 (a2 : Int), .slice none 0 0]) (by omega)
      have hb6 : Below w.heap.size w (wa.setCells q 0 [.int .i64 (a0 : Int), .int .i64 (a1 : Int), .int .i64 (a2 : Int), .slice none 0 0]) := below_stored hbQ (by have := HWP.out; omega)
      generalize wa.setCells q 0 [.int .i64 (a0 : Int), .int .i64 (a1 : Int), .int .i64 (a2 : Int), .slice none 0 0] = w6 at HQ2 HX6 hb6 ⊢
      have HPQ := Lib.hid hpq
      clear HQ HXQ hbQ hS0 hS1 hS2 hS3 HX3 hb3 hpq hgq
      simp only [put_lit, List.set_cons_succ, List.set_cons_zero]
      by_cases h24 : 24 < a3
      · have HV : Hid (decV T b = (rootZ, 5)) := by show _ = _; rw [HV0.out, if_pos h24]
        have h24i : (24 : Int) < (a3 : Int) := by omega
        have x0 := HX6.cell 0 _ rfl
        have x1 := HX6.cell 1 _ rfl
        have x2 := HX6.cell 2 _ rfl
        have x3 := HX6.cell 3 _ rfl
        have f0 := HX6.free 0
        have f1 := HX6.free 1
        have f2 := HX6.free 2
        have f3 := HX6.free 3
        have HX3 := Lib.hid (root_stored (a' := .int .i64 0) (b' := .int .i64 0) (c' := .int .i64 0) (d' := .slice none 0 0) HX6)
        have HB3 := Lib.hid (below_stored (a' := .int .i64 0) (b' := .int .i64 0) (c' := .int .i64 0) (d' := .slice none 0 0) hb6 HWP.out)
        clear HX6 hb6 HV0 HQ2
        go_wp2
        clear x0 x1 x2 x3 f0 f1 f2 f3
        generalize (((w6.setCell ⟨p, 0, none⟩ (.int .i64 0)).setCell ⟨p, 1, none⟩ (.int .i64 0)).setCell ⟨p, 2, none⟩ (.int .i64 0)).setCell ⟨p, 3, none⟩ (.slice none 0 0) = w9 at HX3 HB3 ⊢
        have x0 := HX3.out.cell 0 _ rfl
        have x1 := HX3.out.cell 1 _ rfl
        have x2 := HX3.out.cell 2 _ rfl
        have x3 := HX3.out.cell 3 _ rfl
        refine bodyPost_ret (v := .tuple #[.agg #[.int .i64 0, .int .i64 0, .int .i64 0, .slice none 0 0], .iface 33 (.int .i64 5)]) ?_ rfl ?_
        · rw [results_cell_tmp rfl]; go_simp
        · rw [HV.out]; exact DP.zero 5 _ (by first | rfl | exact HERR.out) HB3.out
      · have h24i : ¬(24 : Int) < (a3 : Int) := by omega
        obtain ⟨R, hR⟩ : ∃ R, Hid (R = rdNums (3 * a3) rest) := ⟨_, rfl⟩
        have HVx : Hid (decV T b = (if R.2.2 ≠ 0 then (rootZ, R.2.2) else if R.2.1 ≠ [] then (rootZ, 3) else
          if rightV T (a0 : Nat) (a1 : Nat) (a2 : Nat) ((group R.1).map fileI) then ((a0, a1, a2, group R.1), 0) else (rootZ, 1))) := by
          show _ = _; rw [HV0.out, if_neg h24, hR.out]
        have HRL : Hid (∀ n ∈ R.1, n ≤ MaxN) := by show ∀ _ _, _; rw [hR.out]; exact rdNums_le _ _
        have HR0 : Hid (R = addN (filesN []) (rdNums (3 * (a3 - 0)) rest)) := by show _ = _; rw [hR.out, Nat.sub_zero]; exact addN_nil _ _
        obtain ⟨B, hB⟩ : ∃ B, Hid (B = w6.heap.size) := ⟨_, rfl⟩
        have HQB : Hid (q < B) := by show q < B; rw [hB.out]; exact HQ2.lt
        have HINV : Hid (∃ vf, Holds w6 q [.int .i64 (a0 : Int), .int .i64 (a1 : Int), .int .i64 (a2 : Int), vf] 78 ∧ w6.ownsRow B 102 3 vf 0 (cellsF []) ∧ B ≤ w6.heap.size) := ⟨_, HQ2, World.ownsRow_nil _ _ _ _, Nat.le_of_eq hB.out⟩
        have HXX := Lib.hid HX6
        have HBB := Lib.hid hb6
        clear HQ2 HX6 hb6 h24 HV0 hR hB
        obtain ⟨iF, hiF, hzF, hsF, hbF⟩ := info_parts file_info
        go_wp2
        go_loopw [7, 41] (fun s i wr => ∃ (j : Nat) (c : List UInt8) (gs : List FileN), j ≤ a3 ∧ s = .string ⟨c.toArray⟩ ∧ i = .int .i64 (j : Int) ∧ c.length ≤ 4096 ∧ gs.length = j ∧ Hid (R = addN (filesN gs) (rdNums (3 * (a3 - j)) c)) ∧ Hid (Holds wr p [.int .i64 0, .int .i64 0, .int .i64 0, .slice none 0 0] 78) ∧ Hid (∃ vf, Holds wr q [.int .i64 (a0 : Int), .int .i64 (a1 : Int), .int .i64 (a2 : Int), vf] 78 ∧ wr.ownsRow B 102 3 vf j (cellsF gs) ∧ B ≤ wr.heap.size) ∧ Hid (Below w.heap.size w wr)) (fun _ i _ => a3 - (intOf i).toNat)
        case atStart => exact ⟨0, rest, [], Nat.zero_le _, rfl, rfl, hrest, rfl, HR0, HXX, HINV, HBB⟩
        case round =>
          obtain ⟨j, c, gs, hj, rfl, rfl, hc, hgl, hr, hX, hinv, hbw⟩ := hrel
          by_cases hlt : (j : Int) < a3
          · have hja : j < a3 := by omega
            obtain ⟨vf, hQ, hof, hBw⟩ := hinv.out
            have hr2 := hr.out
            rw [show 3 * (a3 - j) = 3 + 3 * (a3 - (j + 1)) from by omega] at hr2
            have hj0 : (0 : Int) ≤ (j : Int) := Int.natCast_nonneg _
            have hwj : IntKind.i64.wrap ((j : Int) + 1) = ((j + 1 : Nat) : Int) := by rw [IntWalk.i64_in _ (by omega)]; omega
            have hvf : ∀ g, vf.ownBlock = some g → g < wr.heap.size := by
              intro g hg
              rcases hof.2 with ⟨rfl, _⟩ | ⟨g', cap, cur, rfl, _, h2, _⟩
              · cases hg
              · cases hg; exact (Array.getElem?_eq_some_iff.1 h2).1
            have HAa := Holds.new wr [.int .i64 0, .int .i64 0, .int .i64 0] 142
            have hXa := hX.out.alloc (.cells #[.int .i64 0, .int .i64 0, .int .i64 0] 142)
            have hQa := hQ.alloc (.cells #[.int .i64 0, .int .i64 0, .int .i64 0] 142)
            have hoa := hof.alloc (.cells #[.int .i64 0, .int .i64 0, .int .i64 0] 142)
            have hba := hbw.out.alloc hbw.out.size (.cells #[.int .i64 0, .int .i64 0, .int .i64 0] 142)
            have hsa : wr.heap.size < (wr.alloc (.cells #[.int .i64 0, .int .i64 0, .int .i64 0] 142)).heap.size := by simp
            obtain ⟨ga, hga⟩ : ∃ ga, Hid (ga = wr.heap.size) := ⟨_, rfl⟩
            go_wp2_with fail
            rw [← hga.out] at HAa ⊢
            change Holds (wr.alloc (.cells #[.int .i64 0, .int .i64 0, .int .i64 0] 142)) ga _ _ at HAa
            generalize wr.alloc (.cells #[.int .i64 0, .int .i64 0, .int .i64 0] 142) = wa at HAa hXa hQa hoa hba hsa ⊢
            have HNr := pReadL c 3 ga 3 _ _ wa HAa rfl hc (by omega)
            have hl3 := rdNums_length 3 c
            have hrs := rdNums_rest 3 c
            have hgB : B ≤ ga := by rw [hga.out]; exact hBw
            have hKB : ∀ w' : World, Kept (fun k => k = ga) wa w' → Holds w' p [.int .i64 0, .int .i64 0, .int .i64 0, .slice none 0 0] 78 ∧ Holds w' q [.int .i64 (a0 : Int), .int .i64 (a1 : Int), .int .i64 (a2 : Int), vf] 78 ∧ w'.ownsRow B 102 3 vf j (cellsF gs) ∧ Below w.heap.size w w' ∧ B ≤ w'.heap.size := fun w' hk => by
              have h1 := HPQ.out
              have h2 := HQB.out
              have h3 := HWP.out
              have h4 := hga.out
              exact ⟨hXa.of_block (hk.block p hXa.lt (by omega)), hQa.of_block (hk.block q hQa.lt (by omega)), owns_of_block hoa (fun g hg => hk.block g (by have := hvf g hg; omega) (by have := hvf g hg; omega)), hba.trans (hk.below hba.size (fun n hn => by omega)), by have := hk.size; omega⟩
            clear HAa hXa hQa hoa hba hsa hvf hQ hof hX hbw hBw
            by_cases hz3 : (rdNums 3 c).2.2 = 0
            · rw [hz3] at HNr
              obtain ⟨y0, y1, y2, hy⟩ : ∃ y0 y1 y2, (rdNums 3 c).1 = [y0, y1, y2] := by
                have h4 := hl3 hz3
                match h5 : (rdNums 3 c).1, h4 with
                | [x0, x1, x2], _ => exact ⟨x0, x1, x2, rfl⟩
              rw [addN_more _ 3 _ c hz3, hy] at hr2
              rw [hy] at HNr
              have HR2 : Hid (R = addN (filesN (gs ++ [(y0, y1, y2)])) (rdNums (3 * (a3 - (j + 1))) (rdNums 3 c).2.1)) := by show _ = _; rw [hr2, filesN_snoc]
              have HCF : Hid (cellsF (gs ++ [(y0, y1, y2)]) = cellsF gs ++ fileV (fileI (y0, y1, y2))) := by show _ = _; unfold cellsF; simp
              have hc2 : (rdNums 3 c).2.1.length ≤ 4096 := by omega
              generalize (rdNums 3 c).2.1 = c2 at *
              clear hr hr2 hy hz3 hl3 hrs hinv
              refine HNr.mono ?_
              rintro e w5 ⟨rfl, hk5, hh5⟩
              have HF := hh5 rfl
              obtain ⟨HX5, HQ5, ho5, hb5, hs5⟩ := hKB w5 hk5
              have e0 := HF.cell 0 _ rfl
              have e1 := HF.cell 1 _ rfl
              have e2 := HF.cell 2 _ rfl
              have c3 := HQ5.cell 3 _ rfl
              simp only [errV, if_pos]
              clear HNr hKB hh5 hk5 HF
              go_upto_region 16 with (fail)
              refine wp_region_lit ?_
              iterate 9
                refine wpList_plain rfl fun K hK => ?_
                go_simp
                refine hK _ _ ?_
                clear hK K
              obtain ⟨FV, hFV⟩ : ∃ FV, Hid (FV = fileV (fileI (y0, y1, y2))) := ⟨_, rfl⟩
              have hFl : FV.length = 3 := by rw [hFV.out]; rfl
              have hF1 : ∀ u ∈ FV, u.oneCell' = true := by rw [hFV.out]; simp [fileV, Value.oneCell']
              rw [← hFV.out] at HCF
              have HQn := Holds.new w5 FV 102
              have HBd := hb5.alloc hb5.size (.cells FV.toArray 102)
              have HOw := ho5.alloc (.cells FV.toArray 102)
              have HHa := HQ5.alloc (.cells FV.toArray 102)
              have HXd := HX5.alloc (.cells FV.toArray 102)
              have hBd : B ≤ (w5.alloc (.cells FV.toArray 102)).heap.size := by simp; omega
              obtain ⟨qq, hqq⟩ : ∃ qq, Hid (qq = w5.heap.size) := ⟨_, rfl⟩
              refine wpList_buildSlice_row rfl 76 102 (.tmp 61) rfl iF _ FV Tryz.underlying76 hiF hzF (by rw [hsF, hFl]) (by omega) (by omega) (by rw [hFV.out]; rfl) ?_
              rw [← hqq.out] at HQn ⊢
              generalize w5.alloc (.cells FV.toArray 102) = wd at HQn HBd HOw HHa HXd hBd ⊢
              refine wpList_append_at wd rfl (.tmp 54) (.tmp 62) 76 rfl B 102 iF _ 3 24 Tryz.underlying76 hiF hzF hsF hbF (by rfl) (by omega) vf j (cellsF gs) (by rfl) HOw
                ⟨qq, 0, none⟩ 1 1 FV (by rfl) (by rw [hFl]) (fun j u hj => by rw [add0]; exact HQn.cell j u hj) hF1 (by unfold maxLen; omega) (by omega) hBd (by omega) ?_
              intro v' we ho6 hgr _
              have hqne : some q ≠ vf.ownBlock := fun e => by have := own_low HOw q e.symm; have := HQB.out; omega
              have hpne : some p ≠ vf.ownBlock := fun e => by have := own_low HOw p e.symm; have := HQB.out; have := HPQ.out; omega
              have HHe : Holds we q _ _ := HHa.of_block (hgr.block q HHa.lt hqne)
              have HXe : Holds we p _ _ := HXd.of_block (hgr.block p HXd.lt hpne)
              obtain ⟨gv, cv, rfl⟩ : ∃ gv cv, v' = .slice (some ⟨gv, 0, none⟩) (j + 1) cv := by
                rcases ho6.2 with ⟨_, h0⟩ | ⟨g', cap, cur, hv, _⟩
                · omega
                · exact ⟨_, _, hv⟩
              have c3' := HHe.cell 3 _ rfl
              have f3' := HHe.free 3
              clear c3 e0 e1 e2
              iterate 2
                refine wpList_plain rfl fun K hK => ?_
                go_simp
                refine hK _ _ ?_
                clear hK K
              refine wpList_nil ?_
              change Exit.inBlock _ _ _ _ (we.setCell ⟨q, 3, none⟩ (.slice (some ⟨gv, 0, none⟩) (j + 1) cv))
              have hbe : Below w.heap.size w we := HBd.grown hgr HBd.size (fun k hk => by have := own_low HOw k hk; have := HQB.out; have := HPQ.out; have := HWP.out; omega)
              have HB7 : Hid (Below w.heap.size w (we.setCell ⟨q, 3, none⟩ (.slice (some ⟨gv, 0, none⟩) (j + 1) cv))) := hbe.setCell (p := ⟨q, 3, none⟩) (by have := HPQ.out; have := HWP.out; show w.heap.size ≤ q; omega) _
              have HX7 : Hid (Holds (we.setCell ⟨q, 3, none⟩ (.slice (some ⟨gv, 0, none⟩) (j + 1) cv)) p [.int .i64 0, .int .i64 0, .int .i64 0, .slice none 0 0] 78) := HXe.ne (by have := HPQ.out; omega) 3 _
              have HI7 : Hid (∃ vf, Holds (we.setCell ⟨q, 3, none⟩ (.slice (some ⟨gv, 0, none⟩) (j + 1) cv)) q [.int .i64 (a0 : Int), .int .i64 (a1 : Int), .int .i64 (a2 : Int), vf] 78 ∧ (we.setCell ⟨q, 3, none⟩ (.slice (some ⟨gv, 0, none⟩) (j + 1) cv)).ownsRow B 102 3 vf (j + 1) (cellsF (gs ++ [(y0, y1, y2)])) ∧ B ≤ (we.setCell ⟨q, 3, none⟩ (.slice (some ⟨gv, 0, none⟩) (j + 1) cv)).heap.size) := by
                refine ⟨_, HHe.set 3 _, ?_, by simpa using Nat.le_trans hBd hgr.size⟩
                rw [HCF.out]
                refine owns_setCell ho6 fun e => ?_
                have := own_low ho6 q e
                have := HQB.out
                omega
              clear ho6 hgr hbe HOw HBd HHa HHe HXd HXe HQn c3' f3' hF1 hFl hqne hpne HX5 HQ5 ho5 hb5 hs5 hBd
              go_wp2
              go_roundw
              case rel => exact ⟨j + 1, c2, gs ++ [(y0, y1, y2)], by omega, rfl, by go_num, hc2, by simp [hgl], HR2, HX7, HI7, HB7⟩
              case measure => simp [intOf]; omega
            · rw [addN_fail _ 3 _ c hz3] at hr2
              have HV : Hid (decV T b = (rootZ, (rdNums 3 c).2.2)) := by show _ = _; rw [HVx.out, hr2]; exact if_pos hz3
              have hzne : (rdNums 3 c).2.2 ≠ 0 := hz3
              clear hr hr2 HVx hl3 hrs hinv hz3
              generalize (rdNums 3 c).2.2 = z at *
              generalize (rdNums 3 c).2.1 = c2 at *
              generalize (rdNums 3 c).1 = L3 at *
              have HERR : Hid (Value.iface 33 (.int .i64 (z : Int)) = errV 33 z) := by show _ = _; rw [errV, if_neg hzne]
              refine HNr.mono ?_
              rintro e w5 ⟨rfl, hk5, _⟩
              obtain ⟨HX5, _, _, hb5, _⟩ := hKB w5 hk5
              rw [errV, if_neg hzne]
              have x0 := HX5.cell 0 _ rfl
              have x1 := HX5.cell 1 _ rfl
              have x2 := HX5.cell 2 _ rfl
              have x3 := HX5.cell 3 _ rfl
              have f0 := HX5.free 0
              have f1 := HX5.free 1
              have f2 := HX5.free 2
              have f3 := HX5.free 3
              have HX3 := Lib.hid (root_stored (a' := .int .i64 0) (b' := .int .i64 0) (c' := .int .i64 0) (d' := .slice none 0 0) HX5)
              have HB3 := Lib.hid (below_stored (a' := .int .i64 0) (b' := .int .i64 0) (c' := .int .i64 0) (d' := .slice none 0 0) hb5 HWP.out)
              clear HNr hKB hk5 HX5 hb5 hzne
              go_wp2
              clear x0 x1 x2 x3 f0 f1 f2 f3
              generalize (((w5.setCell ⟨p, 0, none⟩ (.int .i64 0)).setCell ⟨p, 1, none⟩ (.int .i64 0)).setCell ⟨p, 2, none⟩ (.int .i64 0)).setCell ⟨p, 3, none⟩ (.slice none 0 0) = w9 at HX3 HB3 ⊢
              have x0 := HX3.out.cell 0 _ rfl
              have x1 := HX3.out.cell 1 _ rfl
              have x2 := HX3.out.cell 2 _ rfl
              have x3 := HX3.out.cell 3 _ rfl
              refine bodyPost_ret (v := .tuple #[.agg #[.int .i64 0, .int .i64 0, .int .i64 0, .slice none 0 0], .iface 33 (.int .i64 (z : Int))]) ?_ rfl ?_
              · rw [results_cell_tmp rfl]; go_simp
              · rw [HV.out]; exact DP.zero z _ (by first | rfl | exact HERR.out) HB3.out
          · have hjl : j = a3 := by omega
            subst hjl
            have hRe : R = (filesN gs, c, 0) := by rw [hr.out, Nat.sub_self]; simp [rdNums, addN]
            cases c with
            | cons c1 t1 =>
              have HV : Hid (decV T b = (rootZ, 3)) := by show _ = _; rw [HVx.out, hRe]; rw [if_neg (by simp), if_pos (by simp)]
              have HX5 := hX.out
              have hb5 := hbw.out
              have x0 := HX5.cell 0 _ rfl
              have x1 := HX5.cell 1 _ rfl
              have x2 := HX5.cell 2 _ rfl
              have x3 := HX5.cell 3 _ rfl
              have f0 := HX5.free 0
              have f1 := HX5.free 1
              have f2 := HX5.free 2
              have f3 := HX5.free 3
              have HX3 := Lib.hid (root_stored (a' := .int .i64 0) (b' := .int .i64 0) (c' := .int .i64 0) (d' := .slice none 0 0) HX5)
              have HB3 := Lib.hid (below_stored (a' := .int .i64 0) (b' := .int .i64 0) (c' := .int .i64 0) (d' := .slice none 0 0) hb5 HWP.out)
              clear HX5 hb5 hX hbw hinv hr hRe HVx
              go_wp2
              clear x0 x1 x2 x3 f0 f1 f2 f3
              generalize (((wr.setCell ⟨p, 0, none⟩ (.int .i64 0)).setCell ⟨p, 1, none⟩ (.int .i64 0)).setCell ⟨p, 2, none⟩ (.int .i64 0)).setCell ⟨p, 3, none⟩ (.slice none 0 0) = w9 at HX3 HB3 ⊢
              have x0 := HX3.out.cell 0 _ rfl
              have x1 := HX3.out.cell 1 _ rfl
              have x2 := HX3.out.cell 2 _ rfl
              have x3 := HX3.out.cell 3 _ rfl
              refine bodyPost_ret (v := .tuple #[.agg #[.int .i64 0, .int .i64 0, .int .i64 0, .slice none 0 0], .iface 33 (.int .i64 3)]) ?_ rfl ?_
              · rw [results_cell_tmp rfl]; go_simp
              · rw [HV.out]; exact DP.zero 3 _ (by first | rfl | exact HERR.out) HB3.out
            | nil =>
              have HVy : Hid (decV T b = (if rightV T (a0 : Nat) (a1 : Nat) (a2 : Nat) (gs.map fileI) then ((a0, a1, a2, gs), 0) else (rootZ, 1))) := by
                show _ = _; rw [HVx.out, hRe, if_neg (by simp), if_neg (by simp)]; simp only [group_filesN]
              have hgf : ∀ f ∈ gs, FitF (fileI f) := by
                have h := HRL.out
                rw [hRe] at h
                have := group_fit (filesN gs) h
                rw [group_filesN] at this; exact this
              obtain ⟨vf, hH, hof, _⟩ := hinv.out
              obtain ⟨adf, capf, rfl, hFl⟩ := own_files hof hgl hgf
              have x0 := hH.cell 0 _ rfl
              have x1 := hH.cell 1 _ rfl
              have x2 := hH.cell 2 _ rfl
              have x3 := hH.cell 3 _ rfl
              have HRI := pRightR T (a0 : Int) (a1 : Int) (a2 : Int) adf j capf (gs.map fileI) wr ht hFl
              have HHq := Lib.hid hH
              have HOF := Lib.hid hof
              have HGL := Lib.hid hgl
              have HBQ : Hid (w.heap.size ≤ B ∧ p < B ∧ q ≠ p) := by
                have := HQB.out; have := HPQ.out; have := HWP.out
                exact ⟨by omega, by omega, by omega⟩
              clear hinv hgf hr hRe HVx hH hof hFl hgl
              go_wp2_with fail
              clear x0 x1 x2 x3
              refine HRI.mono ?_
              rintro e w7 ⟨rfl, hb7⟩
              have hH7 := HHq.out.of_block (hb7.block q HHq.out.lt)
              have HX7 := hX.out.of_block (hb7.block p hX.out.lt)
              have hbw7 := hbw.out.trans (hb7.mono hbw.out.size)
              have HO7 := Lib.hid (own_below HOF.out hb7)
              have y0 := hH7.cell 0 _ rfl
              have y1 := hH7.cell 1 _ rfl
              have y2 := hH7.cell 2 _ rfl
              have y3 := hH7.cell 3 _ rfl
              cases hv : rightV T (a0 : Int) (a1 : Int) (a2 : Int) (gs.map fileI) with
              | false =>
                have HV : Hid (decV T b = (rootZ, 1)) := by show _ = _; rw [HVy.out, hv]; rfl
                have x0 := HX7.cell 0 _ rfl
                have x1 := HX7.cell 1 _ rfl
                have x2 := HX7.cell 2 _ rfl
                have x3 := HX7.cell 3 _ rfl
                have f0 := HX7.free 0
                have f1 := HX7.free 1
                have f2 := HX7.free 2
                have f3 := HX7.free 3
                have HX3 := Lib.hid (root_stored (a' := .int .i64 0) (b' := .int .i64 0) (c' := .int .i64 0) (d' := .slice none 0 0) HX7)
                have HB3 := Lib.hid (below_stored (a' := .int .i64 0) (b' := .int .i64 0) (c' := .int .i64 0) (d' := .slice none 0 0) hbw7 HWP.out)
                clear HRI HX7 hbw7 hb7 hH7 hv HVy y0 y1 y2 y3
                go_wp2
                clear x0 x1 x2 x3 f0 f1 f2 f3
                generalize (((w7.setCell ⟨p, 0, none⟩ (.int .i64 0)).setCell ⟨p, 1, none⟩ (.int .i64 0)).setCell ⟨p, 2, none⟩ (.int .i64 0)).setCell ⟨p, 3, none⟩ (.slice none 0 0) = w9 at HX3 HB3 ⊢
                have x0 := HX3.out.cell 0 _ rfl
                have x1 := HX3.out.cell 1 _ rfl
                have x2 := HX3.out.cell 2 _ rfl
                have x3 := HX3.out.cell 3 _ rfl
                refine bodyPost_ret (v := .tuple #[.agg #[.int .i64 0, .int .i64 0, .int .i64 0, .slice none 0 0], .iface 33 (.int .i64 1)]) ?_ rfl ?_
                · rw [results_cell_tmp rfl]; go_simp
                · rw [HV.out]; exact DP.zero 1 _ (by first | rfl | exact HERR.out) HB3.out
              | true =>
                have HV : Hid (decV T b = ((a0, a1, a2, gs), 0)) := by show _ = _; rw [HVy.out, hv]; rfl
                have x0 := HX7.cell 0 _ rfl
                have x1 := HX7.cell 1 _ rfl
                have x2 := HX7.cell 2 _ rfl
                have x3 := HX7.cell 3 _ rfl
                have f0 := HX7.free 0
                have f1 := HX7.free 1
                have f2 := HX7.free 2
                have f3 := HX7.free 3
                have HX3 := Lib.hid (root_stored (a' := .int .i64 (a0 : Int)) (b' := .int .i64 (a1 : Int)) (c' := .int .i64 (a2 : Int)) (d' := .slice adf j capf) HX7)
                have HB3 := Lib.hid (below_stored (a' := .int .i64 (a0 : Int)) (b' := .int .i64 (a1 : Int)) (c' := .int .i64 (a2 : Int)) (d' := .slice adf j capf) hbw7 HWP.out)
                have hne : (Value.slice adf j capf).ownBlock ≠ some p := fun e => by
                  have := own_low HO7.out p e
                  have := HBQ.out
                  omega
                have HO8 := Lib.hid (owns_setCell (p := p) (k := 3) (u := .slice adf j capf) (owns_setCell (p := p) (k := 2) (u := .int .i64 (a2 : Int)) (owns_setCell (p := p) (k := 1) (u := .int .i64 (a1 : Int)) (owns_setCell (p := p) (k := 0) (u := .int .i64 (a0 : Int)) HO7.out hne) hne) hne) hne)
                clear HRI HX7 hbw7 hb7 hH7 hv HVy
                go_wp2
                clear x0 x1 x2 x3 f0 f1 f2 f3 y0 y1 y2 y3
                generalize (((w7.setCell ⟨p, 0, none⟩ (.int .i64 (a0 : Int))).setCell ⟨p, 1, none⟩ (.int .i64 (a1 : Int))).setCell ⟨p, 2, none⟩ (.int .i64 (a2 : Int))).setCell ⟨p, 3, none⟩ (.slice adf j capf) = w9 at HX3 HB3 HO8 ⊢
                have x0 := HX3.out.cell 0 _ rfl
                have x1 := HX3.out.cell 1 _ rfl
                have x2 := HX3.out.cell 2 _ rfl
                have x3 := HX3.out.cell 3 _ rfl
                refine bodyPost_ret (v := .tuple #[.agg #[.int .i64 (a0 : Int), .int .i64 (a1 : Int), .int .i64 (a2 : Int), .slice adf j capf], .nilIface]) ?_ rfl ?_
                · rw [results_cell_tmp rfl]; go_simp
                · rw [HV.out]
                  exact ⟨HB3.out, _, rfl, owns_base (owns_len HO8.out HGL.out.symm rfl) HBQ.out.1⟩
    · have HV : Hid (decV T b = (rootZ, (rdNums 4 b).2.2)) := by show _ = _; unfold decV; rw [if_neg h512]; simp only; rw [if_pos hz]
      have hzne : (rdNums 4 b).2.2 ≠ 0 := hz
      clear hz hle hll hrs
      generalize (rdNums 4 b).2.2 = z at *
      generalize (rdNums 4 b).2.1 = rest at *
      generalize (rdNums 4 b).1 = L4 at *
      have HERR : Hid (Value.iface 33 (.int .i64 (z : Int)) = errV 33 z) := by show _ = _; rw [errV, if_neg hzne]
      refine HN1.mono ?_
      rintro e w3 ⟨rfl, hk3, _⟩
      obtain ⟨HX3', hb3⟩ := hKB w3 hk3
      rw [errV, if_neg hzne]
      have x0 := HX3'.cell 0 _ rfl
      have x1 := HX3'.cell 1 _ rfl
      have x2 := HX3'.cell 2 _ rfl
      have x3 := HX3'.cell 3 _ rfl
      have f0 := HX3'.free 0
      have f1 := HX3'.free 1
      have f2 := HX3'.free 2
      have f3 := HX3'.free 3
      have HX3 := Lib.hid (root_stored (a' := .int .i64 0) (b' := .int .i64 0) (c' := .int .i64 0) (d' := .slice none 0 0) HX3')
      have HB3 := Lib.hid (below_stored (a' := .int .i64 0) (b' := .int .i64 0) (c' := .int .i64 0) (d' := .slice none 0 0) hb3 HWP.out)
      clear HN1 hKB hk3 HX3' hb3 hzne
      go_wp2
      clear x0 x1 x2 x3 f0 f1 f2 f3
      generalize (((w3.setCell ⟨p, 0, none⟩ (.int .i64 0)).setCell ⟨p, 1, none⟩ (.int .i64 0)).setCell ⟨p, 2, none⟩ (.int .i64 0)).setCell ⟨p, 3, none⟩ (.slice none 0 0) = w9 at HX3 HB3 ⊢
      have x0 := HX3.out.cell 0 _ rfl
      have x1 := HX3.out.cell 1 _ rfl
      have x2 := HX3.out.cell 2 _ rfl
      have x3 := HX3.out.cell 3 _ rfl
      refine bodyPost_ret (v := .tuple #[.agg #[.int .i64 0, .int .i64 0, .int .i64 0, .slice none 0 0], .iface 33 (.int .i64 (z : Int))]) ?_ rfl ?_
      · rw [results_cell_tmp rfl]; go_simp
      · rw [HV.out]; exact DP.zero z _ (by first | rfl | exact HERR.out) HB3.out

end Go.Proofs.YtfbgagpihhbllaaGreatDoor
