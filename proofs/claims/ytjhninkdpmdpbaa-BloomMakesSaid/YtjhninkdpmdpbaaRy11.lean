/- The program of layer 11: May, whose loop ranges over the function of positions. -/
import Derived.Test.YtjhninkdpmdpbaaRp11
import Derived.Test.YtjhninkdpmdpbaaRBm
namespace Go.Proofs.Ytjhninkdpmdpbaa
open Go.RowKit Go.Shelf Go.Proofs Go.Proofs.Pk
set_option maxRecDepth 10000
attribute [local simp] mk_get wrap64_u8 mk_extract ByteArray.mk_append_mk get_1k
attribute [local go_sem] Oper.semAt_some

theorem cell_fz (W : World) (v : Value) (t : TypeId) : (W.alloc (.cells #[v] t)).cell? ⟨W.heap.size, 0, none⟩ = some v ∧ (W.alloc (.cells #[v] t)).frozen? ⟨W.heap.size, 0, none⟩ = false := by
  have h := World.alloc_heap_new W (.cells #[v] t)
  refine ⟨cell_new1 W v t, ?_⟩
  unfold World.frozen?
  dsimp only
  rw [h]
  rfl
theorem all_upto {f k : TxtB} {m : Nat} (hm : 0 < m) (n : Nat) : (∀ x ∈ uptoP k m hm n, getB f x.1 = true) ↔ allB f k m 0 n = true := by
  rw [allB_iff]
  constructor
  · intro h i _ hi
    exact h ⟨placeN k i m, placeN_lt k i hm⟩ (List.mem_map.2 ⟨i, by simp; omega, rfl⟩)
  · intro h x hx
    obtain ⟨i, hi, rfl⟩ := List.mem_map.1 hx
    exact h i (Nat.zero_le _) (by simp at hi; omega)
theorem not_upto {f k : TxtB} {m : Nat} (hm : 0 < m) {j n : Nat} (hj : j ≤ n) (h : ∃ x ∈ uptoP k m hm j, getB f x.1 = false) : allB f k m 0 n = false := by
  obtain ⟨x, hx, hb⟩ := h
  obtain ⟨i, hi, rfl⟩ := List.mem_map.1 hx
  exact all_not (show i < n by simp at hi; omega) hb

/-- The bit as '& 1' asks it. -/
theorem bit_and (c : UInt8) (R : Nat) (b : Bool) (h : b = (c.toNat / 2 ^ R % 2 == 1)) : (bits .and .u8 ((c.toNat : Int) / 2 ^ R) 1 == 0) = !b := by
  have e : ((c.toNat : Int) / 2 ^ R) = ((c.toNat / 2 ^ R : Nat) : Int) := by rw [Int.natCast_ediv]; simp
  have hl : c.toNat / 2 ^ R < 256 := Nat.lt_of_le_of_lt (Nat.div_le_self _ _) c.toNat_lt
  rw [e, h]
  generalize c.toNat / 2 ^ R = z at hl
  have := u8_and_nat z 1 hl (by omega)
  rw [show ((1 : Nat) : Int) = 1 from rfl] at this
  rw [this, Nat.and_one_is_mod]
  rcases Nat.mod_two_eq_zero_or_one z with h1 | h1
  · rw [h1]; rfl
  · rw [h1]; rfl
set_option maxHeartbeats 2000000 in
theorem pMay (f k : TxtB) (w : World) (hfl : (f.length : Int) ≤ 140737488351232) (hkl : (k.length : Int) ≤ 140737488351232) :
    Calls Try.prog 14 #[.string ⟨f.toArray⟩, .string ⟨k.toArray⟩] w fun e w' => e = .returned (.bool (mayN f k)) ∧ Below w.heap.size w w' := by
  refine (callsIn_wide (n := 6)).1 ?_
  have q1 : IntKind.i64.wrap ((f.length : Int) - 1) = (f.length : Int) - 1 := IntWalk.i64_in _ (by omega)
  have hB0 : Below w.heap.size w ((w.alloc (.cells #[.string ⟨f.toArray⟩] 9)).alloc (.cells #[.bool false] 4)) := ((Below.refl _ w).alloc (Nat.le_refl _) _).alloc (by simp) _
  have hB1 : Below w.heap.size w ((w.alloc (.cells #[.string ⟨f.toArray⟩] 9)).alloc (.cells #[.bool true] 4)) := ((Below.refl _ w).alloc (Nat.le_refl _) _).alloc (by simp) _
  have hc1 : ((w.alloc (.cells #[.string ⟨f.toArray⟩] 9)).alloc (.cells #[.bool true] 4)).cell? ⟨w.heap.size + 1, 0, none⟩ = some (.bool true) := by
    have := cell_new1 (w.alloc (.cells #[.string ⟨f.toArray⟩] 9)) (.bool true) 4
    rwa [World.size_alloc] at this
  by_cases hs : f.length < 2
  · rw [may_short hs]
    have h1 : (f.length : Int) - 1 < 1 := by omega
    clear hs
    refine callsIn_of_wp_marks Try.func14 rfl trivial ?_ rfl
    simp only [Try.ntmps14, List.size_toArray, List.length_cons, List.length_nil, Nat.reduceAdd, Nat.reduceSub, Array.replicate_succ, Array.replicate_zero, List.push_toArray, List.append_toArray, List.nil_append, List.cons_append]
    gi_wp2
    refine ⟨.bool true, ?_, rfl, hB1⟩
    simp [results, Try.f14, go_sem, hc1]
  obtain ⟨n, hn⟩ : ∃ n : Nat, f.length = n + 1 := ⟨f.length - 1, by omega⟩
  obtain ⟨hnl, hft⟩ := last_at hn
  have hni : (f.length : Int) = (n : Int) + 1 := by omega
  have q2 : IntKind.i64.wrap (n : Int) = (n : Int) := IntWalk.i64_in _ (by omega)
  have h1 : ¬(n : Int) < 1 := by omega
  have n0 : (0 : Int) ≤ (n : Int) := by omega
  obtain ⟨L, hL⟩ : ∃ L : Nat, L = lastB f := ⟨_, rfl⟩
  rw [← hL] at hft
  have hL256 : L < 256 := by rw [← hft]; exact (f[n]).toNat_lt
  by_cases hz : L = 0
  · rw [may_odd (.inl (by rw [← hL]; exact hz))]
    subst hz
    clear hL
    refine callsIn_of_wp_marks Try.func14 rfl trivial ?_ rfl
    simp only [Try.ntmps14, List.size_toArray, List.length_cons, List.length_nil, Nat.reduceAdd, Nat.reduceSub, Array.replicate_succ, Array.replicate_zero, List.push_toArray, List.append_toArray, List.nil_append, List.cons_append]
    gi_wp2
    refine ⟨.bool true, ?_, rfl, hB1⟩
    simp [results, Try.f14, go_sem, hc1]
  have z1 : ((L : Int) == 0) = false := by rw [beq_eq_false_iff_ne]; omega
  by_cases hb : 30 < L
  · rw [may_odd (.inr (by rw [← hL]; exact hb))]
    have z2 : (30 : Int) < (L : Int) := by omega
    clear hL
    refine callsIn_of_wp_marks Try.func14 rfl trivial ?_ rfl
    simp only [Try.ntmps14, List.size_toArray, List.length_cons, List.length_nil, Nat.reduceAdd, Nat.reduceSub, Array.replicate_succ, Array.replicate_zero, List.push_toArray, List.append_toArray, List.nil_append, List.cons_append]
    gi_wp2
    refine ⟨.bool true, ?_, rfl, hB1⟩
    simp [results, Try.f14, go_sem, hc1]
  clear hB1 hc1
  have z2 : ¬(30 : Int) < (L : Int) := by omega
  have hm : mayN f k = allB f k (8 * n) 0 L := by rw [may_all hs (by rw [← hL]; exact hz) (by rw [← hL]; exact hb), ← hL, show f.length - 1 = n from by omega]
  rw [hm]
  have hwL : IntKind.i64.wrap (L : Int) = (L : Int) := IntWalk.i64_in _ (by omega)
  obtain ⟨M, hM⟩ : ∃ M : Nat, M = 8 * n := ⟨_, rfl⟩
  have q3 : IntKind.i64.wrap ((n : Int) * 8) = (M : Int) := by rw [hM]; rw [IntWalk.i64_in _ (by omega)]; omega
  have hM0 : 0 < M := by omega
  have hM2 : M ≤ 2251799813685248 := by omega
  rw [← hM]
  have HL := Lib.hid (And.intro hz hb)
  have HF := Lib.hid (And.intro hn hM)
  have HPP := Lib.hid (fun W : World => posP k n L W)
  clear hL hm hn hs hz hb hM
  refine callsIn_of_wp_marks Try.func14 rfl trivial ?_ rfl
  simp only [Try.ntmps14, List.size_toArray, List.length_cons, List.length_nil, Nat.reduceAdd, Nat.reduceSub, Array.replicate_succ, Array.replicate_zero, List.push_toArray, List.append_toArray, List.nil_append, List.cons_append]
  gi_wp2_with (refine ⟨trivial, ?_⟩; gi_at_call 16; refine (callsIn_wide.2 (HPP.out _)).mono ?_; rintro e w2 ⟨rfl, hP2, hB2, hZ2⟩)
  have c0 := cell_fz w (.string ⟨f.toArray⟩) 9
  have c1 := cell_fz (w.alloc (.cells #[.string ⟨f.toArray⟩] 9)) (.bool false) 4
  rw [World.size_alloc] at c1
  simp only [World.size_alloc] at hP2 hB2 hZ2
  have d0 := (hB2.cell (p := ⟨w.heap.size, 0, none⟩) (show w.heap.size < w.heap.size + 1 + 1 by omega)).trans (cell_up _ (by simp) c0.1)
  have d1 := (hB2.cell (p := ⟨w.heap.size + 1, 0, none⟩) (show w.heap.size + 1 < w.heap.size + 1 + 1 by omega)).trans c1.1
  have d2 := (hB2.frozen (p := ⟨w.heap.size + 1, 0, none⟩) (show w.heap.size + 1 < w.heap.size + 1 + 1 by omega)).trans c1.2
  have hBw := hB0.trans (hB2.mono (by omega))
  clear c0 c1 hB0 hB2 HPP
  refine wpIn_rangeFunc_ownF rfl (by decide) (gf := 18) (lb := #[.pointer (some ⟨w.heap.size + 1 + 1, 0, none⟩), .pointer (some ⟨w.heap.size + 1 + 1 + 2, 0, none⟩), .pointer (some ⟨w.heap.size + 1 + 1 + 1, 0, none⟩)]) rfl trivial (enters_of Try.func18 (by kernel_rfl) rfl)
    (pos_stops 5 (by decide) (w.heap.size + 1 + 1) k L n M hkl hM0 hM2 HF.out.2 (by have := HL.out.2; omega) w2 (by omega) hP2) KpB.trans (KpB.putObj (by omega)) (Below.refl _ _) (fun _ => rfl)
    (fun pre W => (Hid (∀ x ∈ pre, getB f x.1 = true) ∧ W.cell? ⟨w.heap.size, 0, none⟩ = some (.string ⟨f.toArray⟩) ∧ W.cell? ⟨w.heap.size + 1, 0, none⟩ = some (.bool false) ∧ W.frozen? ⟨w.heap.size + 1, 0, none⟩ = false) ∧ Below w.heap.size w W)
    (fun c pre W => (c = .ret ∧ Hid (∃ x ∈ pre, getB f x.1 = false) ∧ W.cell? ⟨w.heap.size + 1, 0, none⟩ = some (.bool false)) ∧ Below w.heap.size w W)
    (OwnFrom.and (Own.from (fun s A B row hs hg hr => ⟨hs.1, cell_kept hs.2.1 hg hr, cell_kept hs.2.2.1 hg hr, (frozen_kept hs.2.2.1 hg hr).trans hs.2.2.2⟩) _) (ownFrom_below (Nat.le_refl _) (by omega)))
    (fun c => OwnFrom.and (Own.from (fun s A B row hs hg hr => ⟨hs.1, hs.2.1, cell_kept hs.2.2 hg hr⟩) _) (ownFrom_below (Nat.le_refl _) (by omega)))
    ⟨⟨fun x hx => by simp at hx, d0, d1, d2⟩, hBw⟩
    ?a1 ?assign ?body ?done ?stop
  case assign =>
    intro l x W K hK
    gi_wp2
    exact hK
  case body =>
    rintro l pre ⟨P, hPM⟩ W ⟨⟨hp, hcf, hcr, hfr⟩, hB⟩ _
    have hp8 : P / 8 < f.length := by have := HF.out; omega
    have hbit := bit_of hp8
    obtain ⟨Q, hQ⟩ : ∃ Q : Nat, Hid (Q = P / 8) := ⟨_, rfl⟩
    obtain ⟨R, hR⟩ : ∃ R : Nat, Hid (R = P % 8) := ⟨_, rfl⟩
    have hQl : Q < f.length := by rw [hQ.out]; exact hp8
    have hQi : (Q : Int) < (n : Int) + 1 := by omega
    have hQ0 : (0 : Int) ≤ (Q : Int) := by omega
    have hmin : min R 8 = R := by have := hR.out; omega
    obtain ⟨c, hc⟩ : ∃ c, f[Q] = c := ⟨_, rfl⟩
    have hcc : f[P / 8] = c := by rw [← hc]; congr 1; exact hQ.out.symm
    have d1 : (P : Int).tdiv 8 = (Q : Int) := by have := hQ.out; rw [Int.tdiv_eq_ediv_of_nonneg (by omega)]; omega
    have d2 : (P : Int).tmod 8 = (R : Int) := by have := hR.out; rw [Int.tmod_eq_emod_of_nonneg (by omega)]; omega
    rw [hcc, ← hR.out] at hbit
    have hcond := bit_and c R _ hbit
    obtain ⟨b, hb⟩ : ∃ b : Bool, Hid (b = getB f P) := ⟨_, rfl⟩
    rw [← hb.out] at hcond
    clear hbit hcc hp8 hQ hR
    cases b with
    | true =>
      rw [Bool.not_true] at hcond
      gi_wp2
      exact ⟨KeepsOthers.refl _, KpB.refl _ _, ⟨fun x hx => (List.mem_append.1 hx).elim (hp.out x) (fun e => by simp at e; subst e; exact hb.out.symm), hcf, hcr, hfr⟩, hB⟩
    | false =>
      rw [Bool.not_false] at hcond
      gi_wp2
      exact ⟨KeepsOthers.setCell _ _ _, ⟨rfl, ⟨⟨P, hPM⟩, by simp, hb.out.symm⟩, World.cell?_setCell_same' _ _ _ (by rw [hcr]; rfl)⟩, hB.setCell (p := ⟨w.heap.size + 1, 0, none⟩) (by simp) _⟩
  case done =>
    rintro D ys W hD rfl ⟨⟨hp, _, hcr, hfr⟩, hB⟩ hK
    have hV := Lib.hid ((all_upto hM0 L).1 hp.out)
    gi_wp2
    have hK' := (KeepsOthers.setCell W ⟨w.heap.size + 1, 0, none⟩ (.bool true)).same D _ hK rfl
    refine ⟨by simp, .inl ⟨_, _, rfl, run_takeDeferred hK', ?_⟩⟩
    have hc5 := cell_kept (World.cell?_setCell_same' W ⟨w.heap.size + 1, 0, none⟩ (.bool true) (by rw [hcr]; rfl)) (grownBy_putObj' _ D (.deferred none)) (fun r e => by cases e; exact ⟨_, hK', rfl⟩)
    refine ⟨.bool true, ?_, by rw [hV.out], (hB.setCell (p := ⟨w.heap.size + 1, 0, none⟩) (by simp) _).trans (belowK_b (w := w) (Nat.le_refl _) _ D _ _ (by omega) hK' rfl rfl)⟩
    simp [results, Try.f14, go_sem, hc5]
  case stop =>
    rintro D c pre W hD ⟨j, hj, rfl⟩ ⟨⟨rfl, hin, hcr⟩, hB⟩ hK
    have hV := Lib.hid (not_upto hM0 hj hin.out)
    gi_wp2
    refine ⟨by simp, .inl ⟨_, _, rfl, run_takeDeferred hK, ?_⟩⟩
    have hc5 := cell_kept hcr (grownBy_putObj' _ D (.deferred none)) (fun r e => by cases e; exact ⟨_, hK, rfl⟩)
    refine ⟨.bool false, ?_, by rw [hV.out], hB.trans (belowK_b (w := w) (Nat.le_refl _) W D _ _ (by omega) hK rfl rfl)⟩
    simp [results, Try.f14, go_sem, hc5]

end Go.Proofs.Ytjhninkdpmdpbaa
