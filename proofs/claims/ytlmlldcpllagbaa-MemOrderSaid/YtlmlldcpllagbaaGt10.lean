/- Package mem: Get (printed by gengt10.py). -/
import Derived.Test.YtlmlldcpllagbaaTc10
import Derived.Test.YtlmlldcpllagbaaOrd
import Derived.Laws.ResultCell
import Derived.Deep.Cut
namespace Go.Proofs.Ytlmlldcpllagbaa
open Go.RowKit Go.Proofs Go.Proofs.Pk
set_option maxRecDepth 10000
attribute [local simp] mk_get wrap64_u8 mk_extract ByteArray.mk_append_mk get_1k

theorem get_none {T : List MEnt} (hT : MmOk T) {k : Txt} {s : Int} (h : s < 1 ∨ 80 < k.length) : getM T k s = (zeroM, false) := by
  unfold getM
  rw [find_no fun y hy hk hs => ?_]
  have hr := hT.right y hy
  unfold rightM at hr
  simp only [decide_eq_true_eq] at hr
  rcases h with h | h
  · omega
  · rw [hk] at hr; omega
theorem find_min {T : List MEnt} (hT : MmOk T) (k : Txt) (s : Int) : findM T k s = findM T k (min s MaxS) := by
  unfold findM
  have : ∀ x ∈ T, (x.1 == k && decide (x.2.1 ≤ s)) = (x.1 == k && decide (x.2.1 ≤ min s MaxS)) := by
    intro x hx
    have hr := hT.right x hx
    unfold rightM at hr
    simp only [decide_eq_true_eq] at hr
    congr 1
    rw [decide_eq_decide]
    unfold MaxS; omega
  clear hT
  induction T with
  | nil => rfl
  | cons x T ih =>
    rw [List.find?_cons, List.find?_cons, this x (by simp), ih (fun y hy => this y (by simp [hy]))]
/-- What Get answers, by the place that is sought. -/
theorem get_at {T : List MEnt} (hT : MmOk T) (k : Txt) (s : Int) : getM T k s = match T[atM T (k, min s MaxS, false, [])]? with | some x => if x.1 = k then (x, true) else (zeroM, false) | none => (zeroM, false) := by
  unfold getM
  rw [find_min hT, find_at hT k (s := min s MaxS) false []]
  cases T[atM T (k, min s MaxS, false, [])]? with
  | none => rfl
  | some x =>
    simp only
    by_cases h : x.1 = k
    · rw [if_pos h, if_pos h]
    · rw [if_neg h, if_neg h]

set_option maxHeartbeats 4000000 in
theorem getT {At : SkOf} (K : SkJ At) {w : World} {B t l g n cap : Nat} {T : List MEnt} {E : List Ent} {hs : List Int} {Xl : Nat → Prop} (h : TbRaw At w B t l g n cap T E hs Xl) (hl : T.length ≤ 1001) (k : Txt) (s : Int) :
    Calls Try.prog 16 #[.pointer (some ⟨t, 0, none⟩), .string ⟨k.toArray⟩, .int .i64 s] w fun r w' => r = .returned (.tuple #[.agg (entC (getM T k s).1).toArray, .bool (getM T k s).2]) ∧ Kept (fun _ => False) w w' := by
  have hX := Holds.new w [.string ⟨#[]⟩, .int .i64 0, .bool false, .string ⟨#[]⟩] 34
  have hk1 : Kept (fun _ => False) w (w.alloc (.cells #[.string ⟨#[]⟩, .int .i64 0, .bool false, .string ⟨#[]⟩] 34)) := (Kept.refl _ w).alloc _
  by_cases hA : s < 1
  · have HG : Hid (getM T k s = (zeroM, false)) := get_none h.ok (.inl hA)
    rw [HG.out]
    clear HG h hl
    go_enter Try.func16, Try.ntmps16
    go_upto_region 1 with (fail)
    obtain ⟨p, hp⟩ : ∃ p, Hid (p = w.heap.size) := ⟨_, rfl⟩
    rw [← hp.out] at hX ⊢
    change Holds (w.alloc (.cells #[.string ⟨#[]⟩, .int .i64 0, .bool false, .string ⟨#[]⟩] 34)) p _ _ at hX
    generalize w.alloc (.cells #[.string ⟨#[]⟩, .int .i64 0, .bool false, .string ⟨#[]⟩] 34) = w1 at hX hk1 ⊢
    have hP := hX
    have c0 := hP.cell 0 _ rfl
    have c1 := hP.cell 1 _ rfl
    have c2 := hP.cell 2 _ rfl
    have c3 := hP.cell 3 _ rfl
    have f0 := hP.free 0
    have f1 := hP.free 1
    have f2 := hP.free 2
    have f3 := hP.free 3
    have HP := Lib.hid hP
    clear hP hX
    go_wp2
    have hPN := HP.out.setCells (entC zeroM) 0 w1 [.string ⟨#[]⟩, .int .i64 0, .bool false, .string ⟨#[]⟩] (Nat.le_refl _)
    rw [lay_all [.string ⟨#[]⟩, .int .i64 0, .bool false, .string ⟨#[]⟩] (entC zeroM) rfl] at hPN
    have hKN : Kept (fun _ => False) w (w1.setCells p 0 (entC zeroM)) := Kept.setCellsN (Nat.le_of_eq hp.out.symm) _ 0 w1 hk1
    change bodyPost _ _ _ _ _ (w1.setCells p 0 (entC zeroM))
    generalize w1.setCells p 0 (entC zeroM) = wz at hPN hKN ⊢
    have d0 : wz.cell? ⟨p, 0, none⟩ = some (.string ⟨#[]⟩) := hPN.cell 0 _ rfl
    have d1 : wz.cell? ⟨p, 1, none⟩ = some (.int .i64 0) := hPN.cell 1 _ rfl
    have d2 : wz.cell? ⟨p, 2, none⟩ = some (.bool false) := hPN.cell 2 _ rfl
    have d3 : wz.cell? ⟨p, 3, none⟩ = some (.string ⟨#[]⟩) := hPN.cell 3 _ rfl
    refine bodyPost_ret (v := .tuple #[.agg #[(.string ⟨#[]⟩), (.int .i64 0), (.bool false), (.string ⟨#[]⟩)], .bool false]) ?_ rfl ⟨rfl, hKN⟩
    rw [results_cell_tmp rfl]
    go_simp
  by_cases hB : (80 : Int) < (k.length : Int)
  · have HG : Hid (getM T k s = (zeroM, false)) := get_none h.ok (.inr (by omega))
    rw [HG.out]
    clear HG h hl
    go_enter Try.func16, Try.ntmps16
    go_upto_region 1 with (fail)
    obtain ⟨p, hp⟩ : ∃ p, Hid (p = w.heap.size) := ⟨_, rfl⟩
    rw [← hp.out] at hX ⊢
    change Holds (w.alloc (.cells #[.string ⟨#[]⟩, .int .i64 0, .bool false, .string ⟨#[]⟩] 34)) p _ _ at hX
    generalize w.alloc (.cells #[.string ⟨#[]⟩, .int .i64 0, .bool false, .string ⟨#[]⟩] 34) = w1 at hX hk1 ⊢
    have hP := hX
    have c0 := hP.cell 0 _ rfl
    have c1 := hP.cell 1 _ rfl
    have c2 := hP.cell 2 _ rfl
    have c3 := hP.cell 3 _ rfl
    have f0 := hP.free 0
    have f1 := hP.free 1
    have f2 := hP.free 2
    have f3 := hP.free 3
    have HP := Lib.hid hP
    clear hP hX
    go_wp2
    have hPN := HP.out.setCells (entC zeroM) 0 w1 [.string ⟨#[]⟩, .int .i64 0, .bool false, .string ⟨#[]⟩] (Nat.le_refl _)
    rw [lay_all [.string ⟨#[]⟩, .int .i64 0, .bool false, .string ⟨#[]⟩] (entC zeroM) rfl] at hPN
    have hKN : Kept (fun _ => False) w (w1.setCells p 0 (entC zeroM)) := Kept.setCellsN (Nat.le_of_eq hp.out.symm) _ 0 w1 hk1
    change bodyPost _ _ _ _ _ (w1.setCells p 0 (entC zeroM))
    generalize w1.setCells p 0 (entC zeroM) = wz at hPN hKN ⊢
    have d0 : wz.cell? ⟨p, 0, none⟩ = some (.string ⟨#[]⟩) := hPN.cell 0 _ rfl
    have d1 : wz.cell? ⟨p, 1, none⟩ = some (.int .i64 0) := hPN.cell 1 _ rfl
    have d2 : wz.cell? ⟨p, 2, none⟩ = some (.bool false) := hPN.cell 2 _ rfl
    have d3 : wz.cell? ⟨p, 3, none⟩ = some (.string ⟨#[]⟩) := hPN.cell 3 _ rfl
    refine bodyPost_ret (v := .tuple #[.agg #[(.string ⟨#[]⟩), (.int .i64 0), (.bool false), (.string ⟨#[]⟩)], .bool false]) ?_ rfl ⟨rfl, hKN⟩
    rw [results_cell_tmp rfl]
    go_simp
  have hk80 : k.length ≤ 80 := by omega
  obtain ⟨sm, hsm⟩ : ∃ sm, min s 9007199254740991 = sm := ⟨_, rfl⟩
  have hsq : SeqOk sm := by unfold SeqOk MaxS; omega
  have hat := get_at h.ok k s
  rw [show min s MaxS = sm from hsm] at hat
  have hES : atE E (joinS k sm) = atM T (k, sm, false, []) := at_sought hsq false [] h.keys h.ok.right
  have HJ0 := fun W => joinP k sm W hk80 hsq
  have hSK0 := fun (W : World) (hk : Kept (fun _ => False) w W) => K.seek (h.still K hk).list (by rw [h.lens]; exact hl) (joinS k sm)
  obtain ⟨J, hJ⟩ : ∃ J, Hid (J = joinS k sm) := ⟨joinS k sm, rfl⟩
  rw [← hJ.out] at HJ0 hSK0 hES
  have HJ := Lib.hid HJ0
  have hCl : ∀ W, Kept (fun _ => False) w W → W.cell? ⟨t, 0, none⟩ = some (.pointer (some ⟨l, 0, none⟩)) := fun W hk => (h.still K hk).obj.cell 0 _ rfl
  have HR := Lib.hid (fun (x : MEnt) (hx : x ∈ T) (W : World) => readP x W (h.ok.right x hx))
  have hlens := h.lens
  have hkeys := h.keys
  obtain ⟨a, ha⟩ : ∃ a, Hid (a = atM T (k, sm, false, [])) := ⟨_, rfl⟩
  rw [← ha.out] at hat hES
  clear h hl hJ HJ0 hk80 hsq ha
  by_cases hlt : a < T.length
  · have hlE : a < E.length := by omega
    have hkx : (E[a]).1 = writeS T[a] := by
      have := congrArg (fun Z => Z[a]?) hkeys
      simp only [List.getElem?_map, List.getElem?_eq_getElem hlE, List.getElem?_eq_getElem hlt, Option.map_some] at this
      exact Option.some.inj this
    have hsk : seekE E J = (writeS T[a], (E[a]).2.1, true) := by
      unfold seekE
      rw [hES, List.getElem?_eq_getElem hlE]
      simp only [hkx]
    rw [hsk] at hSK0
    rw [List.getElem?_eq_getElem hlt] at hat
    have HRx := Lib.hid (HR.out T[a] (List.getElem_mem hlt))
    obtain ⟨x, hx⟩ : ∃ x, x = T[a] := ⟨_, rfl⟩
    rw [← hx] at HRx hat hSK0
    obtain ⟨y, hy⟩ : ∃ y, y = (E[a]).2.1 := ⟨_, rfl⟩
    rw [← hy] at hSK0
    obtain ⟨W0, hW0⟩ : ∃ W0, Hid (W0 = writeS x) := ⟨writeS x, rfl⟩
    rw [← hW0.out] at HRx hSK0
    simp only at hSK0 hat
    have HSK := Lib.hid hSK0
    have HG := Lib.hid hat
    clear hx hy hW0 hsk hkx hlE hlt hat hSK0 hES HR hlens hkeys
    obtain ⟨kx, sx, dx, vx⟩ := x
    have HRx2 : Hid (∀ W, Calls Try.prog 30 #[.string ⟨W0.toArray⟩] W fun r w' => r = .returned (.agg #[(.string ⟨kx.toArray⟩), (.int .i64 sx), (.bool dx), (.string ⟨vx.toArray⟩)]) ∧ Kept (fun _ => False) W w') := HRx.out
    clear HRx
    go_enter Try.func16, Try.ntmps16
    go_upto_region 1 with (fail)
    obtain ⟨p, hp⟩ : ∃ p, Hid (p = w.heap.size) := ⟨_, rfl⟩
    rw [← hp.out] at hX ⊢
    change Holds (w.alloc (.cells #[.string ⟨#[]⟩, .int .i64 0, .bool false, .string ⟨#[]⟩] 34)) p _ _ at hX
    generalize w.alloc (.cells #[.string ⟨#[]⟩, .int .i64 0, .bool false, .string ⟨#[]⟩] 34) = w1 at hX hk1 ⊢
    have HS : Hid (∀ W, Kept (fun _ => False) w1 W → W.cell? ⟨t, 0, none⟩ = some (.pointer (some ⟨l, 0, none⟩))) := fun W hk => hCl W (hk1.trans hk (fun _ f => f.elim))
    have HSK1 := Lib.hid (fun (W : World) (hk : Kept (fun _ => False) w1 W) => HSK.out W (hk1.trans hk (fun _ f => f.elim)))
    have HK1 := Lib.hid hk1
    have HX := Lib.hid hX
    clear hk1 hX hCl HSK
    go_upto_region 3 with (fail)
    refine wp_region_until (fun W => W.cell? ⟨t, 0, none⟩ = some (.pointer (some ⟨l, 0, none⟩))) 16 (by kernel_rfl) ?_
    have HKA : Hid (Kept (fun _ => False) w1 w1.drew) := (Kept.refl _ w1).drewN 1
    have hS := HS.out _ HKA.out
    refine wpAnyU_take (i := 0) (v := (.pointer (some ⟨t, 0, none⟩))) (some 21) rfl rfl (by kernel_rfl) (by kernel_rfl) (by kernel_rfl) (by kernel_rfl) (fun _ _ _ h => h) hS (yields_of (by kernel_rfl) (fun w h0 => by go_simp)) ?_
    refine wpAnyU_take (i := 1) (v := (.pointer (some ⟨t, 0, none⟩))) (some 22) rfl rfl (by kernel_rfl) (by kernel_rfl) (by kernel_rfl) (by kernel_rfl) (fun _ _ _ h => h) hS (yields_of (by kernel_rfl) (fun w h0 => by go_simp)) ?_
    refine wpAnyU_take (i := 2) (v := (.pointer (some ⟨t, 0, none⟩))) (some 23) rfl rfl (by kernel_rfl) (by kernel_rfl) (by kernel_rfl) (by kernel_rfl) (fun _ _ _ h => h) hS (yields_of (by kernel_rfl) (fun w h0 => by go_simp)) ?_
    refine wpAnyU_take (i := 3) (v := (.pointer (some ⟨l, 0, none⟩))) (some 24) rfl rfl (by kernel_rfl) (by kernel_rfl) (by kernel_rfl) (by kernel_rfl) (fun _ _ _ h => h) hS (yields_of (by kernel_rfl) (fun w h0 => by go_simp)) ?_
    refine wpAnyU_take (i := 4) (v := (.string ⟨k.toArray⟩)) (some 25) rfl rfl (by kernel_rfl) (by kernel_rfl) (by kernel_rfl) (by kernel_rfl) (fun _ _ _ h => h) hS (yields_of (by kernel_rfl) (fun w h0 => by go_simp)) ?_
    refine wpAnyU_take (i := 5) (v := (.int .i64 s)) (some 26) rfl rfl (by kernel_rfl) (by kernel_rfl) (by kernel_rfl) (by kernel_rfl) (fun _ _ _ h => h) hS (yields_of (by kernel_rfl) (fun w h0 => by go_simp)) ?_
    refine wpAnyU_take (i := 6) (v := (.int .i64 sm)) (some 27) rfl rfl (by kernel_rfl) (by kernel_rfl) (by kernel_rfl) (by kernel_rfl) (fun _ _ _ h => h) hS (yields_of (by kernel_rfl) (fun w h0 => by go_simp)) ?_
    refine wpAnyU_call (i := 7) (f := 29) (args := #[(.string ⟨k.toArray⟩), (.int .i64 sm)]) (some 28) rfl rfl (by kernel_rfl) (by kernel_rfl) (by kernel_rfl) ?_
    refine (HJ.out _).mono ?_
    rintro r wj ⟨rfl, hkj⟩
    have HKJ := Lib.hid (HKA.out.trans hkj (fun _ hf => hf.elim))
    clear hkj hS
    have hS := HS.out wj HKJ.out
    refine ⟨_, rfl, fun _ => hS, ?_⟩
    refine wpAnyU_call (i := 8) (f := 28) (args := #[(.pointer (some ⟨l, 0, none⟩)), (.string ⟨J.toArray⟩)]) (some 29) rfl rfl (by kernel_rfl) (by kernel_rfl) (by kernel_rfl) ?_
    refine (HSK1.out _ HKJ.out).mono ?_
    rintro r ws ⟨rfl, hks⟩
    have HKS := Lib.hid (HKJ.out.trans hks (fun _ hf => hf.elim))
    clear hks hS
    have hS := HS.out ws HKS.out
    refine ⟨_, rfl, fun _ => hS, ?_⟩
    refine wpAnyU_take (i := 9) (v := (.tuple #[(.string ⟨W0.toArray⟩), (.string ⟨y.toArray⟩), (.bool true)])) (some 20) rfl rfl (by kernel_rfl) (by kernel_rfl) (by kernel_rfl) (by kernel_rfl) (fun _ _ _ h => h) hS (yields_of (by kernel_rfl) (fun w h0 => by go_simp)) ?_
    refine wpAnyU_take (i := 10) (v := (.string ⟨W0.toArray⟩)) (some 30) rfl rfl (by kernel_rfl) (by kernel_rfl) (by kernel_rfl) (by kernel_rfl) (fun _ _ _ h => h) hS (yields_of (by kernel_rfl) (fun w h0 => by go_simp)) ?_
    refine wpAnyU_take (i := 11) (v := (.string ⟨y.toArray⟩)) (some 31) rfl rfl (by kernel_rfl) (by kernel_rfl) (by kernel_rfl) (by kernel_rfl) (fun _ _ _ h => h) hS (yields_of (by kernel_rfl) (fun w h0 => by go_simp)) ?_
    refine wpAnyU_take (i := 12) (v := (.bool true)) (some 32) rfl rfl (by kernel_rfl) (by kernel_rfl) (by kernel_rfl) (by kernel_rfl) (fun _ _ _ h => h) hS (yields_of (by kernel_rfl) (fun w h0 => by go_simp)) ?_
    refine wpAnyU_take (i := 13) (v := (.string ⟨W0.toArray⟩)) (some 8) rfl rfl (by kernel_rfl) (by kernel_rfl) (by kernel_rfl) (by kernel_rfl) (fun _ _ _ h => h) hS (yields_of (by kernel_rfl) (fun w h0 => by go_simp)) ?_
    refine wpAnyU_take (i := 14) (v := (.string ⟨y.toArray⟩)) (some 9) rfl rfl (by kernel_rfl) (by kernel_rfl) (by kernel_rfl) (by kernel_rfl) (fun _ _ _ h => h) hS (yields_of (by kernel_rfl) (fun w h0 => by go_simp)) ?_
    refine wpAnyU_take (i := 15) (v := (.bool true)) (some 10) rfl rfl (by kernel_rfl) (by kernel_rfl) (by kernel_rfl) (by kernel_rfl) (fun _ _ _ h => h) hS (yields_of (by kernel_rfl) (fun w h0 => by go_simp)) ?_
    refine wpAnyU_done (by kernel_rfl) ?_ _
    simp only [put_lit, List.set_cons_succ, List.set_cons_zero]
    clear hS
    have hP := HX.out.of_block (HKS.out.block p HX.out.lt (fun f => f))
    have hK := HK1.out.trans HKS.out (fun _ f => f.elim)
    have HPK := Lib.hid (And.intro hP hK)
    clear HKA HKJ HKS HX HK1 HS HSK1
    clear hP hK
    go_wp2_with fail
    refine (HRx2.out _).mono ?_
    clear HRx2
    rintro r w4 ⟨rfl, hk4⟩
    go_upto_region 7 with (fail)
    have HN := Holds.new w4 [(.string ⟨kx.toArray⟩), (.int .i64 sx), (.bool dx), (.string ⟨vx.toArray⟩)] 34
    have hk5 := hk4.alloc (.cells #[(.string ⟨kx.toArray⟩), (.int .i64 sx), (.bool dx), (.string ⟨vx.toArray⟩)] 34)
    obtain ⟨q, hq⟩ : ∃ q, q = w4.heap.size := ⟨_, rfl⟩
    obtain ⟨w5, hw5⟩ : ∃ w5, w5 = w4.alloc (.cells #[(.string ⟨kx.toArray⟩), (.int .i64 sx), (.bool dx), (.string ⟨vx.toArray⟩)] 34) := ⟨_, rfl⟩
    rw [← hq] at HN
    change Holds (w4.alloc (.cells #[(.string ⟨kx.toArray⟩), (.int .i64 sx), (.bool dx), (.string ⟨vx.toArray⟩)] 34)) q _ _ at HN
    rw [← hw5] at HN hk5
    rw [← hw5, ← hq]
    have hP := HPK.out.1.of_block (hk5.block p HPK.out.1.lt (fun f => f))
    have hK := HPK.out.2.trans hk5 (fun _ f => f.elim)
    have HPK5 := Lib.hid (And.intro hP hK)
    have e0 := HN.cell 0 _ rfl
    have e1 := HN.cell 1 _ rfl
    have e2 := HN.cell 2 _ rfl
    have e3 := HN.cell 3 _ rfl
    have c0 := hP.cell 0 _ rfl
    have c1 := hP.cell 1 _ rfl
    have c2 := hP.cell 2 _ rfl
    have c3 := hP.cell 3 _ rfl
    have f0 := hP.free 0
    have f1 := hP.free 1
    have f2 := hP.free 2
    have f3 := hP.free 3
    have HP := Lib.hid hP
    clear hP hK HN hk5 hw5 hq hk4 HPK
    by_cases hkk : kx = k
    · rw [if_pos hkk] at HG
      subst hkk
      go_wp2
      have hPN := HP.out.setCells (entC (kx, sx, dx, vx)) 0 w5 [.string ⟨#[]⟩, .int .i64 0, .bool false, .string ⟨#[]⟩] (Nat.le_refl _)
      rw [lay_all [.string ⟨#[]⟩, .int .i64 0, .bool false, .string ⟨#[]⟩] (entC (kx, sx, dx, vx)) rfl] at hPN
      have hKN : Kept (fun _ => False) w (w5.setCells p 0 (entC (kx, sx, dx, vx))) := Kept.setCellsN (Nat.le_of_eq hp.out.symm) _ 0 w5 HPK5.out.2
      change bodyPost _ _ _ _ _ (w5.setCells p 0 (entC (kx, sx, dx, vx)))
      generalize w5.setCells p 0 (entC (kx, sx, dx, vx)) = wz at hPN hKN ⊢
      have d0 : wz.cell? ⟨p, 0, none⟩ = some (.string ⟨kx.toArray⟩) := hPN.cell 0 _ rfl
      have d1 : wz.cell? ⟨p, 1, none⟩ = some (.int .i64 sx) := hPN.cell 1 _ rfl
      have d2 : wz.cell? ⟨p, 2, none⟩ = some (.bool dx) := hPN.cell 2 _ rfl
      have d3 : wz.cell? ⟨p, 3, none⟩ = some (.string ⟨vx.toArray⟩) := hPN.cell 3 _ rfl
      refine bodyPost_ret (v := .tuple #[.agg #[(.string ⟨kx.toArray⟩), (.int .i64 sx), (.bool dx), (.string ⟨vx.toArray⟩)], .bool true]) ?_ rfl ⟨by rw [HG.out]; rfl, hKN⟩
      rw [results_cell_tmp rfl]
      go_simp
    · rw [if_neg hkk] at HG
      have hkb : (kx == k) = false := by simpa using hkk
      clear hkk
      go_wp2
      have hPN := HP.out.setCells (entC zeroM) 0 w5 [.string ⟨#[]⟩, .int .i64 0, .bool false, .string ⟨#[]⟩] (Nat.le_refl _)
      rw [lay_all [.string ⟨#[]⟩, .int .i64 0, .bool false, .string ⟨#[]⟩] (entC zeroM) rfl] at hPN
      have hKN : Kept (fun _ => False) w (w5.setCells p 0 (entC zeroM)) := Kept.setCellsN (Nat.le_of_eq hp.out.symm) _ 0 w5 HPK5.out.2
      change bodyPost _ _ _ _ _ (w5.setCells p 0 (entC zeroM))
      generalize w5.setCells p 0 (entC zeroM) = wz at hPN hKN ⊢
      have d0 : wz.cell? ⟨p, 0, none⟩ = some (.string ⟨#[]⟩) := hPN.cell 0 _ rfl
      have d1 : wz.cell? ⟨p, 1, none⟩ = some (.int .i64 0) := hPN.cell 1 _ rfl
      have d2 : wz.cell? ⟨p, 2, none⟩ = some (.bool false) := hPN.cell 2 _ rfl
      have d3 : wz.cell? ⟨p, 3, none⟩ = some (.string ⟨#[]⟩) := hPN.cell 3 _ rfl
      refine bodyPost_ret (v := .tuple #[.agg #[(.string ⟨#[]⟩), (.int .i64 0), (.bool false), (.string ⟨#[]⟩)], .bool false]) ?_ rfl ⟨by rw [HG.out]; rfl, hKN⟩
      rw [results_cell_tmp rfl]
      go_simp
  · have hge : ¬a < E.length := by omega
    have hsk : seekE E J = ([], [], false) := by
      unfold seekE
      rw [hES, List.getElem?_eq_none (by omega)]
    rw [hsk] at hSK0
    rw [List.getElem?_eq_none (by omega)] at hat
    simp only at hSK0 hat
    have HSK := Lib.hid hSK0
    have HG := Lib.hid hat
    clear hsk hge hlt hat hSK0 hES HR hlens hkeys
    rw [HG.out]
    clear HG
    go_enter Try.func16, Try.ntmps16
    go_upto_region 1 with (fail)
    obtain ⟨p, hp⟩ : ∃ p, Hid (p = w.heap.size) := ⟨_, rfl⟩
    rw [← hp.out] at hX ⊢
    change Holds (w.alloc (.cells #[.string ⟨#[]⟩, .int .i64 0, .bool false, .string ⟨#[]⟩] 34)) p _ _ at hX
    generalize w.alloc (.cells #[.string ⟨#[]⟩, .int .i64 0, .bool false, .string ⟨#[]⟩] 34) = w1 at hX hk1 ⊢
    have HS : Hid (∀ W, Kept (fun _ => False) w1 W → W.cell? ⟨t, 0, none⟩ = some (.pointer (some ⟨l, 0, none⟩))) := fun W hk => hCl W (hk1.trans hk (fun _ f => f.elim))
    have HSK1 := Lib.hid (fun (W : World) (hk : Kept (fun _ => False) w1 W) => HSK.out W (hk1.trans hk (fun _ f => f.elim)))
    have HK1 := Lib.hid hk1
    have HX := Lib.hid hX
    clear hk1 hX hCl HSK
    go_upto_region 3 with (fail)
    refine wp_region_until (fun W => W.cell? ⟨t, 0, none⟩ = some (.pointer (some ⟨l, 0, none⟩))) 16 (by kernel_rfl) ?_
    have HKA : Hid (Kept (fun _ => False) w1 w1.drew) := (Kept.refl _ w1).drewN 1
    have hS := HS.out _ HKA.out
    refine wpAnyU_take (i := 0) (v := (.pointer (some ⟨t, 0, none⟩))) (some 21) rfl rfl (by kernel_rfl) (by kernel_rfl) (by kernel_rfl) (by kernel_rfl) (fun _ _ _ h => h) hS (yields_of (by kernel_rfl) (fun w h0 => by go_simp)) ?_
    refine wpAnyU_take (i := 1) (v := (.pointer (some ⟨t, 0, none⟩))) (some 22) rfl rfl (by kernel_rfl) (by kernel_rfl) (by kernel_rfl) (by kernel_rfl) (fun _ _ _ h => h) hS (yields_of (by kernel_rfl) (fun w h0 => by go_simp)) ?_
    refine wpAnyU_take (i := 2) (v := (.pointer (some ⟨t, 0, none⟩))) (some 23) rfl rfl (by kernel_rfl) (by kernel_rfl) (by kernel_rfl) (by kernel_rfl) (fun _ _ _ h => h) hS (yields_of (by kernel_rfl) (fun w h0 => by go_simp)) ?_
    refine wpAnyU_take (i := 3) (v := (.pointer (some ⟨l, 0, none⟩))) (some 24) rfl rfl (by kernel_rfl) (by kernel_rfl) (by kernel_rfl) (by kernel_rfl) (fun _ _ _ h => h) hS (yields_of (by kernel_rfl) (fun w h0 => by go_simp)) ?_
    refine wpAnyU_take (i := 4) (v := (.string ⟨k.toArray⟩)) (some 25) rfl rfl (by kernel_rfl) (by kernel_rfl) (by kernel_rfl) (by kernel_rfl) (fun _ _ _ h => h) hS (yields_of (by kernel_rfl) (fun w h0 => by go_simp)) ?_
    refine wpAnyU_take (i := 5) (v := (.int .i64 s)) (some 26) rfl rfl (by kernel_rfl) (by kernel_rfl) (by kernel_rfl) (by kernel_rfl) (fun _ _ _ h => h) hS (yields_of (by kernel_rfl) (fun w h0 => by go_simp)) ?_
    refine wpAnyU_take (i := 6) (v := (.int .i64 sm)) (some 27) rfl rfl (by kernel_rfl) (by kernel_rfl) (by kernel_rfl) (by kernel_rfl) (fun _ _ _ h => h) hS (yields_of (by kernel_rfl) (fun w h0 => by go_simp)) ?_
    refine wpAnyU_call (i := 7) (f := 29) (args := #[(.string ⟨k.toArray⟩), (.int .i64 sm)]) (some 28) rfl rfl (by kernel_rfl) (by kernel_rfl) (by kernel_rfl) ?_
    refine (HJ.out _).mono ?_
    rintro r wj ⟨rfl, hkj⟩
    have HKJ := Lib.hid (HKA.out.trans hkj (fun _ hf => hf.elim))
    clear hkj hS
    have hS := HS.out wj HKJ.out
    refine ⟨_, rfl, fun _ => hS, ?_⟩
    refine wpAnyU_call (i := 8) (f := 28) (args := #[(.pointer (some ⟨l, 0, none⟩)), (.string ⟨J.toArray⟩)]) (some 29) rfl rfl (by kernel_rfl) (by kernel_rfl) (by kernel_rfl) ?_
    refine (HSK1.out _ HKJ.out).mono ?_
    rintro r ws ⟨rfl, hks⟩
    have HKS := Lib.hid (HKJ.out.trans hks (fun _ hf => hf.elim))
    clear hks hS
    have hS := HS.out ws HKS.out
    refine ⟨_, rfl, fun _ => hS, ?_⟩
    refine wpAnyU_take (i := 9) (v := (.tuple #[(.string ⟨#[]⟩), (.string ⟨#[]⟩), (.bool false)])) (some 20) rfl rfl (by kernel_rfl) (by kernel_rfl) (by kernel_rfl) (by kernel_rfl) (fun _ _ _ h => h) hS (yields_of (by kernel_rfl) (fun w h0 => by go_simp)) ?_
    refine wpAnyU_take (i := 10) (v := (.string ⟨#[]⟩)) (some 30) rfl rfl (by kernel_rfl) (by kernel_rfl) (by kernel_rfl) (by kernel_rfl) (fun _ _ _ h => h) hS (yields_of (by kernel_rfl) (fun w h0 => by go_simp)) ?_
    refine wpAnyU_take (i := 11) (v := (.string ⟨#[]⟩)) (some 31) rfl rfl (by kernel_rfl) (by kernel_rfl) (by kernel_rfl) (by kernel_rfl) (fun _ _ _ h => h) hS (yields_of (by kernel_rfl) (fun w h0 => by go_simp)) ?_
    refine wpAnyU_take (i := 12) (v := (.bool false)) (some 32) rfl rfl (by kernel_rfl) (by kernel_rfl) (by kernel_rfl) (by kernel_rfl) (fun _ _ _ h => h) hS (yields_of (by kernel_rfl) (fun w h0 => by go_simp)) ?_
    refine wpAnyU_take (i := 13) (v := (.string ⟨#[]⟩)) (some 8) rfl rfl (by kernel_rfl) (by kernel_rfl) (by kernel_rfl) (by kernel_rfl) (fun _ _ _ h => h) hS (yields_of (by kernel_rfl) (fun w h0 => by go_simp)) ?_
    refine wpAnyU_take (i := 14) (v := (.string ⟨#[]⟩)) (some 9) rfl rfl (by kernel_rfl) (by kernel_rfl) (by kernel_rfl) (by kernel_rfl) (fun _ _ _ h => h) hS (yields_of (by kernel_rfl) (fun w h0 => by go_simp)) ?_
    refine wpAnyU_take (i := 15) (v := (.bool false)) (some 10) rfl rfl (by kernel_rfl) (by kernel_rfl) (by kernel_rfl) (by kernel_rfl) (fun _ _ _ h => h) hS (yields_of (by kernel_rfl) (fun w h0 => by go_simp)) ?_
    refine wpAnyU_done (by kernel_rfl) ?_ _
    simp only [put_lit, List.set_cons_succ, List.set_cons_zero]
    clear hS
    have hP := HX.out.of_block (HKS.out.block p HX.out.lt (fun f => f))
    have hK := HK1.out.trans HKS.out (fun _ f => f.elim)
    have HPK := Lib.hid (And.intro hP hK)
    clear HKA HKJ HKS HX HK1 HS HSK1
    have c0 := hP.cell 0 _ rfl
    have c1 := hP.cell 1 _ rfl
    have c2 := hP.cell 2 _ rfl
    have c3 := hP.cell 3 _ rfl
    have f0 := hP.free 0
    have f1 := hP.free 1
    have f2 := hP.free 2
    have f3 := hP.free 3
    have HP := Lib.hid hP
    clear hP hK
    go_wp2
    have hPN := HP.out.setCells (entC zeroM) 0 ws [.string ⟨#[]⟩, .int .i64 0, .bool false, .string ⟨#[]⟩] (Nat.le_refl _)
    rw [lay_all [.string ⟨#[]⟩, .int .i64 0, .bool false, .string ⟨#[]⟩] (entC zeroM) rfl] at hPN
    have hKN : Kept (fun _ => False) w (ws.setCells p 0 (entC zeroM)) := Kept.setCellsN (Nat.le_of_eq hp.out.symm) _ 0 ws HPK.out.2
    change bodyPost _ _ _ _ _ (ws.setCells p 0 (entC zeroM))
    generalize ws.setCells p 0 (entC zeroM) = wz at hPN hKN ⊢
    have d0 : wz.cell? ⟨p, 0, none⟩ = some (.string ⟨#[]⟩) := hPN.cell 0 _ rfl
    have d1 : wz.cell? ⟨p, 1, none⟩ = some (.int .i64 0) := hPN.cell 1 _ rfl
    have d2 : wz.cell? ⟨p, 2, none⟩ = some (.bool false) := hPN.cell 2 _ rfl
    have d3 : wz.cell? ⟨p, 3, none⟩ = some (.string ⟨#[]⟩) := hPN.cell 3 _ rfl
    refine bodyPost_ret (v := .tuple #[.agg #[(.string ⟨#[]⟩), (.int .i64 0), (.bool false), (.string ⟨#[]⟩)], .bool false]) ?_ rfl ⟨rfl, hKN⟩
    rw [results_cell_tmp rfl]
    go_simp

end Go.Proofs.Ytlmlldcpllagbaa
