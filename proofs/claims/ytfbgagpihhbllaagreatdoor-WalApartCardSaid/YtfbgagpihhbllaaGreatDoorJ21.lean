/- RtQ. -/
import Derived.Test.YtfbgagpihhbllaaGreatDoorJ05
import Derived.Test.YtfbgagpihhbllaaGreatDoorJ07
import Derived.BigQuiet

/- Package root: Right. -/
namespace Go.Proofs.YtfbgagpihhbllaaGreatDoor
open Go.RowKit Go.Proofs Go.Proofs.Pk
set_option maxRecDepth 10000
attribute [local simp] mk_get wrap64_u8 mk_extract ByteArray.mk_append_mk get_1k

set_option maxHeartbeats 1000000 in
theorem pRightR (T seq next cur : Int) (ad : Option Addr) (len cap : Nat) (l : List FileV) (w : World) (ht : Fit T) (h : Files w ad len l) :
    Calls Tryz.prog 79 #[.int .i64 T, .agg #[.int .i64 seq, .int .i64 next, .int .i64 cur, .slice ad len cap]] w fun e w' => e = .returned (.bool (rightV T seq next cur l)) ∧ Below w.heap.size w w' := by
  obtain ⟨iR, hiR, hzR, hsR, hbR⟩ := info_parts run_info
  by_cases hh : headF seq next l.length = true
  · have hl := h.1
    have hhh := hh
    unfold headF at hhh
    simp only [Bool.and_eq_true, decide_eq_true_eq] at hhh
    obtain ⟨⟨⟨⟨k1, k2⟩, k3⟩, k4⟩, k5⟩ := hhh
    have hlen : (len : Int) ≤ 24 := by omega
    have HV : Hid (rightV T seq next cur l = (okF next 0 l && curF cur l && (takenO T (usedF l)).isSome)) := by show _ = _; unfold rightV; rw [hh, Bool.true_and]
    have HR := Lib.hid h
    have HT := Lib.hid ht
    have e1 : decide (seq < 1) = false := by rw [decide_eq_false_iff_not]; omega
    have e2 : decide (9007199254740991 < seq) = false := by rw [decide_eq_false_iff_not]; omega
    have e3 : decide (next < 1) = false := by rw [decide_eq_false_iff_not]; omega
    have e4 : decide (9007199254740991 < next) = false := by rw [decide_eq_false_iff_not]; omega
    have e5 : decide (24 < (len : Int)) = false := by rw [decide_eq_false_iff_not]; omega
    have HBX := Holds.new w [.int .i64 seq, .int .i64 next, .int .i64 cur, .slice ad len cap] 78
    have hb0 : Below w.heap.size w (w.alloc (.cells #[.int .i64 seq, .int .i64 next, .int .i64 cur, .slice ad len cap] 78)) := (Below.refl _ _).alloc (Nat.le_refl _) _
    have hFit : Hid (∀ f ∈ l, FitF f) := h.fit
    have hnx : -9223372036854775808 ≤ next ∧ next ≤ 9223372036854775807 := by omega
    clear hh h ht k5
    go_enter Tryz.func79, Tryz.ntmps79
    go_wp2
    obtain ⟨p, hp⟩ : ∃ p, Hid (p = w.heap.size) := ⟨_, rfl⟩
    rw [← hp.out] at HBX ⊢
    change Holds (w.alloc (.cells #[.int .i64 seq, .int .i64 next, .int .i64 cur, .slice ad len cap] 78)) p _ _ at HBX
    generalize w.alloc (.cells #[.int .i64 seq, .int .i64 next, .int .i64 cur, .slice ad len cap] 78) = w1 at HBX hb0 ⊢
    have HP : Hid (p < w1.heap.size) := HBX.lt
    have HX := Lib.hid HBX
    have HB0 := Lib.hid hb0
    have z2 := HBX.cell 2 _ rfl
    have z3 := HBX.cell 3 _ rfl
    clear HBX hb0
    go_quiet (fail)
    go_wp2
    obtain ⟨wq, hwq⟩ : ∃ wq, wq = w1.drewN nq := ⟨_, rfl⟩
    have HS : Hid (Below w1.heap.size w1 wq) := by rw [hwq]; exact belowN (Below.refl _ _) _
    clear z2 z3
    have HC0 : Hid ((cur == 0) = curF cur (l.take 0)) := by show _ = _; unfold curF; simp
    rw [← hwq]
    clear hwq
    generalize (cur == 0) = c0 at HC0 ⊢
    go_loopw [5, 6, 7, 38] (fun la c v i wr => ∃ (j : Nat) (last : Int) (cb : Bool), j ≤ len ∧ c = .bool cb ∧ la = .int .i64 last ∧ i = .int .i64 j ∧ Hid (cb = curF cur (l.take j)) ∧ Hid (okF next 0 l = okF next last (l.drop j)) ∧ Hid (wr.ownsRow w1.heap.size 132 2 v j ((usedF (l.take j)).flatMap runV)) ∧ Hid (Below w1.heap.size w1 wr)) (fun _ _ _ i _ => len - (intOf i).toNat)
    case atStart => exact ⟨0, 0, c0, Nat.zero_le _, rfl, rfl, rfl, HC0, rfl, World.ownsRow_nil _ _ _ _, HS⟩
    case round =>
      obtain ⟨j, last, cb, hj, rfl, rfl, rfl, hcb, hok, ho, hb⟩ := hrel
      have x0 : wr.cell? ⟨p, 0, none⟩ = some (.int .i64 seq) := by rw [hb.out.cell (p := ⟨p, 0, none⟩) HP.out]; exact HX.out.cell 0 _ rfl
      have x1 : wr.cell? ⟨p, 1, none⟩ = some (.int .i64 next) := by rw [hb.out.cell (p := ⟨p, 1, none⟩) HP.out]; exact HX.out.cell 1 _ rfl
      have x2 : wr.cell? ⟨p, 2, none⟩ = some (.int .i64 cur) := by rw [hb.out.cell (p := ⟨p, 2, none⟩) HP.out]; exact HX.out.cell 2 _ rfl
      have x3 : wr.cell? ⟨p, 3, none⟩ = some (.slice ad len cap) := by rw [hb.out.cell (p := ⟨p, 3, none⟩) HP.out]; exact HX.out.cell 3 _ rfl
      have y1 : ∀ o, (wr.alloc o).cell? ⟨p, 1, none⟩ = some (.int .i64 next) := fun o => Lib.cell?_alloc_some o x1
      have y2 : ∀ o, (wr.alloc o).cell? ⟨p, 2, none⟩ = some (.int .i64 cur) := fun o => Lib.cell?_alloc_some o x2
      by_cases hlt : (j : Int) < len
      · have hjl : j < len := by omega
        have hjL : j < l.length := by have := HR.out.1; omega
        obtain ⟨b, off, rfl, hbl, hrow, hfit⟩ := files_at (HR.out.below (HB0.out.trans (hb.out.mono HB0.out.size))) j hjl
        have hdrop : l.drop j = l[j] :: l.drop (j + 1) := List.drop_eq_getElem_cons hjL
        have htake : l.take (j + 1) = l.take j ++ [l[j]] := List.take_succ_eq_append_getElem hjL
        have hok2 := hok.out
        rw [hdrop, okF] at hok2
        have hcur : curF cur (l.take (j + 1)) = (curF cur (l.take j) || l[j].1 == cur) := by rw [htake, curF_snoc]
        have hus : usedF (l.take (j + 1)) = usedF (l.take j) ++ [l[j].2] := by rw [htake, usedF_snoc]
        generalize l[j] = f at hrow hfit hok2 hcur hus
        obtain ⟨f0, f1, f2⟩ := f
        simp only at hok2 hcur hus
        have d0 : wr.cell? ⟨b, off + j * 3, none⟩ = some (.int .i64 f0) := hrow 0 _ rfl
        have d1 : wr.cell? ⟨b, off + j * 3 + 1, none⟩ = some (.int .i64 f1) := hrow 1 _ rfl
        have d2 : wr.cell? ⟨b, off + j * 3 + 2, none⟩ = some (.int .i64 f2) := hrow 2 _ rfl
        have hj0 : (0 : Int) ≤ (j : Int) := Int.natCast_nonneg _
        have hwj : IntKind.i64.wrap ((j : Int) + 1) = ((j + 1 : Nat) : Int) := by rw [IntWalk.i64_in _ (by omega)]; omega
        have HOK := Lib.hid hok2
        have HCU := Lib.hid hcur
        have HUS := Lib.hid hus
        clear hrow hdrop htake hok hok2 hcur hus hfit
        have hbA : Hid (Below w.heap.size w wr) := HB0.out.trans (hb.out.mono HB0.out.size)
        by_cases gg : f0 ≤ last ∨ next ≤ f0 ∨ f1 < 18
        · have HF : Hid (rightV T seq next cur l = false) := by
            show _ = _
            have e : (decide (f0 ≤ last) || decide (next ≤ f0) || decide (f1 < 18)) = true := by
              rcases gg with h | h | h <;> simp [h]
            rw [HV.out, HOK.out, e]; rfl
          clear HV HOK HCU HUS hcb
          by_cases g1 : f0 ≤ last
          case' neg =>
            by_cases g2 : next ≤ f0
            case' neg =>
              have g3 : f1 < 18 := by omega
          all_goals
            clear gg
            go_wp2
            all_goals
              go_ret
              rw [HF.out]
              exact ⟨rfl, hbA.out.alloc hbA.out.size _⟩
        · have r1 : decide (f0 ≤ last) = false := by rw [decide_eq_false_iff_not]; omega
          have r2 : decide (next ≤ f0) = false := by rw [decide_eq_false_iff_not]; omega
          have r3 : decide (f1 < 18) = false := by rw [decide_eq_false_iff_not]; omega
          have HOK2 : Hid (okF next 0 l = okF next f0 (l.drop (j + 1))) := by show _ = _; rw [HOK.out, r1, r2, r3]; rfl
          obtain ⟨F, hF⟩ : ∃ F, Hid (F = usedF (l.take j)) := ⟨_, rfl⟩
          rw [← hF.out] at ho HUS
          have hcb2 := hcb.out
          rw [← hcb2] at HCU
          clear gg HOK hF hcb hcb2
          cases cb
          all_goals
            have hd := hb.out.alloc hb.out.size (.cells #[.int .i64 f0, .int .i64 f1, .int .i64 f2] 102)
            have hoD := ho.out.alloc (.cells #[.int .i64 f0, .int .i64 f1, .int .i64 f2] 102)
            have HNF := Holds.new wr [.int .i64 f0, .int .i64 f1, .int .i64 f2] 102
            obtain ⟨gq, hgq⟩ : ∃ gq, Hid (gq = wr.heap.size) := ⟨_, rfl⟩
            go_upto_region 14 with (fail)
            rw [← hgq.out] at HNF ⊢
            change Holds (wr.alloc (.cells #[.int .i64 f0, .int .i64 f1, .int .i64 f2] 102)) _ _ _ at HNF
            generalize wr.alloc (.cells #[.int .i64 f0, .int .i64 f1, .int .i64 f2] 102) = wf at hd hoD HNF ⊢
            have n1 := HNF.cell 1 _ rfl
            have n2 := HNF.cell 2 _ rfl
            refine wp_region_lit ?_
            iterate 6
              refine wpList_plain rfl fun K hK => ?_
              go_simp
              refine hK _ _ ?_
              clear hK K
            have HQ := Holds.new wf (runV (f1, f2)) 132
            have HBd := hd.alloc hd.size (.cells (runV (f1, f2)).toArray 132)
            have HOw := hoD.alloc (.cells (runV (f1, f2)).toArray 132)
            obtain ⟨q, hq⟩ : ∃ q, Hid (q = wf.heap.size) := ⟨_, rfl⟩
            refine wpList_buildSlice_row rfl 106 132 (.tmp 73) rfl iR _ (runV (f1, f2)) Tryz.underlying106 hiR hzR (by rw [hsR]; rfl) (by simp [runV]) (by simp [runV]) (by rfl) ?_
            rw [← hq.out] at HQ ⊢
            generalize wf.alloc (.cells (runV (f1, f2)).toArray 132) = wd at HQ HBd HOw ⊢
            refine wpList_append_at wd rfl (.tmp 68) (.tmp 74) 106 rfl w1.heap.size 132 iR _ 2 16 Tryz.underlying106 hiR hzR hsR hbR (by rfl) (by omega) _ j (F.flatMap runV) (by rfl) HOw
              ⟨q, 0, none⟩ 1 1 (runV (f1, f2)) (by rfl) (by simp [runV]) (fun j u hj => by rw [add0]; exact HQ.cell j u hj) (by simp [runV, Value.oneCell']) (by unfold maxLen; omega) (by omega) HBd.size (by omega) ?_
            intro v' we ho2 hgr _
            have HB2 : Hid (Below w1.heap.size w1 we) := HBd.grown hgr HBd.size (own_low HOw)
            have HO2 : Hid (we.ownsRow w1.heap.size 132 2 v' (j + 1) ((usedF (l.take (j + 1))).flatMap runV)) := by
              show World.ownsRow _ _ _ _ _ _ _
              rw [HUS.out]; exact owns_len ho2 rfl (by simp)
            clear ho2 hgr HQ HBd HOw hd hoD n1 n2 HNF
            go_wp2
            go_roundw
            case rel => exact ⟨j + 1, f0, _, by omega, by rfl, by go_num, by go_num, by show _ = _; rw [HCU.out]; simp, HOK2, HO2, HB2⟩
            case measure => simp [intOf]; omega
      · have hjl : j = len := by omega
        subst hjl
        have hLL := HR.out.1
        have hcb2 := hcb.out
        have ho2 := ho.out
        rw [List.take_of_length_le (by omega)] at hcb2 ho2
        have HOK : Hid (okF next 0 l = true) := by show _ = _; rw [hok.out, List.drop_eq_nil_of_le (by omega)]; rfl
        have hff : ∀ r ∈ usedF l, Fit r.1 ∧ Fit r.2 := by
          intro r hr
          unfold usedF at hr
          obtain ⟨f, hf, rfl⟩ := List.mem_map.1 hr
          exact (hFit.out f hf).2
        have hbA : Hid (Below w.heap.size w wr) := HB0.out.trans (hb.out.mono HB0.out.size)
        obtain ⟨_, ad2, cap2, rfl, hfl, _, hRu⟩ := own_runs ho2 hff
        have HFL := Lib.hid hfl
        have HRU := Lib.hid hRu
        have HCB : Hid (cb = curF cur l) := hcb2
        clear hcb hcb2 ho ho2 hok hff hRu
        cases cb with
        | false =>
          have HF : Hid (rightV T seq next cur l = false) := by show _ = _; rw [HV.out, HOK.out, ← HCB.out]; rfl
          go_wp2
          go_ret
          rw [HF.out]
          exact ⟨rfl, hbA.out⟩
        | true =>
          have HF : Hid (rightV T seq next cur l = (takenO T (usedF l)).isSome) := by show _ = _; rw [HV.out, HOK.out, ← HCB.out]; rfl
          go_wp2_with fail
          refine (rightP T ad2 j cap2 (usedF l) _ HT.out HRU.out HFL.out).mono ?_
          rintro e wz ⟨rfl, hbz⟩
          go_wp2
          go_ret
          rw [HF.out]
          exact ⟨rfl, hbA.out.trans (hbz.mono hbA.out.size)⟩
  · have HV : Hid (rightV T seq next cur l = false) := by show _ = _; unfold rightV; rw [Bool.not_eq_true] at hh; rw [hh]; rfl
    rw [HV.out]
    have hl := h.1
    unfold headF at hh
    simp only [Bool.and_eq_true, decide_eq_true_eq] at hh
    by_cases k1 : seq < 1
    case' neg =>
      by_cases k2 : 9007199254740991 < seq
      case' neg =>
        by_cases k3 : next < 1
        case' neg =>
          by_cases k4 : 9007199254740991 < next
          case' neg =>
            have k5 : 24 < (len : Int) := by omega
    all_goals
      clear hh hl h
      go_enter Tryz.func79, Tryz.ntmps79
      go_wp2
      all_goals
        go_ret
        exact ⟨rfl, (Below.refl _ _).alloc (Nat.le_refl _) _⟩

end Go.Proofs.YtfbgagpihhbllaaGreatDoor
