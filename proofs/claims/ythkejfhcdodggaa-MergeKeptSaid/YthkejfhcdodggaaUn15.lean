/- The program of layer 15: two lists made one. Printed by genun15.py. -/
import Derived.Test.YthkejfhcdodggaaJ14
import Derived.Test.YthkejfhcdodggaaJ15
import Derived.Test.YthkejfhcdodggaaJ09
import Derived.Laws.MakeOwn
import Derived.WalkMore
namespace Go.Proofs.Ythkejfhcdodggaa
open Go.RowKit Go.Proofs Go.Proofs.Pk
set_option maxRecDepth 10000
attribute [local simp] mk_get wrap64_u8 mk_extract ByteArray.mk_append_mk

/-- What union answers. -/
def UniE (w : World) (R : List MEnt) (e : Ending) (w' : World) : Prop := ∃ (ad : Option Addr) (n cap : Nat), e = .returned (.slice ad n cap) ∧ OutO w w' ad n cap R
/-- What union goes through: what is left of the first list, what is written; r are still to come. -/
def UnI (w0 w : World) (M r : Nat) (aa : Option Addr) (na ca : Nat) (A : List MEnt) (ao : Option Addr) (n co : Nat) (O : List MEnt) : Prop :=
  EntsW w0 aa na A ∧ na ≤ ca ∧ OutO w0 w ao n co O ∧ n + na + r ≤ M
theorem UnI.kept {w0 w w' : World} {M r : Nat} {aa : Option Addr} {na ca : Nat} {A : List MEnt} {ao : Option Addr} {n co : Nat} {O : List MEnt} (h : UnI w0 w M r aa na ca A ao n co O) (hk : Kept (fun _ => False) w w') : UnI w0 w' M r aa na ca A ao n co O :=
  ⟨h.1, h.2.1, h.2.2.1.kept hk, h.2.2.2⟩
theorem one_ents (w : World) (x : MEnt) (hf : FitN x.2.1) : EntsW (w.alloc (.cells #[.string ⟨x.1.toArray⟩, .int .i64 x.2.1, .bool x.2.2.1, .string ⟨x.2.2.2.toArray⟩] 34)) (some ⟨w.heap.size, 0, none⟩) 1 [x] := by
  have := lit_ents w [x] (fun e he => by rw [List.mem_singleton] at he; subst he; exact hf)
  simpa [cellsM, entC] using this
theorem exec_slice1 {P : Program} {w : World} {o : Oper} {a : Act} {t : TypeId} {x : Operand} {v r : Value} (hr : (Instr.slice t v (some (.int .i64 1)) none none).run P w = .ok r w) (ho : o.op = .slice t x (some (.const (.int .i64 1))) none none) (hx : a.eval x = v) (hu : P.underlying t = some (.slice (P.elem t))) :
    (execOp a.eval o).run P w = .ok (.value r) w := by
  subst hx
  unfold execOp
  simp only [ho, Option.map_some, Option.map_none, Act.eval, Sem.run_bind]
  simp only [Act.eval] at hr
  rw [run_sliceAt_slice (h := hu), hr]
  simp only [Result.andThen_ok, Sem.run_pure]
def lenS : Value → Nat
  | .slice _ n _ => n
  | _ => 0
theorem drop_at {l : List MEnt} {j : Nat} (h : j < l.length) : l.drop j = l[j] :: l.drop (j + 1) := List.drop_eq_getElem_cons h

set_option maxHeartbeats 16000000 in
theorem pUnion (w : World) (aa ab : Option Addr) (na ca nb cb : Nat) (A0 B : List MEnt) (hA : EntsW w aa na A0) (hB : EntsW w ab nb B) (hca : na ≤ ca) (hM : na + nb ≤ 40000) :
    Calls Try.prog 26 #[.slice aa na ca, .slice ab nb cb] w (UniE w (uniM A0 B)) := by
  obtain ⟨i0, hi0, hz0, hz1, hz2⟩ := info_parts ent_info
  have hBl := hB.1
  have HB := Lib.hid hB
  obtain ⟨w0, hw0⟩ : ∃ w0, w0 = w := ⟨_, rfl⟩
  rw [← hw0] at HB hA ⊢
  obtain ⟨M, hMd⟩ : ∃ M, M = na + nb := ⟨_, rfl⟩
  have m0 : IntKind.i64.wrap ((na : Int) + (nb : Int)) = (M : Int) := by rw [IntWalk.i64_in _ (by omega)]; omega
  obtain ⟨w1, hmk, hown, hgr⟩ := run_make_own (P := Try.prog) w0 w0.heap.size 24 34 i0 _ 4 Try.underlying24 hi0 hz0 hz1 .i64 .i64 M (by rw [hz2]; omega) (by unfold maxLen; omega) (Nat.le_refl _)
  obtain ⟨go, hgo⟩ : ∃ go, go = w0.heap.size := ⟨_, rfl⟩
  rw [← hgo] at hmk
  obtain ⟨R, hR⟩ : ∃ R, Hid (R = uniM A0 B) := ⟨_, rfl⟩
  have HI0 : Hid (UnI w0 w1 M (nb - 0) aa na ca A0 (some ⟨go, 0, none⟩) 0 M [] ∧ [] ++ uniM A0 (B.drop 0) = R) := ⟨⟨hA, hca, ⟨rfl, by rw [hgo]; exact hown, kept_grown (Kept.refl _ _) hgr (fun b hb => by cases hb), fun _ h => (by cases h)⟩, by omega⟩, hR.out.symm⟩
  rw [← hR.out]
  have HMb : Hid (M ≤ 40000 ∧ nb ≤ 40000) := by show _ ∧ _; omega
  clear hB hA hown hgr hgo hR hca hM hMd
  go_enter Try.func26, Try.ntmps26
  clear hw0
  go_wp2
  refine wp_scope_straight ?_
  go_upto_region 1 with (fail)
  refine wp_region_lit ?_
  iterate 5 (refine wpList_plain rfl fun K hK => ?_; go_simp; refine hK _ _ ?_; clear hK K)
  refine wpList_of_run rfl (some 14) rfl (exec_make (l := .const (.int .i64 0)) (c := .tmp 13) hmk rfl rfl rfl) ?_
  go_wp2
  refine wp_label ?_
  go_wp2
  go_loopw [0, 5, 17] (fun s0 s5 i wr => ∃ (j : Nat) (aa : Option Addr) (na ca : Nat) (A : List MEnt) (ao : Option Addr) (n co : Nat) (O : List MEnt), j ≤ nb ∧ s0 = .slice aa na ca ∧ s5 = .slice ao n co ∧ i = .int .i64 (j : Int) ∧ Hid (UnI w0 wr M (nb - j) aa na ca A ao n co O ∧ O ++ uniM A (B.drop j) = R)) (fun _ _ i _ => nb - (intOf i).toNat)
  case atStart => exact ⟨0, _, _, _, _, _, _, _, _, Nat.zero_le _, rfl, rfl, rfl, HI0⟩
  case round =>
    clear HI0 hmk
    obtain ⟨j, aa, na, ca, A, ao, n, co, O, hj, rfl, rfl, rfl, hI⟩ := hrel
    have j0 : (0 : Int) ≤ (j : Int) := by omega
    by_cases hlt : j < nb
    case neg =>
      obtain rfl : j = nb := by omega
      have jn : ¬(j : Int) < (j : Int) := by omega
      obtain ⟨⟨h1, h2, h3, h4⟩, h5⟩ := hI.out
      rw [List.drop_of_length_le (by omega)] at h5
      obtain ⟨ad2, cap2, wB, hrun, hO2, _⟩ := app_list (cx := ca) h3 (ents_keptK h1 h3.2.2.1) (by have := HMb.out; omega) 24
      have h6 : O ++ A = R := h5
      rw [h6] at hO2
      have HV : Hid (OutO w0 wB ad2 (n + na) cap2 R) := hO2
      clear h1 h2 h3 h4 h5 h6 hI hO2
      go_wp2_with (at_builtin; refine wpList_run_append rfl (.tmp 50) (.tmp 51) 24 24 rfl rfl rfl rfl hrun ?_)
      clear hrun
      go_ret
      exact ⟨ad2, _, cap2, rfl, HV.out⟩
    have jn : (j : Int) < (nb : Int) := by omega
    have hwj : IntKind.i64.wrap ((j : Int) + 1) = (j : Int) + 1 := IntWalk.i64_in _ (by have := HMb.out; omega)
    have hjB : j < B.length := by omega
    have hk := hI.out.1.2.2.1.2.2.1
    obtain ⟨b, off, rfl, hb, x0, x1, x2, x3⟩ := (ents_keptK HB.out hk).atS j hjB
    have hfx := ents_fit HB.out _ (List.getElem_mem hjB)
    have hdj := drop_at hjB
    obtain ⟨x, hx⟩ : ∃ x, x = B[j] := ⟨_, rfl⟩
    rw [← hx] at x0 x1 x2 x3 hfx hdj
    obtain ⟨B1, hB1⟩ : ∃ B1, Hid (B1 = B.drop (j + 1)) := ⟨_, rfl⟩
    rw [← hB1.out] at hdj
    have HFx := Lib.hid hfx
    obtain ⟨eb, heb⟩ : ∃ eb, eb = wr.heap.size := ⟨_, rfl⟩
    have HJ : Hid (UnI w0 (wr.alloc (.cells #[.string ⟨x.1.toArray⟩, .int .i64 x.2.1, .bool x.2.2.1, .string ⟨x.2.2.2.toArray⟩] 34)) M (nb - j) aa na ca A ao n co O ∧ Holds (wr.alloc (.cells #[.string ⟨x.1.toArray⟩, .int .i64 x.2.1, .bool x.2.2.1, .string ⟨x.2.2.2.toArray⟩] 34)) eb (entC x) 34 ∧ O ++ uniM A (x :: B1) = R ∧ (Value.slice ao n co).ownBlock ≠ some eb) := by
      obtain ⟨h1, h2⟩ := hI.out
      rw [hdj] at h2
      exact ⟨h1.kept ((Kept.refl _ wr).alloc _), by rw [heb]; exact Holds.new wr _ _, h2, fun e => by have := (h1.2.2.1.2.1.lt _ e).2; omega⟩
    clear hk hb hfx hdj hx hI
    go_upto_region 5 with (fail)
    rw [← heb]
    obtain ⟨wq, hwq⟩ : ∃ wq, wq = wr.alloc (.cells #[.string ⟨x.1.toArray⟩, .int .i64 x.2.1, .bool x.2.2.1, .string ⟨x.2.2.2.toArray⟩] 34) := ⟨_, rfl⟩
    rw [← hwq] at HJ ⊢
    clear hwq heb x0 x1 x2 x3
    go_loopw [0, 5] (fun s0 s5 wx => ∃ (aa : Option Addr) (na ca : Nat) (A : List MEnt) (ao : Option Addr) (n co : Nat) (O : List MEnt), s0 = .slice aa na ca ∧ s5 = .slice ao n co ∧ Hid (UnI w0 wx M (nb - j) aa na ca A ao n co O ∧ Holds wx eb (entC x) 34 ∧ O ++ uniM A (x :: B1) = R ∧ (Value.slice ao n co).ownBlock ≠ some eb)) (fun s0 _ _ => lenS s0)
    case atStart => exact ⟨_, _, _, _, _, _, _, _, rfl, rfl, HJ⟩
    case round =>
      clear HJ
      rename World => wx
      obtain ⟨aa, na, ca, A, ao, n, co, O, rfl, rfl, hI⟩ := hrel
      obtain ⟨⟨h1, h2, h3, h4⟩, hH, hR, hOb⟩ := hI.out
      cases A with
      | nil =>
        obtain rfl : na = 0 := by have := h1.1; simpa using this.symm
        clear h1 h2 h3 h4 hH hR hOb
        go_upto_region 5 with (fail)
        go_quiet (fail)
        obtain ⟨wy, hwy⟩ : ∃ wy, wy = wx.drewN nq := ⟨_, rfl⟩
        rw [← hwy]
        have HU2 : Hid (UnI w0 wy M (nb - j) aa 0 ca [] ao n co O ∧ Holds wy eb (entC x) 34 ∧ O ++ uniM [] (x :: B1) = R ∧ (Value.slice ao n co).ownBlock ≠ some eb) := by
          rw [hwy]
          exact ⟨hI.out.1.kept ((Kept.refl _ wx).drewN _), hI.out.2.1, hI.out.2.2⟩
        clear hwy hI
        obtain ⟨⟨h1, h2, h3, h4⟩, hH, hR, hOb⟩ := HU2.out
        obtain ⟨ao2, co2, wB, hrun, hO2, _⟩ := app_list (cx := 1) (h3.kept ((Kept.refl _ wy).alloc (.cells #[.string ⟨x.1.toArray⟩, .int .i64 x.2.1, .bool x.2.2.1, .string ⟨x.2.2.2.toArray⟩] 34))) (one_ents wy x HFx.out) (by have := HMb.out; omega) 24
        have ce0 := hH.cell 0 _ rfl
        have ce1 := hH.cell 1 _ rfl
        have ce2 := hH.cell 2 _ rfl
        have ce3 := hH.cell 3 _ rfl
        have HN : Hid (UnI w0 wB M (nb - (j + 1)) aa 0 ca [] ao2 (n + 1) co2 (O ++ [x]) ∧ (O ++ [x]) ++ uniM [] (B.drop (j + 1)) = R) := by
          refine ⟨⟨h1, h2, hO2, by omega⟩, ?_⟩
          rw [← hB1.out, ← hR, List.append_assoc]
          congr 1
        
        clear h1 h2 h3 h4 hH hR hO2 hOb
        go_wp2_with (at_builtin; refine wpList_run_append rfl (.tmp 45) (.tmp 47) 24 24 rfl rfl rfl rfl hrun ?_)
        clear hrun ce0 ce1 ce2 ce3
        go_roundw
        case rel => exact ⟨j + 1, _, _, _, _, _, _, _, _, hlt, rfl, rfl, by first | rfl | go_num, HN⟩
        case measure => simp [intOf]; omega
      | cons y A =>
        have hna : 0 < na := by have := h1.1; simp at this; omega
        have hnaI : (0 : Int) < (na : Int) := by omega
        obtain ⟨b2, off2, rfl, hb2, d0, d1, d2, d3⟩ := (ents_keptK h1 h3.2.2.1).atS 0 (by simp)
        simp only [List.getElem_cons_zero, Nat.zero_mul, Nat.add_zero] at d0 d1 d2 d3
        have hfy := ents_fit h1 y (by simp)
        have rx : wx.rangeAt eb 0 (entC x) := hH.range 0 _ (fun k v hv => by rw [Nat.zero_add]; exact hv)
        have ry : wx.rangeAt b2 off2 (entC y) := by
          intro k v hv
          rcases k with _ | _ | _ | _ | k
          · cases hv; exact d0
          · cases hv; exact d1
          · cases hv; exact d2
          · cases hv; exact d3
          · simp [entC] at hv
        obtain ⟨a2, he2, hc2, hsl⟩ := slice_rest h1 h2
        have hel := hH.lt
        have HU : Hid (UnI w0 wx M (nb - j) (some ⟨b2, off2, none⟩) na ca (y :: A) ao n co O ∧ Holds wx eb (entC x) 34 ∧ O ++ uniM (y :: A) (x :: B1) = R ∧ (Value.slice ao n co).ownBlock ≠ some eb) := hI.out
        have HE2 : Hid (EntsW w0 a2 (na - 1) A ∧ na - 1 ≤ ca - 1 ∧ na ≤ ca) := ⟨he2, hc2, h2⟩
        have HSl := Lib.hid hsl
        have HFy := Lib.hid hfy
        clear h1 h2 h3 h4 hH hR hI hOb he2 hc2 hsl hfy d0 d1 d2 d3
        obtain ⟨c, hc⟩ : ∃ c, Hid (c = befM x y) := ⟨_, rfl⟩
        go_upto_region 5 with (fail)
        refine wp_region_until (fun w' => w'.rangeAt eb 0 (entC x) ∧ w'.rangeAt b2 off2 (entC y)) 11 (by kernel_rfl) ?_
        have hS : (fun w' : World => w'.rangeAt eb 0 (entC x) ∧ w'.rangeAt b2 off2 (entC y)) wx.drew := ⟨rx, ry⟩
        refine wpAnyU_take (i := 0) (v := (.slice (some ⟨b2, off2, none⟩) na ca)) (some 21) rfl rfl (by kernel_rfl) (by kernel_rfl) (by kernel_rfl) (by kernel_rfl) (fun _ _ _ h => h) hS (yields_of (by kernel_rfl) (fun w hw => by go_simp)) ?_
        refine wpAnyU_take (i := 1) (v := (.int .i64 (na : Int))) (some 22) rfl rfl (by kernel_rfl) (by kernel_rfl) (by kernel_rfl) (by kernel_rfl) (fun _ _ _ h => h) hS (yields_of (by kernel_rfl) (fun w hw => by go_simp)) ?_
        refine wpAnyU_take (i := 2) (v := (.bool true)) (some 23) rfl rfl (by kernel_rfl) (by kernel_rfl) (by kernel_rfl) (by kernel_rfl) (fun _ _ _ h => h) hS (yields_of (by kernel_rfl) (fun w hw => by go_simp)) ?_
        refine wpAnyU_take (i := 3) (v := (.bool true)) (some 24) rfl rfl (by kernel_rfl) (by kernel_rfl) (by kernel_rfl) (by kernel_rfl) (fun _ _ _ h => h) hS (yields_of (by kernel_rfl) (fun w hw => by go_simp)) ?_
        refine wpAnyU_take (i := 4) (v := (.agg (entC x).toArray)) (some 25) rfl rfl (by kernel_rfl) (by kernel_rfl) (by kernel_rfl) (by kernel_rfl) (fun _ _ _ h => h) hS (yieldsIf_load_mid (by kernel_rfl) 34 (.tmp 7) rfl eb 0 (by kernel_rfl) (entC x) _ (fun w hw => hw.1) Try.underlying34 rfl (by rw [ent_size]; rfl)) ?_
        refine wpAnyU_take (i := 5) (v := (.slice (some ⟨b2, off2, none⟩) na ca)) (some 26) rfl rfl (by kernel_rfl) (by kernel_rfl) (by kernel_rfl) (by kernel_rfl) (fun _ _ _ h => h) hS (yields_of (by kernel_rfl) (fun w hw => by go_simp)) ?_
        refine wpAnyU_take (i := 6) (v := (.pointer (some ⟨b2, off2, none⟩))) (some 27) rfl rfl (by kernel_rfl) (by kernel_rfl) (by kernel_rfl) (by kernel_rfl) (fun _ _ _ h => h) hS (yields_of (by kernel_rfl) (fun w hw => by go_simp)) ?_
        refine wpAnyU_take (i := 7) (v := (.agg (entC y).toArray)) (some 28) rfl rfl (by kernel_rfl) (by kernel_rfl) (by kernel_rfl) (by kernel_rfl) (fun _ _ _ h => h) hS (yieldsIf_load_mid (by kernel_rfl) 34 (.tmp 27) rfl b2 off2 (by kernel_rfl) (entC y) _ (fun w hw => hw.2) Try.underlying34 rfl (by rw [ent_size]; rfl)) ?_
        refine wpAnyU_call (i := 8) (f := 34) (args := #[.agg (entC x).toArray, .agg (entC y).toArray]) (some 29) rfl rfl (by kernel_rfl) (by kernel_rfl) (by kernel_rfl) ?_
        refine (beforeM x y wx.drew).mono ?_
        rintro r wv ⟨rfl, hwv⟩
        rw [← hc.out]
        have hkv : Kept (fun _ => False) wx wv := ((Kept.refl _ wx).drewN 1).trans hwv (fun _ f => f.elim)
        have hSv : wv.rangeAt eb 0 (entC x) ∧ wv.rangeAt b2 off2 (entC y) := ⟨range_kept rx hkv hel, range_kept ry hkv (Nat.lt_of_lt_of_le hb2 (Nat.le_refl _))⟩
        refine ⟨_, rfl, fun _ => hSv, ?_⟩
        refine wpAnyU_run (i := 9) (v := .bool !c) (w' := wv) (some 30) rfl rfl (by kernel_rfl) (by kernel_rfl) (by first | kernel_rfl | (cases c <;> kernel_rfl)) (fun _ => hSv) ?_
        refine wpAnyU_run (i := 10) (v := .bool !c) (w' := wv) (some 31) rfl rfl (by kernel_rfl) (by kernel_rfl) (by first | kernel_rfl | (cases c <;> kernel_rfl)) (fun _ => hSv) ?_
        refine wpAnyU_done (by kernel_rfl) ?_ _
        simp only [put_lit, List.set_cons_succ, List.set_cons_zero]
        have HU2 : Hid (UnI w0 wv M (nb - j) (some ⟨b2, off2, none⟩) na ca (y :: A) ao n co O ∧ Holds wv eb (entC x) 34 ∧ O ++ uniM (y :: A) (x :: B1) = R ∧ (Value.slice ao n co).ownBlock ≠ some eb) :=
          ⟨HU.out.1.kept hkv, HU.out.2.1.of_block (hkv.block eb hel (fun f => f)), HU.out.2.2⟩
        clear hS hkv hwv HU rx ry hel hb2
        cases c with
        | true =>
          obtain ⟨⟨h1, h2, h3, h4⟩, hH, hR, hOb⟩ := HU2.out
          clear HSl HE2 HFy hSv
          obtain ⟨ao2, co2, wB, hrun, hO2, _⟩ := app_list (cx := 1) (h3.kept ((Kept.refl _ wv).alloc (.cells #[.string ⟨x.1.toArray⟩, .int .i64 x.2.1, .bool x.2.2.1, .string ⟨x.2.2.2.toArray⟩] 34))) (one_ents wv x HFx.out) (by have := HMb.out; omega) 24
          have ce0 := hH.cell 0 _ rfl
          have ce1 := hH.cell 1 _ rfl
          have ce2 := hH.cell 2 _ rfl
          have ce3 := hH.cell 3 _ rfl
          have HN : Hid (UnI w0 wB M (nb - (j + 1)) (some ⟨b2, off2, none⟩) na ca (y :: A) ao2 (n + 1) co2 (O ++ [x]) ∧ (O ++ [x]) ++ uniM (y :: A) (B.drop (j + 1)) = R) := by
            refine ⟨⟨h1, h2, hO2, by omega⟩, ?_⟩
            rw [← hB1.out, ← hR, List.append_assoc]
            congr 1
            rw [uniM, stepU, if_pos hc.out.symm]
          clear h1 h2 h3 h4 hH hR hO2 hOb
          go_wp2_with (at_builtin; refine wpList_run_append rfl (.tmp 45) (.tmp 47) 24 24 rfl rfl rfl rfl hrun ?_)
          clear hrun ce0 ce1 ce2 ce3
          go_roundw
          case rel => exact ⟨j + 1, _, _, _, _, _, _, _, _, hlt, rfl, rfl, by first | rfl | go_num, HN⟩
          case measure => simp [intOf]; omega
        | false =>
          obtain ⟨⟨h1, h2, h3, h4⟩, hH, hR, hOb⟩ := HU2.out
          have d0 : wv.cell? ⟨b2, off2, none⟩ = some (.string ⟨y.1.toArray⟩) := hSv.2 0 _ rfl
          have d1 : wv.cell? ⟨b2, off2 + 1, none⟩ = some (.int .i64 y.2.1) := hSv.2 1 _ rfl
          have d2 : wv.cell? ⟨b2, off2 + 2, none⟩ = some (.bool y.2.2.1) := hSv.2 2 _ rfl
          have d3 : wv.cell? ⟨b2, off2 + 3, none⟩ = some (.string ⟨y.2.2.2.toArray⟩) := hSv.2 3 _ rfl
          obtain ⟨ef, hef⟩ : ∃ ef, ef = wv.heap.size := ⟨_, rfl⟩
          have HV : Hid (OutO w0 (wv.alloc (.cells #[.string ⟨y.1.toArray⟩, .int .i64 y.2.1, .bool y.2.2.1, .string ⟨y.2.2.2.toArray⟩] 34)) ao n co O ∧ Holds (wv.alloc (.cells #[.string ⟨y.1.toArray⟩, .int .i64 y.2.1, .bool y.2.2.1, .string ⟨y.2.2.2.toArray⟩] 34)) eb (entC x) 34 ∧ Holds (wv.alloc (.cells #[.string ⟨y.1.toArray⟩, .int .i64 y.2.1, .bool y.2.2.1, .string ⟨y.2.2.2.toArray⟩] 34)) ef (entC y) 34 ∧ (Value.slice ao n co).ownBlock ≠ some eb ∧ (Value.slice ao n co).ownBlock ≠ some ef ∧ ¬ef = eb) :=
            ⟨h3.kept ((Kept.refl _ wv).alloc _), hH.alloc _, by rw [hef]; exact Holds.new wv _ _, hOb, fun e => by have := (h3.2.1.lt _ e).2; omega, fun e => by have := hH.lt; omega⟩
          have HR2 : Hid (n + na + (nb - j) ≤ M ∧ O ++ uniM (y :: A) (x :: B1) = R) := ⟨h4, hR⟩
          have hcx := hc.out
          have HCx := Lib.hid hcx
          clear h1 h2 h3 h4 hH hR hOb HU2 hSv hcx
          go_upto_region 7 with (fail)
          rw [← hef]
          obtain ⟨wz, hwz⟩ : ∃ wz, wz = wv.alloc (.cells #[.string ⟨y.1.toArray⟩, .int .i64 y.2.1, .bool y.2.2.1, .string ⟨y.2.2.2.toArray⟩] 34) := ⟨_, rfl⟩
          rw [← hwz] at HV ⊢
          clear hwz hef d0 d1 d2 d3
          have ry : wz.rangeAt ef 0 (entC y) := HV.out.2.2.1.range 0 _ (fun k v hv => by rw [Nat.zero_add]; exact hv)
          refine wp_region_until (fun w' => w'.rangeAt ef 0 (entC y)) 8 (by kernel_rfl) ?_
          have hS : (fun w' : World => w'.rangeAt ef 0 (entC y)) wz.drew := ry
          refine wpAnyU_take (i := 0) (v := (.slice ao n co)) (some 35) rfl rfl (by kernel_rfl) (by kernel_rfl) (by kernel_rfl) (by kernel_rfl) (fun _ _ _ h => h) hS (yields_of (by kernel_rfl) (fun w hw => by go_simp)) ?_
          refine wpAnyU_take (i := 1) (v := (.agg (entC y).toArray)) (some 36) rfl rfl (by kernel_rfl) (by kernel_rfl) (by kernel_rfl) (by kernel_rfl) (fun _ _ _ h => h) hS (yieldsIf_load_mid (by kernel_rfl) 34 (.tmp 8) rfl ef 0 (by kernel_rfl) (entC y) _ (fun w hw => hw) Try.underlying34 rfl (by rw [ent_size]; rfl)) ?_
          refine wpAnyU_take (i := 4) (v := (.slice (some ⟨b2, off2, none⟩) na ca)) (some 39) rfl rfl (by kernel_rfl) (by kernel_rfl) (by kernel_rfl) (by kernel_rfl) (fun _ _ _ h => h) hS (yields_of (by kernel_rfl) (fun w hw => by go_simp)) ?_
          refine wpAnyU_take (i := 5) (v := (.slice a2 (na - 1) (ca - 1))) (some 40) rfl rfl (by kernel_rfl) (by kernel_rfl) (by kernel_rfl) (by kernel_rfl) (fun _ _ _ h => h) hS (yields_of (by kernel_rfl) (fun w hw => exec_slice1 (HSl.out w) rfl rfl (by kernel_rfl))) ?_
          have hfl : ef < wz.heap.size := HV.out.2.2.1.lt
          have hbs := run_buildSlice_one (P := Try.prog) wz.drew 24 34 i0 _ (entC y) Try.underlying24 hi0 hz0 (by rw [hz1]; rfl) (by simp [entC]) (by simp [entC])
          have hk1 : Kept (fun _ => False) wz (wz.drew.alloc (.cells (entC y).toArray 34)) := ((Kept.refl _ wz).drewN 1).alloc _
          refine wpAnyU_run (i := 2) (some 37) rfl rfl (by kernel_rfl) (by kernel_rfl) (exec_buildSlice hbs rfl rfl) (fun _ => range_kept ry hk1 hfl) ?_
          obtain ⟨ao2, co2, wB, hrun, hO2, hgr, hpl⟩ := app_list (cx := 1) (HV.out.1.kept hk1) (by have := one_ents wz.drew y HFy.out; exact this) (by have := HMb.out; have := HR2.out.1; omega) 24
          have hkB : ∀ g, (Value.slice ao n co).ownBlock ≠ some g → g < wz.heap.size → wB.heap[g]? = wz.heap[g]? := fun g h1 h2 => (hgr.block g (Nat.lt_of_lt_of_le h2 hk1.size) (fun e => h1 e.symm)).trans (hk1.block g h2 (fun f => f))
          have hyB := HV.out.2.2.1.of_block (hkB ef HV.out.2.2.2.2.1 hfl)
          have hxB := HV.out.2.1.of_block (hkB eb HV.out.2.2.2.1 HV.out.2.1.lt)
          refine wpAnyU_run (i := 3) (some 38) rfl rfl (by kernel_rfl) (by kernel_rfl) (exec_append hrun rfl rfl rfl rfl) (fun _ => hyB.range 0 _ (fun k v hv => by rw [Nat.zero_add]; exact hv)) ?_
          have hS : (fun w' : World => w'.rangeAt ef 0 (entC y)) wB := hyB.range 0 _ (fun k v hv => by rw [Nat.zero_add]; exact hv)
          refine wpAnyU_take (i := 6) (v := (.slice ao2 (n + 1) co2)) (some 5) rfl rfl (by kernel_rfl) (by kernel_rfl) (by kernel_rfl) (by kernel_rfl) (fun _ _ _ h => h) hS (yields_of (by kernel_rfl) (fun w hw => by go_simp)) ?_
          refine wpAnyU_take (i := 7) (v := (.slice a2 (na - 1) (ca - 1))) (some 0) rfl rfl (by kernel_rfl) (by kernel_rfl) (by kernel_rfl) (by kernel_rfl) (fun _ _ _ h => h) hS (yields_of (by kernel_rfl) (fun w hw => by go_simp)) ?_
          refine wpAnyU_done (by kernel_rfl) ?_ _
          simp only [put_lit, List.set_cons_succ, List.set_cons_zero]
          have HW : Hid (UnI w0 wB M (nb - j) a2 (na - 1) (ca - 1) A ao2 (n + 1) co2 (O ++ [y]) ∧ Holds wB eb (entC x) 34 ∧ (Value.slice ao2 (n + 1) co2).ownBlock ≠ some eb) :=
            ⟨⟨HE2.out.1, HE2.out.2.1, hO2, by have := HR2.out.1; omega⟩, hxB, fun e => by
              rcases hpl with hp | hp
              · exact HV.out.2.2.2.1 (hp ▸ e)
              · rw [hp] at e
                have h1 := Option.some.inj e
                have h2 := HV.out.2.1.lt
                have h3 := hk1.size
                omega⟩
          have e0 := hyB.cell 0 _ rfl
          have e1 := hyB.cell 1 _ rfl
          have e2 := hyB.cell 2 _ rfl
          have e3 := hyB.cell 3 _ rfl
          have c0 := hxB.cell 0 _ rfl
          have c1 := hxB.cell 1 _ rfl
          have c2 := hxB.cell 2 _ rfl
          have c3 := hxB.cell 3 _ rfl
          have HBf := Lib.hid (beforeM y x wB)
          clear hS hrun hgr hpl hkB hyB hxB hO2 hbs hk1 hfl ry HV
          go_wp2_with fail
          refine HBf.out.mono ?_
          clear HBf e0 e1 e2 e3 c0 c1 c2 c3
          rintro r wC ⟨rfl, hkC⟩
          have hXl := HW.out.2.1.lt
          have HW2 : Hid (UnI w0 wC M (nb - j) a2 (na - 1) (ca - 1) A ao2 (n + 1) co2 (O ++ [y]) ∧ Holds wC eb (entC x) 34 ∧ (Value.slice ao2 (n + 1) co2).ownBlock ≠ some eb) :=
            ⟨HW.out.1.kept hkC, HW.out.2.1.of_block (hkC.block eb hXl (fun f => f)), HW.out.2.2⟩
          clear hkC HW hXl
          obtain ⟨d, hd⟩ : ∃ d, Hid (d = befM y x) := ⟨_, rfl⟩
          rw [← hd.out]
          cases d with
          | true =>
            have HN : Hid (UnI w0 wC M (nb - j) a2 (na - 1) (ca - 1) A ao2 (n + 1) co2 (O ++ [y]) ∧ Holds wC eb (entC x) 34 ∧ (O ++ [y]) ++ uniM A (x :: B1) = R ∧ (Value.slice ao2 (n + 1) co2).ownBlock ≠ some eb) := by
              refine ⟨HW2.out.1, HW2.out.2.1, ?_, HW2.out.2.2⟩
              have := HR2.out.2
              rw [uniM, stepU, if_neg (by rw [← HCx.out]; simp), if_pos hd.out.symm] at this
              rw [List.append_assoc]; exact this
            clear HW2
            go_wp2
            go_roundw
            case rel => exact ⟨_, _, _, _, _, _, _, _, rfl, rfl, HN⟩
            case measure => simp [lenS]; omega
          | false =>
            have HN : Hid (UnI w0 wC M (nb - (j + 1)) a2 (na - 1) (ca - 1) A ao2 (n + 1) co2 (O ++ [y]) ∧ (O ++ [y]) ++ uniM A (B.drop (j + 1)) = R) := by
              obtain ⟨q1, q2, q3, q4⟩ := HW2.out.1
              refine ⟨⟨q1, q2, q3, by omega⟩, ?_⟩
              have := HR2.out.2
              rw [uniM, stepU, if_neg (by rw [← HCx.out]; simp), if_neg (by rw [← hd.out]; simp)] at this
              rw [← hB1.out, List.append_assoc]; exact this
            clear HW2
            go_wp2
            go_roundw
            case rel => exact ⟨j + 1, _, _, _, _, _, _, _, _, hlt, rfl, rfl, by first | rfl | go_num, HN⟩
            case measure => simp [intOf]; omega

end Go.Proofs.Ythkejfhcdodggaa
