/- SpaceTells walked: of any runs it is told what the chapter says. -/
import Derived.Test.YtcjomigngmmjkaaSpcW
import Derived.Test.YtcjomigngmmjkaaSpcG
namespace Go.Proofs.Ytcjomigngmmjkaa
open Go.RowKit Go.Proofs Go.Proofs.Pk
set_option maxRecDepth 10000
attribute [local simp] mk_get wrap64_u8 mk_extract ByteArray.mk_append_mk get_1k

/-- The free runs, or none if the arguments are not right; and the error then. -/
def frees (o : Option (List Bool)) : List (Nat × Nat) := (o.map freeL).getD []
def errB (b : Bool) : Value := if b then .nilIface else .iface 47 (.int .i64 1)

theorem freeU (T : Int) (ad : Option Addr) (len cap : Nat) (l : List (Int × Int)) (w : World) (ht : Fit T) (h : Runs w ad len l) (hp : Flat ad) :
    Calls Try.prog 9 #[.int .i64 T, .slice ad len cap] w fun e w' => Below w.heap.size w w' ∧ ∃ v, e = .returned (.tuple #[v, errB (takenO T l).isSome]) ∧ w'.ownsRow w.heap.size 32 2 v (frees (takenO T l)).length (flatR (frees (takenO T l))) :=
  (freeP T ad len cap l w ht h hp).mono fun e w' ⟨hb, h2⟩ => by
    refine ⟨hb, ?_⟩
    cases ho : takenO T l with
    | none => rw [ho] at h2; exact ⟨_, h2, World.ownsRow_nil _ _ _ _⟩
    | some t => rw [ho] at h2; obtain ⟨v, h3, h4⟩ := h2; exact ⟨v, h3, h4⟩
theorem freeV (T : Int) (ad : Option Addr) (len cap : Nat) (l : List (Int × Int)) (w : World) (ht : Fit T) (h : Runs w ad len l) :
    Calls Try.prog 8 #[.int .i64 T, .slice ad len cap] w fun e w' => Below w.heap.size w w' ∧ ∃ v, e = .returned (.tuple #[v, .bool (takenO T l).isSome]) ∧ w'.ownsRow w.heap.size 32 2 v (frees (takenO T l)).length (flatR (frees (takenO T l))) :=
  (rFree T ad len cap l w ht h).mono fun e w' ⟨hb, h2⟩ => by
    refine ⟨hb, ?_⟩
    cases ho : takenO T l with
    | none => rw [ho] at h2; exact ⟨_, h2, World.ownsRow_nil _ _ _ _⟩
    | some t => rw [ho] at h2; obtain ⟨v, h3, h4⟩ := h2; exact ⟨v, h3, h4⟩
theorem roomU (T : Int) (ad : Option Addr) (len cap : Nat) (l : List (Int × Int)) (w : World) (ht : Fit T) (h : Runs w ad len l) (hp : Flat ad) :
    Calls Try.prog 13 #[.int .i64 T, .slice ad len cap] w fun e w' => Below w.heap.size w w' ∧ e = .returned (.tuple #[.int .i64 (roomL (frees (takenO T l)) : Nat), errB (takenO T l).isSome]) :=
  (roomP T ad len cap l w ht h hp).mono fun e w' ⟨hb, h2⟩ => by
    refine ⟨hb, ?_⟩
    cases ho : takenO T l with
    | none => rw [ho] at h2; exact h2
    | some t => rw [ho] at h2; exact h2
theorem roomS (T : Int) (ad : Option Addr) (len cap : Nat) (l : List (Int × Int)) (w : World) (ht : Fit T) (h : Runs w ad len l) :
    Calls Try.prog 14 #[.int .i64 T, .slice ad len cap] w fun e w' => Below w.heap.size w w' ∧ e = .returned (.tuple #[.int .i64 (roomL (frees (takenO T l)) : Nat), .bool (takenO T l).isSome]) :=
  (rRoom T ad len cap l w ht h).mono fun e w' ⟨hb, h2⟩ => by
    refine ⟨hb, ?_⟩
    cases ho : takenO T l with
    | none => rw [ho] at h2; exact h2
    | some t => rw [ho] at h2; exact h2
theorem frees_len (T : Int) (l : List (Int × Int)) : (frees (takenO T l)).length ≤ 4000 := by
  unfold frees
  cases ho : takenO T l with
  | none => simp
  | some t =>
    obtain ⟨N, _, h2, _, _, h3⟩ := takenO_some ho
    have := freeL_length t
    simp only [Option.map_some, Option.getD_some]; omega
theorem fitO_nat (o : Option (List (Nat × Nat))) (n : Int) : (fitO o n).2 = ((fitO o n).2.toNat : Int) := by
  rcases fitO_lt o n with (h | h) | h <;> rw [h] <;> rfl

/-- A row that is written over from its beginning on. -/
def over (q : Nat) (F : List (Nat × Nat)) : List (Int × Int) := List.replicate q ((-1 : Int), (0 : Int)) ++ (F.drop q).map intR
theorem over_length (q : Nat) (F : List (Nat × Nat)) (h : q ≤ F.length) : (over q F).length = F.length := by
  unfold over; simp; omega
theorem over_at (q : Nat) (F : List (Nat × Nat)) (h : q < F.length) : (over q F)[q]'(by rw [over_length q F (by omega)]; exact h) = intR F[q] := by
  unfold over
  rw [List.getElem_append_right (by simp)]
  simp
theorem over_set (q : Nat) (F : List (Nat × Nat)) (h : q < F.length) : (((over q F).flatMap runV).set (q * 2) (.int .i64 (-1))).set (q * 2 + 1) (.int .i64 0) = (over (q + 1) F).flatMap runV := by
  have e : F.drop q = F[q] :: F.drop (q + 1) := List.drop_eq_getElem_cons h
  have hl : ((List.replicate q ((-1 : Int), (0 : Int))).flatMap runV).length = q * 2 := by rw [flatV_length, List.length_replicate]
  unfold over
  rw [e, List.map_cons, List.flatMap_append, List.set_append_right _ _ (by omega), List.set_append_right _ _ (by omega), hl, Nat.sub_self, Nat.add_sub_cancel_left, List.replicate_succ', List.append_assoc, List.flatMap_append]
  rfl
theorem over_zero (F : List (Nat × Nat)) : (over 0 F).flatMap runV = flatR F := by
  unfold over flatR
  rw [List.replicate_zero, List.nil_append, List.drop_zero, List.flatMap_map]
  rfl
theorem is11 (w : World) : Calls Try.prog 10 #[.iface 47 (.int .i64 1), .int .i64 1] w fun e w' => e = .returned (.bool true) ∧ w = w' := is_any 1 1 w

set_option maxHeartbeats 1000000 in
theorem sTells (T : Int) (ad : Option Addr) (len cap : Nat) (l : List (Int × Int)) (many : Int) (W : World) (hT : -9223372036854775808 ≤ T ∧ T ≤ 9223372036854775807) (hR : Runs W ad len l) (hF : Flat ad ∧ len ≤ cap ∧ (len : Int) * 16 ≤ 140737488351232 ∧ (ad = none → cap = 0)) (hM : -9223372036854775808 ≤ many ∧ many ≤ 9223372036854775807) :
    Calls Try.prog 3 #[.int .i64 T, .slice ad len cap, .int .i64 many] W fun e w' => e = .returned (.bool true) ∧ Below W.heap.size W w' := by
  obtain ⟨iR, hiR, hzR, hsR, hbR⟩ := info_parts run_info
  have HX := Lib.hid (examples_any W)
  obtain ⟨hfl, _, h16, hnc⟩ := hF
  have HR := Lib.hid hR
  have HFL := Lib.hid hfl
  have HNC := Lib.hid hnc
  have HTT : Hid (Fit T) := hT
  clear hR hfl hnc hT hM
  go_enter Try.func3, Try.ntmps3
  go_wp2_with fail
  refine HX.out.mono ?_
  rintro e w1 ⟨rfl, hb⟩
  have HB := Lib.hid hb
  clear hb HX
  go_upto_region 2 with (fail)
  refine wp_region_lit ?_
  refine wpList_plain rfl fun K hK => ?_
  go_simp
  refine hK _ _ ?_
  clear hK K
  refine wpList_append_runs w1 rfl (.const (.slice none 0 0)) (.tmp 26) rfl W.heap.size _ 0 [] l (by rfl) (World.ownsRow_nil _ _ _ _) ad len cap (by rfl) (HR.out.below HB.out) HFL.out HNC.out (by unfold maxLen; omega) (by omega) HB.out.size ?_
  intro v' w2 ho hgr
  have hb2 : Below W.heap.size W w2 := HB.out.grown hgr HB.out.size (fun k hk => by cases hk)
  rw [List.nil_append, Nat.zero_add] at ho
  obtain ⟨_, ad1, cap1, rfl, hf1, _, hR1⟩ := own_runs ho HR.out.fit
  have HB2 := Lib.hid hb2
  have HF1 := Lib.hid hf1
  have HR1 := Lib.hid hR1
  clear ho hgr hb2 hf1 hR1 HB
  go_wp2_with fail
  obtain ⟨o, hoo⟩ : ∃ o, Hid (o = takenO T l) := ⟨_, rfl⟩
  have HV := freeV T ad len cap l w2 HTT.out (HR.out.below HB2.out)
  have HU : Hid (∀ (w : World), Runs w ad1 len l → Calls Try.prog 9 #[.int .i64 T, .slice ad1 len cap1] w fun e w' => Below w.heap.size w w' ∧ ∃ v, e = .returned (.tuple #[v, errB (takenO T l).isSome]) ∧ w'.ownsRow w.heap.size 32 2 v (frees (takenO T l)).length (flatR (frees (takenO T l)))) :=
    fun w h => freeU T ad1 len cap1 l w HTT.out h HF1.out
  have HRU : Hid (∀ (w : World), Runs w ad1 len l → Calls Try.prog 13 #[.int .i64 T, .slice ad1 len cap1] w fun e w' => Below w.heap.size w w' ∧ e = .returned (.tuple #[.int .i64 (roomL (frees (takenO T l)) : Nat), errB (takenO T l).isSome])) :=
    fun w h => roomU T ad1 len cap1 l w HTT.out h HF1.out
  have HRS : Hid (∀ (w : World), Runs w ad len l → Calls Try.prog 14 #[.int .i64 T, .slice ad len cap] w fun e w' => Below w.heap.size w w' ∧ e = .returned (.tuple #[.int .i64 (roomL (frees (takenO T l)) : Nat), .bool (takenO T l).isSome])) :=
    fun w h => roomS T ad len cap l w HTT.out h
  have HRI : Hid (∀ (w : World), Runs w ad len l → Calls Try.prog 15 #[.int .i64 T, .slice ad len cap] w fun e w' => e = .returned (.bool (takenO T l).isSome) ∧ Below w.heap.size w w') :=
    fun w h => rightP T ad len cap l w HTT.out h HFL.out
  obtain ⟨z, hz⟩ : ∃ z, Hid (z = fitO ((takenO T l).map freeL) many) := ⟨_, rfl⟩
  have hzn : z.2 = (z.2.toNat : Int) := by rw [hz.out]; exact fitO_nat _ _
  have HFU : Hid (∀ (w : World), Runs w ad1 len l → Calls Try.prog 11 #[.int .i64 T, .slice ad1 len cap1, .int .i64 many] w fun e w' => Below w.heap.size w w' ∧ e = .returned (.tuple #[.int .i64 z.1, errV 47 z.2.toNat])) :=
    fun w h => by rw [hz.out]; exact fitP T ad1 len cap1 l many w HTT.out h HF1.out
  have HFS : Hid (∀ (w : World), Runs w ad len l → Calls Try.prog 12 #[.int .i64 T, .slice ad len cap, .int .i64 many] w fun e w' => Below w.heap.size w w' ∧ e = .returned (.tuple #[.int .i64 z.1, .int .i64 (z.2.toNat : Nat)])) :=
    fun w h => by rw [← hzn, hz.out]; exact rFit T ad len cap l many w HTT.out h
  have hF4 := frees_len T l
  generalize (takenO T l).isSome = b at HV HU HRU HRS HRI
  generalize frees (takenO T l) = F at HV HU HRU HRS hF4
  generalize (roomL F : Int) = rm at HRU HRS
  generalize z.1 = z1 at HFU HFS
  generalize z.2.toNat = z2 at HFU HFS
  clear hzn hz hoo
  refine HV.mono ?_
  rintro e w3 ⟨hb3, vw, rfl, ho3⟩
  obtain ⟨adw, capw, rfl, _, hat⟩ := own_row ho3
  have HAT := Lib.hid hat
  have HB3 := Lib.hid (HB2.out.trans (hb3.mono HB2.out.size))
  have HR3 := Lib.hid (HR1.out.below hb3)
  obtain ⟨n, hn⟩ : ∃ n, Hid (n = F.length) := ⟨_, rfl⟩
  rw [← hn.out]
  have hn4 : n ≤ 4000 := by have := hn.out; omega
  clear HV hF4 ho3 hat hb3 HR1 HB2
  have HWW : Hid (W.heap.size ≤ w3.heap.size) := HB3.out.size
  cases b
  case' false =>
    simp only [show errB false = .iface 47 (.int .i64 1) from rfl] at HU HRU
  case' true =>
    simp only [show errB true = .nilIface from rfl] at HU HRU
  all_goals
    go_wp2
    obtain ⟨wq, hwq⟩ : ∃ wq, wq = w3 := ⟨_, rfl⟩
    have HS : Hid (Below w3.heap.size w3 wq) := by rw [hwq]; exact Below.refl _ _
    rw [← hwq]
    clear hwq
    go_loopw [11] (fun i wr => ∃ k : Nat, k ≤ 2 ∧ i = .int .i64 k ∧ Hid (Below w3.heap.size w3 wr)) (fun i _ => 2 - (intOf i).toNat)
    case atStart => exact ⟨0, by omega, rfl, HS⟩
    case round =>
      obtain ⟨k, hk, rfl, hb⟩ := hrel
      by_cases hlt : (k : Int) < 2
      · have hw2 : IntKind.i64.wrap ((k : Int) + 1) = ((k + 1 : Nat) : Int) := by rw [IntWalk.i64_in _ (by omega)]; omega
        go_wp2_with fail
        refine (HU.out wr (HR3.out.below hb.out)).mono ?_
        rintro e w4 ⟨hb4, v, rfl, ho4⟩
        obtain ⟨adl, capl, rfl, _, hatl⟩ := own_row ho4
        rw [← hn.out] at ho4
        have HO0 : Hid (w4.ownsRow wr.heap.size 32 2 (.slice adl n capl) n ((over 0 F).flatMap runV)) := by
          show World.ownsRow _ _ _ _ _ _ _
          rw [over_zero]; exact ho4
        have HAL : Hid (0 < n → ∃ g, adl = some ⟨g, 0, none⟩ ∧ wr.heap.size ≤ g) := fun h => by
          obtain ⟨g, h1, _, h2, _⟩ := hatl 0 (by have := hn.out; omega)
          exact ⟨g, h1, h2⟩
        have HB4 := Lib.hid hb4
        have HBo := hb
        clear ho4 hatl hb4 hb
        rw [← hn.out]
        obtain ⟨wo, hwo⟩ : ∃ wo, wo = wr := ⟨_, rfl⟩
        subst hwo
        go_wp2_with fail
        first
          | (refine (is11 w4).mono ?_; rintro e w5 ⟨rfl, rfl⟩; go_wp2)
          | skip
        obtain ⟨wq2, hwq2⟩ : ∃ wq2, wq2 = w4 := ⟨_, rfl⟩
        rw [← hwq2] at HO0 HB4 ⊢
        clear hwq2
        clear w4
        go_loopw [14] (fun i wx => ∃ q : Nat, q ≤ n ∧ i = .int .i64 q ∧ Hid (wx.ownsRow wo.heap.size 32 2 (.slice adl n capl) n ((over q F).flatMap runV)) ∧ Hid (Below wo.heap.size wo wx)) (fun i _ => n - (intOf i).toNat)
        case atStart => exact ⟨0, Nat.zero_le _, rfl, HO0, HB4⟩
        case round =>
          obtain ⟨q, hq, rfl, ho, hbx⟩ := hrel
          by_cases hqn : (q : Int) < n
          · have hqF : q < F.length := by have := hn.out; omega
            obtain ⟨g, rfl, hgw⟩ := HAL.out (by omega)
            obtain ⟨h, rfl, hhl, _, hrow⟩ := HAT.out q hqF
            have hat := over_at q F hqF
            have hst := over_set q F hqF
            generalize F[q] = x at hrow hat
            obtain ⟨x1, x2⟩ := x
            have hb3x : Below w3.heap.size w3 wr := HBo.out.trans (hbx.out.mono HBo.out.size)
            have b0 : wr.cell? ⟨h, q * 2, none⟩ = some (.int .i64 (x1 : Int)) := by
              rw [hb3x.cell (p := ⟨h, q * 2, none⟩) hhl]; have := hrow 0 _ rfl; simpa using this
            have b1 : wr.cell? ⟨h, q * 2 + 1, none⟩ = some (.int .i64 (x2 : Int)) := by
              rw [hb3x.cell (p := ⟨h, q * 2 + 1, none⟩) hhl]; have := hrow 1 _ rfl; simpa using this
            have hov : q < (over q F).length := by rw [over_length q F (by omega)]; exact hqF
            have hgt := fun (t : Nat) (ht : t < 2) => flatV_get (over q F) q t hov ht
            rw [hat] at hgt
            have a0 : wr.cell? ⟨g, q * 2, none⟩ = some (.int .i64 (x1 : Int)) := by rw [ho.out.cellAt _ (by omega)]; exact hgt 0 (by omega)
            have a1 : wr.cell? ⟨g, q * 2 + 1, none⟩ = some (.int .i64 (x2 : Int)) := by rw [ho.out.cellAt _ (by omega)]; exact hgt 1 (by omega)
            have hq0 : (0 : Int) ≤ (q : Int) := Int.natCast_nonneg _
            have hwq : IntKind.i64.wrap ((q : Int) + 1) = ((q + 1 : Nat) : Int) := by rw [IntWalk.i64_in _ (by omega)]; omega
            have f0 := ho.out.frozenAt (q * 2)
            have f1 := ho.out.frozenAt (q * 2 + 1)
            clear hat hgt hrow hb3x hov
            have ho5 := ho.out
            clear ho
            go_upto_region 13 with (fail)
            go_quiet (fail)
            go_wp2
            have ho6 := (((owns_drewN (n := nq) ho5).stored (q * 2) (.int .i64 (-1))).1.stored (q * 2 + 1) (.int .i64 0)).1
            rw [hst] at ho6
            refine ⟨⟨q + 1, by omega, by go_num, ho6, ?_⟩, by simp [intOf]; omega⟩
            exact ((belowN hbx.out nq).setCell (p := ⟨g, q * 2, none⟩) hgw _).setCell (p := ⟨g, q * 2 + 1, none⟩) hgw _
          · go_wp2
            go_roundw
            case rel => exact ⟨k + 1, by omega, by go_num, HBo.out.trans (hbx.out.mono HBo.out.size)⟩
            case measure => simp [intOf]; omega
      · have HB4 := Lib.hid (HB3.out.trans (hb.out.mono HB3.out.size))
        have HR4 := Lib.hid (HR3.out.below hb.out)
        clear hb
        go_wp2_with fail
        refine (HFU.out wr HR4.out).mono ?_
        rintro e w5 ⟨hb5, rfl⟩
        have HB5 := Lib.hid (HB4.out.trans (hb5.mono HB4.out.size))
        have HR5 := Lib.hid (HR4.out.below hb5)
        clear hb5 HB4 HR4
        go_wp2_with fail
        refine (HFS.out w5 (HR.out.below HB5.out)).mono ?_
        rintro e w6 ⟨hb6, rfl⟩
        have HB6 := Lib.hid (HB5.out.trans (hb6.mono HB5.out.size))
        have HR6 := Lib.hid (HR5.out.below hb6)
        clear hb6 HB5 HR5
        go_wp2_with fail
        refine (HRU.out w6 HR6.out).mono ?_
        rintro e w7 ⟨hb7, rfl⟩
        have HB7 := Lib.hid (HB6.out.trans (hb7.mono HB6.out.size))
        have HR7 := Lib.hid (HR6.out.below hb7)
        clear hb7 HB6 HR6
        go_wp2_with fail
        refine (HRS.out w7 (HR.out.below HB7.out)).mono ?_
        rintro e w8 ⟨hb8, rfl⟩
        have HB8 := Lib.hid (HB7.out.trans (hb8.mono HB7.out.size))
        have HR8 := Lib.hid (HR7.out.below hb8)
        clear hb8 HB7 HR7
        go_wp2_with fail
        have HIS := is_any z2 z2 w8
        rw [beq_self_eq_true] at HIS
        refine HIS.mono ?_
        rintro e w9 ⟨rfl, rfl⟩
        clear HIS
        go_wp2
        obtain ⟨wq3, hwq3⟩ : ∃ wq3, wq3 = w8 := ⟨_, rfl⟩
        have HS8 : Hid (Below w8.heap.size w8 wq3) := by rw [hwq3]; exact Below.refl _ _
        rw [← hwq3]
        clear hwq3
        clear wr
        go_loopw [24] (fun i wx => ∃ q : Nat, q ≤ len ∧ i = .int .i64 q ∧ Hid (Below w8.heap.size w8 wx)) (fun i _ => len - (intOf i).toNat)
        case atStart => exact ⟨0, Nat.zero_le _, rfl, HS8⟩
        case round =>
          obtain ⟨q, hq, rfl, hbx⟩ := hrel
          have HBX := Lib.hid (HB8.out.trans (hbx.out.mono HB8.out.size))
          by_cases hqn : (q : Int) < len
          · have hql : q < len := by omega
            obtain ⟨g, og, rfl, _, hr1, _⟩ := runs_at (HR8.out.below hbx.out) q hql
            obtain ⟨h, oh, rfl, _, hr2, _⟩ := runs_at (HR.out.below HBX.out) q hql
            generalize l[q]'(by have := HR.out.1; omega) = x at hr1 hr2
            obtain ⟨x1, x2⟩ := x
            have a0 : wr.cell? ⟨g, og + q * 2, none⟩ = some (.int .i64 x1) := hr1 0 _ rfl
            have a1 : wr.cell? ⟨g, og + q * 2 + 1, none⟩ = some (.int .i64 x2) := hr1 1 _ rfl
            have b0 : wr.cell? ⟨h, oh + q * 2, none⟩ = some (.int .i64 x1) := hr2 0 _ rfl
            have b1 : wr.cell? ⟨h, oh + q * 2 + 1, none⟩ = some (.int .i64 x2) := hr2 1 _ rfl
            have hq0 : (0 : Int) ≤ (q : Int) := Int.natCast_nonneg _
            have hwq : IntKind.i64.wrap ((q : Int) + 1) = ((q + 1 : Nat) : Int) := by rw [IntWalk.i64_in _ (by omega)]; omega
            clear hr1 hr2
            go_upto_region 24 with (fail)
            go_quiet (fail)
            go_wp2
            refine ⟨⟨q + 1, by omega, by go_num, belowN hbx.out nq⟩, by simp [intOf]; omega⟩
          · go_wp2_with fail
            refine (HRI.out _ (HR.out.below HBX.out)).mono ?_
            rintro e wz ⟨rfl, hbz⟩
            go_wp2
            go_ret
            exact ⟨rfl, HBX.out.trans (hbz.mono HBX.out.size)⟩

end Go.Proofs.Ytcjomigngmmjkaa
