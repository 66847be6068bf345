/- The reference of layer 14: Encode (printed by genre14.py). -/
import Derived.Test.YtjdolimeibpacaaGreatRv14
import Derived.Test.YtjdolimeibpacaaGreatEb14
import Derived.Test.YtjdolimeibpacaaGreatOw14
import Derived.Test.YtjdolimeibpacaaGreatOrdS
import Derived.Test.YtjdolimeibpacaaGreatOrd2
namespace Go.Proofs.YtjdolimeibpacaaGreat
open Go.RowKit Go.Proofs Go.Proofs.Pk
set_option maxRecDepth 10000
attribute [local simp] mk_get wrap64_u8 mk_extract ByteArray.mk_append_mk get_1k

/-- What stands while a table is written: the edit's box, the table's own. -/
def EncS (w W : World) (g b : Nat) (ad : Option Addr) (len cap : Nat) (ad2 : Option Addr) (len2 cap2 : Nat) (ad3 : Option Addr) (len3 cap3 : Nat) (ad4 : Option Addr) (len4 cap4 : Nat) (v : EdV) (x : MetaV) : Prop :=
  EBox w W g ad len cap ad2 len2 cap2 ad3 len3 cap3 ad4 len4 cap4 v ∧ Holds W b (metaC x) 45
theorem EncS.quiet {w W W' : World} {g b : Nat} {ad : Option Addr} {len cap : Nat} {ad2 : Option Addr} {len2 cap2 : Nat} {ad3 : Option Addr} {len3 cap3 : Nat} {ad4 : Option Addr} {len4 cap4 : Nat} {v : EdV} {x : MetaV} (h : EncS w W g b ad len cap ad2 len2 cap2 ad3 len3 cap3 ad4 len4 cap4 v x) (k : Kept (fun _ => False) W W') :
    EncS w W' g b ad len cap ad2 len2 cap2 ad3 len3 cap3 ad4 len4 cap4 v x := ⟨h.1.quiet k, h.2.of_block (k.block b h.2.lt (fun f => f))⟩
theorem EncS.at {w W : World} {g b : Nat} {ad : Option Addr} {len cap : Nat} {ad2 : Option Addr} {len2 cap2 : Nat} {ad3 : Option Addr} {len3 cap3 : Nat} {ad4 : Option Addr} {len4 cap4 : Nat} {v : EdV} {x : MetaV} (h : EncS w W g b ad len cap ad2 len2 cap2 ad3 len3 cap3 ad4 len4 cap4 v x) :
    W.cell? ⟨b, 0, none⟩ = some (.int .i64 x.1) ∧ W.cell? ⟨b, 1, none⟩ = some (.int .i64 x.2.1) ∧ W.cell? ⟨b, 2, none⟩ = some (.string ⟨x.2.2.1.toArray⟩) ∧ W.cell? ⟨b, 3, none⟩ = some (.string ⟨x.2.2.2.1.toArray⟩) ∧ W.cell? ⟨b, 4, none⟩ = some (.int .i64 x.2.2.2.2) :=
  ⟨h.2.cell 0 _ rfl, h.2.cell 1 _ rfl, h.2.cell 2 _ rfl, h.2.cell 3 _ rfl, h.2.cell 4 _ rfl⟩

set_option maxHeartbeats 4000000 in
theorem refEncode14 (ad : Option Addr) (len cap : Nat) (ad2 : Option Addr) (len2 cap2 : Nat) (ad3 : Option Addr) (len3 cap3 : Nat) (ad4 : Option Addr) (len4 cap4 : Nat) (v : EdV) (w : World) (h0 : EdW w ad len cap ad2 len2 cap2 ad3 len3 cap3 ad4 len4 cap4 v) :
    Calls Tryz.prog 6 #[edC ad len cap ad2 len2 cap2 ad3 len3 cap3 ad4 len4 cap4 v.2.2.2.2] w fun r w' => r = .returned (.tuple #[.string ⟨(encE v).1.toArray⟩, .bool (encE v).2]) ∧ Kept (fun _ => False) w w' := by
  have hlen := h0.1.1
  have b2 : (len2 : Int) * 8 ≤ 140737488351232 := h0.2.2.2.1.2.2.1
  have b3 : (len3 : Int) * 8 ≤ 140737488351232 := h0.2.2.2.2.2.1.2.2.1
  have b4 : (len4 : Int) * 8 ≤ 140737488351232 := h0.2.2.2.2.2.2.2.1.2.2.1
  have HB := Lib.hid (EBox.new (Kept.refl _ w) h0)
  obtain ⟨s, hs⟩ : ∃ s, s = v.2.2.2.2 := ⟨_, rfl⟩
  have HS := Lib.hid hs
  obtain ⟨n1, hn1⟩ : ∃ n1, Hid (n1 = numsOk v.2.1 200) := ⟨_, rfl⟩
  obtain ⟨n2, hn2⟩ : ∃ n2, Hid (n2 = numsOk v.2.2.1 20) := ⟨_, rfl⟩
  obtain ⟨n3, hn3⟩ : ∃ n3, Hid (n3 = numsOk v.2.2.2.1 20) := ⟨_, rfl⟩
  obtain ⟨r, hr⟩ : ∃ r, r = encE v := ⟨_, rfl⟩
  have HNO : Hid (edOk v = false → r = ([], false)) := fun h => by rw [hr]; unfold encE; rw [if_neg (by rw [h]; simp)]
  have HYES : Hid (edOk v = true → r = (bodyE v, true)) := fun h => by rw [hr]; unfold encE; rw [if_pos h]
  have HED : Hid (edOk v = (decide (v.1.length ≤ 200) && v.1.all metaOk && n1 && n2 && n3 && decide (0 ≤ s ∧ s ≤ 9007199254740991))) := by
    show edOk v = _
    rw [hn1.out, hn2.out, hn3.out, HS.out]; rfl
  rw [← hr]
  clear h0 hr
  unfold edC
  rw [← hs] at HB ⊢
  clear hs
  go_enter Tryz.func6, Tryz.ntmps6
  go_upto_region 1 with fail
  obtain ⟨g, hg⟩ : ∃ g, g = w.heap.size := ⟨_, rfl⟩
  rw [← hg] at HB ⊢
  generalize w.alloc (.cells #[.slice ad len cap, .slice ad2 len2 cap2, .slice ad3 len3 cap3, .slice ad4 len4 cap4, .int .i64 s] 25) = wa at HB ⊢
  clear hg
  obtain ⟨d0, d1, d2, d3, d4⟩ := HB.out.cells
  rw [← HS.out] at d4
  have HC0 := refNumbers14 _ ad2 len2 cap2 v.2.1 200 HB.out.ed.2.2.1 b2 (by omega)
  rw [← hn1.out, show ((200 : Nat) : Int) = 200 from rfl] at HC0
  have HC0 := Lib.hid HC0
  go_wp2_with fail
  refine HC0.out.mono ?_
  rintro e w1 ⟨rfl, hk⟩
  have HB1 := Lib.hid (HB.out.quiet hk)
  clear hk HC0 HB d0 d1 d2 d3 d4
  obtain ⟨d0, d1, d2, d3, d4⟩ := HB1.out.cells
  rw [← HS.out] at d4
  have HC1 := refNumbers14 _ ad3 len3 cap3 v.2.2.1 20 HB1.out.ed.2.2.2.2.1 b3 (by omega)
  rw [← hn2.out, show ((20 : Nat) : Int) = 20 from rfl] at HC1
  have HC1 := Lib.hid HC1
  go_wp2_with fail
  refine HC1.out.mono ?_
  rintro e w2 ⟨rfl, hk⟩
  have HB2 := Lib.hid (HB1.out.quiet hk)
  clear hk HC1 HB1 d0 d1 d2 d3 d4
  obtain ⟨d0, d1, d2, d3, d4⟩ := HB2.out.cells
  rw [← HS.out] at d4
  have HC2 := refNumbers14 _ ad4 len4 cap4 v.2.2.2.1 20 HB2.out.ed.2.2.2.2.2.2.1 b4 (by omega)
  rw [← hn3.out, show ((20 : Nat) : Int) = 20 from rfl] at HC2
  have HC2 := Lib.hid HC2
  go_wp2_with fail
  refine HC2.out.mono ?_
  rintro e w3 ⟨rfl, hk⟩
  have HB3 := Lib.hid (HB2.out.quiet hk)
  clear hk HC2 HB2 d0 d1 d2 d3 d4
  obtain ⟨d0, d1, d2, d3, d4⟩ := HB3.out.cells
  rw [← HS.out] at d4
  have HK := Lib.hid HB3.out.kept
  cases n1 with
  | false =>
    have HV := Lib.hid (HNO.out (by rw [HED.out]; simp))
    clear HB3 HNO HYES HED
    go_wp2
    go_ret2
    exact ⟨by rw [HV.out]; rfl, HK.out⟩
  | true =>
  cases n2 with
  | false =>
    have HV := Lib.hid (HNO.out (by rw [HED.out]; simp))
    clear HB3 HNO HYES HED
    go_wp2
    go_ret2
    exact ⟨by rw [HV.out]; rfl, HK.out⟩
  | true =>
  cases n3 with
  | false =>
    have HV := Lib.hid (HNO.out (by rw [HED.out]; simp))
    clear HB3 HNO HYES HED
    go_wp2
    go_ret2
    exact ⟨by rw [HV.out]; rfl, HK.out⟩
  | true =>
  by_cases q1 : s < 0
  · have q1' : decide (s < 0) = true := decide_eq_true q1
    have HV := Lib.hid (HNO.out (by rw [HED.out, decide_eq_false (show ¬(0 ≤ s ∧ s ≤ 9007199254740991) from by omega)]; simp))
    clear HB3 HNO HYES HED
    go_wp2
    go_ret2
    exact ⟨by rw [HV.out]; rfl, HK.out⟩
  by_cases q2 : 9007199254740991 < s
  · have q2' : decide (9007199254740991 < s) = true := decide_eq_true q2
    have HV := Lib.hid (HNO.out (by rw [HED.out, decide_eq_false (show ¬(0 ≤ s ∧ s ≤ 9007199254740991) from by omega)]; simp))
    clear HB3 HNO HYES HED
    go_wp2
    go_ret2
    exact ⟨by rw [HV.out]; rfl, HK.out⟩
  by_cases q3 : 200 < len
  · have q3' : decide ((200 : Int) < (len : Int)) = true := decide_eq_true (by omega)
    have q3n : (200 : Int) < (len : Int) := by omega
    have HV := Lib.hid (HNO.out (by rw [HED.out, decide_eq_false (show ¬v.1.length ≤ 200 from by omega)]; simp))
    clear HB3 HNO HYES HED
    go_wp2
    go_ret2
    exact ⟨by rw [HV.out]; rfl, HK.out⟩
  have q3n : ¬(200 : Int) < (len : Int) := by omega
  have hED : edOk v = v.1.all metaOk := by
    rw [HED.out, decide_eq_true (show v.1.length ≤ 200 from by omega), decide_eq_true (show 0 ≤ s ∧ s ≤ 9007199254740991 from by omega)]; simp
  have HED2 := Lib.hid hED
  clear hED HED
  have CN := Lib.hid (fun W : World => refNum14 (len : Int) W (by omega) (by omega))
  rw [show ((len : Int)).toNat = len from rfl] at CN
  obtain ⟨o0, ho0⟩ : ∃ o0, Hid (o0 = numL len) := ⟨numL len, rfl⟩
  have ho0l : o0.length ≤ 8 := by rw [ho0.out]; exact numL_len_le _
  rw [← ho0.out] at CN
  go_wp2_with fail
  refine (CN.out _).mono ?_
  rintro e w4 ⟨rfl, hk⟩
  have HI : Hid (EBox w w4 g ad len cap ad2 len2 cap2 ad3 len3 cap3 ad4 len4 cap4 v ∧ ∀ m ∈ v.1.take 0, metaOk m = true) := ⟨HB3.out.quiet hk, fun m hm => by simp at hm⟩
  clear hk CN HB3 HK d0 d1 d2 d3 d4
  go_wp2
  go_loopw [7, 8] (fun o i wr => ∃ j : Nat, j ≤ len ∧ i = .int .i64 (j : Int) ∧ o = .string ⟨(o0 ++ (v.1.take j).flatMap metaB).toArray⟩ ∧ Hid (EBox w wr g ad len cap ad2 len2 cap2 ad3 len3 cap3 ad4 len4 cap4 v ∧ ∀ m ∈ v.1.take j, metaOk m = true)) (fun _ i _ => len - (intOf i).toNat)
  case atStart => exact ⟨0, Nat.zero_le _, rfl, by simp, HI⟩
  case round =>
    obtain ⟨j, hj, rfl, rfl, hI⟩ := hrel
    clear HI
    have j0 : (0 : Int) ≤ (j : Int) := by omega
    have hwj : IntKind.i64.wrap ((j : Int) + 1) = (j : Int) + 1 := IntWalk.i64_in _ (by omega)
    obtain ⟨d0, d1, d2, d3, d4⟩ := hI.out.1.cells
    rw [← HS.out] at d4
    by_cases hlt : j < len
    · have hjT : j < v.1.length := by omega
      have jN : (j : Int) < (len : Int) := by omega
      obtain ⟨b, off, rfl, hb, f0, f1, f2, f3, f4, fx⟩ := hI.out.1.ed.1.at j hjT
      have hall : v.1.all metaOk = true → metaOk v.1[j] = true := fun h => List.all_eq_true.1 h _ (List.getElem_mem hjT)
      have hol : (o0 ++ (v.1.take j).flatMap metaB).length ≤ 41000 := by
        have := flat_len (v.1.take j) hI.out.2
        rw [List.length_append]; rw [List.length_take] at this; omega
      have hst : o0 ++ (v.1.take (j + 1)).flatMap metaB = o0 ++ (v.1.take j).flatMap metaB ++ metaB v.1[j] := by
        rw [List.take_succ_eq_append_getElem hjT, List.flatMap_append, ← List.append_assoc]; simp
      have hmem : metaOk v.1[j] = true → ∀ m ∈ v.1.take (j + 1), metaOk m = true := fun h m hm => by
        rw [List.take_succ_eq_append_getElem hjT] at hm
        rcases List.mem_append.1 hm with hm | hm
        · exact hI.out.2 m hm
        · rw [List.mem_singleton] at hm; subst hm; exact h
      obtain ⟨x, hx⟩ : ∃ x, x = v.1[j] := ⟨_, rfl⟩
      rw [← hx] at f0 f1 f2 f3 f4 hall hst hmem
      have HALL := Lib.hid hall
      have HST := Lib.hid hst
      have HMEM := Lib.hid hmem
      have HBX := Lib.hid hI.out.1
      generalize o0 ++ (v.1.take j).flatMap metaB = oj at hol HST ⊢
      clear hI hx hjT hall hst hmem fx
      obtain ⟨mo, hmo⟩ : ∃ mo, Hid (mo = metaOk x) := ⟨_, rfl⟩
      have CM := Lib.hid (fun W : World => refMeta14 x W)
      rw [← hmo.out] at CM HALL
      go_upto_region 11 with fail
      change Code.wp _ _ _ _ (wr.alloc (.cells (metaC x).toArray 45))
      have HE : Hid (EncS w (wr.alloc (.cells (metaC x).toArray 45)) g wr.heap.size (some ⟨b, off, none⟩) len cap ad2 len2 cap2 ad3 len3 cap3 ad4 len4 cap4 v x) := ⟨HBX.out.quiet ((Kept.refl _ wr).alloc _), Holds.new wr (metaC x) _⟩
      obtain ⟨b1, hb1⟩ : ∃ b1, b1 = wr.heap.size := ⟨_, rfl⟩
      rw [← hb1] at HE ⊢
      generalize wr.alloc (.cells (metaC x).toArray 45) = wb at HE ⊢
      clear hb1 HBX d0 d1 d2 d3 d4 f0 f1 f2 f3 f4
      obtain ⟨c0, c1, c2, c3, c4⟩ := HE.out.at
      unfold metaC at CM
      go_wp2_with fail
      refine (CM.out _).mono ?_
      rintro e wc ⟨rfl, hk⟩
      have HE2 := Lib.hid (HE.out.quiet hk)
      clear hk CM HE c0 c1 c2 c3 c4
      cases mo with
      | false =>
        have HV := Lib.hid (HNO.out (by
          rw [HED2.out, Bool.eq_false_iff]
          intro h
          exact Bool.false_ne_true (HALL.out h)))
        have HK := Lib.hid HE2.out.1.kept
        clear HE2 HNO HYES
        go_wp2
        go_ret2
        exact ⟨by rw [HV.out]; rfl, HK.out⟩
      | true =>
        obtain ⟨y1, y2, y3, y4, y5, y6, y7, y8, _, y9, y10⟩ := meta_of hmo.out.symm
        obtain ⟨c0, c1, c2, c3, c4⟩ := HE2.out.at
        have C1 := Lib.hid (fun W : World => refNum14 x.1 W (by omega) y2)
        have C2 := Lib.hid (fun W : World => refNum14 x.2.1 W y3 (by omega))
        have C3 := Lib.hid (fun W : World => rText_ok x.2.2.1 W (by omega))
        have C4 := Lib.hid (fun W : World => rText_ok x.2.2.2.1 W (by omega))
        have C5 := Lib.hid (fun W : World => refNum14 x.2.2.2.2 W (by omega) (by omega))
        have HMB : Hid (metaB x = numL x.1.toNat ++ numL x.2.1.toNat ++ txtL x.2.2.1 ++ txtL x.2.2.2.1 ++ numL x.2.2.2.2.toNat) := rfl
        obtain ⟨A1, hA1⟩ : ∃ A1, A1 = numL x.1.toNat := ⟨_, rfl⟩
        obtain ⟨A2, hA2⟩ : ∃ A2, A2 = numL x.2.1.toNat := ⟨_, rfl⟩
        obtain ⟨A3, hA3⟩ : ∃ A3, A3 = txtL x.2.2.1 := ⟨_, rfl⟩
        obtain ⟨A4, hA4⟩ : ∃ A4, A4 = txtL x.2.2.2.1 := ⟨_, rfl⟩
        obtain ⟨A5, hA5⟩ : ∃ A5, A5 = numL x.2.2.2.2.toNat := ⟨_, rfl⟩
        have HLE : Hid (oj.length ≤ 41000 ∧ A1.length ≤ 8 ∧ A2.length ≤ 8 ∧ A3.length ≤ 88 ∧ A4.length ≤ 88 ∧ A5.length ≤ 8) :=
          ⟨hol, by rw [hA1]; exact numL_len_le _, by rw [hA2]; exact numL_len_le _, by rw [hA3]; have := numL_len_le x.2.2.1.length; unfold txtL; rw [List.length_append]; omega,
            by rw [hA4]; have := numL_len_le x.2.2.2.1.length; unfold txtL; rw [List.length_append]; omega, by rw [hA5]; exact numL_len_le _⟩
        rw [← hA1] at C1 HMB
        rw [← hA2] at C2 HMB
        rw [← hA3] at C3 HMB
        rw [← hA4] at C4 HMB
        rw [← hA5] at C5 HMB
        clear hA1 hA2 hA3 hA4 hA5 y1 y2 y3 y4 y5 y6 y7 y8 y9 y10 hol
        go_wp2_with fail
        refine (C3.out _).mono ?_
        rintro e w6 ⟨rfl, hk⟩
        have HE3 := Lib.hid (HE2.out.quiet (Kept.of_below _ hk))
        clear hk C3 HE2 c0 c1 c2 c3 c4
        obtain ⟨c0, c1, c2, c3, c4⟩ := HE3.out.at
        go_wp2_with fail
        refine (C4.out _).mono ?_
        rintro e w7 ⟨rfl, hk⟩
        have HE4 := Lib.hid (HE3.out.quiet (Kept.of_below _ hk))
        clear hk C4 HE3 c0 c1 c2 c3 c4
        go_upto_region 16 with fail
        have HS0 := Lib.hid (HE4.out.quiet ((Kept.refl (fun _ => False) _).drewN 1))
        clear HE4
        refine wp_region_S (fun W => EncS w W g b1 (some ⟨b, off, none⟩) len cap ad2 len2 cap2 ad3 len3 cap3 ad4 len4 cap4 v x) 18 (by kernel_rfl) HS0.out ?_
        clear HS0
        refine wpAnyS_take (i := 0) (v := (.string ⟨oj.toArray⟩)) (some 82) rfl rfl (by kernel_rfl) (by kernel_rfl) (by kernel_rfl) (by kernel_rfl) (fun _ _ _ h => h) (by kernel_rfl) (fun W hW => by go_simp) ?_
        refine wpAnyS_take (i := 1) (v := (.pointer (some ⟨b1, 0, none⟩))) (some 83) rfl rfl (by kernel_rfl) (by kernel_rfl) (by kernel_rfl) (by kernel_rfl) (fun _ _ _ h => h) (by kernel_rfl) (fun W hW => by go_simp) ?_
        refine wpAnyS_take (i := 2) (v := (.int .i64 x.1)) (some 84) rfl rfl (by kernel_rfl) (by kernel_rfl) (by kernel_rfl) (by kernel_rfl) (fun _ _ _ h => h) (by kernel_rfl) (fun W hW => by obtain ⟨c0, c1, c2, c3, c4⟩ := hW.at; go_simp) ?_
        refine wpAnyS_call (i := 3) (v := (.string ⟨A1.toArray⟩)) (f := 20) (args := #[.int .i64 x.1]) (some 85) rfl rfl (by kernel_rfl) (by kernel_rfl) (by kernel_rfl) (by kernel_rfl) (fun _ _ _ h => h) (by kernel_rfl) (fun W _ => by kernel_rfl) (fun W hW => (C1.out W).mono fun e W2 h => ⟨h.1, hW.quiet h.2⟩) ?_
        refine wpAnyS_take (i := 4) (v := (.string ⟨(oj ++ A1).toArray⟩)) (some 86) rfl rfl (by kernel_rfl) (by kernel_rfl) (by kernel_rfl) (by kernel_rfl) (fun _ _ _ h => h) (by kernel_rfl) (fun W hW => by go_simp; have := HLE.out; omega) ?_
        refine wpAnyS_take (i := 5) (v := (.pointer (some ⟨b1, 1, none⟩))) (some 87) rfl rfl (by kernel_rfl) (by kernel_rfl) (by kernel_rfl) (by kernel_rfl) (fun _ _ _ h => h) (by kernel_rfl) (fun W hW => by go_simp) ?_
        refine wpAnyS_take (i := 6) (v := (.int .i64 x.2.1)) (some 88) rfl rfl (by kernel_rfl) (by kernel_rfl) (by kernel_rfl) (by kernel_rfl) (fun _ _ _ h => h) (by kernel_rfl) (fun W hW => by obtain ⟨c0, c1, c2, c3, c4⟩ := hW.at; go_simp) ?_
        refine wpAnyS_call (i := 7) (v := (.string ⟨A2.toArray⟩)) (f := 20) (args := #[.int .i64 x.2.1]) (some 89) rfl rfl (by kernel_rfl) (by kernel_rfl) (by kernel_rfl) (by kernel_rfl) (fun _ _ _ h => h) (by kernel_rfl) (fun W _ => by kernel_rfl) (fun W hW => (C2.out W).mono fun e W2 h => ⟨h.1, hW.quiet h.2⟩) ?_
        refine wpAnyS_take (i := 8) (v := (.string ⟨(oj ++ A1 ++ A2).toArray⟩)) (some 90) rfl rfl (by kernel_rfl) (by kernel_rfl) (by kernel_rfl) (by kernel_rfl) (fun _ _ _ h => h) (by kernel_rfl) (fun W hW => by go_simp; have := HLE.out; omega) ?_
        refine wpAnyS_take (i := 9) (v := (.string ⟨A3.toArray⟩)) (some 91) rfl rfl (by kernel_rfl) (by kernel_rfl) (by kernel_rfl) (by kernel_rfl) (fun _ _ _ h => h) (by kernel_rfl) (fun W hW => by go_simp) ?_
        refine wpAnyS_take (i := 10) (v := (.string ⟨(oj ++ A1 ++ A2 ++ A3).toArray⟩)) (some 92) rfl rfl (by kernel_rfl) (by kernel_rfl) (by kernel_rfl) (by kernel_rfl) (fun _ _ _ h => h) (by kernel_rfl) (fun W hW => by go_simp; have := HLE.out; omega) ?_
        refine wpAnyS_take (i := 11) (v := (.string ⟨A4.toArray⟩)) (some 93) rfl rfl (by kernel_rfl) (by kernel_rfl) (by kernel_rfl) (by kernel_rfl) (fun _ _ _ h => h) (by kernel_rfl) (fun W hW => by go_simp) ?_
        refine wpAnyS_take (i := 12) (v := (.string ⟨(oj ++ A1 ++ A2 ++ A3 ++ A4).toArray⟩)) (some 94) rfl rfl (by kernel_rfl) (by kernel_rfl) (by kernel_rfl) (by kernel_rfl) (fun _ _ _ h => h) (by kernel_rfl) (fun W hW => by go_simp; have := HLE.out; omega) ?_
        refine wpAnyS_take (i := 13) (v := (.pointer (some ⟨b1, 4, none⟩))) (some 95) rfl rfl (by kernel_rfl) (by kernel_rfl) (by kernel_rfl) (by kernel_rfl) (fun _ _ _ h => h) (by kernel_rfl) (fun W hW => by go_simp) ?_
        refine wpAnyS_take (i := 14) (v := (.int .i64 x.2.2.2.2)) (some 96) rfl rfl (by kernel_rfl) (by kernel_rfl) (by kernel_rfl) (by kernel_rfl) (fun _ _ _ h => h) (by kernel_rfl) (fun W hW => by obtain ⟨c0, c1, c2, c3, c4⟩ := hW.at; go_simp) ?_
        refine wpAnyS_call (i := 15) (v := (.string ⟨A5.toArray⟩)) (f := 20) (args := #[.int .i64 x.2.2.2.2]) (some 97) rfl rfl (by kernel_rfl) (by kernel_rfl) (by kernel_rfl) (by kernel_rfl) (fun _ _ _ h => h) (by kernel_rfl) (fun W _ => by kernel_rfl) (fun W hW => (C5.out W).mono fun e W2 h => ⟨h.1, hW.quiet h.2⟩) ?_
        refine wpAnyS_take (i := 16) (v := (.string ⟨(oj ++ A1 ++ A2 ++ A3 ++ A4 ++ A5).toArray⟩)) (some 98) rfl rfl (by kernel_rfl) (by kernel_rfl) (by kernel_rfl) (by kernel_rfl) (fun _ _ _ h => h) (by kernel_rfl) (fun W hW => by go_simp; have := HLE.out; omega) ?_
        refine wpAnyS_take (i := 17) (v := (.string ⟨(oj ++ A1 ++ A2 ++ A3 ++ A4 ++ A5).toArray⟩)) (some 7) rfl rfl (by kernel_rfl) (by kernel_rfl) (by kernel_rfl) (by kernel_rfl) (fun _ _ _ h => h) (by kernel_rfl) (fun W hW => by go_simp) ?_
        refine wpAnyS_done (by kernel_rfl) (fun W hW => ?_) _
        have HW := Lib.hid hW
        clear hW
        simp only [put_none, put_lit, List.set_cons_succ, List.set_cons_zero]
        have HN : Hid (EBox w W g (some ⟨b, off, none⟩) len cap ad2 len2 cap2 ad3 len3 cap3 ad4 len4 cap4 v ∧ ∀ m ∈ v.1.take (j + 1), metaOk m = true) := ⟨HW.out.1, HMEM.out hmo.out.symm⟩
        clear HW
        go_wp2
        go_roundw
        case rel => exact ⟨j + 1, hlt, by first | rfl | go_num, by rw [HST.out, HMB.out]; simp only [List.append_assoc], HN⟩
        case measure => simp [intOf]; omega
    · obtain rfl : j = len := by omega
      have jN : ¬(j : Int) < (j : Int) := by omega
      have hall := hI.out.2
      rw [List.take_of_length_le (by omega)] at hall
      have hmo : v.1.all metaOk = true := List.all_eq_true.2 hall
      have HV := Lib.hid (HYES.out (by rw [HED2.out]; exact hmo))
      have hq1 : numsOk v.2.1 200 = true := hn1.out.symm
      have hq2 : numsOk v.2.2.1 20 = true := hn2.out.symm
      have hq3 : numsOk v.2.2.2.1 20 = true := hn3.out.symm
      have up : ∀ l, numsOk l 20 = true → numsOk l 200 = true := fun l h => by
        obtain ⟨z1, z2⟩ := nums_of h
        unfold numsOk
        simp only [Bool.and_eq_true, List.all_eq_true, decide_eq_true_eq]
        exact ⟨z1, by omega⟩
      have HBX := Lib.hid hI.out.1
      have l0 := flat_len v.1 hall
      have l1 := rowE_len v.2.1
      have l2 := rowE_len v.2.2.1
      have l3 := rowE_len v.2.2.2.1
      have z1 := (nums_of hq1).2
      have z2 := (nums_of hq2).2
      have z3 := (nums_of hq3).2
      have C1 := Lib.hid (fun (W : World) (h : EBox w W g ad j cap ad2 len2 cap2 ad3 len3 cap3 ad4 len4 cap4 v) => refRow14 W ad2 len2 cap2 v.2.1 h.ed.2.2.1 hq1)
      have C2 := Lib.hid (fun (W : World) (h : EBox w W g ad j cap ad2 len2 cap2 ad3 len3 cap3 ad4 len4 cap4 v) => refRow14 W ad3 len3 cap3 v.2.2.1 h.ed.2.2.2.2.1 (up _ hq2))
      have C3 := Lib.hid (fun (W : World) (h : EBox w W g ad j cap ad2 len2 cap2 ad3 len3 cap3 ad4 len4 cap4 v) => refRow14 W ad4 len4 cap4 v.2.2.2.1 h.ed.2.2.2.2.2.2.1 (up _ hq3))
      have C4 := Lib.hid (fun W : World => refNum14 s W (by omega) (by omega))
      have HBD : Hid (bodyE v = numL v.1.length ++ v.1.flatMap metaB ++ rowE v.2.1 ++ rowE v.2.2.1 ++ rowE v.2.2.2.1 ++ numL s.toNat) := by show _ = _; rw [HS.out]; rfl
      rw [List.take_of_length_le (by omega)]
      have hoj : (o0 ++ v.1.flatMap metaB).length ≤ 41000 := by rw [List.length_append]; omega
      rw [hlen, ← ho0.out] at HBD
      obtain ⟨oj, hoj2⟩ : ∃ oj, oj = o0 ++ v.1.flatMap metaB := ⟨_, rfl⟩
      obtain ⟨A1, hA1⟩ : ∃ A1, A1 = rowE v.2.1 := ⟨_, rfl⟩
      obtain ⟨A2, hA2⟩ : ∃ A2, A2 = rowE v.2.2.1 := ⟨_, rfl⟩
      obtain ⟨A3, hA3⟩ : ∃ A3, A3 = rowE v.2.2.2.1 := ⟨_, rfl⟩
      obtain ⟨A4, hA4⟩ : ∃ A4, A4 = numL s.toNat := ⟨_, rfl⟩
      have HLE : Hid (oj.length ≤ 41000 ∧ A1.length ≤ 2000 ∧ A2.length ≤ 2000 ∧ A3.length ≤ 2000 ∧ A4.length ≤ 8) := ⟨by rw [hoj2]; exact hoj, by rw [hA1]; omega, by rw [hA2]; omega, by rw [hA3]; omega, by rw [hA4]; exact numL_len_le _⟩
      rw [← hoj2] at HBD hoj ⊢
      rw [← hA1] at C1 HBD
      rw [← hA2] at C2 HBD
      rw [← hA3] at C3 HBD
      rw [← hA4] at C4 HBD
      clear hoj2 hA1 hA2 hA3 hA4 hI l0 l1 l2 l3 hall hmo up hoj HNO HYES
      go_upto_region 17 with fail
      have HS0 := Lib.hid (HBX.out.quiet ((Kept.refl (fun _ => False) _).drewN 1))
      clear HBX d0 d1 d2 d3 d4
      refine wp_region_S (fun W => EBox w W g ad j cap ad2 len2 cap2 ad3 len3 cap3 ad4 len4 cap4 v) 19 (by kernel_rfl) HS0.out ?_
      clear HS0
      refine wpAnyS_take (i := 0) (v := (.string ⟨oj.toArray⟩)) (some 99) rfl rfl (by kernel_rfl) (by kernel_rfl) (by kernel_rfl) (by kernel_rfl) (fun _ _ _ h => h) (by kernel_rfl) (fun W hW => by go_simp) ?_
      refine wpAnyS_take (i := 1) (v := (.pointer (some ⟨g, 1, none⟩))) (some 100) rfl rfl (by kernel_rfl) (by kernel_rfl) (by kernel_rfl) (by kernel_rfl) (fun _ _ _ h => h) (by kernel_rfl) (fun W hW => by go_simp) ?_
      refine wpAnyS_take (i := 2) (v := (.slice ad2 len2 cap2)) (some 101) rfl rfl (by kernel_rfl) (by kernel_rfl) (by kernel_rfl) (by kernel_rfl) (fun _ _ _ h => h) (by kernel_rfl) (fun W hW => by obtain ⟨c0, c1, c2, c3, c4⟩ := hW.cells; rw [← HS.out] at c4; go_simp) ?_
      refine wpAnyS_call (i := 3) (v := (.string ⟨A1.toArray⟩)) (f := 23) (args := #[.slice ad2 len2 cap2]) (some 102) rfl rfl (by kernel_rfl) (by kernel_rfl) (by kernel_rfl) (by kernel_rfl) (fun _ _ _ h => h) (by kernel_rfl) (fun W _ => by kernel_rfl) (fun W hW => (C1.out W hW).mono fun e W2 h => ⟨h.1, hW.quiet h.2⟩) ?_
      refine wpAnyS_take (i := 4) (v := (.string ⟨(oj ++ A1).toArray⟩)) (some 103) rfl rfl (by kernel_rfl) (by kernel_rfl) (by kernel_rfl) (by kernel_rfl) (fun _ _ _ h => h) (by kernel_rfl) (fun W hW => by go_simp; have := HLE.out; omega) ?_
      refine wpAnyS_take (i := 5) (v := (.pointer (some ⟨g, 2, none⟩))) (some 104) rfl rfl (by kernel_rfl) (by kernel_rfl) (by kernel_rfl) (by kernel_rfl) (fun _ _ _ h => h) (by kernel_rfl) (fun W hW => by go_simp) ?_
      refine wpAnyS_take (i := 6) (v := (.slice ad3 len3 cap3)) (some 105) rfl rfl (by kernel_rfl) (by kernel_rfl) (by kernel_rfl) (by kernel_rfl) (fun _ _ _ h => h) (by kernel_rfl) (fun W hW => by obtain ⟨c0, c1, c2, c3, c4⟩ := hW.cells; rw [← HS.out] at c4; go_simp) ?_
      refine wpAnyS_call (i := 7) (v := (.string ⟨A2.toArray⟩)) (f := 23) (args := #[.slice ad3 len3 cap3]) (some 106) rfl rfl (by kernel_rfl) (by kernel_rfl) (by kernel_rfl) (by kernel_rfl) (fun _ _ _ h => h) (by kernel_rfl) (fun W _ => by kernel_rfl) (fun W hW => (C2.out W hW).mono fun e W2 h => ⟨h.1, hW.quiet h.2⟩) ?_
      refine wpAnyS_take (i := 8) (v := (.string ⟨(oj ++ A1 ++ A2).toArray⟩)) (some 107) rfl rfl (by kernel_rfl) (by kernel_rfl) (by kernel_rfl) (by kernel_rfl) (fun _ _ _ h => h) (by kernel_rfl) (fun W hW => by go_simp; have := HLE.out; omega) ?_
      refine wpAnyS_take (i := 9) (v := (.pointer (some ⟨g, 3, none⟩))) (some 108) rfl rfl (by kernel_rfl) (by kernel_rfl) (by kernel_rfl) (by kernel_rfl) (fun _ _ _ h => h) (by kernel_rfl) (fun W hW => by go_simp) ?_
      refine wpAnyS_take (i := 10) (v := (.slice ad4 len4 cap4)) (some 109) rfl rfl (by kernel_rfl) (by kernel_rfl) (by kernel_rfl) (by kernel_rfl) (fun _ _ _ h => h) (by kernel_rfl) (fun W hW => by obtain ⟨c0, c1, c2, c3, c4⟩ := hW.cells; rw [← HS.out] at c4; go_simp) ?_
      refine wpAnyS_call (i := 11) (v := (.string ⟨A3.toArray⟩)) (f := 23) (args := #[.slice ad4 len4 cap4]) (some 110) rfl rfl (by kernel_rfl) (by kernel_rfl) (by kernel_rfl) (by kernel_rfl) (fun _ _ _ h => h) (by kernel_rfl) (fun W _ => by kernel_rfl) (fun W hW => (C3.out W hW).mono fun e W2 h => ⟨h.1, hW.quiet h.2⟩) ?_
      refine wpAnyS_take (i := 12) (v := (.string ⟨(oj ++ A1 ++ A2 ++ A3).toArray⟩)) (some 111) rfl rfl (by kernel_rfl) (by kernel_rfl) (by kernel_rfl) (by kernel_rfl) (fun _ _ _ h => h) (by kernel_rfl) (fun W hW => by go_simp; have := HLE.out; omega) ?_
      refine wpAnyS_take (i := 13) (v := (.pointer (some ⟨g, 4, none⟩))) (some 112) rfl rfl (by kernel_rfl) (by kernel_rfl) (by kernel_rfl) (by kernel_rfl) (fun _ _ _ h => h) (by kernel_rfl) (fun W hW => by go_simp) ?_
      refine wpAnyS_take (i := 14) (v := (.int .i64 s)) (some 113) rfl rfl (by kernel_rfl) (by kernel_rfl) (by kernel_rfl) (by kernel_rfl) (fun _ _ _ h => h) (by kernel_rfl) (fun W hW => by obtain ⟨c0, c1, c2, c3, c4⟩ := hW.cells; rw [← HS.out] at c4; go_simp) ?_
      refine wpAnyS_call (i := 15) (v := (.string ⟨A4.toArray⟩)) (f := 20) (args := #[.int .i64 s]) (some 114) rfl rfl (by kernel_rfl) (by kernel_rfl) (by kernel_rfl) (by kernel_rfl) (fun _ _ _ h => h) (by kernel_rfl) (fun W _ => by kernel_rfl) (fun W hW => (C4.out W).mono fun e W2 h => ⟨h.1, hW.quiet h.2⟩) ?_
      refine wpAnyS_take (i := 16) (v := (.string ⟨(oj ++ A1 ++ A2 ++ A3 ++ A4).toArray⟩)) (some 115) rfl rfl (by kernel_rfl) (by kernel_rfl) (by kernel_rfl) (by kernel_rfl) (fun _ _ _ h => h) (by kernel_rfl) (fun W hW => by go_simp; have := HLE.out; omega) ?_
      refine wpAnyS_take (i := 17) (v := (.string ⟨(oj ++ A1 ++ A2 ++ A3 ++ A4).toArray⟩)) (some 2) rfl rfl (by kernel_rfl) (by kernel_rfl) (by kernel_rfl) (by kernel_rfl) (fun _ _ _ h => h) (by kernel_rfl) (fun W hW => by go_simp) ?_
      refine wpAnyS_take (i := 18) (v := (.bool true)) (some 3) rfl rfl (by kernel_rfl) (by kernel_rfl) (by kernel_rfl) (by kernel_rfl) (fun _ _ _ h => h) (by kernel_rfl) (fun W hW => by go_simp) ?_
      refine wpAnyS_done (by kernel_rfl) (fun W hW => ?_) _
      have HK := Lib.hid hW.kept
      clear hW
      simp only [put_none, put_lit, List.set_cons_succ, List.set_cons_zero]
      go_wp2
      go_ret2
      exact ⟨by rw [HV.out, HBD.out]; simp only [List.append_assoc]; rfl, HK.out⟩

end Go.Proofs.YtjdolimeibpacaaGreat
