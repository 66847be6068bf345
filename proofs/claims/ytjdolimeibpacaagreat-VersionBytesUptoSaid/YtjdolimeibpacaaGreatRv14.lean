/- The reference of layer 14: numbers, num, row, meta (printed by genrv14.py). -/
import Derived.Test.YtjdolimeibpacaaGreatVnB
import Derived.Test.YtjdolimeibpacaaGreatJ05
import Derived.BigQuiet
import Derived.Sort.Walk0
import Derived.Deep.Cut
namespace Go.Proofs.YtjdolimeibpacaaGreat
open Go.RowKit Go.Proofs Go.Proofs.Pk
set_option maxRecDepth 10000
attribute [local simp] mk_get wrap64_u8 mk_extract ByteArray.mk_append_mk get_1k

theorem leqS_is (x y : VTxt) : (Op.bytesLess x y || x == y) = decide (¬y < x) := by
  rw [bytesLess_eq]
  by_cases h : x = y
  · subst h
    rw [decide_eq_false (List.lt_irrefl x), decide_eq_true (List.lt_irrefl x)]; simp
  · have h2 : (x == y) = false := by simpa using h
    rw [h2, Bool.or_false]
    by_cases k : x < y
    · rw [decide_eq_true k, decide_eq_true (vlt_asymm k)]
    · rw [decide_eq_false k, decide_eq_false (fun hn => hn (vlt_tri h k))]
theorem refNum14 (n : Int) (w : World) (h0 : 0 ≤ n) (hn : n ≤ 9007199254740991) : Calls Tryz.prog 20 #[.int .i64 n] w fun e w' => e = .returned (.string ⟨(numL n.toNat).toArray⟩) ∧ Kept (fun _ => False) w w' := by
  obtain ⟨m, rfl⟩ : ∃ m : Nat, n = (m : Int) := ⟨n.toNat, by omega⟩
  have H := Lib.hid (rNum_ok m w (by unfold MaxN; omega))
  rw [show ((m : Int)).toNat = m from rfl]
  go_enter Tryz.func20, Tryz.ntmps20
  go_wp2_with fail
  refine H.out.mono ?_
  rintro e wx ⟨rfl, hb⟩
  have HB := Lib.hid hb
  clear hb H
  go_wp2
  go_ret
  exact ⟨rfl, Kept.of_below _ HB.out⟩
set_option maxHeartbeats 2000000 in
theorem refNumbers14 (w : World) (ad : Option Addr) (len cap : Nat) (l : List Int) (many : Nat) (h1 : Ints w ad len l) (hl : (len : Int) * 8 ≤ 140737488351232) (hm : many ≤ 200) :
    Calls Tryz.prog 19 #[.slice ad len cap, .int .i64 (many : Int)] w fun r w' => r = .returned (.bool (numsOk l many)) ∧ Kept (fun _ => False) w w' := by
  have H := Lib.hid h1
  have hlen := h1.1
  clear h1
  obtain ⟨wq, hwq⟩ : ∃ wq, wq = w := ⟨_, rfl⟩
  have HK : Hid (Kept (fun _ => False) w wq ∧ ∀ n ∈ l.take 0, 0 ≤ n ∧ n ≤ 9007199254740991) := by rw [hwq]; exact ⟨Kept.refl _ _, fun n hn => by simp at hn⟩
  go_enter Tryz.func19, Tryz.ntmps19
  go_wp2
  rw [← hwq]
  clear hwq
  go_loopw [5] (fun i wr => ∃ j : Nat, j ≤ len ∧ i = .int .i64 (j : Int) ∧ Hid (Kept (fun _ => False) w wr ∧ ∀ n ∈ l.take j, 0 ≤ n ∧ n ≤ 9007199254740991)) (fun i _ => len - (intOf i).toNat)
  case atStart => exact ⟨0, Nat.zero_le _, rfl, HK⟩
  case round =>
    obtain ⟨j, hj, rfl, hK⟩ := hrel
    clear HK
    have j0 : (0 : Int) ≤ (j : Int) := by omega
    have hwj : IntKind.i64.wrap ((j : Int) + 1) = (j : Int) + 1 := IntWalk.i64_in _ (by omega)
    by_cases hlt : j < len
    · have hjT : j < l.length := by omega
      have jN : (j : Int) < (len : Int) := by omega
      obtain ⟨g, og, rfl, hg, d0⟩ := ints_at (ints_keptV H.out hK.out.1) j hjT
      obtain ⟨x, hx⟩ : ∃ x : Int, Hid (x = l[j]) := ⟨l[j], rfl⟩
      rw [← hx.out] at d0
      have hbad : ¬(0 ≤ x ∧ x ≤ 9007199254740991) → Hid (numsOk l many = false) := fun h => by
        show numsOk l many = false
        rw [Bool.eq_false_iff]
        intro hn
        exact h (by rw [hx.out]; exact (nums_of hn).1 _ (List.getElem_mem hjT))
      have hgood : 0 ≤ x ∧ x ≤ 9007199254740991 → Hid (∀ n ∈ l.take (j + 1), 0 ≤ n ∧ n ≤ 9007199254740991) := fun h n hn => by
        rw [List.take_succ_eq_append_getElem hjT] at hn
        rcases List.mem_append.1 hn with hn | hn
        · exact hK.out.2 n hn
        · rw [List.mem_singleton] at hn; subst hn; rw [← hx.out]; exact h
      have HKK := Lib.hid hK.out.1
      clear hK
      by_cases x1 : x < 0
      · have HV := hbad (by omega)
        have dx : decide (x < 0) = true := decide_eq_true x1
        clear hgood hbad
        go_wp2
        go_ret
        exact ⟨by rw [HV.out]; rfl, HKK.out⟩
      by_cases x2 : 9007199254740991 < x
      · have HV := hbad (by omega)
        clear hgood hbad
        go_wp2
        go_ret
        exact ⟨by rw [HV.out]; rfl, HKK.out⟩
      have HG := hgood (by omega)
      clear hgood hbad
      go_wp2
      go_roundw
      case rel => exact ⟨j + 1, hlt, by first | rfl | go_num, HKK.out, HG.out⟩
      case measure => simp [intOf]; omega
    · obtain rfl : j = len := by omega
      have jN : ¬(j : Int) < (j : Int) := by omega
      have hV : numsOk l many = decide ((j : Int) ≤ (many : Int)) := by
        have h2 := hK.out.2
        rw [List.take_of_length_le (by omega)] at h2
        unfold numsOk
        rw [show l.all (fun n => decide (0 ≤ n ∧ n ≤ 9007199254740991)) = true from by simpa using h2, Bool.true_and]
        by_cases h : l.length ≤ many
        · rw [decide_eq_true h, decide_eq_true (by omega)]
        · rw [decide_eq_false h, decide_eq_false (by omega)]
      have HV := Lib.hid hV
      have HKK := Lib.hid hK.out.1
      clear hV hK
      by_cases hz : j ≤ many
      · have hzd : decide (j ≤ many) = true := decide_eq_true hz
        have HVV : Hid (numsOk l many = true) := by show _ = _; rw [HV.out]; exact decide_eq_true (by omega)
        go_wp2
        go_ret
        exact ⟨by rw [HVV.out]; rfl, HKK.out⟩
      · have hzd : decide (j ≤ many) = false := decide_eq_false hz
        have HVV : Hid (numsOk l many = false) := by show _ = _; rw [HV.out]; exact decide_eq_false (by omega)
        go_wp2
        go_ret
        exact ⟨by rw [HVV.out]; rfl, HKK.out⟩
theorem flatN_len (l : List Int) : (l.flatMap fun n => numL n.toNat).length ≤ l.length * 8 := by
  induction l with
  | nil => simp
  | cons n r ih =>
    have := numL_len_le n.toNat
    rw [List.flatMap_cons, List.length_append, List.length_cons]
    omega
set_option maxHeartbeats 2000000 in
theorem refRow14 (w : World) (ad : Option Addr) (len cap : Nat) (l : List Int) (h1 : Ints w ad len l) (hn : numsOk l 200 = true) :
    Calls Tryz.prog 23 #[.slice ad len cap] w fun r w' => r = .returned (.string ⟨(rowE l).toArray⟩) ∧ Kept (fun _ => False) w w' := by
  obtain ⟨hn1, hn2⟩ := nums_of hn
  have H := Lib.hid (And.intro h1 hn1)
  have hlen := h1.1
  have CN := Lib.hid (fun W : World => refNum14 (len : Int) W (by omega) (by omega))
  rw [show ((len : Int)).toNat = len from rfl] at CN
  obtain ⟨o0, ho0⟩ : ∃ o0, Hid (o0 = numL len) := ⟨numL len, rfl⟩
  have ho0l : o0.length ≤ 8 := by rw [ho0.out]; exact numL_len_le _
  rw [← ho0.out] at CN
  have HV : Hid (rowE l = o0 ++ (l.flatMap fun n => numL n.toNat)) := by show _ = _; rw [ho0.out, ← hlen]; rfl
  clear h1 hn hn1
  go_enter Tryz.func23, Tryz.ntmps23
  go_wp2_with fail
  refine (CN.out _).mono ?_
  rintro e w1 ⟨rfl, hk⟩
  have HI : Hid (Kept (fun _ => False) w w1) := hk
  clear hk CN
  go_wp2
  go_loopw [3, 4] (fun o i wr => ∃ j : Nat, j ≤ len ∧ i = .int .i64 (j : Int) ∧ o = .string ⟨(o0 ++ ((l.take j).flatMap fun n => numL n.toNat)).toArray⟩ ∧ Hid (Kept (fun _ => False) w wr)) (fun _ i _ => len - (intOf i).toNat)
  case atStart => exact ⟨0, Nat.zero_le _, rfl, by simp, HI⟩
  case round =>
    obtain ⟨j, hj, rfl, rfl, hK⟩ := hrel
    clear HI
    have j0 : (0 : Int) ≤ (j : Int) := by omega
    have hwj : IntKind.i64.wrap ((j : Int) + 1) = (j : Int) + 1 := IntWalk.i64_in _ (by omega)
    by_cases hlt : j < len
    · have hjT : j < l.length := by omega
      have jN : (j : Int) < (len : Int) := by omega
      obtain ⟨g, og, rfl, hg, d0⟩ := ints_at (ints_keptV H.out.1 hK.out) j hjT
      have hxn := H.out.2 _ (List.getElem_mem hjT)
      have hstep : o0 ++ ((l.take (j + 1)).flatMap fun n => numL n.toNat) = o0 ++ ((l.take j).flatMap fun n => numL n.toNat) ++ numL l[j].toNat := by
        rw [List.take_succ_eq_append_getElem hjT, List.flatMap_append, ← List.append_assoc]; simp
      have hol : (o0 ++ ((l.take j).flatMap fun n => numL n.toNat)).length ≤ 2000 := by
        have := flatN_len (l.take j)
        rw [List.length_append]; rw [List.length_take] at this; omega
      generalize l[j] = x at d0 hxn hstep
      have CX := Lib.hid (fun W : World => refNum14 x W hxn.1 hxn.2)
      obtain ⟨t, ht⟩ : ∃ t, t = numL x.toNat := ⟨_, rfl⟩
      have htl : t.length ≤ 8 := by rw [ht]; exact numL_len_le _
      rw [← ht] at CX hstep
      have HST := Lib.hid hstep
      generalize o0 ++ ((l.take j).flatMap fun n => numL n.toNat) = oj at hol HST
      clear hjT hstep ht hxn
      go_wp2_with fail
      refine (CX.out _).mono ?_
      rintro e w2 ⟨rfl, hk⟩
      have HK2 := Lib.hid (hK.out.trans hk (fun _ f => f.elim))
      have hov : oj.length + t.length ≤ 9223372036854775807 := by omega
      clear hk CX hK d0
      go_wp2
      go_roundw
      case rel => exact ⟨j + 1, hlt, by first | rfl | go_num, by rw [HST.out], HK2⟩
      case measure => simp [intOf]; omega
    · obtain rfl : j = len := by omega
      have jN : ¬(j : Int) < (j : Int) := by omega
      rw [List.take_of_length_le (by omega), ← HV.out]
      obtain ⟨z, hz⟩ : ∃ z, Hid (z = rowE l) := ⟨rowE l, rfl⟩
      rw [← hz.out]
      go_wp2
      go_ret
      exact ⟨by rw [← hz.out]; rfl, hK.out⟩
set_option maxHeartbeats 4000000 in
theorem refMeta14 (m : MetaV) (w : World) : Calls Tryz.prog 21 #[.agg (metaC m).toArray] w fun r w' => r = .returned (.bool (metaOk m)) ∧ Kept (fun _ => False) w w' := by
  obtain ⟨a, c, x, y, d⟩ := m
  show Calls Tryz.prog 21 #[.agg #[.int .i64 a, .int .i64 c, .string ⟨x.toArray⟩, .string ⟨y.toArray⟩, .int .i64 d]] w _
  have HK : Hid (Kept (fun _ => False) w (w.alloc (.cells #[.int .i64 a, .int .i64 c, .string ⟨x.toArray⟩, .string ⟨y.toArray⟩, .int .i64 d] 45))) := (Kept.refl _ w).alloc _
  have hno : ¬(1 ≤ a ∧ a ≤ 9007199254740991 ∧ 0 ≤ c ∧ c < 4 ∧ x ≠ [] ∧ x.length ≤ 80 ∧ y ≠ [] ∧ y.length ≤ 80 ∧ ¬y < x ∧ 1 ≤ d ∧ d ≤ 1048576) → Hid (metaOk (a, c, x, y, d) = false) := fun h => decide_eq_false h
  have hyes : (1 ≤ a ∧ a ≤ 9007199254740991 ∧ 0 ≤ c ∧ c < 4 ∧ x ≠ [] ∧ x.length ≤ 80 ∧ y ≠ [] ∧ y.length ≤ 80 ∧ ¬y < x ∧ 1 ≤ d ∧ d ≤ 1048576) → Hid (metaOk (a, c, x, y, d) = true) := fun h => decide_eq_true h
  generalize metaOk (a, c, x, y, d) = r at hno hyes ⊢
  have HNO := Lib.hid hno
  have HYES := Lib.hid hyes
  clear hno hyes
  by_cases h0 : 1 ≤ a
  case neg =>
    have HV := HNO.out (fun h => h0 h.1)
    have f0 : decide (1 ≤ a) = false := decide_eq_false h0
    clear HNO HYES h0
    go_enter Tryz.func21, Tryz.ntmps21
    go_wp2
    go_ret
    exact ⟨by rw [HV.out]; rfl, HK.out⟩
  have f0 : decide (1 ≤ a) = true := decide_eq_true h0
  by_cases h1 : a ≤ 9007199254740991
  case neg =>
    have HV := HNO.out (fun h => h1 h.2.1)
    have f1 : decide (a ≤ 9007199254740991) = false := decide_eq_false h1
    clear HNO HYES h1
    go_enter Tryz.func21, Tryz.ntmps21
    go_wp2
    go_ret
    exact ⟨by rw [HV.out]; rfl, HK.out⟩
  have f1 : decide (a ≤ 9007199254740991) = true := decide_eq_true h1
  by_cases h2 : 0 ≤ c
  case neg =>
    have HV := HNO.out (fun h => h2 h.2.2.1)
    have f2 : decide (0 ≤ c) = false := decide_eq_false h2
    clear HNO HYES h2
    go_enter Tryz.func21, Tryz.ntmps21
    go_wp2
    go_ret
    exact ⟨by rw [HV.out]; rfl, HK.out⟩
  have f2 : decide (0 ≤ c) = true := decide_eq_true h2
  by_cases h3 : c < 4
  case neg =>
    have HV := HNO.out (fun h => h3 h.2.2.2.1)
    have f3 : decide (c < 4) = false := decide_eq_false h3
    clear HNO HYES h3
    go_enter Tryz.func21, Tryz.ntmps21
    go_wp2
    go_ret
    exact ⟨by rw [HV.out]; rfl, HK.out⟩
  have f3 : decide (c < 4) = true := decide_eq_true h3
  by_cases h4 : x ≠ []
  case neg =>
    have HV := HNO.out (fun h => h4 h.2.2.2.2.1)
    have f4 : (x == []) = true := by simpa using h4
    clear HNO HYES h4
    go_enter Tryz.func21, Tryz.ntmps21
    go_wp2
    go_ret
    exact ⟨by rw [HV.out]; rfl, HK.out⟩
  have f4 : (x == []) = false := by simpa using h4
  by_cases h5 : x.length ≤ 80
  case neg =>
    have HV := HNO.out (fun h => h5 h.2.2.2.2.2.1)
    have f5 : decide ((x.length : Int) ≤ 80) = false := decide_eq_false (by omega)
    clear HNO HYES h5
    go_enter Tryz.func21, Tryz.ntmps21
    go_wp2
    go_ret
    exact ⟨by rw [HV.out]; rfl, HK.out⟩
  have f5 : decide ((x.length : Int) ≤ 80) = true := decide_eq_true (by omega)
  by_cases h6 : y ≠ []
  case neg =>
    have HV := HNO.out (fun h => h6 h.2.2.2.2.2.2.1)
    have f6 : (y == []) = true := by simpa using h6
    clear HNO HYES h6
    go_enter Tryz.func21, Tryz.ntmps21
    go_wp2
    go_ret
    exact ⟨by rw [HV.out]; rfl, HK.out⟩
  have f6 : (y == []) = false := by simpa using h6
  by_cases h7 : y.length ≤ 80
  case neg =>
    have HV := HNO.out (fun h => h7 h.2.2.2.2.2.2.2.1)
    have f7 : decide ((y.length : Int) ≤ 80) = false := decide_eq_false (by omega)
    clear HNO HYES h7
    go_enter Tryz.func21, Tryz.ntmps21
    go_wp2
    go_ret
    exact ⟨by rw [HV.out]; rfl, HK.out⟩
  have f7 : decide ((y.length : Int) ≤ 80) = true := decide_eq_true (by omega)
  by_cases h8 : ¬y < x
  case neg =>
    have HV := HNO.out (fun h => h8 h.2.2.2.2.2.2.2.2.1)
    have f8 : (Op.bytesLess x y || x == y) = false := by rw [leqS_is]; exact decide_eq_false h8
    clear HNO HYES h8
    go_enter Tryz.func21, Tryz.ntmps21
    go_wp2
    go_ret
    exact ⟨by rw [HV.out]; rfl, HK.out⟩
  have f8 : (Op.bytesLess x y || x == y) = true := by rw [leqS_is]; exact decide_eq_true h8
  by_cases h9 : 1 ≤ d
  case neg =>
    have HV := HNO.out (fun h => h9 h.2.2.2.2.2.2.2.2.2.1)
    have f9 : decide (1 ≤ d) = false := decide_eq_false h9
    clear HNO HYES h9
    go_enter Tryz.func21, Tryz.ntmps21
    go_wp2
    go_ret
    exact ⟨by rw [HV.out]; rfl, HK.out⟩
  have f9 : decide (1 ≤ d) = true := decide_eq_true h9
  by_cases h10 : d ≤ 1048576
  case neg =>
    have HV := HNO.out (fun h => h10 h.2.2.2.2.2.2.2.2.2.2)
    have f10 : decide (d ≤ 1048576) = false := decide_eq_false h10
    clear HNO HYES h10
    go_enter Tryz.func21, Tryz.ntmps21
    go_wp2
    go_ret
    exact ⟨by rw [HV.out]; rfl, HK.out⟩
  have f10 : decide (d ≤ 1048576) = true := decide_eq_true h10
  have HV := HYES.out ⟨h0, h1, h2, h3, h4, h5, h6, h7, h8, h9, h10⟩
  clear HNO HYES
  clear h4 h6 h8
  go_enter Tryz.func21, Tryz.ntmps21
  go_wp2
  go_ret
  exact ⟨by rw [HV.out]; rfl, HK.out⟩

end Go.Proofs.YtjdolimeibpacaaGreat
