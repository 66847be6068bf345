/- The law BloomOrder, walked over the contract of the program's filters. -/
import Derived.Test.YtjhninkdpmdpbaaEx11
import Derived.Laws.AppendOwnNone
import Derived.Deep.CutRange
import Derived.Deep.QuietTactic
import Derived.BigQuiet
import Derived.Sort.Walk0
namespace Go.Proofs.Ytjhninkdpmdpbaa
open Go.RowKit Go.Proofs Go.Proofs.Pk
set_option maxRecDepth 10000
attribute [local simp] mk_get wrap64_u8 mk_extract ByteArray.mk_append_mk get_1k

theorem infoT : (Try.prog.info? 9).map (fun i => (i.zero, i.size, i.bytes)) = some (some (.string ⟨#[]⟩), 1, 16) := by kernel_rfl
def txtV (s : TxtB) : Value := .string ⟨s.toArray⟩
def txtsV (T : List TxtB) : List Value := T.map txtV
theorem txtsV_append (A B : List TxtB) : txtsV (A ++ B) = txtsV A ++ txtsV B := by unfold txtsV; rw [List.map_append]
theorem txtsV_length (A : List TxtB) : (txtsV A).length = A.length := by unfold txtsV; rw [List.length_map]
theorem txtsV_one (A : List TxtB) : ∀ u ∈ txtsV A, u.oneCell' = true := by
  intro u hu
  obtain ⟨x, _, rfl⟩ := List.mem_map.1 hu
  rfl
/-- Texts of its own as what a call reads. -/
theorem own_strsB {w : World} {B n : Nat} {v : Value} {T : List TxtB} (h : w.ownsRow B 9 1 v n (txtsV T)) : ∃ ad cap, v = .slice ad n cap ∧ Strs w ad n T ∧ (0 < n → ∃ g, ad = some ⟨g, 0, none⟩ ∧ ∀ j u, (txtsV T)[j]? = some u → w.cell? ((⟨g, 0, none⟩ : Addr).add j) = some u) := by
  have hl : T.length = n := by have := h.1; rw [txtsV_length] at this; omega
  rcases h.2 with ⟨rfl, rfl⟩ | ⟨g, cap, cur, rfl, _, h2, _⟩
  · exact ⟨none, 0, rfl, ⟨hl, .inl (List.length_eq_zero_iff.1 hl)⟩, fun h => absurd h (Nat.lt_irrefl 0)⟩
  · refine ⟨_, cap, rfl, ⟨hl, .inr ⟨g, 0, rfl, (Array.getElem?_eq_some_iff.1 h2).1, fun i hi => ?_⟩⟩, fun _ => ⟨g, rfl, h.cells rfl⟩⟩
    have := h.cells rfl i (txtV T[i]) (by unfold txtsV; simp [hi])
    rw [show ((⟨g, 0, none⟩ : Addr).add i) = ⟨g, 0 + i, none⟩ from by unfold Addr.add; split <;> simp_all] at this
    simpa [txtV] using this
theorem addM (b o j : Nat) : (⟨b, o, none⟩ : Addr).add j = ⟨b, o + j, none⟩ := by unfold Addr.add; split <;> simp_all
theorem rev_take (L : List TxtB) {j m : Nat} (hm : m = L.length) (hj : j < m) : L.reverse.take (j + 1) = L.reverse.take j ++ [L[m - 1 - j]'(by omega)] := by
  rw [List.take_succ_eq_append_getElem (by rw [List.length_reverse]; omega), List.getElem_reverse]
  congr 3
  omega

set_option maxHeartbeats 4000000 in
theorem order11 (K : BlK) (ad : Option Addr) (len cap : Nat) (ks : List TxtB) (bits : Int) (w : World) (h : Strs w ad len ks) (hs : ∀ s ∈ ks, s.length ≤ 140737488351232) (hl : (len : Int) ≤ 140737488351232) (hlc : len ≤ cap) (hnc : ad = none → cap = 0) (hb : FitI bits) :
    Calls Try.prog 6 #[.slice ad len cap, .int .i64 bits] w fun e w' => e = .returned (.bool true) ∧ Below w.heap.size w w' := by
  have HE := Lib.hid (examples11 K w)
  obtain ⟨iT, hiT, hzT, hsT, hbT⟩ := info_parts infoT
  by_cases h0 : len = 0
  · subst h0
    have hks : ks = [] := List.length_eq_zero_iff.1 h.1
    obtain ⟨r, c, hr⟩ : ∃ (r : TxtB) (c : Nat), makeN [] bits = (r, c) := ⟨_, _, rfl⟩
    have hM := fun W => K.make W none 0 0 [] bits ⟨rfl, .inl rfl⟩ (fun s hs => by cases hs) hb (by decide)
    rw [hr] at hM
    obtain ⟨ev, hev⟩ : ∃ ev, Hid (ev = errV 38 c) := ⟨_, rfl⟩
    simp only [← hev.out] at hM
    have HM := Lib.hid hM
    have e1 : (r == r) = true := beq_self_eq_true r
    clear hM hr hks h hs hb
    have hmin : min (0 : Int) 200 = 0 := by decide
    cases ad with
    | none =>
      obtain rfl : cap = 0 := hnc rfl
      clear hnc hlc
      go_enter Try.func6, Try.ntmps6
      go_wp2_with fail
      refine HE.out.mono ?_
      clear HE
      rintro e w1 ⟨rfl, hk1⟩
      have HI : Hid (Kept (fun _ => False) w w1) := hk1
      clear hk1
      go_wp2
      rename World => w1
      go_loopw [6, 7] (fun v i wr => v = .slice none 0 0 ∧ i = .int .i64 (-1) ∧ Hid (Kept (fun _ => False) w wr)) (fun _ i _ => (intOf i + 1).toNat)
      case atStart => exact ⟨rfl, rfl, HI⟩
      case round =>
        obtain ⟨rfl, rfl, hI⟩ := hrel
        clear HI
        go_wp2_with (first | (at_builtin; refine wpList_append_own_none rfl (.const (.slice none 0 0)) (.tmp 33) 22 rfl w.heap.size 9 iT 1 Try.underlying22 hiT (.slice none 0 0) 0 [] rfl (World.ownsRow_nil _ _ _ _) rfl ?_) | (at_builtin; refine wpList_append_own_none rfl (.tmp 34) (.tmp 35) 22 rfl w.heap.size 9 iT 1 Try.underlying22 hiT (.slice none 0 0) 0 [] rfl (World.ownsRow_nil _ _ _ _) rfl ?_) | fail)
        refine (HM.out _).mono ?_
        rintro e w2 ⟨rfl, hk2⟩
        go_wp2_with (first | (at_builtin; refine wpList_append_own_none rfl (.tmp 42) (.tmp 43) 22 rfl w.heap.size 9 iT 1 Try.underlying22 hiT (.slice none 0 0) 0 [] rfl (World.ownsRow_nil _ _ _ _) rfl ?_) | fail)
        refine (HM.out _).mono ?_
        rintro e w3 ⟨rfl, hk3⟩
        have HK := Lib.hid (((hI.out.trans hk2 (fun _ h => h.elim)).trans hk3 (fun _ h => h.elim)).below (B := w.heap.size) (Nat.le_refl _) (fun _ h => h.elim))
        clear hk2 hk3 hI HM
        by_cases hc : c = 0
        · subst hc
          rw [show errV 38 0 = .nilIface from rfl] at hev
          rw [hev.out]
          clear hev
          go_wp2
          go_quiet (fail)
          go_wp2
          go_ret
          exact ⟨rfl, HK.out.trans (belowN (Below.refl _ _) _)⟩
        · have hv : errV 38 c = .iface 38 (.int .i64 (c : Int)) := by rw [errV, if_neg hc]
          rw [hv] at hev
          rw [hev.out]
          clear hev hv hc
          go_wp2
          go_quiet (fail)
          go_wp2
          go_ret
          exact ⟨rfl, HK.out.trans (belowN (Below.refl _ _) _)⟩
    | some a =>
      clear hnc
      go_enter Try.func6, Try.ntmps6
      go_wp2_with fail
      refine HE.out.mono ?_
      clear HE
      rintro e w1 ⟨rfl, hk1⟩
      have HI : Hid (Kept (fun _ => False) w w1) := hk1
      clear hk1
      go_wp2
      rename World => w1
      go_loopw [6, 7] (fun v i wr => v = .slice none 0 0 ∧ i = .int .i64 (-1) ∧ Hid (Kept (fun _ => False) w wr)) (fun _ i _ => (intOf i + 1).toNat)
      case atStart => exact ⟨rfl, rfl, HI⟩
      case round =>
        obtain ⟨rfl, rfl, hI⟩ := hrel
        clear HI
        go_wp2_with (at_builtin; refine wpList_append_own _ rfl (.const (.slice none 0 0)) (.tmp 33) 22 rfl w.heap.size 9 iT (.string ⟨#[]⟩) 1 16 Try.underlying22 hiT hzT hsT hbT rfl (by decide) (.slice none 0 0) 0 [] rfl (World.ownsRow_nil _ _ _ _) a 0 cap [] rfl rfl (fun j u hj => by simp at hj) (fun u hu => by simp at hu) (by unfold maxLen; omega) (by omega) hI.out.size ?_)
        intro v' wA hown hgr hiff
        obtain rfl : v' = .slice none 0 0 := hiff
        have HIA : Hid (Kept (fun _ => False) w wA) := kept_grown hI.out hgr (fun b hb => by cases hb)
        clear hown hgr
        go_wp2_with (first | (at_builtin; refine wpList_append_own_none rfl (.tmp 34) (.tmp 35) 22 rfl w.heap.size 9 iT 1 Try.underlying22 hiT (.slice none 0 0) 0 [] rfl (World.ownsRow_nil _ _ _ _) rfl ?_) | fail)
        refine (HM.out _).mono ?_
        rintro e w2 ⟨rfl, hk2⟩
        have HIB : Hid (Kept (fun _ => False) w w2) := HIA.out.trans hk2 (fun _ h => h.elim)
        go_wp2_with (at_builtin; refine wpList_append_own _ rfl (.tmp 42) (.tmp 43) 22 rfl w.heap.size 9 iT (.string ⟨#[]⟩) 1 16 Try.underlying22 hiT hzT hsT hbT rfl (by decide) (.slice none 0 0) 0 [] rfl (World.ownsRow_nil _ _ _ _) a 0 cap [] rfl rfl (fun j u hj => by simp at hj) (fun u hu => by simp at hu) (by unfold maxLen; omega) (by omega) HIB.out.size ?_)
        intro v' wC hown hgr hiff
        obtain rfl : v' = .slice none 0 0 := hiff
        have HIC : Hid (Kept (fun _ => False) w wC) := kept_grown HIB.out hgr (fun b hb => by cases hb)
        clear hown hgr
        go_wp2_with fail
        refine (HM.out _).mono ?_
        rintro e w3 ⟨rfl, hk3⟩
        have HK := Lib.hid ((HIC.out.trans hk3 (fun _ h => h.elim)).below (B := w.heap.size) (Nat.le_refl _) (fun _ h => h.elim))
        clear hk2 hk3 hI HM
        by_cases hc : c = 0
        · subst hc
          rw [show errV 38 0 = .nilIface from rfl] at hev
          rw [hev.out]
          clear hev
          go_wp2
          go_quiet (fail)
          go_wp2
          go_ret
          exact ⟨rfl, HK.out.trans (belowN (Below.refl _ _) _)⟩
        · have hv : errV 38 c = .iface 38 (.int .i64 (c : Int)) := by rw [errV, if_neg hc]
          rw [hv] at hev
          rw [hev.out]
          clear hev hv hc
          go_wp2
          go_quiet (fail)
          go_wp2
          go_ret
          exact ⟨rfl, HK.out.trans (belowN (Below.refl _ _) _)⟩
  · obtain ⟨ba, oa, rfl, hba, hca⟩ : ∃ ba oa, ad = some ⟨ba, oa, none⟩ ∧ ba < w.heap.size ∧ ∀ i (h : i < ks.length), w.cell? ⟨ba, oa + i, none⟩ = some (.string ⟨(ks[i]).toArray⟩) := by
      rcases h.2 with h1 | h1
      · rw [← h.1, h1] at h0; exact absurd rfl h0
      · exact h1
    have hkl := h.1
    obtain ⟨m, hm⟩ : ∃ m : Nat, Hid (m = min len 200) := ⟨_, rfl⟩
    have hmin : min (len : Int) 200 = (m : Int) := by rw [hm.out]; omega
    have hm0 : 0 < m := by rw [hm.out]; omega
    have hm200 : m ≤ 200 := by rw [hm.out]; omega
    have hmlen : m ≤ len := by rw [hm.out]; omega
    have hmcap : (m : Int) ≤ (cap : Int) := by omega
    have hmcap2 : m ≤ cap := by omega
    obtain ⟨L, hL⟩ : ∃ L : List TxtB, Hid (L = ks.take m) := ⟨ks.take m, rfl⟩
    have hLl : L.length = m := by rw [hL.out, List.length_take]; omega
    have HLl := Lib.hid hLl
    have HSL : Hid (∀ s ∈ L, s.length ≤ 140737488351232) := fun s hm2 => hs s (List.mem_of_mem_take (by rw [← hL.out]; exact hm2))
    have HCL : Hid (∀ W, Kept (fun _ => False) w W → ∀ j u, (txtsV L)[j]? = some u → W.cell? ((⟨ba, oa, none⟩ : Addr).add j) = some u) := fun W hk j u hj => by
      unfold txtsV at hj
      obtain ⟨h1, h2⟩ := List.getElem?_eq_some_iff.1 hj
      rw [List.length_map, hLl] at h1
      rw [addM, (hk.cell (p := ⟨ba, oa + j, none⟩) hba (fun h => h)).trans (hca j (by omega)), ← h2]
      simp only [List.getElem_map, hL.out, List.getElem_take, txtV]
    have hsame : makeN (L.reverse ++ L) bits = makeN (L ++ L.reverse) bits := make_same bits (by simp) (fun k => by simp)
    obtain ⟨r, c, hr⟩ : ∃ (r : TxtB) (c : Nat), makeN (L ++ L.reverse) bits = (r, c) := ⟨_, _, rfl⟩
    obtain ⟨ev, hev⟩ : ∃ ev, Hid (ev = errV 38 c) := ⟨_, rfl⟩
    have HMk : Hid (∀ W ad2 cap2 T, (T = L ++ L.reverse ∨ T = L.reverse ++ L) → Strs W ad2 (m + m) T → Calls Try.prog 9 #[.slice ad2 (m + m) cap2, .int .i64 bits] W fun e w' => e = .returned (.tuple #[.string ⟨r.toArray⟩, ev]) ∧ Kept (fun _ => False) W w') := fun W ad2 cap2 T hT hst => by
      have := K.make W ad2 (m + m) cap2 T bits hst (fun s hm2 => by
        apply HSL.out
        rcases hT with rfl | rfl <;> simpa using hm2) hb (by omega)
      have e : makeN T bits = (r, c) := by
        rcases hT with rfl | rfl
        · exact hr
        · rw [hsame]; exact hr
      rw [e] at this
      rw [hev.out]; exact this
    have e1 : (r == r) = true := beq_self_eq_true r
    clear h hs hb hca hkl hr hsame hnc hlc hLl hL
    go_enter Try.func6, Try.ntmps6
    go_wp2_with fail
    refine HE.out.mono ?_
    clear HE
    rintro e w1 ⟨rfl, hk1⟩
    have HI : Hid (w1.ownsRow w.heap.size 9 1 (.slice none 0 0) 0 (txtsV (L.reverse.take 0)) ∧ Kept (fun _ => False) w w1) := ⟨World.ownsRow_nil _ _ _ _, hk1⟩
    clear hk1
    have q1 : IntKind.i64.wrap ((m : Int) - 1) = (m : Int) - 1 := IntWalk.i64_in _ (by omega)
    have hmt : ((m : Int)).toNat = m := by omega
    have hmx : max (m : Int) 0 = (m : Int) := by omega
    go_wp2
    rename World => w1
    go_loopw [6, 7] (fun v i wr => ∃ j : Nat, j ≤ m ∧ i = .int .i64 ((m : Int) - 1 - (j : Int)) ∧ Hid (wr.ownsRow w.heap.size 9 1 v j (txtsV (L.reverse.take j)) ∧ Kept (fun _ => False) w wr)) (fun _ i _ => (intOf i + 1).toNat)
    case atStart => exact ⟨0, Nat.zero_le _, by first | rfl | (congr 1; omega) | (simp; done), HI⟩
    case round =>
      obtain ⟨j, hj, rfl, hI⟩ := hrel
      clear HI
      by_cases hlt : j < m
      · obtain ⟨q, hq⟩ : ∃ q : Nat, Hid (q = m - 1 - j) := ⟨_, rfl⟩
        have hqi : (m : Int) - 1 - (j : Int) = (q : Int) := by have := hq.out; omega
        rw [hqi]
        have q0 : (0 : Int) ≤ (q : Int) := by omega
        have qm : (q : Int) < (m : Int) := by have := hq.out; omega
        have hwq : IntKind.i64.wrap ((q : Int) - 1) = (q : Int) - 1 := IntWalk.i64_in _ (by omega)
        have hql : q < L.length := by have := HLl.out; have := hq.out; omega
        have hc := HCL.out wr hI.out.2 q (txtV L[q]) (by unfold txtsV; rw [List.getElem?_map, List.getElem?_eq_getElem hql]; rfl)
        rw [addM] at hc
        have hrt := rev_take L HLl.out.symm hlt
        have HRT : Hid (L.reverse.take (j + 1) = L.reverse.take j ++ [L[q]]) := by
          show _ = _
          rw [hrt]
          congr 3
          exact hq.out.symm
        obtain ⟨x, hx⟩ : ∃ x, x = L[q] := ⟨_, rfl⟩
        rw [← hx] at hc HRT
        have hc2 : wr.cell? ⟨ba, oa + q, none⟩ = some (.string ⟨x.toArray⟩) := hc
        clear hrt hx hc hql
        go_wp2_with (at_builtin; refine wpList_append_own _ rfl (.tmp 25) (.tmp 30) 22 rfl w.heap.size 9 iT (.string ⟨#[]⟩) 1 16 Try.underlying22 hiT hzT hsT hbT rfl (by decide) _ _ _ rfl (hI.out.1.alloc _) ⟨wr.heap.size, 0, none⟩ 1 1 [.string ⟨x.toArray⟩] rfl rfl ?m1 ?m2 ?m3 ?m4 ?m5 ?_)
        case m1 =>
          intro j u hj
          match j, hj with
          | 0, hj => simp at hj; subst hj; simp [Addr.add]
        case m2 => intro u hu; simp at hu; subst hu; rfl
        case m3 => unfold maxLen; omega
        case m4 => omega
        case m5 => have := hI.out.2.size; simp; omega
        intro v' w4 hown' hgrow _
        have HI2 : Hid (w4.ownsRow w.heap.size 9 1 v' (j + 1) (txtsV (L.reverse.take (j + 1))) ∧ Kept (fun _ => False) w w4) := by
          refine ⟨?_, kept_grown (hI.out.2.alloc _) hgrow (fun b hb => .inr (hI.out.1.lt b hb).1)⟩
          rw [HRT.out, txtsV_append]
          exact hown'
        clear hown' hgrow hI hc2
        go_wp2
        go_roundw
        case rel => exact ⟨j + 1, by omega, by first | rfl | (congr 1; omega) | go_num, HI2⟩
        case measure => first | (simp [intOf]; done) | (simp [intOf]; omega)
      · have hjm : j = m := by omega
        subst hjm
        have hqi : (j : Int) - 1 - (j : Int) = -1 := by omega
        rw [hqi]
        have hall : L.reverse.take j = L.reverse := List.take_of_length_le (by rw [List.length_reverse, HLl.out]; exact Nat.le_refl _)
        rw [hall] at hI
        obtain ⟨ad6, c6, rfl, _, hcells⟩ := own_strsB hI.out.1
        obtain ⟨g6, rfl, hc6⟩ := hcells hm0
        have HC6 := Lib.hid hc6
        have HLI := Lib.hid (HCL.out wr hI.out.2)
        clear hall hcells hc6 hlt
        go_wp2_with (at_builtin; refine wpList_append_own _ rfl (.const (.slice none 0 0)) (.tmp 33) 22 rfl wr.heap.size 9 iT (.string ⟨#[]⟩) 1 16 Try.underlying22 hiT hzT hsT hbT rfl (by decide) (.slice none 0 0) 0 [] rfl (World.ownsRow_nil _ _ _ _) ⟨ba, oa, none⟩ j cap (txtsV L) rfl (by rw [txtsV_length, HLl.out]; simp) HLI.out ?n2 ?n3 ?n4 (Nat.le_refl _) ?_)
        case n2 => exact txtsV_one _
        case n3 => unfold maxLen; omega
        case n4 => omega
        intro vA wA hownA hgrA _
        have hKA : Kept (fun _ => False) wr wA := kept_grown (Kept.refl _ wr) hgrA (fun b hb => by cases hb)
        have hg6 := hI.out.1.lt g6 rfl
        have hc6A : ∀ i u, (txtsV L.reverse)[i]? = some u → wA.cell? ((⟨g6, 0, none⟩ : Addr).add i) = some u := fun i u hi => by
          have := HC6.out i u hi
          rw [addM] at this ⊢
          exact (hKA.cell (p := ⟨g6, 0 + i, none⟩) hg6.2 (fun h => h)).trans this
        go_wp2_with (at_builtin; refine wpList_append_own _ rfl (.tmp 34) (.tmp 35) 22 rfl wr.heap.size 9 iT (.string ⟨#[]⟩) 1 16 Try.underlying22 hiT hzT hsT hbT rfl (by decide) vA j (txtsV L) rfl hownA ⟨g6, 0, none⟩ j c6 (txtsV L.reverse) rfl (by rw [txtsV_length, List.length_reverse, HLl.out]; simp) hc6A ?o2 ?o3 ?o4 hKA.size ?_)
        case o2 => exact txtsV_one _
        case o3 => unfold maxLen; omega
        case o4 => omega
        intro vB wB hownB hgrB _
        have hKB : Kept (fun _ => False) wr wB := kept_grown hKA hgrB (fun b hb => .inr (hownA.lt b hb).1)
        rw [← txtsV_append] at hownB
        obtain ⟨adB, cB, rfl, hstB, -⟩ := own_strsB hownB
        have HM1 := Lib.hid (HMk.out wB adB cB _ (.inl rfl) hstB)
        have HKB := Lib.hid hKB
        clear hownA hgrA hKA hc6A hownB hgrB hstB hKB
        go_wp2_with fail
        refine HM1.out.mono ?_
        clear HM1
        rintro e w2 ⟨rfl, hk2⟩
        have hK2 := HKB.out.trans hk2 (fun _ h => h.elim)
        have hrow6 := owns_of_block hI.out.1 (fun b hb => hK2.block b (hI.out.1.lt b hb).2 (fun h => h))
        have hKw2 := hI.out.2.trans hK2 (fun _ h => h.elim)
        have hcL := HCL.out w2 hKw2
        go_wp2_with (at_builtin; refine wpList_append_own _ rfl (.tmp 42) (.tmp 43) 22 rfl w.heap.size 9 iT (.string ⟨#[]⟩) 1 16 Try.underlying22 hiT hzT hsT hbT rfl (by decide) (.slice (some ⟨g6, 0, none⟩) j c6) j (txtsV L.reverse) rfl hrow6 ⟨ba, oa, none⟩ j cap (txtsV L) rfl (by rw [txtsV_length, HLl.out]; simp) hcL ?p2 ?p3 ?p4 hKw2.size ?_)
        case p2 => exact txtsV_one _
        case p3 => unfold maxLen; omega
        case p4 => omega
        intro vC wC hownC hgrC _
        have hKC : Kept (fun _ => False) w wC := kept_grown hKw2 hgrC (fun b hb => .inr (hrow6.lt b hb).1)
        rw [← txtsV_append] at hownC
        obtain ⟨adC, cC, rfl, hstC, -⟩ := own_strsB hownC
        have HM2 := Lib.hid (HMk.out wC adC cC _ (.inr rfl) hstC)
        have HKC := Lib.hid hKC
        clear hownC hgrC hstC hKC hrow6 hKw2 hcL hK2 hk2 hI
        go_wp2_with fail
        refine HM2.out.mono ?_
        clear HM2
        rintro e w3 ⟨rfl, hk3⟩
        have HK := Lib.hid ((HKC.out.trans hk3 (fun _ h => h.elim)).below (B := w.heap.size) (Nat.le_refl _) (fun _ h => h.elim))
        clear hk3 HMk
        by_cases hc : c = 0
        · subst hc
          rw [show errV 38 0 = .nilIface from rfl] at hev
          rw [hev.out]
          clear hev
          go_wp2
          go_quiet (fail)
          go_wp2
          go_ret
          exact ⟨rfl, HK.out.trans (belowN (Below.refl _ _) _)⟩
        · have hv : errV 38 c = .iface 38 (.int .i64 (c : Int)) := by rw [errV, if_neg hc]
          rw [hv] at hev
          rw [hev.out]
          clear hev hv hc
          go_wp2
          go_quiet (fail)
          go_wp2
          go_ret
          exact ⟨rfl, HK.out.trans (belowN (Below.refl _ _) _)⟩

end Go.Proofs.Ytjhninkdpmdpbaa
