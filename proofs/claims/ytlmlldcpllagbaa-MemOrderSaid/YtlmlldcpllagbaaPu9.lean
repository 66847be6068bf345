/- The landed list's Put, walked. -/
import Derived.Test.YtlmlldcpllagbaaPuM
import Derived.StillTailTactics
namespace Go.Proofs.Ytlmlldcpllagbaa
open Go.RowKit Go.Proofs Go.Proofs.Pk
set_option maxRecDepth 10000
attribute [local simp] mk_get wrap64_u8 mk_extract ByteArray.mk_append_mk get_1k

/-- What Put answers and makes. -/
def PutE9 (w : World) (B l : Nat) (E : List Ent) (P : List Nat) (k v : Txt) (ht : Int) (e : Ending) (w' : World) : Prop :=
  e = .returned (.bool (!hasE E k)) ∧ ∃ P', SkRaw w' B l (putE E k v ht) P' ∧ Grows w (blocksS l E P) (blocksS l (putE E k v ht) P') ∧ Kept (blocksS l E P) w w'

set_option maxHeartbeats 4000000 in
theorem ptrO_form (o : Option Nat) : ∃ z, ptrO o = .pointer z := by cases o <;> exact ⟨_, rfl⟩

theorem putP {w : World} {B l : Nat} {E : List Ent} {P : List Nat} (h : SkRaw w B l E P) (hlen : E.length ≤ 1000) (k v : Txt) (ht : Int) (hf : FitH ht) :
    Calls Try.prog 26 #[.pointer (some ⟨l, 0, none⟩), .string ⟨k.toArray⟩, .string ⟨v.toArray⟩, .int .i64 ht] w (PutE9 w B l E P k v ht) := by
  have HB := Lib.hid (beforeP w l E P k h.ok h.read)
  obtain ⟨iL, hiL, hzL⟩ := links_info
  have H := Lib.hid h
  have HB0 : Hid (B ≤ w.heap.size) := Nat.le_of_lt (Nat.lt_of_le_of_lt (h.low 0 (Nat.zero_le _)) (h.lt 0 (Nat.zero_le _)))
  clear h
  go_enter Try.func26, Try.ntmps26
  go_wp2_with fail
  refine HB.out.mono ?_
  rintro e wn ⟨C, rfl, hCl, hCP, hK⟩
  dsimp only
  rename_i KK hKK
  refine hKK _ _ ?_
  clear hKK KK
  have HN := Holds.new wn nilC 68
  obtain ⟨g, hg⟩ : ∃ g, Hid (g = wn.heap.size) := ⟨_, rfl⟩
  have hone := all_oneCell_toArray (path_one hCP hCl)
  have hgw : Hid (w.heap.size ≤ g) := by show _ ≤ _; rw [hg.out]; exact hK.size
  refine wpList_alloc_row rfl 68 rfl iL nilC hiL hzL ?_
  rw [← hg.out] at HN ⊢
  have hK1 := hK.alloc (.cells nilC.toArray 68)
  generalize wn.alloc (.cells nilC.toArray 68) = wa at HN hK1 ⊢
  refine wpList_store_mid rfl 68 (.tmp 9) (.tmp 15) rfl g 0 C.toArray rfl rfl (HN.there 0 _ (by simp [nilC, hCl])) (by rw [links_size]; simp [hCl]) hone ?_
  have HZ := HN.setCells C 0 wa nilC (by simp [nilC, hCl])
  rw [lay_all _ _ (by simp [nilC, hCl])] at HZ
  have hK2 : Kept (fun _ => False) w (wa.setCells g 0 C) := Kept.setCellsN hgw.out C 0 wa hK1
  refine wpList_nil ?_
  change Exit.then _ _ _ _ (wa.setCells g 0 C)
  generalize wa.setCells g 0 C = wz at HZ hK2 ⊢
  have HS := Lib.hid (H.out.still hK2)
  have HK := Lib.hid hK2
  obtain ⟨p', h1, h2, h3⟩ := hCP 0 (Nat.le_refl _) (by omega)
  have e0 := h1.found H.out.ok h2
  subst e0
  have c0 := HZ.cell 0 _ h3
  have c1 := HS.out.lanes 0 (by omega) (atE E k) (atE_le k E) (fun q1 q2 => h1.tall q1 q2)
  rw [link0 H.out] at c1
  have HC := Lib.hid (And.intro hCl hCP)
  have HZ := Lib.hid HZ
  clear h1 h2 h3 hCl hCP hK hK1 hK2 HN hone hiL hzL HB
  cases hh : hasE E k with
  | true =>
    obtain ⟨ha, he⟩ := has_lt hh
    unfold atO at c1
    rw [if_pos ha] at c1
    simp only [ptrO] at c1
    have c2 : wz.cell? ⟨blkP l P (atE E k), 3, none⟩ = some (.pointer (some ⟨blkP l P (atE E k + 1), 0, none⟩)) := c1
    obtain ⟨CN, n1, -, n3, n4, -⟩ := HS.out.node _ ha
    rw [he] at n3
    have ck := n1.cell 0 _ n3
    have cv := n1.cell 1 _ n4
    have cf := n1.free 1
    have HV := Lib.hid (HS.out.value k v hh ht)
    have hP : Hid (blocksS l E P (blkP l P (atE E k + 1))) := ⟨_, ha, rfl⟩
    generalize hb : blkP l P (atE E k + 1) = b at c2 ck cv cf HV hP
    clear n1 n3 n4 c1 hb
    go_wp2
    go_ret
    exact ⟨by rw [hh]; rfl, P, HV.out, fun n ⟨p, hp, e⟩ => .inl ⟨p, by rw [putE_length, if_pos hh] at hp; exact hp, e⟩, (HK.out.mono (fun _ f => f.elim)).setCell (p := ⟨b, 1, none⟩) hP.out _⟩
  | false =>
    have HH := Lib.hid hh
    have hH : ∃ N, Hid (N = clampH ht) := ⟨_, rfl⟩
    obtain ⟨N, hN⟩ := hH
    have hm : min (max ht 1) 12 = (N : Int) := by rw [hN.out]; unfold clampH; omega
    have hN1 : 1 ≤ N ∧ N ≤ 12 := by rw [hN.out]; exact clampH_in ht
    have hway : wz.cell? ⟨blkP l P (atE E k), 3, none⟩ = some (.pointer none) ∨ ∃ b x, wz.cell? ⟨blkP l P (atE E k), 3, none⟩ = some (.pointer (some ⟨b, 0, none⟩)) ∧ wz.cell? ⟨b, 0, none⟩ = some (.string ⟨(x : Txt).toArray⟩) ∧ (x == k) = false := by
      unfold atO at c1
      by_cases ha : atE E k < E.length
      · rw [if_pos ha] at c1
        obtain ⟨CN, n1, -, n3, -⟩ := HS.out.node _ ha
        refine .inr ⟨_, (E[atE E k]).1, c1, n1.cell 0 _ n3, ?_⟩
        unfold hasE at hh
        rw [List.getElem?_eq_getElem ha] at hh
        exact hh
      · rw [if_neg ha] at c1
        exact .inl c1
    clear c1 hh
    rcases hway with c2 | ⟨b, x, c2, ck, hne⟩
    all_goals
      go_wp2
      have HJ : Hid (PutJ w (wz.alloc (.cells #[.string ⟨k.toArray⟩, .string ⟨v.toArray⟩, .int .i64 (N : Int), .pointer none, .pointer none, .pointer none, .pointer none, .pointer none, .pointer none, .pointer none, .pointer none, .pointer none, .pointer none, .pointer none, .pointer none] 70)) l E P (atE E k) wz.heap.size (k, v, N) 0 ∧ Holds (wz.alloc (.cells #[.string ⟨k.toArray⟩, .string ⟨v.toArray⟩, .int .i64 (N : Int), .pointer none, .pointer none, .pointer none, .pointer none, .pointer none, .pointer none, .pointer none, .pointer none, .pointer none, .pointer none, .pointer none, .pointer none] 70)) g C 68) :=
        ⟨PutJ.start HS.out HK.out (atE E k) (k, v, N) [.string ⟨k.toArray⟩, .string ⟨v.toArray⟩, .int .i64 (N : Int), .pointer none, .pointer none, .pointer none, .pointer none, .pointer none, .pointer none, .pointer none, .pointer none, .pointer none, .pointer none, .pointer none, .pointer none] rfl rfl rfl rfl, HZ.out.alloc _⟩
      have HNb : Hid (w.heap.size ≤ wz.heap.size ∧ wz.heap.size ≠ g) := ⟨HK.out.size, by have := HZ.out.lt; omega⟩
      obtain ⟨nb, hnb⟩ : ∃ nb, nb = wz.heap.size := ⟨_, rfl⟩
      obtain ⟨wy, hwy⟩ : ∃ wy, wy = wz.alloc (.cells #[.string ⟨k.toArray⟩, .string ⟨v.toArray⟩, .int .i64 (N : Int), .pointer none, .pointer none, .pointer none, .pointer none, .pointer none, .pointer none, .pointer none, .pointer none, .pointer none, .pointer none, .pointer none, .pointer none] 70) := ⟨_, rfl⟩
      rw [← hwy, ← hnb] at HJ
      rw [← hnb] at HNb
      rw [← hwy, ← hnb]
      clear hwy hnb c0 c2 HS HK HZ hm
      go_loopw [47] (fun i wx => ∃ j : Nat, j ≤ N ∧ i = .int .i64 (j : Int) ∧ Hid (PutJ w wx l E P (atE E k) nb (k, v, N) j ∧ Holds wx g C 68)) (fun i _ => N - (intOf i).toNat)
      case atStart => exact ⟨0, Nat.zero_le _, rfl, HJ⟩
      case round =>
        obtain ⟨j, hj, rfl, hI⟩ := hrel
        clear HJ
        have j0 : (0 : Int) ≤ (j : Int) := by omega
        by_cases hjN : j < N
        · have jN : (j : Int) < (N : Int) := by omega
          have j12 : (j : Int) < 12 := by omega
          have hwj : IntKind.i64.wrap ((j : Int) + 1) = (j : Int) + 1 := IntWalk.i64_in _ (by omega)
          have hj12 : j < 12 := by omega
          obtain ⟨p0, hA, hbare, hCj⟩ := HC.out.2 j (Nat.zero_le _) hj12
          have cg := hI.out.2.cell j _ hCj
          have cb := hI.out.1.todo j (Nat.le_refl _) hj12 p0 (Nat.le_trans hA.le (atE_le k E)) hA.tall
          have hp0 : p0 ≤ E.length := Nat.le_trans hA.le (atE_le k E)
          have fb := hI.out.1.free p0 hp0 (3 + j)
          obtain ⟨u, hu⟩ := hI.out.1.new.there (3 + j) (by omega)
          have fu := hI.out.1.new.free (3 + j)
          have hqn : Hid (nb ≠ blkP l P p0) := fun e => by have := H.out.lt p0 hp0; have := HNb.out.1; omega
          have HJ2 : Hid (PutJ w ((wr.drew.setCell ⟨nb, 3 + j, none⟩ (ptrO (linkE E P p0 j))).setCell ⟨blkP l P p0, 3 + j, none⟩ (.pointer (some ⟨nb, 0, none⟩))) l E P (atE E k) nb (k, v, N) (j + 1)) := PutJ.step H.out hI.out.1.drew HNb.out.1 hjN hj12 hA hbare
          have hqg : Hid (g ≠ blkP l P p0) := fun e => by have := H.out.lt p0 hp0; have := hgw.out; omega
          have cb2 : wr.cell? ⟨blkP l P p0, 3 + j, none⟩ = some (ptrO (linkE E P p0 j)) := cb
          have HG := Lib.hid hI.out.2
          obtain ⟨z, hnx⟩ := ptrO_form (linkE E P p0 j)
          rw [hnx] at HJ2 cb2
          clear cb hA hbare hCj hnx hI
          obtain ⟨q, hq⟩ : ∃ q, q = blkP l P p0 := ⟨_, rfl⟩
          rw [← hq] at HJ2 cb2 cg fb hqn hqg
          clear hq
          go_wp2_with fail
          go_still_tail 13, (by kernel_rfl)
          change wpList _ _ _ _ _ wr.drew
          have hu' : wr.drew.cell? ⟨nb, 3 + j, none⟩ = some u := hu
          have fu' : wr.drew.frozen? ⟨nb, 3 + j, none⟩ = false := fu
          go_upto_region 11 with (fail)
          have cg1 : (wr.setCell ⟨nb, 3 + j, none⟩ (.pointer z)).drew.cell? ⟨g, j, none⟩ = some (.pointer (some ⟨q, 0, none⟩)) := by
            show (wr.setCell ⟨nb, 3 + j, none⟩ (.pointer z)).cell? _ = _
            rw [cell_oth (addr_ne_block HNb.out.2)]; exact cg
          have cq1 : (wr.setCell ⟨nb, 3 + j, none⟩ (.pointer z)).drew.cell? ⟨q, 3 + j, none⟩ = some (.pointer z) := by
            show (wr.setCell ⟨nb, 3 + j, none⟩ (.pointer z)).cell? _ = _
            rw [cell_oth (addr_ne_block hqn.out)]; exact cb2
          have fq1 : (wr.setCell ⟨nb, 3 + j, none⟩ (.pointer z)).drew.frozen? ⟨q, 3 + j, none⟩ = false := by
            rw [← fb]
            exact World.frozen?_of_block (w := wr) (Below.heap_setCell _ _ _ _ (fun e => hqn.out e.symm))
          have HJ3 : Hid (PutJ w ((wr.setCell ⟨nb, 3 + j, none⟩ (.pointer z)).drew.setCell ⟨q, 3 + j, none⟩ (.pointer (some ⟨nb, 0, none⟩))) l E P (atE E k) nb (k, v, N) (j + 1) ∧ Holds ((wr.setCell ⟨nb, 3 + j, none⟩ (.pointer z)).drew.setCell ⟨q, 3 + j, none⟩ (.pointer (some ⟨nb, 0, none⟩))) g C 68) :=
            ⟨HJ2.out, Holds.ne (Holds.drew (Holds.ne HG.out (fun e => HNb.out.2 e.symm) _ _)) hqg.out _ _⟩
          generalize (wr.setCell ⟨nb, 3 + j, none⟩ (.pointer z)).drew = wq at cg1 cq1 fq1 HJ3 ⊢
          clear HJ2 HG cg cb2 fb hu fu hu' fu' hqn hqg
          go_wp2
          go_roundw
          case rel => exact ⟨j + 1, hjN, by first | rfl | go_num, HJ3⟩
          case measure => simp [intOf]; omega
        · have jN : ¬(j : Int) < (N : Int) := by omega
          obtain ⟨CH, hc1, hc2, hc3⟩ := hI.out.1.head
          have cc := hc1.cell 15 _ hc3
          have fc := hc1.free 15
          have hwl : IntKind.i64.wrap ((E.length : Int) + 1) = (E.length : Int) + 1 := IntWalk.i64_in _ (by omega)
          have hJ := hI.out.1
          rw [hN.out] at hJ
          have HF := Lib.hid (PutJ.finish (B := B) H.out (by rw [HH.out]; simp) hJ HNb.out.1 HB0.out (by rw [← hN.out]; omega))
          obtain ⟨M, hM⟩ : ∃ M, Hid (M = E.length) := ⟨_, rfl⟩
          rw [← hM.out] at cc hwl HF
          clear hI hJ hc1 hc2 hc3
          go_wp2
          go_ret
          exact ⟨by rw [HH.out]; rfl, _, HF.out⟩

end Go.Proofs.Ytlmlldcpllagbaa
