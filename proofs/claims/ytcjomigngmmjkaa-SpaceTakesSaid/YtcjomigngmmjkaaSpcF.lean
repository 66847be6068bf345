/- The reference of layer 5: Free. -/
import Derived.Test.YtcjomigngmmjkaaSpcR
import Derived.Test.YtcjomigngmmjkaaAppend
import Derived.Laws.IdiomStrings
import Derived.Laws.OwnMore
import Derived.Deep.AppendLies
namespace Go.Proofs.Ytcjomigngmmjkaa
open Go.RowKit Go.Proofs Go.Proofs.Pk
set_option maxRecDepth 10000
attribute [local simp] mk_get wrap64_u8 mk_extract ByteArray.mk_append_mk get_1k

def runN (r : Nat × Nat) : List Value := [.int .i64 (r.1 : Int), .int .i64 (r.2 : Int)]
def flatR (l : List (Nat × Nat)) : List Value := l.flatMap runN
def FR (w : World) (o : Option (List (Nat × Nat))) (e : Ending) (w' : World) : Prop :=
  Below w.heap.size w w' ∧ match o with
    | none => e = .returned (.tuple #[.slice none 0 0, .bool false])
    | some l => ∃ v, e = .returned (.tuple #[v, .bool true]) ∧ w'.ownsRow w.heap.size 32 2 v l.length (flatR l)

theorem add0 (q j : Nat) : Addr.add ⟨q, 0, none⟩ j = ⟨q, j, none⟩ := by simp [Addr.add]; exact fun h => h.symm
theorem owns_len {w : World} {B : Nat} {e : TypeId} {size : Nat} {v : Value} {n m : Nat} {xs ys : List Value} (h : w.ownsRow B e size v n xs) (hn : n = m) (hx : xs = ys) : w.ownsRow B e size v m ys := by subst hn hx; exact h
theorem own_low {w : World} {B : Nat} {e : TypeId} {size : Nat} {v : Value} {n : Nat} {xs : List Value} (h : w.ownsRow B e size v n xs) (k : Nat) (hk : v.ownBlock = some k) : B ≤ k := by
  rcases h.2 with ⟨rfl, _⟩ | ⟨g, cap, cur, rfl, h1, _⟩
  · cases hk
  · have := Option.some.inj hk; simp only at this; omega
set_option maxHeartbeats 1000000 in
theorem rFree (total : Int) (ad : Option Addr) (len cap : Nat) (l : List (Int × Int)) (w : World) (ht : Fit total) (h : Runs w ad len l) :
    Calls Try.prog 8 #[.int .i64 total, .slice ad len cap] w (FR w ((takenO total l).map freeL)) := by
  obtain ⟨iR, hiR, hzR, hsR, hbR⟩ := info_parts run_info
  have HT := Lib.hid (rTaken total ad len cap l w ht h)
  have hlen : ∀ t, takenO total l = some t → (t.length : Int) = total ∧ total ≤ 4000 := by
    intro t h
    unfold takenO at h
    split at h
    · cases h
    · rename_i hb
      obtain ⟨N, rfl⟩ := Int.eq_ofNat_of_zero_le (show 0 ≤ total by omega)
      rw [Int.toNat_natCast] at h
      have := (takeAll_some l N _ t (by simp) h).2.2.2.1
      omega
  clear ht h
  generalize takenO total l = o at *
  cases o with
  | none =>
    clear hlen
    go_enter Try.func8, Try.ntmps8
    go_wp2_with fail
    refine HT.out.mono ?_
    rintro e w2 ⟨hb, rfl⟩
    go_wp2
    go_ret2
    exact ⟨hb, rfl⟩
  | some t =>
    obtain ⟨htl, ht4⟩ := hlen t rfl
    clear hlen
    obtain ⟨N, hN⟩ : ∃ N, N = t.length := ⟨_, rfl⟩
    obtain rfl : total = (N : Int) := by omega
    have HL := Lib.hid hN
    clear htl hN
    go_enter Try.func8, Try.ntmps8
    go_wp2_with fail
    refine HT.out.mono ?_
    rintro e w2 ⟨hb, g, rfl, hH, hg⟩
    rw [← HL.out]
    clear HT
    go_wp2
    have HR := Lib.hid hH
    have HBB := Lib.hid hb
    clear hH hb
    obtain ⟨wq, hwq⟩ : ∃ wq, wq = w2 := ⟨_, rfl⟩
    have hg2 : g < w2.heap.size := HR.out.lt
    have HGg : Hid (g < w2.heap.size) := hg2
    clear hg2
    rw [← hwq]
    have HS : Hid (Below w2.heap.size w2 wq) := by rw [hwq]; exact Below.refl _ _
    clear hwq
    go_loopw [8, 9] (fun v i wr => ∃ k : Nat, k ≤ N ∧ i = .int .i64 k ∧ Hid (wr.ownsRow w2.heap.size 32 2 v (freeL (t.take k)).length (flatR (freeL (t.take k)))) ∧ Hid (Below w2.heap.size w2 wr)) (fun _ i _ => N - (intOf i).toNat)
    case atStart => exact ⟨0, Nat.zero_le _, rfl, World.ownsRow_nil _ _ _ _, HS⟩
    case round =>
      obtain ⟨k, hk, rfl, ho, hb⟩ := hrel
      by_cases hlt : (k : Int) < N
      · have hkN : k < N := by omega
        have hkt : k < t.length := by have := HL.out; omega
        obtain ⟨b0, hb0⟩ : ∃ b0, b0 = t[k] := ⟨_, rfl⟩
        have HT1 : Hid (t.take (k + 1) = t.take k ++ [b0]) := by show _ = _; rw [List.take_succ_eq_append_getElem hkt, hb0]
        have hHr : Holds wr g (t.map Value.bool) 4 := HR.out.of_block (hb.out.block g HGg.out)
        have hck : wr.cell? ⟨g, k, none⟩ = some (.bool b0) := hHr.cell k _ (by rw [List.getElem?_map, List.getElem?_eq_getElem hkt, hb0]; rfl)
        have hk0 : (0 : Int) ≤ (k : Int) := Int.natCast_nonneg _
        have hkN2 : (k : Int) < (N : Int) := hlt
        cases b0 with
        | true =>
          have HN : Hid (freeL (t.take (k + 1)) = freeL (t.take k)) := by show _ = _; rw [HT1.out, freeL_true]
          clear hb0 HT1 hHr
          go_wp2
          go_roundw
          case rel => exact ⟨k + 1, by omega, by go_num, by rw [HN.out]; exact ho, hb⟩
          case measure => simp [intOf]; omega
        | false =>
          have hmath : fin false (t.take k) = false → Hid (freeL (t.take (k + 1)) = freeL (t.take k) ++ [(k, 1)]) := fun h => by
            show _ = _; rw [HT1.out, freeL_new _ h, List.length_take, Nat.min_eq_left (by omega)]
          have hmath2 : fin false (t.take k) = true → Hid (∃ L r, freeL (t.take k) = L ++ [r] ∧ freeL (t.take (k + 1)) = L ++ [(r.1, r.2 + 1)]) := fun h => by
            show ∃ _ _, _; rw [HT1.out]; exact freeL_more _ h
          have hcnt : Hid ((freeL (t.take k)).length ≤ 4000 ∧ ∀ r ∈ freeL (t.take k), r.1 ≤ 4000 ∧ r.2 ≤ 4000) := by
            have h1 := freeL_length (t.take k)
            have h2 := freeL_in (t.take k)
            have h3 : (t.take k).length ≤ 4000 := by rw [List.length_take]; omega
            exact ⟨by omega, fun r hr => by have := h2 r hr; omega⟩
          by_cases hfin : fin false (t.take k) = true
          · have HM := hmath2 hfin
            have hk1 : 0 < k := by
              rcases Nat.eq_zero_or_pos k with h | h
              · rw [h] at hfin; cases hfin
              · exact h
            obtain ⟨m, rfl⟩ : ∃ m, k = m + 1 := ⟨k - 1, by omega⟩
            have hcp : wr.cell? ⟨g, m, none⟩ = some (.bool false) := by
              have := fin_take t m (by omega)
              rw [this] at hfin
              refine hHr.cell _ _ ?_
              rw [List.getElem?_map, List.getElem?_eq_getElem (by omega)]
              simpa using hfin
            obtain ⟨L, r, hL1, hL2⟩ := HM.out
            rw [hL1] at ho hcnt
            obtain ⟨c1, c2⟩ := hcnt.out
            have c3 := c2 r (by simp)
            obtain ⟨r1, r2⟩ := r
            have hLe : (L ++ [(r1, r2)]).length = L.length + 1 := by simp
            rw [hLe] at ho c1
            obtain ⟨gv, cap', hv, hgl, _⟩ := ho.form (by omega)
            subst hv
            have hfl : flatR (L ++ [(r1, r2)]) = flatR L ++ runN (r1, r2) := by simp [flatR]
            have hfll : (flatR L).length = L.length * 2 := by
              clear hL1 hL2 ho hcnt c1 c2 hLe hfl
              induction L with
              | nil => rfl
              | cons x L ih => simp only [flatR, List.flatMap_cons, List.length_append, List.length_cons] at *; simp only [runN, List.length_cons, List.length_nil]; omega
            have d1 : wr.cell? ⟨gv, L.length * 2 + 1, none⟩ = some (.int .i64 (r2 : Int)) := by
              rw [ho.cellAt _ (by omega), hfl, List.getElem?_append_right (by omega), hfll, Nat.add_sub_cancel_left]; rfl
            have df := ho.frozenAt (L.length * 2 + 1)
            have hst := (ho.stored (L.length * 2 + 1) (.int .i64 ((r2 + 1 : Nat) : Int))).1
            have hset : (flatR (L ++ [(r1, r2)])).set (L.length * 2 + 1) (.int .i64 ((r2 + 1 : Nat) : Int)) = flatR (L ++ [(r1, r2 + 1)]) := by
              rw [hfl, List.set_append_right _ _ (by omega), hfll, Nat.add_sub_cancel_left]; simp [flatR, runN]
            have HB2 : Hid (Below w2.heap.size w2 (wr.setCell ⟨gv, L.length * 2 + 1, none⟩ (.int .i64 ((r2 + 1 : Nat) : Int)))) := hb.out.setCell (p := ⟨gv, L.length * 2 + 1, none⟩) hgl _
            have HO2 : Hid ((wr.setCell ⟨gv, L.length * 2 + 1, none⟩ (.int .i64 ((r2 + 1 : Nat) : Int))).ownsRow w2.heap.size 32 2 (.slice (some ⟨gv, 0, none⟩) (L.length + 1) cap') (freeL (t.take (m + 1 + 1))).length (flatR (freeL (t.take (m + 1 + 1))))) := by
              show World.ownsRow _ _ _ _ _ _ _
              rw [hL2, ← hset]
              refine owns_len hst (by simp) rfl
            obtain ⟨n, hn⟩ : ∃ n, n = L.length := ⟨_, rfl⟩
            rw [← hn] at d1 df HB2 HO2 c1 ⊢
            have e1 : decide (((m + 1 : Nat) : Int) > 0) = true := by rw [decide_eq_true_eq]; omega
            have hw8 : IntKind.i64.wrap (((m + 1 : Nat) : Int) - 1) = (m : Int) := by rw [IntWalk.i64_in _ (by omega)]; omega
            have hw9 : IntKind.i64.wrap (((n + 1 : Nat) : Int) - 1) = (n : Int) := by rw [IntWalk.i64_in _ (by omega)]; omega
            have hw10 : IntKind.i64.wrap ((r2 : Int) + 1) = ((r2 + 1 : Nat) : Int) := by rw [IntWalk.i64_in _ (by omega)]; omega
            have hm0 : (0 : Int) ≤ (m : Int) := Int.natCast_nonneg _
            have hmN : (m : Int) < (N : Int) := by omega
            have hn0 : (0 : Int) ≤ (n : Int) := Int.natCast_nonneg _
            have hnN : (n : Int) < ((n + 1 : Nat) : Int) := by omega
            clear hmath hmath2 hfin HT1 hb0 hHr HM hL1 hL2 ho hcnt c2 hLe hfl hfll hst hset hn hb
            go_wp2
            go_roundw
            case rel => exact ⟨m + 1 + 1, by omega, by go_num, HO2, HB2⟩
            case measure => simp [intOf]; omega
          · have HM := hmath (by simpa using hfin)
            have hprev : k = 0 ∨ 0 < k ∧ wr.cell? ⟨g, k - 1, none⟩ = some (.bool true) := by
              rcases Nat.eq_zero_or_pos k with h | h
              · exact .inl h
              · refine .inr ⟨h, ?_⟩
                obtain ⟨m, rfl⟩ : ∃ m, k = m + 1 := ⟨k - 1, by omega⟩
                have := fin_take t m (by omega)
                rw [this] at hfin
                refine hHr.cell _ _ ?_
                rw [List.getElem?_map, Nat.add_sub_cancel, List.getElem?_eq_getElem (by omega)]
                simpa using hfin
            clear hmath hmath2 hfin HT1 hb0 hHr
            obtain ⟨F, hF⟩ : ∃ F, Hid (F = freeL (t.take k)) := ⟨_, rfl⟩
            rw [← hF.out] at ho HM hcnt
            clear hF
            have hFl := hcnt.out.1
            rcases hprev with h0 | ⟨hk1, hcp⟩
            · subst h0
              go_upto_region 8 with (fail)
              refine wp_region_lit ?_
              iterate 3
                refine wpList_plain rfl fun K hK => ?_
                go_simp
                refine hK _ _ ?_
                clear hK K
              have HQ := Holds.new wr (runN (0, 1)) 32
              have HBd := hb.out.alloc hb.out.size (.cells (runN (0, 1)).toArray 32)
              have HOw := ho.out.alloc (.cells (runN (0, 1)).toArray 32)
              obtain ⟨q, hq⟩ : ∃ q, Hid (q = wr.heap.size) := ⟨_, rfl⟩
              refine wpList_buildSlice_row rfl 22 32 (.tmp 25) rfl iR _ (runN (0, 1)) Try.underlying22 hiR hzR (by rw [hsR]; rfl) (by simp [runN]) (by simp [runN]) (by rfl) ?_
              rw [← hq.out] at HQ ⊢
              generalize wr.alloc (.cells (runN (0, 1)).toArray 32) = wd at HQ HBd HOw ⊢
              refine wpList_append_at wd rfl (.tmp 23) (.tmp 26) 22 rfl w2.heap.size 32 iR _ 2 16 Try.underlying22 hiR hzR hsR hbR (by rfl) (by omega) _ F.length (flatR F) (by rfl) HOw
                ⟨q, 0, none⟩ 1 1 (runN (0, 1)) (by rfl) (by simp [runN]) (fun j u hj => by rw [add0]; exact HQ.cell j u hj) (by simp [runN, Value.oneCell']) (by unfold maxLen; omega) (by omega) HBd.size (by omega) ?_
              intro v' we ho2 hgr _
              have HB2 : Hid (Below w2.heap.size w2 we) := HBd.grown hgr HBd.size (own_low HOw)
              have HO2 : Hid (we.ownsRow w2.heap.size 32 2 v' (freeL (t.take (0 + 1))).length (flatR (freeL (t.take (0 + 1))))) := by
                show World.ownsRow _ _ _ _ _ _ _
                rw [HM.out]; exact owns_len ho2 (by simp) (by simp [flatR])
              clear ho2 hgr HQ HBd HOw ho hb
              go_wp2
              go_roundw
              case rel => exact ⟨0 + 1, by omega, by go_num, HO2, HB2⟩
              case measure => simp [intOf]; omega
            · have e1 : decide ((k : Int) > 0) = true := by rw [decide_eq_true_eq]; omega
              obtain ⟨m, rfl⟩ : ∃ m, k = m + 1 := ⟨k - 1, by omega⟩
              rw [Nat.add_sub_cancel] at hcp
              have hw8 : IntKind.i64.wrap (((m + 1 : Nat) : Int) - 1) = (m : Int) := by rw [IntWalk.i64_in _ (by omega)]; omega
              have hm0 : (0 : Int) ≤ (m : Int) := Int.natCast_nonneg _
              have hmN : (m : Int) < (N : Int) := by omega
              go_upto_region 8 with (fail)
              refine wp_region_lit ?_
              iterate 3
                refine wpList_plain rfl fun K hK => ?_
                go_simp
                refine hK _ _ ?_
                clear hK K
              have HQ := Holds.new wr (runN (m + 1, 1)) 32
              have HBd := hb.out.alloc hb.out.size (.cells (runN (m + 1, 1)).toArray 32)
              have HOw := ho.out.alloc (.cells (runN (m + 1, 1)).toArray 32)
              obtain ⟨q, hq⟩ : ∃ q, Hid (q = wr.heap.size) := ⟨_, rfl⟩
              refine wpList_buildSlice_row rfl 22 32 (.tmp 25) rfl iR _ (runN (m + 1, 1)) Try.underlying22 hiR hzR (by rw [hsR]; rfl) (by simp [runN]) (by simp [runN]) (by rfl) ?_
              rw [← hq.out] at HQ ⊢
              generalize wr.alloc (.cells (runN (m + 1, 1)).toArray 32) = wd at HQ HBd HOw ⊢
              refine wpList_append_at wd rfl (.tmp 23) (.tmp 26) 22 rfl w2.heap.size 32 iR _ 2 16 Try.underlying22 hiR hzR hsR hbR (by rfl) (by omega) _ F.length (flatR F) (by rfl) HOw
                ⟨q, 0, none⟩ 1 1 (runN (m + 1, 1)) (by rfl) (by simp [runN]) (fun j u hj => by rw [add0]; exact HQ.cell j u hj) (by simp [runN, Value.oneCell']) (by unfold maxLen; omega) (by omega) HBd.size (by omega) ?_
              intro v' we ho2 hgr _
              have HB2 : Hid (Below w2.heap.size w2 we) := HBd.grown hgr HBd.size (own_low HOw)
              have HO2 : Hid (we.ownsRow w2.heap.size 32 2 v' (freeL (t.take (m + 1 + 1))).length (flatR (freeL (t.take (m + 1 + 1))))) := by
                show World.ownsRow _ _ _ _ _ _ _
                rw [HM.out]; exact owns_len ho2 (by simp) (by simp [flatR])
              clear ho2 hgr HQ HBd HOw ho hb
              go_wp2
              go_roundw
              case rel => exact ⟨m + 1 + 1, by omega, by go_num, HO2, HB2⟩
              case measure => simp [intOf]; omega
      · obtain rfl : k = N := by omega
        have HE : Hid (freeL (t.take k) = freeL t) := by show _ = _; rw [HL.out, List.take_length]
        clear hlt
        go_wp2
        go_ret2
        refine ⟨HBB.out.trans (hb.out.mono HBB.out.size), _, by rfl, ?_⟩
        have := ho.out
        rw [HE.out] at this
        exact owns_base this HBB.out.size

end Go.Proofs.Ytcjomigngmmjkaa
