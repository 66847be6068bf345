/- The law DiskReads, walked to its end. -/
import Derived.Test.YtgppbbbpekghiaaReadsL
namespace Go.Proofs.Ytgppbbbpekghiaa
open Go.RowKit Go.Proofs Go.Proofs.Pk
set_option maxRecDepth 10000
attribute [local simp] mk_get wrap64_u8 mk_extract ByteArray.mk_append_mk get_1k

def Fit64' (l : List Int) : Prop := ∀ n ∈ l, -9223372036854775808 ≤ n ∧ n ≤ 9223372036854775807

set_option maxHeartbeats 4000000 in
theorem readsW (ad0 : Option Addr) (len0 cap0 : Nat) (ns : List Int) (ad1 : Option Addr) (len1 cap1 : Nat) (ts : List (List UInt8)) (w : World)
    (hi : Ints w ad0 len0 ns) (hf : Fit64' ns) (hs : Strs w ad1 len1 ts) (_hb : (len1 : Int) ≤ 140737488351232 ∧ ∀ s ∈ ts, s.length ≤ 140737488351232) :
    Calls Try.prog 6 #[.slice ad0 len0 cap0, .slice ad1 len1 cap1] w fun e w' => e = .returned (.bool true) ∧ Below w.heap.size w w' := by
  have HI := Lib.hid (And.intro hi hf)
  have HS := Lib.hid (And.intro hs _hb.2)
  clear hi hf hs _hb
  go_enter Try.func6, Try.ntmps6
  go_wp2_with fail
  refine (examples_any _).mono ?_
  rintro e w1 ⟨rfl, b1⟩
  go_wp2_with fail
  refine (aNw (w0 := w1) 8 (by decide) (by decide) (Below.refl _ _)).mono ?_
  rintro e w2 ⟨p, X, rfl, h⟩
  have hm := made8 w2
  have HN := Holds.new w2 ((List.replicate 8 ([] : List UInt8)).map strV) 9
  have h2 := h.below (w' := w2.alloc (.cells ((List.replicate 8 ([] : List UInt8)).map strV).toArray 9)) ((Below.refl _ _).alloc (Nat.le_refl _) _)
  obtain ⟨gw, hgw⟩ : ∃ gw, Hid (gw = w2.heap.size) := ⟨_, rfl⟩
  have hoff : ¬X gw := fun hx => by have := (h.lt gw hx).2; have := hgw.out; omega
  have hbase : w1.heap.size ≤ gw := by have := h.size; have := hgw.out; omega
  rw [← hgw.out] at hm HN
  generalize w2.alloc (.cells ((List.replicate 8 ([] : List UInt8)).map strV).toArray 9) = w3 at hm HN h2
  have HR : Hid (∃ W L C n X, RS w1.heap.size w1 w3 p gw W 0 8 L C n X) := by
    refine ⟨List.replicate 8 [], List.replicate 8 (List.replicate 64 0), [], 0, X, h2, HN, hoff, hbase, ⟨by simp, by simp⟩, ⟨by simp, by simp⟩, ?_, by simp⟩
    intro k hk
    unfold readL
    rw [lastW_nil]
    simp only [Option.getD_none, List.getD]
    rw [List.getElem?_replicate, List.getElem?_replicate, if_pos hk, if_pos hk]
    rfl
  clear h HN h2 hoff hbase
  have B1 := Lib.hid b1
  clear b1
  go_wp2_with fail
  clear hm
  go_loopw [9] (fun i wr => ∃ j : Nat, j ≤ 100 ∧ i = .int .i64 j ∧ Hid (∃ W L C n X, RS w1.heap.size w1 wr p gw W j 8 L C n X)) (fun i _ => 100 - (intOf i).toNat)
  case atStart => exact ⟨0, Nat.zero_le _, rfl, HR⟩
  case round =>
    obtain ⟨j, hj, rfl, hr⟩ := hrel
    have hbr : Below w.heap.size w wr := by obtain ⟨W, L, C, n, X, h⟩ := hr.out; exact belowT B1.out h.al.bel
    have HB := Lib.hid hbr
    clear hbr
    by_cases h0 : (j : Int) < len0
    · by_cases h1 : (j : Int) < len1
      · by_cases h100 : (j : Int) < 100
        · obtain ⟨b0, o0, ha0, hb0, c0⟩ := ints_cell HI.out.1 j (by omega)
          obtain ⟨b2, o2, ha2, hb2, c2⟩ := strs_cell HS.out.1 j (by omega)
          subst ha0 ha2
          rw [← HB.out.cell (p := ⟨b0, o0 + j, none⟩) hb0] at c0
          rw [← HB.out.cell (p := ⟨b2, o2 + j, none⟩) hb2] at c2
          obtain ⟨x, hx⟩ : ∃ x, x = ns[j]'(by rw [HI.out.1.1]; omega) := ⟨_, rfl⟩
          have hx64 : -9223372036854775808 ≤ x ∧ x ≤ 9223372036854775807 := by rw [hx]; exact HI.out.2 _ (List.getElem_mem _)
          obtain ⟨t, ht⟩ : ∃ t, t = ts[j]'(by rw [HS.out.1.1]; omega) := ⟨_, rfl⟩
          rw [← hx] at c0
          rw [← ht] at c2
          have htl : (t.length : Int) ≤ 140737488351232 := by rw [ht]; have := HS.out.2 _ (List.getElem_mem (l := ts) (n := j) (by rw [HS.out.1.1]; omega)); omega
          clear hx ht hb0 hb2
          have hj0 : (0 : Int) ≤ (j : Int) := Int.natCast_nonneg _
          go_wp2_with fail
          refine (pick_any x 8 _ hx64 (by decide) (by decide)).mono ?_
          rintro e w4 ⟨rfl, rfl⟩
          have hk8 := pkN_lt x 8 (by decide)
          generalize pkN x 8 = k at hk8 ⊢
          clear c0 hx64
          go_upto_region 10 with (fail)
          go_cut [11] from 44 to 54 (fun s11 wx => s11 = .string ⟨(t.take 64).toArray⟩ ∧ wx = wr.drew)
          case first =>
            by_cases hl : t.length ≤ 64
            · have HT := Lib.hid (List.take_of_length_le hl)
              have hl' : (t.length : Int) ≤ 64 := by omega
              have hl0 : (0 : Int) ≤ (t.length : Int) := Int.natCast_nonneg _
              have hl5 : ¬64 < (t.length : Int) := by omega
              clear hl
              go_still (by kernel_rfl)
              go_wp2
              go_meet
              case rel => exact ⟨by rw [HT.out]; try simp, rfl⟩
            · have hl' : ¬(t.length : Int) ≤ 64 := by omega
              have hl2 : 64 < (t.length : Int) := by omega
              have hl3 : (64 : Int) ≤ (t.length : Int) := by omega
              have hl4 : 64 ≤ t.length := by omega
              go_still (by kernel_rfl)
              go_wp2
              go_meet
              case rel => exact ⟨rfl, rfl⟩
          case rest =>
            obtain ⟨rfl, hwx⟩ := hcut
            have ht64 : (t.take 64).length ≤ 64 := by rw [List.length_take]; omega
            have HR2 : Hid (∃ W L C n X, RS w1.heap.size w1 wc p gw W j 8 L C n X) := by
              obtain ⟨W, L, C, n, X, h⟩ := hr.out
              rw [hwx]; exact ⟨W, L, C, n, X, h.below ((Below.refl _ _).drew)⟩
            generalize t.take 64 = u at ht64 ⊢
            clear hr hwx htl c2
            obtain ⟨W, L, C, n, X, hR⟩ := HR2.out
            have HRS := Lib.hid hR
            clear HR2 hR
            go_upto_region 11 with (fail)
            go_cut [69] from 55 to 68 (fun s69 wx => s69 = .bool false ∧ Hid (∃ L' C' n' X', Al w1.heap.size w1 wx p ⟨L', C', -1, false, n'⟩ X' ∧ Holds wx gw (W.map strV) 9 ∧ ¬X' gw ∧ (L' = L ∧ C' = C ++ [(k, padL u)] ∨ L' = syncL L (C ++ [(k, padL u)]) ∧ C' = []) ∧ n' = n + 1))
            case first =>
              go_wp2_with fail
              refine (rs_wr HRS.out k hk8 u ht64 (by omega)).mono ?_
              rintro e w4 ⟨rfl, X4, h4, hw4, ho4⟩
              obtain ⟨r, hr3⟩ : ∃ r, r = j % 3 := ⟨_, rfl⟩
              have htm : (j : Int).tmod 3 = (r : Int) := by rw [Int.tmod_eq_emod_of_nonneg (by omega), hr3]; rfl
              have hwr : IntKind.i64.wrap (r : Int) = (r : Int) := IntWalk.i64_in _ (by omega)
              clear hr3
              by_cases h3 : r = 0
              · subst h3
                go_wp2_with fail
                refine (rs_sy h4 hw4 ho4).mono ?_
                rintro e w5 ⟨rfl, X5, h5, hw5, ho5⟩
                have HF : Hid (∃ L' C' n' X', Al w1.heap.size w1 w5 p ⟨L', C', -1, false, n'⟩ X' ∧ Holds w5 gw (W.map strV) 9 ∧ ¬X' gw ∧ (L' = L ∧ C' = C ++ [(k, padL u)] ∨ L' = syncL L (C ++ [(k, padL u)]) ∧ C' = []) ∧ n' = n + 1) := ⟨_, _, _, X5, h5, hw5, ho5, .inr ⟨rfl, rfl⟩, rfl⟩
                clear h4 hw4 ho4 h5 hw5 ho5
                go_wp2
                go_meet
                case rel => exact ⟨rfl, HF⟩
              · have hne : ((r : Int) == 0) = false := by rw [beq_eq_false_iff_ne]; omega
                have HF : Hid (∃ L' C' n' X', Al w1.heap.size w1 w4 p ⟨L', C', -1, false, n'⟩ X' ∧ Holds w4 gw (W.map strV) 9 ∧ ¬X' gw ∧ (L' = L ∧ C' = C ++ [(k, padL u)] ∨ L' = syncL L (C ++ [(k, padL u)]) ∧ C' = []) ∧ n' = n + 1) := ⟨_, _, _, X4, h4, hw4, ho4, .inl ⟨rfl, rfl⟩, rfl⟩
                clear h4 hw4 ho4
                go_wp2
                go_meet
                case rel => exact ⟨rfl, HF⟩
            case rest =>
              obtain ⟨rfl, hcc⟩ := hcut
              obtain ⟨L', C', n', X', h4, hw4, ho4, hLC, hn'⟩ := hcc.out
              have hWl : k < W.length := by have := HRS.out.len.2; omega
              have cw := hw4.cell k (strV W[k]) (by simp [hWl])
              have fw := hw4.free k
              have HN := Lib.hid (HRS.out.next k hk8 u ht64 h4 hw4 ho4 hLC hn')
              have hk0 : (0 : Int) ≤ (k : Int) := Int.natCast_nonneg _
              have hk8' : (k : Int) < 8 := by omega
              obtain ⟨ow, how⟩ : ∃ ow, ow = W[k] := ⟨_, rfl⟩
              rw [← how] at cw
              have cw' : wc.cell? ⟨gw, k, none⟩ = some (.string ⟨ow.toArray⟩) := cw
              clear hcc h4 hw4 ho4 hLC hn' how cw
              go_wp2_with fail
              clear cw' fw HB
              generalize wc.setCell ⟨gw, k, none⟩ (.string ⟨u.toArray⟩) = wy at HN ⊢
              generalize W.set k u = V at HN
              clear HRS hWl
              go_loopw [12] (fun i wr => ∃ m : Nat, m ≤ 8 ∧ i = .int .i64 m ∧ Hid (RS w1.heap.size w1 wr p gw V (j + 1) 8 L' C' n' X')) (fun i _ => 8 - (intOf i).toNat)
              case atStart => exact ⟨0, Nat.zero_le _, rfl, HN⟩
              case round =>
                obtain ⟨m, hm8, rfl, hm⟩ := hrel
                by_cases hlt : (m : Int) < 8
                · have hmm : m < 8 := by omega
                  have hwm : IntKind.i64.wrap ((m : Int) + 1) = ((m + 1 : Nat) : Int) := by rw [IntWalk.i64_in _ (by omega)]; omega
                  have hm0 : (0 : Int) ≤ (m : Int) := Int.natCast_nonneg _
                  go_wp2_with fail
                  refine (rs_rd hm.out m hmm).mono ?_
                  rintro e w5 ⟨rfl, h5⟩
                  have cv := h5.want.cell m (strV (V.getD m [])) (by
                    have := h5.len.2
                    simp [List.getD, show m < V.length by omega])
                  have hv64 : (V.getD m []).length ≤ 64 := by
                    rw [sec_in V [] (by have := h5.len.2; omega)]; exact h5.short _ (List.getElem_mem _)
                  obtain ⟨v, hv⟩ : ∃ v, v = V.getD m [] := ⟨_, rfl⟩
                  rw [← hv] at cv hv64 ⊢
                  have cv' : w5.cell? ⟨gw, m, none⟩ = some (.string ⟨v.toArray⟩) := cv
                  have H5 := Lib.hid h5
                  clear cv hv h5
                  go_wp2_with fail
                  refine (padded_any v hv64 _).mono ?_
                  rintro e w6 ⟨rfl, b6⟩
                  have H6 := Lib.hid (H5.out.below b6)
                  clear b6 cv' hv64
                  generalize padL v = pv
                  go_wp2
                  go_roundw
                  case rel => exact ⟨m + 1, by omega, by first | rfl | go_num, H6⟩
                  case measure => simp [intOf]; omega
                · obtain rfl : m = 8 := by omega
                  have HF : Hid (∃ W L C n X, RS w1.heap.size w1 wr p gw W (j + 1) 8 L C n X) := ⟨V, L', C', n', X', hm.out⟩
                  have hwj : IntKind.i64.wrap ((j : Int) + 1) = ((j + 1 : Nat) : Int) := by rw [IntWalk.i64_in _ (by omega)]; omega
                  clear hm
                  go_wp2
                  go_roundw
                  case rel => exact ⟨j + 1, by omega, by first | rfl | go_num, HF⟩
                  case measure => simp [intOf]; omega
        · go_wp2
          all_goals
            go_ret
            exact ⟨rfl, HB.out⟩
      · go_wp2
        all_goals
          go_ret
          exact ⟨rfl, HB.out⟩
    · go_wp2
      all_goals
        go_ret
        exact ⟨rfl, HB.out⟩

end Go.Proofs.Ytgppbbbpekghiaa
