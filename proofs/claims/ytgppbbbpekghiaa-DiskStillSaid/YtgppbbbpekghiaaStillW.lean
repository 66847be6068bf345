/- The law DiskStill, walked to its end. -/
import Derived.Test.YtgppbbbpekghiaaReadsW
namespace Go.Proofs.Ytgppbbbpekghiaa
open Go.RowKit Go.Proofs Go.Proofs.Pk
set_option maxRecDepth 10000
attribute [local simp] mk_get wrap64_u8 mk_extract ByteArray.mk_append_mk get_1k

theorem crashL_nil (ks : List Int) (t b : Int) (L : List (List UInt8)) : crashL ks t b L 0 [] = L := rfl

/-- An empty cache; the texts that were read. -/
structure WS (B : Nat) (w0 w : World) (p : Nat) (L : List (List UInt8)) (n : Nat) (X : Nat → Prop) (v : Value) (m : Nat) : Prop where
  al : Al B w0 w p ⟨L, [], -1, false, n⟩ X
  own : w.ownsRow B 9 1 v m ((L.take m).map strV)
  off : ∀ b, v.ownBlock = some b → ¬X b
section
variable {B p n m : Nat} {w0 w : World} {L : List (List UInt8)} {X : Nat → Prop} {v : Value}
theorem WS.still (h : WS B w0 w p L n X v m) {w' : World} (hk : Kept (fun _ => False) w w') : WS B w0 w' p L n X v m :=
  ⟨h.al.still hk, owns_of_block h.own fun g hg => hk.block g (h.own.lt g hg).2 (fun hf => hf), h.off⟩
theorem WS.below (h : WS B w0 w p L n X v m) {w' : World} (hb : Below w.heap.size w w') : WS B w0 w' p L n X v m := h.still (Kept.of_below _ hb)
theorem ws_rd (h : WS B w0 w p L n X v m) (k : Nat) (hk : k < L.length) :
    Calls Try.prog 22 #[.pointer (some ⟨p, 0, none⟩), .int .i64 (k : Int)] w fun e w' => e = .returned (.tuple #[.string ⟨(L.getD k []).toArray⟩, .nilIface]) ∧ WS B w0 w' p L n X v m := by
  refine (aRd h.al k).mono fun e w' ⟨he, h', hkp⟩ => ⟨?_, h.still hkp⟩
  rw [he, Dsk.read_ok (S := ⟨L, [], -1, false, n⟩) rfl k hk, sec_in L [] hk]
  rfl
theorem ws_cr (h : WS B w0 w p L n X v m) (kad : Option Addr) (klen kcap : Nat) (ks : List Int) (torn bytes : Int) (hks : Ints w kad klen ks ∧ (ks = [] ∨ IntsOff X kad)) :
    Calls Try.prog 20 #[.pointer (some ⟨p, 0, none⟩), .slice kad klen kcap, .int .i64 torn, .int .i64 bytes] w fun e w' => e = .returned (.tuple #[]) ∧ ∃ X', WS B w0 w' p L n X' v m := by
  refine (aCr h.al kad klen kcap ks torn bytes hks.1 hks.2).mono fun e w' ⟨he, ⟨X', h', hg⟩, hkp⟩ => ⟨he, X', h', ?_, ?_⟩
  · exact owns_of_block h.own fun g hg => hkp.block g (h.own.lt g hg).2 (h.off g hg)
  · intro b hb hx
    exact (hg b hx).elim (h.off b hb) (fun hs => by have := (h.own.lt b hb).2; omega)
/-- One more text. -/
theorem ws_app (h : WS B w0 w p L n X v m) (hm : m < L.length) (hL : L.length ≤ 10) (s : List UInt8) (hs : s = L[m]) (q : Nat) (w1 : World) (h1 : Below w.heap.size w w1) (hq : Holds w1 q [.string ⟨s.toArray⟩] 9) :
    ∃ v' w', (Builtin.append_ #[46, 46] 46 #[v, .slice (some ⟨q, 0, none⟩) 1 1]).run Try.prog w1 = .ok v' w' ∧ WS B w0 w' p L n X v' (m + 1) := by
  obtain ⟨iS, hiS, hzS, hsS, hbS⟩ := info_parts string_infoL
  have h' := h.below h1
  obtain ⟨v', w', hr, ho, hg, hpl⟩ := run_append_at (P := Try.prog) w1 B 46 46 9 iS _ 1 16 Try.underlying46 hiS hzS hsS hbS (by rfl) (by omega) v m _ h'.own
    ⟨q, 0, none⟩ 1 1 [.string ⟨s.toArray⟩] (by rfl) (fun j u hj => by rw [add0]; exact hq.cell j u hj) (by simp [Value.oneCell']) (by unfold maxLen; omega) (by omega) h'.al.size (by omega)
  refine ⟨v', w', hr, ⟨h'.al.kept (Y := fun b => v.ownBlock = some b) ⟨hg.os, hg.tape, hg.output, hg.size, fun k hk hx => hg.block k hk (fun e => hx e.symm)⟩ (fun b hb => (h'.own.lt b hb).1) (fun b hb e => h'.off b e hb), ?_, ?_⟩⟩
  · rw [List.take_succ_eq_append_getElem hm, ← hs, map_snoc]; exact ho
  · intro b hb
    rcases hpl with e | e
    · exact h.off b (e ▸ hb)
    · rw [e] at hb; obtain rfl := Option.some.inj hb
      intro hx; have := (h'.al.lt _ hx).2; omega
end

set_option maxHeartbeats 4000000 in
theorem stillW (ad0 : Option Addr) (len0 cap0 : Nat) (ns : List Int) (ad1 : Option Addr) (len1 cap1 : Nat) (ts : List (List UInt8)) (ad2 : Option Addr) (len2 cap2 : Nat) (ks : List Int) (torn bytes : Int) (w : World)
    (hi : Ints w ad0 len0 ns) (hf : Fit64' ns) (hs : Strs w ad1 len1 ts) (_hb : (len1 : Int) ≤ 140737488351232 ∧ ∀ s ∈ ts, s.length ≤ 140737488351232) (hks : Ints w ad2 len2 ks) (_hk : Fit64' ks)
    (_ht : -9223372036854775808 ≤ torn ∧ torn ≤ 9223372036854775807) (_hy : -9223372036854775808 ≤ bytes ∧ bytes ≤ 9223372036854775807) :
    Calls Try.prog 7 #[.slice ad0 len0 cap0, .slice ad1 len1 cap1, .slice ad2 len2 cap2, .int .i64 torn, .int .i64 bytes] w fun e w' => e = .returned (.bool true) ∧ Below w.heap.size w w' := by
  have HI := Lib.hid (And.intro hi hf)
  have HS := Lib.hid (And.intro hs _hb.2)
  have HK := Lib.hid hks
  obtain ⟨iS, hiS, hzS, hsS, hbS⟩ := info_parts string_infoL
  clear hi hf hs _hb hks _hk _ht _hy
  go_enter Try.func7, Try.ntmps7
  go_wp2_with fail
  refine (examples_any _).mono ?_
  rintro e w1 ⟨rfl, b1⟩
  go_wp2_with fail
  refine (aNw (w0 := w1) 5 (by decide) (by decide) (Below.refl _ _)).mono ?_
  rintro e w2 ⟨p, X, rfl, h⟩
  have HR : Hid (∃ L C n X, Al w1.heap.size w1 w2 p ⟨L, C, -1, false, n⟩ X ∧ L.length = 5 ∧ C.length ≤ 0 ∧ n ≤ 0) := ⟨_, _, _, X, h, by simp [Dsk.new], by simp, by simp⟩
  have B1 := Lib.hid b1
  clear b1 h
  go_wp2_with fail
  go_loopw [14] (fun i wr => ∃ j : Nat, j ≤ 20 ∧ i = .int .i64 j ∧ Hid (∃ L C n X, Al w1.heap.size w1 wr p ⟨L, C, -1, false, n⟩ X ∧ L.length = 5 ∧ C.length ≤ j ∧ n ≤ j)) (fun i _ => 20 - (intOf i).toNat)
  case atStart => exact ⟨0, Nat.zero_le _, rfl, HR⟩
  case round =>
    obtain ⟨j, hj, rfl, hr⟩ := hrel
    have hbr : Below w.heap.size w wr := by obtain ⟨L, C, n, X, h, _⟩ := hr.out; exact belowT B1.out h.bel
    have HB := Lib.hid hbr
    clear hbr
    have hrest : ((j : Int) < len0 ∧ (j : Int) < len1 ∧ (j : Int) < 20) ∨ ¬((j : Int) < len0 ∧ (j : Int) < len1 ∧ (j : Int) < 20) := by omega
    rcases hrest with ⟨h0, h1, h20⟩ | hno
    · obtain ⟨b0, o0, ha0, hb0, c0⟩ := ints_cell HI.out.1 j (by omega)
      obtain ⟨b2, o2, ha2, hb2, c2⟩ := strs_cell HS.out.1 j (by omega)
      subst ha0 ha2
      rw [← HB.out.cell (p := ⟨b0, o0 + j, none⟩) hb0] at c0
      rw [← HB.out.cell (p := ⟨b2, o2 + j, none⟩) hb2] at c2
      obtain ⟨x, hx⟩ : ∃ x, x = ns[j]'(by rw [HI.out.1.1]; omega) := ⟨_, rfl⟩
      have hx64 : -9223372036854775808 ≤ x ∧ x ≤ 9223372036854775807 := by rw [hx]; exact HI.out.2 _ (List.getElem_mem _)
      obtain ⟨t, ht⟩ : ∃ t, t = ts[j]'(by rw [HS.out.1.1]; omega) := ⟨_, rfl⟩
      rw [← hx] at c0
      rw [← ht] at c2
      have htl : (t.length : Int) ≤ 140737488351232 := by rw [ht]; have := HS.out.2 _ (List.getElem_mem (l := ts) (n := j) (by rw [HS.out.1.1]; omega)); omega
      clear hx ht hb0 hb2
      have hj0 : (0 : Int) ≤ (j : Int) := Int.natCast_nonneg _
      have hk5 := pkN_lt x 5 (by decide)
      have HP : Hid (∀ w0 : World, Calls Try.prog 13 #[.int .i64 x, .int .i64 5] w0 fun e w' => e = .returned (.int .i64 (pkN x 5 : Int)) ∧ w' = w0) := fun w0 => (pick_any x 5 w0 hx64 (by decide) (by decide)).mono fun e w' ⟨he, hw⟩ => ⟨he, hw.symm⟩
      generalize pkN x 5 = k at hk5 HP
      go_upto_region 8 with (fail)
      go_cut [63] from 45 to 62 (fun s63 wx => s63 = .bool false ∧ Hid (∃ L C n X, Al w1.heap.size w1 wx p ⟨L, C, -1, false, n⟩ X ∧ L.length = 5 ∧ C.length ≤ j + 1 ∧ n ≤ j + 1))
      case first =>
        by_cases hl : t.length ≤ 64
        · have hl' : (t.length : Int) ≤ 64 := by omega
          have hl0 : (0 : Int) ≤ (t.length : Int) := Int.natCast_nonneg _
          have hl5 : ¬64 < (t.length : Int) := by omega
          refine wp_region_still_tail 17 (by kernel_rfl) (by kernel_rfl) ?_
          simp only [List.take_succ_cons, List.take_zero, List.drop_succ_cons, List.drop_zero]
          still_step
          still_step
          still_step
          still_step
          still_step
          still_call (HP.out _)
          still_step
          still_step
          still_step
          still_step
          still_step
          still_step
          still_step
          still_step
          still_step
          still_step
          still_step
          refine wpStill_nil ?_
          change wpList _ _ _ _ _ wr.drew
          obtain ⟨L, C, n, X, hA, hL5, hCj, hnj⟩ := hr.out
          have hA2 := hA.below ((Below.refl _ _).drew)
          go_wp2_with fail
          refine (aWrP hA2 k (by omega) t (by omega) (by omega) (by omega)).mono ?_
          rintro e w4 ⟨rfl, X4, h4⟩
          have HF : Hid (∃ L C n X, Al w1.heap.size w1 w4 p ⟨L, C, -1, false, n⟩ X ∧ L.length = 5 ∧ C.length ≤ j + 1 ∧ n ≤ j + 1) := ⟨_, _, _, X4, h4, hL5, by rw [List.length_append, List.length_singleton]; omega, by omega⟩
          clear h4 hA hA2
          go_wp2
          go_meet
          case rel => exact ⟨rfl, HF⟩
        · have hl' : ¬(t.length : Int) ≤ 64 := by omega
          have hl2 : 64 < (t.length : Int) := by omega
          have hl3 : (64 : Int) ≤ (t.length : Int) := by omega
          have hl4 : 64 ≤ t.length := by omega
          refine wp_region_still_tail 17 (by kernel_rfl) (by kernel_rfl) ?_
          simp only [List.take_succ_cons, List.take_zero, List.drop_succ_cons, List.drop_zero]
          still_step
          still_step
          still_step
          still_step
          still_step
          still_call (HP.out _)
          still_step
          still_step
          still_step
          still_step
          still_step
          still_step
          still_step
          still_step
          still_step
          still_step
          still_step
          refine wpStill_nil ?_
          change wpList _ _ _ _ _ wr.drew
          obtain ⟨L, C, n, X, hA, hL5, hCj, hnj⟩ := hr.out
          have hA2 := hA.below ((Below.refl _ _).drew)
          go_wp2_with fail
          refine (aWrP hA2 k (by omega) (t.take 64) (by rw [List.length_take]; omega) (by omega) (by omega)).mono ?_
          rintro e w4 ⟨rfl, X4, h4⟩
          have HF : Hid (∃ L C n X, Al w1.heap.size w1 w4 p ⟨L, C, -1, false, n⟩ X ∧ L.length = 5 ∧ C.length ≤ j + 1 ∧ n ≤ j + 1) := ⟨_, _, _, X4, h4, hL5, by rw [List.length_append, List.length_singleton]; omega, by omega⟩
          clear h4 hA hA2
          go_wp2
          go_meet
          case rel => exact ⟨rfl, HF⟩
      case rest =>
        obtain ⟨rfl, hcc⟩ := hcut
        have hwj : IntKind.i64.wrap ((j : Int) + 1) = ((j + 1 : Nat) : Int) := by rw [IntWalk.i64_in _ (by omega)]; omega
        clear hr HB c0 c2 HP
        go_wp2
        go_roundw
        case rel => exact ⟨j + 1, by omega, by first | rfl | go_num, hcc⟩
        case measure => simp [intOf]; omega
    · obtain ⟨L, C, n, X, h, hL5, hCj, hnj⟩ := hr.out
      have HA := Lib.hid h
      clear hr h HB
      go_upto_region 6 with (fail)
      go_cut [42] from 29 to 41 (fun s42 wx => s42 = .bool false ∧ wx = wr)
      case first =>
        by_cases h0 : (j : Int) < len0
        · by_cases h1 : (j : Int) < len1
          · have h2 : ¬(j : Int) < 20 := fun h2 => hno ⟨h0, h1, h2⟩
            clear hno
            go_wp2
            go_meet
            case rel => exact ⟨rfl, rfl⟩
          · clear hno
            go_wp2
            go_meet
            case rel => exact ⟨rfl, rfl⟩
        · clear hno
          go_wp2
          go_meet
          case rel => exact ⟨rfl, rfl⟩
      case rest =>
        obtain ⟨rfl, hwc⟩ := hcut
        subst hwc
        clear hno
        obtain ⟨wq, hwq⟩ : ∃ wq, wq = wc := ⟨_, rfl⟩
        rw [← hwq] at HA ⊢
        clear hwq
        go_wp2_with fail
        refine (aSyP HA.out).mono ?_
        rintro e w4 ⟨rfl, X4, h4⟩
        have hl : (syncL L C).length = 5 := by rw [syncL_length]; exact hL5
        generalize syncL L C = D at h4 hl
        have HW : Hid (∃ v, v = .slice none 0 0 ∧ WS w1.heap.size w1 w4 p D n X4 v 0) := ⟨_, rfl, h4, ⟨rfl, .inl ⟨rfl, rfl⟩⟩, fun b hb => by cases hb⟩
        have HW0 : Hid (WS w1.heap.size w1 w4 p D n X4 (.slice none 0 0) 0) := ⟨h4, ⟨rfl, .inl ⟨rfl, rfl⟩⟩, fun b hb => by cases hb⟩
        clear h4 HA HW
        go_wp2_with fail
        go_loopw [15, 16] (fun v i wr => ∃ m : Nat, m ≤ 5 ∧ i = .int .i64 m ∧ Hid (WS w1.heap.size w1 wr p D n X4 v m)) (fun _ i _ => 5 - (intOf i).toNat)
        case atStart => exact ⟨0, Nat.zero_le _, rfl, HW0⟩
        case round =>
          obtain ⟨m, hm5, rfl, hm⟩ := hrel
          by_cases hlt : (m : Int) < 5
          · have hmm : m < 5 := by omega
            have hwm : IntKind.i64.wrap ((m : Int) + 1) = ((m + 1 : Nat) : Int) := by rw [IntWalk.i64_in _ (by omega)]; omega
            go_wp2_with fail
            refine (ws_rd hm.out m (by omega)).mono ?_
            rintro e w5 ⟨rfl, h5⟩
            obtain ⟨s, hs⟩ : ∃ s, s = D.getD m [] := ⟨_, rfl⟩
            have hs' : s = D[m] := by rw [hs, sec_in D [] (by omega)]
            rw [← hs]
            have HS5 := Lib.hid hs'
            clear hs hs'
            go_upto_region 19 with (fail)
            refine wp_region_lit ?_
            iterate 2
              refine wpList_plain rfl fun K hK => ?_
              go_simp
              refine hK _ _ ?_
              clear hK K
            obtain ⟨q, hq⟩ : ∃ q, Hid (q = w5.heap.size) := ⟨_, rfl⟩
            have HQ := Holds.new w5 [.string ⟨s.toArray⟩] 9
            have hbw : Below w5.heap.size w5 (w5.alloc (.cells [.string ⟨s.toArray⟩].toArray 9)) := (Below.refl _ _).alloc (Nat.le_refl _) _
            refine wpList_buildSlice_row rfl 46 9 (.tmp 80) rfl iS _ [.string ⟨s.toArray⟩] Try.underlying46 hiS hzS (by rw [hsS]; rfl) (by simp) (by simp) (by rfl) ?_
            rw [← hq.out] at HQ ⊢
            obtain ⟨v', w6, happ, h6⟩ := ws_app h5 (by omega) (by omega) s HS5.out q _ hbw HQ
            generalize w5.alloc (.cells [.string ⟨s.toArray⟩].toArray 9) = wd at happ ⊢
            refine wpList_of_run (w' := w6) rfl (some 82) rfl (exec_append (s := .tmp 79) (x := .tmp 81) happ (by rfl) (by rfl) (by rfl) (by rfl)) ?_
            have H6 := Lib.hid h6
            clear h6 h5 happ HQ hbw hm
            go_wp2
            go_roundw
            case rel => exact ⟨m + 1, by omega, by first | rfl | go_num, H6⟩
            case measure => simp [intOf]; omega
          · obtain rfl : m = 5 := by omega
            have hI := hm.out.al.ints HK.out B1.out.size (belowT B1.out hm.out.al.bel)
            go_wp2_with fail
            refine (ws_cr hm.out ad2 len2 cap2 ks torn bytes hI).mono ?_
            rintro e w5 ⟨rfl, X5, h5⟩
            have hI5 := h5.al.ints HK.out B1.out.size (belowT B1.out h5.al.bel)
            clear hI hm
            go_wp2_with fail
            refine (ws_cr h5 ad2 len2 cap2 ks torn bytes hI5).mono ?_
            rintro e w6 ⟨rfl, X6, h6⟩
            have H6 := Lib.hid h6
            clear h5 h6 hI5
            obtain ⟨gv, cv, rfl⟩ : ∃ gv cv, u15 = .slice (some ⟨gv, 0, none⟩) 5 cv := by
              rcases H6.out.own.2 with ⟨_, h0⟩ | ⟨g', cap, cur, hv, _⟩
              · cases h0
              · exact ⟨_, _, hv⟩
            go_wp2_with fail
            go_loopw [19] (fun i wr => ∃ m : Nat, m ≤ 5 ∧ i = .int .i64 m ∧ Hid (WS w1.heap.size w1 wr p D n X6 (.slice (some ⟨gv, 0, none⟩) 5 cv) 5)) (fun i _ => 5 - (intOf i).toNat)
            case atStart => exact ⟨0, Nat.zero_le _, rfl, H6⟩
            case round =>
              obtain ⟨m, hm5, rfl, hm⟩ := hrel
              by_cases hlt2 : (m : Int) < 5
              · have hmm : m < 5 := by omega
                have hwm : IntKind.i64.wrap ((m : Int) + 1) = ((m + 1 : Nat) : Int) := by rw [IntWalk.i64_in _ (by omega)]; omega
                have hm0 : (0 : Int) ≤ (m : Int) := Int.natCast_nonneg _
                go_wp2_with fail
                refine (ws_rd hm.out m (by omega)).mono ?_
                rintro e w7 ⟨rfl, h7⟩
                have cc : w7.cell? ⟨gv, m, none⟩ = some (.string ⟨(D.getD m []).toArray⟩) := by
                  rw [h7.own.cellAt m (by omega), List.take_of_length_le (by omega), sec_in D [] (by omega)]
                  simp [strV, show m < D.length by omega]
                have H7 := Lib.hid h7
                generalize D.getD m [] = s at cc ⊢
                clear hm h7
                go_wp2
                go_roundw
                case rel => exact ⟨m + 1, by omega, by first | rfl | go_num, H7⟩
                case measure => simp [intOf]; omega
              · obtain rfl : m = 5 := by omega
                have HB := Lib.hid (belowT B1.out hm.out.al.bel)
                clear hm
                go_wp2
                go_ret
                exact ⟨rfl, HB.out⟩

end Go.Proofs.Ytgppbbbpekghiaa
