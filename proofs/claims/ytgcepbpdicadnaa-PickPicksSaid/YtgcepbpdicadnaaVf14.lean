/- Layer 14's landed program: Right. -/
import Derived.Test.YtgcepbpdicadnaaJ19
import Derived.Test.YtgcepbpdicadnaaJ20
import Derived.Test.YtgcepbpdicadnaaJ11
namespace Go.Proofs.Ytgcepbpdicadnaa
open Go.RowKit Go.Proofs Go.Proofs.Pk
set_option maxRecDepth 10000

/-- What Right's loop reads: the version's box, the table's box, the tables. -/
structure RgS (W : World) (B g : Nat) (ad : Option Addr) (len cap : Nat) (ad2 : Option Addr) (len2 cap2 : Nat) (s : Int) (m : MetaV) (T : List MetaV) : Prop where
  ver : Holds W B [.slice ad len cap, .slice ad2 len2 cap2, .int .i64 s] 25
  tab : Holds W g (metaC m) 49
  all : MetasW W ad len T
theorem RgS.kept {W W' : World} {B g : Nat} {ad : Option Addr} {len cap : Nat} {ad2 : Option Addr} {len2 cap2 : Nat} {s : Int} {m : MetaV} {T : List MetaV} (h : RgS W B g ad len cap ad2 len2 cap2 s m T) (hk : Kept (fun _ => False) W W') : RgS W' B g ad len cap ad2 len2 cap2 s m T :=
  ⟨Holds.of_block h.ver (hk.block _ (Holds.lt h.ver) (fun f => f)), Holds.of_block h.tab (hk.block _ (Holds.lt h.tab) (fun f => f)), metas_kept h.all hk⟩

theorem m_cells {W : World} {g : Nat} {m : MetaV} (h : Holds W g (metaC m) 49) : W.cell? ⟨g, 0, none⟩ = some (.int .i64 m.1) ∧ W.cell? ⟨g, 1, none⟩ = some (.int .i64 m.2.1) ∧ W.cell? ⟨g, 2, none⟩ = some (.string ⟨m.2.2.1.toArray⟩) ∧
    W.cell? ⟨g, 3, none⟩ = some (.string ⟨m.2.2.2.1.toArray⟩) ∧ W.cell? ⟨g, 4, none⟩ = some (.int .i64 m.2.2.2.2) := ⟨Holds.cell h 0 _ rfl, Holds.cell h 1 _ rfl, Holds.cell h 2 _ rfl, Holds.cell h 3 _ rfl, Holds.cell h 4 _ rfl⟩
theorem t_cells {W : World} {b off len : Nat} {T : List MetaV} (h : MetasW W (some ⟨b, off, none⟩) len T) (i : Nat) (hi : i < T.length) : W.cell? ⟨b, off + i * 5, none⟩ = some (.int .i64 T[i].1) ∧ W.cell? ⟨b, off + i * 5 + 1, none⟩ = some (.int .i64 T[i].2.1) ∧
    W.cell? ⟨b, off + i * 5 + 2, none⟩ = some (.string ⟨T[i].2.2.1.toArray⟩) ∧ W.cell? ⟨b, off + i * 5 + 3, none⟩ = some (.string ⟨T[i].2.2.2.1.toArray⟩) ∧ W.cell? ⟨b, off + i * 5 + 4, none⟩ = some (.int .i64 T[i].2.2.2.2) := by
  obtain ⟨b', off', h1, _, c0, c1, c2, c3, c4, _⟩ := MetasW.at h i hi
  cases h1
  exact ⟨c0, c1, c2, c3, c4⟩

set_option maxHeartbeats 8000000 in
theorem right14p (ad : Option Addr) (len cap : Nat) (ad2 : Option Addr) (len2 cap2 : Nat) (v : VerV) (w : World) (h : VerX w ad len cap ad2 len2 cap2 v.1 v.2.1) :
    Calls Try.prog 18 #[verC ad len cap ad2 len2 cap2 v.2.2] w fun r w' => r = .returned (.bool (rightV v)) ∧ Kept (fun _ => False) w w' := by
  show Calls Try.prog 18 #[.agg #[.slice ad len cap, .slice ad2 len2 cap2, .int .i64 v.2.2]] w _
  obtain ⟨r, hr⟩ : ∃ r, Hid (r = rightV v) := ⟨_, Lib.hid rfl⟩
  have HNO : Hid (¬AlmostR v → r = false) := Lib.hid fun h => by
    rw [hr.out]
    cases k : rightV v with
    | false => rfl
    | true => exact absurd (right_almost k) h
  have HYES : Hid (AlmostR v → r = decide (idsV v).Nodup) := Lib.hid fun h => by rw [hr.out]; exact almost_right h
  rw [← hr.out]
  clear hr
  obtain ⟨T, l, s⟩ := v
  simp only at h HNO HYES ⊢
  have HW := Lib.hid h
  have HT : Hid (T.length = len) := Lib.hid h.tabs.1
  have HL : Hid (l.length = len2) := Lib.hid h.logs.1
  have hbT := h.bigT
  have hbL := h.bigL
  have hk0 := (Kept.refl (fun _ => False) w).alloc (.cells #[.slice ad len cap, .slice ad2 len2 cap2, .int .i64 s] 25)
  have hB0 := Holds.new w [.slice ad len cap, .slice ad2 len2 cap2, .int .i64 s] 25
  clear h
  by_cases hlen : 200 < len
  · have n1 : (200 : Int) < (len : Int) := by omega
    have HR := Lib.hid (HNO.out (fun h => by have := h.a.1; have := HT.out; simp only at *; omega))
    go_enter Try.func18, Try.ntmps18
    go_wp2
    go_ret
    exact ⟨ret_bool HR.out.symm, hk0⟩
  have n1 : ¬(200 : Int) < (len : Int) := by omega
  by_cases hlen2 : 20 < len2
  · have n2 : (20 : Int) < (len2 : Int) := by omega
    have HR := Lib.hid (HNO.out (fun h => by have := h.a.2.1; have := HL.out; simp only at *; omega))
    go_enter Try.func18, Try.ntmps18
    go_wp2
    go_ret
    exact ⟨ret_bool HR.out.symm, hk0⟩
  have n2 : ¬(20 : Int) < (len2 : Int) := by omega
  by_cases hs : 0 ≤ s ∧ s ≤ 9007199254740991
  · have HWI : ∀ w, Calls Try.prog 32 #[.int .i64 s, .int .i64 0, .int .i64 9007199254740991] w fun e w' => e = .returned (.bool true) ∧ w' = w := fun w => by
      have := within14 s 0 9007199254740991 w
      rwa [decide_eq_true hs] at this
    go_enter Try.func18, Try.ntmps18
    go_wp2_with (go_at_call 32; refine (HWI _).mono ?_; rintro e w' ⟨rfl, hw'⟩; rw [hw']; clear hw')
    --LOOP
    have HI : Hid (Holds (w.alloc (.cells #[.slice ad len cap, .slice ad2 len2 cap2, .int .i64 s] 25)) w.heap.size [.slice ad len cap, .slice ad2 len2 cap2, .int .i64 s] 25 ∧ Kept (fun _ => False) w (w.alloc (.cells #[.slice ad len cap, .slice ad2 len2 cap2, .int .i64 s] 25))) := Lib.hid ⟨hB0, hk0⟩
    generalize w.alloc (.cells #[.slice ad len cap, .slice ad2 len2 cap2, .int .i64 s] 25) = w1 at HI ⊢
    clear hB0 hk0 HWI
    go_loopw [24] (fun i wr => ∃ k : Nat, i = .int .i64 (k : Int) ∧ k ≤ len ∧ Hid (Holds wr w.heap.size [.slice ad len cap, .slice ad2 len2 cap2, .int .i64 s] 25 ∧ Kept (fun _ => False) w wr ∧ (∀ i (h : i < T.length), i < k → metaOk T[i] = true) ∧ (∀ i (h : i + 1 < T.length), i + 1 < k → okM (T[i]'(by omega)) T[i + 1] = true))) (fun i _ => len - (intOf i).toNat)
    case atStart => exact ⟨0, rfl, Nat.zero_le _, Lib.hid ⟨HI.out.1, HI.out.2, fun i _ h => absurd h (by omega), fun i _ h => absurd h (by omega)⟩⟩
    case round =>
      obtain ⟨k, rfl, hk, hI⟩ := hrel
      clear HI
      have k0 : (0 : Int) ≤ (k : Int) := by omega
      have hwk : IntKind.i64.wrap ((k : Int) + 1) = (k : Int) + 1 := IntWalk.i64_in _ (by omega)
      by_cases hlt : k < len
      · have kN : (k : Int) < (len : Int) := by omega
        have hkl : k < T.length := by rw [HT.out]; exact hlt
        obtain ⟨b, off, rfl, hbl, c0, c1, c2, c3, c4, _⟩ := MetasW.at (metas_kept HW.out.tabs hI.out.2.1) k hkl
        have HTab := Lib.hid (table14 T[k])
        obtain ⟨m, hm⟩ : ∃ m, Hid (T[k] = m) := ⟨_, Lib.hid rfl⟩
        rw [hm.out] at c0 c1 c2 c3 c4 HTab
        have HNm : Hid (metaOk m = false → r = false) := Lib.hid fun h => HNO.out (fun hA => by
          have := hA.c _ (List.getElem_mem hkl)
          rw [hm.out, h] at this
          cases this)
        have HK1 := hI.out.2.1.alloc (.cells (metaC m).toArray 49)
        have HS1 : RgS (wr.alloc (.cells (metaC m).toArray 49)) w.heap.size wr.heap.size (some ⟨b, off, none⟩) len cap ad2 len2 cap2 s m T :=
          ⟨Holds.of_block hI.out.1 (((Kept.refl (fun _ => False) wr).alloc _).block _ (Holds.lt hI.out.1) (fun f => f)), Holds.new wr _ _, metas_kept HW.out.tabs HK1⟩
        have HK5 := Lib.hid HK1
        have HS5 := Lib.hid HS1
        clear HK1 HS1
        go_upto_region 6 with (fail)
        obtain ⟨w5, hw5⟩ : ∃ w5, w5 = wr.alloc (.cells (metaC m).toArray 49) := ⟨_, rfl⟩
        change Code.wp _ _ _ _ (wr.alloc (.cells (metaC m).toArray 49))
        rw [← hw5] at HK5 HS5 ⊢
        clear hw5 c0 c1 c2 c3 c4
        by_cases hmo : metaOk m = true
        · rw [hmo] at HTab
          cases k with
          | zero =>
            refine wp_region_until (fun W : World => RgS W w.heap.size wr.heap.size (some ⟨b, off, none⟩) len cap ad2 len2 cap2 s m T) 18 (by kernel_rfl) ?_
            have hS : RgS w5.drew w.heap.size wr.heap.size (some ⟨b, off, none⟩) len cap ad2 len2 cap2 s m T := HS5.out.kept ((Kept.refl _ w5).drewN 1)
            have hkd : Kept (fun _ => False) w w5.drew := HK5.out.drewN 1
            generalize w5.drew = w6 at hS hkd ⊢
            refine wpAnyU_take (i := 0) (v := (.agg (metaC m).toArray)) (some 29) rfl rfl (by kernel_rfl) (by kernel_rfl) (by kernel_rfl) (by kernel_rfl) (fun _ _ _ h => h) hS (yields_of (by kernel_rfl) (fun w hw => by obtain ⟨c0, c1, c2, c3, c4⟩ := m_cells hw.tab; go_simp; rfl)) ?_
            refine wpAnyU_call (i := 1) (f := 33) (args := #[.agg (metaC m).toArray]) (some 30) rfl rfl (by kernel_rfl) (by kernel_rfl) (by kernel_rfl) ?_
            refine (HTab.out _).mono ?_
            rintro e w7 ⟨rfl, hk7⟩
            have hS7 := hS.kept hk7
            have hkd7 := hkd.trans hk7 (fun _ f => f.elim)
            refine ⟨_, rfl, fun _ => hS7, ?_⟩
            clear hS hkd hk7
            have hS := hS7
            refine wpAnyU_take (i := 2) (v := (.bool false)) (some 31) rfl rfl (by kernel_rfl) (by kernel_rfl) (by kernel_rfl) (by kernel_rfl) (fun _ _ _ h => h) hS (yields_of (by kernel_rfl) (fun w hw => by kernel_rfl)) ?_
            refine wpAnyU_take (i := 3) (v := (.bool false)) (some 32) rfl rfl (by kernel_rfl) (by kernel_rfl) (by kernel_rfl) (by kernel_rfl) (fun _ _ _ h => h) hS (yields_of (by kernel_rfl) (fun w hw => by kernel_rfl)) ?_
            refine wpAnyU_take (i := 4) (v := (.int .i64 0)) (some 33) rfl rfl (by kernel_rfl) (by kernel_rfl) (by kernel_rfl) (by kernel_rfl) (fun _ _ _ h => h) hS (yields_of (by kernel_rfl) (fun w hw => by kernel_rfl)) ?_
            refine wpAnyU_take (i := 5) (v := (.bool false)) (some 34) rfl rfl (by kernel_rfl) (by kernel_rfl) (by kernel_rfl) (by kernel_rfl) (fun _ _ _ h => h) hS (yields_of (by kernel_rfl) (fun w hw => by kernel_rfl)) ?_
            refine wpAnyU_take (i := 6) (v := (.bool false)) (some 35) rfl rfl (by kernel_rfl) (by kernel_rfl) (by kernel_rfl) (by kernel_rfl) (fun _ _ _ h => h) hS (yields_of (by kernel_rfl) (fun w hw => by kernel_rfl)) ?_
            refine wpAnyU_take (i := 7) (v := undef) (some 36) rfl rfl (by kernel_rfl) (by kernel_rfl) (by kernel_rfl) (by kernel_rfl) (fun _ _ _ h => h) hS (unwanted (by kernel_rfl)) ?_
            refine wpAnyU_take (i := 8) (v := undef) (some 37) rfl rfl (by kernel_rfl) (by kernel_rfl) (by kernel_rfl) (by kernel_rfl) (fun _ _ _ h => h) hS (unwanted (by kernel_rfl)) ?_
            refine wpAnyU_take (i := 9) (v := undef) (some 38) rfl rfl (by kernel_rfl) (by kernel_rfl) (by kernel_rfl) (by kernel_rfl) (fun _ _ _ h => h) hS (unwanted (by kernel_rfl)) ?_
            refine wpAnyU_take (i := 10) (v := undef) (some 39) rfl rfl (by kernel_rfl) (by kernel_rfl) (by kernel_rfl) (by kernel_rfl) (fun _ _ _ h => h) hS (unwanted (by kernel_rfl)) ?_
            refine wpAnyU_take (i := 11) (v := undef) (some 40) rfl rfl (by kernel_rfl) (by kernel_rfl) (by kernel_rfl) (by kernel_rfl) (fun _ _ _ h => h) hS (unwanted (by kernel_rfl)) ?_
            refine wpAnyU_take (i := 12) (v := undef) (some 41) rfl rfl (by kernel_rfl) (by kernel_rfl) (by kernel_rfl) (by kernel_rfl) (fun _ _ _ h => h) hS (unwanted (by kernel_rfl)) ?_
            refine wpAnyU_take (i := 13) (v := undef) (some 42) rfl rfl (by kernel_rfl) (by kernel_rfl) (by kernel_rfl) (by kernel_rfl) (fun _ _ _ h => h) hS (unwanted (by kernel_rfl)) ?_
            refine wpAnyU_take (i := 14) (v := undef) (some 43) rfl rfl (by kernel_rfl) (by kernel_rfl) (by kernel_rfl) (by kernel_rfl) (fun _ _ _ h => h) hS (unwanted (by kernel_rfl)) ?_
            refine wpAnyU_take (i := 15) (v := undef) (some 44) rfl rfl (by kernel_rfl) (by kernel_rfl) (by kernel_rfl) (by kernel_rfl) (fun _ _ _ h => h) hS (unwanted (by kernel_rfl)) ?_
            refine wpAnyU_take (i := 16) (v := (.bool false)) (some 45) rfl rfl (by kernel_rfl) (by kernel_rfl) (by kernel_rfl) (by kernel_rfl) (fun _ _ _ h => h) hS (yields_of (by kernel_rfl) (fun w hw => by kernel_rfl)) ?_
            refine wpAnyU_take (i := 17) (v := (.bool false)) (some 46) rfl rfl (by kernel_rfl) (by kernel_rfl) (by kernel_rfl) (by kernel_rfl) (fun _ _ _ h => h) hS (yields_of (by kernel_rfl) (fun w hw => by kernel_rfl)) ?_
            refine wpAnyU_done (by kernel_rfl) ?_ _
            simp only [put_lit, List.set_cons_succ, List.set_cons_zero]
            have HN : Hid (Holds w7 w.heap.size [.slice (some ⟨b, off, none⟩) len cap, .slice ad2 len2 cap2, .int .i64 s] 25 ∧ Kept (fun _ => False) w w7 ∧ (∀ i (h : i < T.length), i < 0 + 1 → metaOk T[i] = true) ∧ (∀ i (h : i + 1 < T.length), i + 1 < 0 + 1 → okM (T[i]'(by omega)) T[i + 1] = true)) :=
              Lib.hid (by
                refine ⟨hS.ver, hkd7, fun i hi h => ?_, fun i hi h => absurd h (by omega)⟩
                obtain rfl : i = 0 := by omega
                rw [hm.out]
                exact hmo)
            clear hS hS7 hkd7 hI
            go_wp2
            go_roundw
            case rel => exact ⟨0 + 1, by first | rfl | go_num, by omega, HN⟩
            case measure => simp [intOf]; omega
          | succ p =>
            have hpl : p < T.length := by omega
            obtain ⟨mp, hmp⟩ : ∃ mp, Hid (T[p] = mp) := ⟨_, Lib.hid rfl⟩
            have HFol := Lib.hid (follows14 mp m)
            have HNf : Hid (okM mp m = false → r = false) := Lib.hid fun h => HNO.out (fun hA => by
              have := hA.d p hkl
              rw [hm.out, hmp.out, h] at this
              cases this)
            obtain ⟨k, hkp⟩ : ∃ k, Hid (k = p + 1) := ⟨_, Lib.hid rfl⟩
            have kpos : (0 : Int) < (k : Int) := by have := hkp.out; omega
            have kp1 : IntKind.i64.wrap ((k : Int) - 1) = (p : Int) := by rw [hkp.out]; rw [IntWalk.i64_in _ (by omega)]; omega
            have p0 : (0 : Int) ≤ (p : Int) := by omega
            have pN : (p : Int) < (len : Int) := by omega
            have hInt : ((p + 1 : Nat) : Int) = (k : Int) := by rw [hkp.out]
            rw [hInt] at hwk kN k0 ⊢
            by_cases hfo : okM mp m = true
            · rw [hfo] at HFol
              refine wp_region_until (fun W : World => RgS W w.heap.size wr.heap.size (some ⟨b, off, none⟩) len cap ad2 len2 cap2 s m T) 18 (by kernel_rfl) ?_
              have hS : RgS w5.drew w.heap.size wr.heap.size (some ⟨b, off, none⟩) len cap ad2 len2 cap2 s m T := HS5.out.kept ((Kept.refl _ w5).drewN 1)
              have hkd : Kept (fun _ => False) w w5.drew := HK5.out.drewN 1
              generalize w5.drew = w6 at hS hkd ⊢
              refine wpAnyU_take (i := 0) (v := (.agg (metaC m).toArray)) (some 29) rfl rfl (by kernel_rfl) (by kernel_rfl) (by kernel_rfl) (by kernel_rfl) (fun _ _ _ h => h) hS (yields_of (by kernel_rfl) (fun w hw => by obtain ⟨c0, c1, c2, c3, c4⟩ := m_cells hw.tab; go_simp; rfl)) ?_
              refine wpAnyU_call (i := 1) (f := 33) (args := #[.agg (metaC m).toArray]) (some 30) rfl rfl (by kernel_rfl) (by kernel_rfl) (by kernel_rfl) ?_
              refine (HTab.out _).mono ?_
              rintro e w7 ⟨rfl, hk7⟩
              have hS7 := hS.kept hk7
              have hkd7 := hkd.trans hk7 (fun _ f => f.elim)
              refine ⟨_, rfl, fun _ => hS7, ?_⟩
              clear hS hkd hk7
              have hS := hS7
              refine wpAnyU_take (i := 2) (v := (.bool false)) (some 31) rfl rfl (by kernel_rfl) (by kernel_rfl) (by kernel_rfl) (by kernel_rfl) (fun _ _ _ h => h) hS (yields_of (by kernel_rfl) (fun w hw => by kernel_rfl)) ?_
              refine wpAnyU_take (i := 3) (v := (.bool false)) (some 32) rfl rfl (by kernel_rfl) (by kernel_rfl) (by kernel_rfl) (by kernel_rfl) (fun _ _ _ h => h) hS (yields_of (by kernel_rfl) (fun w hw => by kernel_rfl)) ?_
              refine wpAnyU_take (i := 4) (v := (.int .i64 (k : Int))) (some 33) rfl rfl (by kernel_rfl) (by kernel_rfl) (by kernel_rfl) (by kernel_rfl) (fun _ _ _ h => h) hS (yields_of (by kernel_rfl) (fun w hw => by kernel_rfl)) ?_
              refine wpAnyU_take (i := 5) (v := (.bool true)) (some 34) rfl rfl (by kernel_rfl) (by kernel_rfl) (by kernel_rfl) (by kernel_rfl) (fun _ _ _ h => h) hS (yields_of (by kernel_rfl) (fun w hw => by go_simp; omega)) ?_
              refine wpAnyU_take (i := 6) (v := (.bool true)) (some 35) rfl rfl (by kernel_rfl) (by kernel_rfl) (by kernel_rfl) (by kernel_rfl) (fun _ _ _ h => h) hS (yields_of (by kernel_rfl) (fun w hw => by kernel_rfl)) ?_
              refine wpAnyU_take (i := 7) (v := (.pointer (some ⟨w.heap.size, 0, none⟩))) (some 36) rfl rfl (by kernel_rfl) (by kernel_rfl) (by kernel_rfl) (by kernel_rfl) (fun _ _ _ h => h) hS (yields_of (by kernel_rfl) (fun w hw => by kernel_rfl)) ?_
              refine wpAnyU_take (i := 8) (v := (.slice (some ⟨b, off, none⟩) len cap)) (some 37) rfl rfl (by kernel_rfl) (by kernel_rfl) (by kernel_rfl) (by kernel_rfl) (fun _ _ _ h => h) hS (yields_of (by kernel_rfl) (fun w hw => by have c0 := Holds.cell hw.ver 0 _ rfl; go_simp)) ?_
              refine wpAnyU_take (i := 9) (v := (.int .i64 (k : Int))) (some 38) rfl rfl (by kernel_rfl) (by kernel_rfl) (by kernel_rfl) (by kernel_rfl) (fun _ _ _ h => h) hS (yields_of (by kernel_rfl) (fun w hw => by kernel_rfl)) ?_
              refine wpAnyU_take (i := 10) (v := (.int .i64 (p : Int))) (some 39) rfl rfl (by kernel_rfl) (by kernel_rfl) (by kernel_rfl) (by kernel_rfl) (fun _ _ _ h => h) hS (yields_of (by kernel_rfl) (fun w hw => by go_simp)) ?_
              refine wpAnyU_take (i := 11) (v := (.pointer (some ⟨b, off + p * 5, none⟩))) (some 40) rfl rfl (by kernel_rfl) (by kernel_rfl) (by kernel_rfl) (by kernel_rfl) (fun _ _ _ h => h) hS (yields_of (by kernel_rfl) (fun w hw => by go_simp)) ?_
              refine wpAnyU_take (i := 12) (v := (.agg (metaC mp).toArray)) (some 41) rfl rfl (by kernel_rfl) (by kernel_rfl) (by kernel_rfl) (by kernel_rfl) (fun _ _ _ h => h) hS (yields_of (by kernel_rfl) (fun w hw => by obtain ⟨c0, c1, c2, c3, c4⟩ := t_cells hw.all p hpl; rw [hmp.out] at c0 c1 c2 c3 c4; go_simp; rfl)) ?_
              refine wpAnyU_take (i := 13) (v := (.agg (metaC m).toArray)) (some 42) rfl rfl (by kernel_rfl) (by kernel_rfl) (by kernel_rfl) (by kernel_rfl) (fun _ _ _ h => h) hS (yields_of (by kernel_rfl) (fun w hw => by obtain ⟨c0, c1, c2, c3, c4⟩ := m_cells hw.tab; go_simp; rfl)) ?_
              refine wpAnyU_call (i := 14) (f := 34) (args := #[.agg (metaC mp).toArray, .agg (metaC m).toArray]) (some 43) rfl rfl (by kernel_rfl) (by kernel_rfl) (by kernel_rfl) ?_
              refine (HFol.out _).mono ?_
              rintro e w8 ⟨rfl, hk8⟩
              have hS8 := hS.kept hk8
              have hkd8 := hkd7.trans hk8 (fun _ f => f.elim)
              refine ⟨_, rfl, fun _ => hS8, ?_⟩
              clear hS hS7 hk8 hkd7
              have hS := hS8
              have hkd7 := hkd8
              refine wpAnyU_take (i := 15) (v := (.bool false)) (some 44) rfl rfl (by kernel_rfl) (by kernel_rfl) (by kernel_rfl) (by kernel_rfl) (fun _ _ _ h => h) hS (yields_of (by kernel_rfl) (fun w hw => by kernel_rfl)) ?_
              refine wpAnyU_take (i := 16) (v := (.bool false)) (some 45) rfl rfl (by kernel_rfl) (by kernel_rfl) (by kernel_rfl) (by kernel_rfl) (fun _ _ _ h => h) hS (yields_of (by kernel_rfl) (fun w hw => by kernel_rfl)) ?_
              refine wpAnyU_take (i := 17) (v := (.bool false)) (some 46) rfl rfl (by kernel_rfl) (by kernel_rfl) (by kernel_rfl) (by kernel_rfl) (fun _ _ _ h => h) hS (yields_of (by kernel_rfl) (fun w hw => by kernel_rfl)) ?_
              refine wpAnyU_done (by kernel_rfl) ?_ _
              simp only [put_lit, List.set_cons_succ, List.set_cons_zero]
              have HN : Hid (Holds w8 w.heap.size [.slice (some ⟨b, off, none⟩) len cap, .slice ad2 len2 cap2, .int .i64 s] 25 ∧ Kept (fun _ => False) w w8 ∧ (∀ i (h : i < T.length), i < k + 1 → metaOk T[i] = true) ∧ (∀ i (h : i + 1 < T.length), i + 1 < k + 1 → okM (T[i]'(by omega)) T[i + 1] = true)) := Lib.hid (by
                have hkk := hkp.out
                refine ⟨hS.ver, hkd7, fun i hi h => ?_, fun i hi h => ?_⟩
                · by_cases e : i = p + 1
                  · subst e; rw [hm.out]; exact hmo
                  · exact hI.out.2.2.1 i hi (by omega)
                · by_cases e : i = p
                  · subst e; rw [hm.out, hmp.out]; exact hfo
                  · exact hI.out.2.2.2 i hi (by omega))
              have hk9 : k + 1 ≤ len := by have := hkp.out; omega
              have hkm : k < len := by have := hkp.out; omega
              clear hS hS8 hkd7 hkd8 hI
              go_wp2
              go_roundw
              case rel => exact ⟨k + 1, by first | rfl | go_num, hk9, HN⟩
              case measure => simp [intOf]; omega
            · have hfo' : okM mp m = false := by simpa using hfo
              rw [hfo'] at HFol
              have HR := Lib.hid (HNf.out hfo')
              refine wp_region_until (fun W : World => RgS W w.heap.size wr.heap.size (some ⟨b, off, none⟩) len cap ad2 len2 cap2 s m T) 18 (by kernel_rfl) ?_
              have hS : RgS w5.drew w.heap.size wr.heap.size (some ⟨b, off, none⟩) len cap ad2 len2 cap2 s m T := HS5.out.kept ((Kept.refl _ w5).drewN 1)
              have hkd : Kept (fun _ => False) w w5.drew := HK5.out.drewN 1
              generalize w5.drew = w6 at hS hkd ⊢
              refine wpAnyU_take (i := 0) (v := (.agg (metaC m).toArray)) (some 29) rfl rfl (by kernel_rfl) (by kernel_rfl) (by kernel_rfl) (by kernel_rfl) (fun _ _ _ h => h) hS (yields_of (by kernel_rfl) (fun w hw => by obtain ⟨c0, c1, c2, c3, c4⟩ := m_cells hw.tab; go_simp; rfl)) ?_
              refine wpAnyU_call (i := 1) (f := 33) (args := #[.agg (metaC m).toArray]) (some 30) rfl rfl (by kernel_rfl) (by kernel_rfl) (by kernel_rfl) ?_
              refine (HTab.out _).mono ?_
              rintro e w7 ⟨rfl, hk7⟩
              have hS7 := hS.kept hk7
              have hkd7 := hkd.trans hk7 (fun _ f => f.elim)
              refine ⟨_, rfl, fun _ => hS7, ?_⟩
              clear hS hkd hk7
              have hS := hS7
              refine wpAnyU_take (i := 2) (v := (.bool false)) (some 31) rfl rfl (by kernel_rfl) (by kernel_rfl) (by kernel_rfl) (by kernel_rfl) (fun _ _ _ h => h) hS (yields_of (by kernel_rfl) (fun w hw => by kernel_rfl)) ?_
              refine wpAnyU_take (i := 3) (v := (.bool false)) (some 32) rfl rfl (by kernel_rfl) (by kernel_rfl) (by kernel_rfl) (by kernel_rfl) (fun _ _ _ h => h) hS (yields_of (by kernel_rfl) (fun w hw => by kernel_rfl)) ?_
              refine wpAnyU_take (i := 4) (v := (.int .i64 (k : Int))) (some 33) rfl rfl (by kernel_rfl) (by kernel_rfl) (by kernel_rfl) (by kernel_rfl) (fun _ _ _ h => h) hS (yields_of (by kernel_rfl) (fun w hw => by kernel_rfl)) ?_
              refine wpAnyU_take (i := 5) (v := (.bool true)) (some 34) rfl rfl (by kernel_rfl) (by kernel_rfl) (by kernel_rfl) (by kernel_rfl) (fun _ _ _ h => h) hS (yields_of (by kernel_rfl) (fun w hw => by go_simp; omega)) ?_
              refine wpAnyU_take (i := 6) (v := (.bool true)) (some 35) rfl rfl (by kernel_rfl) (by kernel_rfl) (by kernel_rfl) (by kernel_rfl) (fun _ _ _ h => h) hS (yields_of (by kernel_rfl) (fun w hw => by kernel_rfl)) ?_
              refine wpAnyU_take (i := 7) (v := (.pointer (some ⟨w.heap.size, 0, none⟩))) (some 36) rfl rfl (by kernel_rfl) (by kernel_rfl) (by kernel_rfl) (by kernel_rfl) (fun _ _ _ h => h) hS (yields_of (by kernel_rfl) (fun w hw => by kernel_rfl)) ?_
              refine wpAnyU_take (i := 8) (v := (.slice (some ⟨b, off, none⟩) len cap)) (some 37) rfl rfl (by kernel_rfl) (by kernel_rfl) (by kernel_rfl) (by kernel_rfl) (fun _ _ _ h => h) hS (yields_of (by kernel_rfl) (fun w hw => by have c0 := Holds.cell hw.ver 0 _ rfl; go_simp)) ?_
              refine wpAnyU_take (i := 9) (v := (.int .i64 (k : Int))) (some 38) rfl rfl (by kernel_rfl) (by kernel_rfl) (by kernel_rfl) (by kernel_rfl) (fun _ _ _ h => h) hS (yields_of (by kernel_rfl) (fun w hw => by kernel_rfl)) ?_
              refine wpAnyU_take (i := 10) (v := (.int .i64 (p : Int))) (some 39) rfl rfl (by kernel_rfl) (by kernel_rfl) (by kernel_rfl) (by kernel_rfl) (fun _ _ _ h => h) hS (yields_of (by kernel_rfl) (fun w hw => by go_simp)) ?_
              refine wpAnyU_take (i := 11) (v := (.pointer (some ⟨b, off + p * 5, none⟩))) (some 40) rfl rfl (by kernel_rfl) (by kernel_rfl) (by kernel_rfl) (by kernel_rfl) (fun _ _ _ h => h) hS (yields_of (by kernel_rfl) (fun w hw => by go_simp)) ?_
              refine wpAnyU_take (i := 12) (v := (.agg (metaC mp).toArray)) (some 41) rfl rfl (by kernel_rfl) (by kernel_rfl) (by kernel_rfl) (by kernel_rfl) (fun _ _ _ h => h) hS (yields_of (by kernel_rfl) (fun w hw => by obtain ⟨c0, c1, c2, c3, c4⟩ := t_cells hw.all p hpl; rw [hmp.out] at c0 c1 c2 c3 c4; go_simp; rfl)) ?_
              refine wpAnyU_take (i := 13) (v := (.agg (metaC m).toArray)) (some 42) rfl rfl (by kernel_rfl) (by kernel_rfl) (by kernel_rfl) (by kernel_rfl) (fun _ _ _ h => h) hS (yields_of (by kernel_rfl) (fun w hw => by obtain ⟨c0, c1, c2, c3, c4⟩ := m_cells hw.tab; go_simp; rfl)) ?_
              refine wpAnyU_call (i := 14) (f := 34) (args := #[.agg (metaC mp).toArray, .agg (metaC m).toArray]) (some 43) rfl rfl (by kernel_rfl) (by kernel_rfl) (by kernel_rfl) ?_
              refine (HFol.out _).mono ?_
              rintro e w8 ⟨rfl, hk8⟩
              have hS8 := hS.kept hk8
              have hkd8 := hkd7.trans hk8 (fun _ f => f.elim)
              refine ⟨_, rfl, fun _ => hS8, ?_⟩
              clear hS hS7 hk8 hkd7
              have hS := hS8
              have hkd7 := hkd8
              refine wpAnyU_take (i := 15) (v := (.bool true)) (some 44) rfl rfl (by kernel_rfl) (by kernel_rfl) (by kernel_rfl) (by kernel_rfl) (fun _ _ _ h => h) hS (yields_of (by kernel_rfl) (fun w hw => by kernel_rfl)) ?_
              refine wpAnyU_take (i := 16) (v := (.bool true)) (some 45) rfl rfl (by kernel_rfl) (by kernel_rfl) (by kernel_rfl) (by kernel_rfl) (fun _ _ _ h => h) hS (yields_of (by kernel_rfl) (fun w hw => by kernel_rfl)) ?_
              refine wpAnyU_take (i := 17) (v := (.bool true)) (some 46) rfl rfl (by kernel_rfl) (by kernel_rfl) (by kernel_rfl) (by kernel_rfl) (fun _ _ _ h => h) hS (yields_of (by kernel_rfl) (fun w hw => by kernel_rfl)) ?_
              refine wpAnyU_done (by kernel_rfl) ?_ _
              simp only [put_lit, List.set_cons_succ, List.set_cons_zero]
              go_wp2
              go_ret
              exact ⟨ret_bool HR.out.symm, hkd7⟩
        · have hmo' : metaOk m = false := by simpa using hmo
          rw [hmo'] at HTab
          have HR := Lib.hid (HNm.out hmo')
          refine wp_region_until (fun W : World => RgS W w.heap.size wr.heap.size (some ⟨b, off, none⟩) len cap ad2 len2 cap2 s m T) 18 (by kernel_rfl) ?_
          have hS : RgS w5.drew w.heap.size wr.heap.size (some ⟨b, off, none⟩) len cap ad2 len2 cap2 s m T := HS5.out.kept ((Kept.refl _ w5).drewN 1)
          have hkd : Kept (fun _ => False) w w5.drew := HK5.out.drewN 1
          generalize w5.drew = w6 at hS hkd ⊢
          refine wpAnyU_take (i := 0) (v := (.agg (metaC m).toArray)) (some 29) rfl rfl (by kernel_rfl) (by kernel_rfl) (by kernel_rfl) (by kernel_rfl) (fun _ _ _ h => h) hS (yields_of (by kernel_rfl) (fun w hw => by obtain ⟨c0, c1, c2, c3, c4⟩ := m_cells hw.tab; go_simp; rfl)) ?_
          refine wpAnyU_call (i := 1) (f := 33) (args := #[.agg (metaC m).toArray]) (some 30) rfl rfl (by kernel_rfl) (by kernel_rfl) (by kernel_rfl) ?_
          refine (HTab.out _).mono ?_
          rintro e w7 ⟨rfl, hk7⟩
          have hS7 := hS.kept hk7
          have hkd7 := hkd.trans hk7 (fun _ f => f.elim)
          refine ⟨_, rfl, fun _ => hS7, ?_⟩
          clear hS hkd hk7
          have hS := hS7
          refine wpAnyU_take (i := 2) (v := (.bool true)) (some 31) rfl rfl (by kernel_rfl) (by kernel_rfl) (by kernel_rfl) (by kernel_rfl) (fun _ _ _ h => h) hS (yields_of (by kernel_rfl) (fun w hw => by kernel_rfl)) ?_
          refine wpAnyU_take (i := 3) (v := (.bool true)) (some 32) rfl rfl (by kernel_rfl) (by kernel_rfl) (by kernel_rfl) (by kernel_rfl) (fun _ _ _ h => h) hS (yields_of (by kernel_rfl) (fun w hw => by kernel_rfl)) ?_
          refine wpAnyU_take (i := 4) (v := undef) (some 33) rfl rfl (by kernel_rfl) (by kernel_rfl) (by kernel_rfl) (by kernel_rfl) (fun _ _ _ h => h) hS (unwanted (by kernel_rfl)) ?_
          refine wpAnyU_take (i := 5) (v := undef) (some 34) rfl rfl (by kernel_rfl) (by kernel_rfl) (by kernel_rfl) (by kernel_rfl) (fun _ _ _ h => h) hS (unwanted (by kernel_rfl)) ?_
          refine wpAnyU_take (i := 6) (v := undef) (some 35) rfl rfl (by kernel_rfl) (by kernel_rfl) (by kernel_rfl) (by kernel_rfl) (fun _ _ _ h => h) hS (unwanted (by kernel_rfl)) ?_
          refine wpAnyU_take (i := 7) (v := undef) (some 36) rfl rfl (by kernel_rfl) (by kernel_rfl) (by kernel_rfl) (by kernel_rfl) (fun _ _ _ h => h) hS (unwanted (by kernel_rfl)) ?_
          refine wpAnyU_take (i := 8) (v := undef) (some 37) rfl rfl (by kernel_rfl) (by kernel_rfl) (by kernel_rfl) (by kernel_rfl) (fun _ _ _ h => h) hS (unwanted (by kernel_rfl)) ?_
          refine wpAnyU_take (i := 9) (v := undef) (some 38) rfl rfl (by kernel_rfl) (by kernel_rfl) (by kernel_rfl) (by kernel_rfl) (fun _ _ _ h => h) hS (unwanted (by kernel_rfl)) ?_
          refine wpAnyU_take (i := 10) (v := undef) (some 39) rfl rfl (by kernel_rfl) (by kernel_rfl) (by kernel_rfl) (by kernel_rfl) (fun _ _ _ h => h) hS (unwanted (by kernel_rfl)) ?_
          refine wpAnyU_take (i := 11) (v := undef) (some 40) rfl rfl (by kernel_rfl) (by kernel_rfl) (by kernel_rfl) (by kernel_rfl) (fun _ _ _ h => h) hS (unwanted (by kernel_rfl)) ?_
          refine wpAnyU_take (i := 12) (v := undef) (some 41) rfl rfl (by kernel_rfl) (by kernel_rfl) (by kernel_rfl) (by kernel_rfl) (fun _ _ _ h => h) hS (unwanted (by kernel_rfl)) ?_
          refine wpAnyU_take (i := 13) (v := undef) (some 42) rfl rfl (by kernel_rfl) (by kernel_rfl) (by kernel_rfl) (by kernel_rfl) (fun _ _ _ h => h) hS (unwanted (by kernel_rfl)) ?_
          refine wpAnyU_take (i := 14) (v := undef) (some 43) rfl rfl (by kernel_rfl) (by kernel_rfl) (by kernel_rfl) (by kernel_rfl) (fun _ _ _ h => h) hS (unwanted (by kernel_rfl)) ?_
          refine wpAnyU_take (i := 15) (v := undef) (some 44) rfl rfl (by kernel_rfl) (by kernel_rfl) (by kernel_rfl) (by kernel_rfl) (fun _ _ _ h => h) hS (unwanted (by kernel_rfl)) ?_
          refine wpAnyU_take (i := 16) (v := undef) (some 45) rfl rfl (by kernel_rfl) (by kernel_rfl) (by kernel_rfl) (by kernel_rfl) (fun _ _ _ h => h) hS (unwanted (by kernel_rfl)) ?_
          refine wpAnyU_take (i := 17) (v := (.bool true)) (some 46) rfl rfl (by kernel_rfl) (by kernel_rfl) (by kernel_rfl) (by kernel_rfl) (fun _ _ _ h => h) hS (yields_of (by kernel_rfl) (fun w hw => by kernel_rfl)) ?_
          refine wpAnyU_done (by kernel_rfl) ?_ _
          simp only [put_lit, List.set_cons_succ, List.set_cons_zero]
          go_wp2
          go_ret
          exact ⟨ret_bool HR.out.symm, hkd7⟩
      · have kN : ¬(k : Int) < (len : Int) := by omega
        have HA : Hid (∀ hl : (∀ n ∈ l, 1 ≤ n ∧ n ≤ 9007199254740991), AlmostR (T, l, s)) := Lib.hid fun hl =>
          ⟨⟨by have := HT.out; simp only; omega, by have := HL.out; simp only; omega, hs⟩, hl, fun m hm => by
            obtain ⟨i, hi, rfl⟩ := List.mem_iff_getElem.1 hm
            exact hI.out.2.2.1 i hi (by have := HT.out; simp only at hi; omega), fun i hi => hI.out.2.2.2 i hi (by have := HT.out; simp only at hi; omega)⟩
        have HNu := Lib.hid (numbers14 ad2 len2 cap2 l 1 wr (ints_keptV HW.out.logs hI.out.2.1) (by omega))
        have c1 := Holds.cell hI.out.1 1 _ rfl
        by_cases hall : ∀ n ∈ l, 1 ≤ n ∧ n ≤ 9007199254740991
        · have hal : (l.all fun x => decide (1 ≤ x ∧ x ≤ 9007199254740991)) = true := List.all_eq_true.2 fun n hn => decide_eq_true (hall n hn)
          rw [hal] at HNu
          have HR := Lib.hid (HYES.out (HA.out hall))
          clear HA
          go_wp2_with fail
          refine HNu.out.mono ?_
          clear HNu
          rintro e w2 ⟨rfl, hk2⟩
          have hk3 := hI.out.2.1.trans hk2 (fun _ f => f.elim)
          have hB2 : Holds w2 w.heap.size [.slice ad len cap, .slice ad2 len2 cap2, .int .i64 s] 25 := Holds.of_block hI.out.1 (hk2.block _ (Holds.lt hI.out.1) (fun f => f))
          have d0 := Holds.cell hB2 0 _ rfl
          have d1 := Holds.cell hB2 1 _ rfl
          have d2 := Holds.cell hB2 2 _ rfl
          have HLv := Lib.hid (liveP14 ad len cap ad2 len2 cap2 T l s w2 (HW.out.kept hk3))
          have HK3 := Lib.hid hk3
          clear hI hk2 hk3 hB2 c1
          go_wp2_with fail
          refine HLv.out.mono ?_
          clear HLv
          rintro e w3 ⟨ad', cap', L, rfl, hL, hp, hso, hk4⟩
          have HAp := Lib.hid (apartP14 ad' (len2 + len) cap' L w3 hL (fun x hx => by
            rcases List.mem_append.1 (hp.mem_iff.1 hx) with h | h
            · exact HW.out.fitL x h
            · obtain ⟨m, hm, rfl⟩ := List.mem_map.1 h
              exact (HW.out.fitT m hm).1) (by omega))
          have HE : Hid (decide L.Nodup = r) := Lib.hid (by
            rw [HR.out]
            have h1 : L.Nodup ↔ (idsV (T, l, s)).Nodup := by
              rw [hp.nodup_iff]
              exact (List.perm_append_comm).nodup_iff
            rw [Bool.eq_iff_iff, decide_eq_true_eq, decide_eq_true_eq]
            exact h1)
          rw [HE.out] at HAp
          have HK4 := Lib.hid (HK3.out.trans hk4 (fun _ f => f.elim))
          clear hL hp hso hk4 HK3 HE d0 d1 d2
          go_wp2_with fail
          refine HAp.out.mono ?_
          clear HAp
          rintro e w4 ⟨rfl, hk5⟩
          have HK5 := Lib.hid (HK4.out.trans hk5 (fun _ f => f.elim))
          clear hk5 HK4
          go_wp2
          go_ret
          exact ⟨rfl, HK5.out⟩
        · have hal : (l.all fun x => decide (1 ≤ x ∧ x ≤ 9007199254740991)) = false := by
            cases hc : (l.all fun x => decide (1 ≤ x ∧ x ≤ 9007199254740991)) with
            | false => rfl
            | true => exact absurd (fun n hn => of_decide_eq_true (List.all_eq_true.1 hc n hn)) hall
          rw [hal] at HNu
          have HR := Lib.hid (HNO.out (fun h => hall h.b))
          clear HA
          go_wp2_with fail
          refine HNu.out.mono ?_
          clear HNu
          rintro e w2 ⟨rfl, hk2⟩
          have HK3 := Lib.hid (hI.out.2.1.trans hk2 (fun _ f => f.elim))
          clear hk2 hI
          go_wp2
          go_ret
          exact ⟨ret_bool HR.out.symm, HK3.out⟩
  · have HR := Lib.hid (HNO.out (fun h => hs h.a.2.2))
    have HWI : ∀ w, Calls Try.prog 32 #[.int .i64 s, .int .i64 0, .int .i64 9007199254740991] w fun e w' => e = .returned (.bool false) ∧ w' = w := fun w => by
      have := within14 s 0 9007199254740991 w
      rwa [decide_eq_false hs] at this
    go_enter Try.func18, Try.ntmps18
    go_wp2_with (go_at_call 32; refine (HWI _).mono ?_; rintro e w' ⟨rfl, hw'⟩; rw [hw']; clear hw')
    go_ret
    exact ⟨ret_bool HR.out.symm, hk0⟩

end Go.Proofs.Ytgcepbpdicadnaa
