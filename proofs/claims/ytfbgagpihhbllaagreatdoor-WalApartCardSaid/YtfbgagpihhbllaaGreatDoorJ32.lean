/- WlE, WlA. -/
import Derived.Test.YtfbgagpihhbllaaGreatDoorJ31
import Derived.Test.YtfbgagpihhbllaaGreatDoorJ23
import Derived.Test.YtfbgagpihhbllaaGreatDoorJ13

/- Package wal: put: bytes written, and made durable. -/
namespace Go.Proofs.YtfbgagpihhbllaaGreatDoor
open Go.RowKit Go.Proofs Go.Proofs.Pk
set_option maxRecDepth 10000
attribute [local simp] mk_get wrap64_u8 mk_extract ByteArray.mk_append_mk get_1k

theorem chunksL_drop (s : List UInt8) (i : Nat) (h : 64 * i < s.length) : (chunksL s).drop i = chunk s i :: (chunksL s).drop (i + 1) := by
  have hi : i < (chunksL s).length := by rw [chunks_len]; unfold nch; omega
  rw [List.drop_eq_getElem_cons hi]
  congr 1
  simp [chunksL]
theorem chunksL_end (s : List UInt8) (i : Nat) (h : s.length ≤ 64 * i) : (chunksL s).drop i = [] := List.drop_eq_nil_of_le (by rw [chunks_len]; unfold nch; omega)

set_option maxHeartbeats 2000000 in
theorem putP8 (w : World) (B p pd : Nat) (V : Vol) (vF : Value) (X : Nat → Prop) (h : VlP w B p pd V vF X) (hg : ErrTy w) (hB : 0 < B) (hl : V.gone = false) (hC : V.D.C.length ≤ 890000) (hN : V.D.n ≤ 890000)
    (pl id many e n : Nat) (hL : LgAt w pl p id many e n) (hX : ¬X pl) (a : Nat) (ha : a ≤ 5000) (s : List UInt8) (hs : s.length ≤ 300000) :
    Calls Tryz.prog 34 #[.pointer (some ⟨pl, 0, none⟩), .int .i64 (a : Int), .string ⟨s.toArray⟩] w fun r w' => ∃ v, r = .returned v ∧ Er8 w' v (thenSync (writesV V (id : Int) a (chunksL s))).2.1 true ∧ VlOut w B p pd (thenSync (writesV V (id : Int) a (chunksL s))).1 vF X w' v := by
  have HI : Hid (∃ V1, WrAt w B p pd V vF X V1 0 w ∧ writesV V (id : Int) a (chunksL s) = writesV V1 (id : Int) (a + 0) ((chunksL s).drop 0)) := ⟨V, WrAt.start h hl, rfl⟩
  have H := Lib.hid (And.intro h (And.intro hg (And.intro hC hN)))
  have HL := Lib.hid (And.intro hL hX)
  have HM : Hid (a ≤ 5000 ∧ s.length ≤ 300000) := ⟨ha, hs⟩
  have HSs : Hid (s = s.drop (64 * 0)) := rfl
  clear h hg hl hC hN hL hX ha hs
  go_enter Tryz.func34, Tryz.ntmps34
  go_wp2
  obtain ⟨wq, hwq⟩ : ∃ wq, wq = w := ⟨_, rfl⟩
  have HI1 : Hid (∃ V1, WrAt w B p pd V vF X V1 0 wq ∧ writesV V (id : Int) a (chunksL s) = writesV V1 (id : Int) (a + 0) ((chunksL s).drop 0)) := by rw [hwq]; exact HI
  rw [← hwq]
  clear hwq HI
  go_loopw [1, 2] (fun at' b' wr => ∃ (i : Nat) (b : List UInt8), i ≤ nch s.length ∧ Hid (b = s.drop (64 * i)) ∧ at' = .int .i64 ((a + i : Nat) : Int) ∧ b' = .string ⟨b.toArray⟩ ∧ Hid (∃ V1, WrAt w B p pd V vF X V1 i wr ∧ writesV V (id : Int) a (chunksL s) = writesV V1 (id : Int) (a + i) ((chunksL s).drop i))) (fun at' _ _ => 20000 - (intOf at').toNat)
  case atStart => exact ⟨0, s, Nat.zero_le _, HSs, rfl, rfl, HI1⟩
  case round =>
    obtain ⟨i, b, hi, hb, rfl, rfl, hI⟩ := hrel
    obtain ⟨V1, hI1, hW⟩ := hI.out
    have hLr := hI1.log HL.out.1 HL.out.2
    have c0 := Holds.cell hLr 0 _ rfl
    have c1 := Holds.cell hLr 1 _ rfl
    have hi5 : i ≤ 4690 := by have := HM.out.2; unfold nch at hi; omega
    have hbl : Hid (b.length = s.length - 64 * i) := by show _ = _; rw [hb.out, List.length_drop]
    by_cases hlt : b = []
    · subst hlt
      have hend : s.length ≤ 64 * i := by have := hbl.out; simp at this; omega
      rw [chunksL_end s i hend, writesV] at hW
      have HEq : Hid (thenSync (writesV V (id : Int) a (chunksL s)) = syncV V1) := by show _ = _; rw [hW, thenSync_ok]
      have HS := Lib.hid (hI1.sync H.out.1 H.out.2.1 hB)
      clear hW hI hI1 hLr hb hbl hend
      go_wp2_with fail
      refine HS.out.mono ?_
      clear HS
      rintro e' w2 ⟨v, rfl, hev, hgE, hleft⟩
      have HBe := Lib.hid (belowE w2 _ _ _ hgE hev)
      have HLf := Lib.hid hleft
      clear hgE hleft hev c0 c1
      go_wp2_with fail
      refine HBe.out.mono ?_
      clear HBe
      rintro e' w3 ⟨u, rfl, hu, hfu, hk3⟩
      have HU := Lib.hid (And.intro hu (And.intro hfu hk3))
      clear hu hfu hk3
      go_wp2
      go_ret
      rw [HEq.out]
      exact ⟨_, rfl, HU.out.1, HLf.out.out HU.out.1 HU.out.2.1 HU.out.2.2⟩
    · have hb1 : 0 < b.length := List.length_pos_iff.2 hlt
      have hne : (b == []) = false := by simpa using hlt
      obtain ⟨m, hmm⟩ : ∃ m, m = min b.length 64 := ⟨_, rfl⟩
      have hmin : min (b.length : Int) 64 = (m : Int) := by omega
      have hm0 : (0 : Int) ≤ (m : Int) := by omega
      have hm1 : (m : Int) ≤ (b.length : Int) := by omega
      have hchunk : Hid (b.take m = chunk s i) := by
        show _ = _
        rw [hmm, hb.out]
        unfold chunk
        rw [List.take_eq_take_iff]
        omega
      have hrest : Hid (b.drop m = s.drop (64 * (i + 1))) := by
        show _ = _
        have hbl' := hbl.out
        rw [hb.out, List.drop_drop]
        by_cases h64 : 64 ≤ b.length
        · congr 1; omega
        · rw [List.drop_eq_nil_of_le (by omega), List.drop_eq_nil_of_le (by omega)]
      have hin : i < nch s.length := by have := hbl.out; unfold nch; omega
      rw [chunksL_drop s i (by have := hbl.out; omega)] at hW
      have HW := Lib.hid ((hI1.still ((Kept.refl _ wr).drewN 1)).write H.out.1 H.out.2.1 hB (by have := H.out.2.2.1; omega) (by have := H.out.2.2.2; omega) (id : Int) ((a + i : Nat) : Int) (by have := HM.out.1; unfold Fit; omega) (b.take m))
      have HE := Lib.hid hW
      have hwi : IntKind.i64.wrap ((a : Int) + (i : Int) + 1) = (a : Int) + (i : Int) + 1 := by have := HM.out.1; rw [IntWalk.i64_in _ (by omega)]
      have HIN := Lib.hid hin
      clear hW hI hI1 hLr hmm hb hbl hin hi
      obtain ⟨A, hA⟩ : ∃ A : Int, Hid (A = ((a + i : Nat) : Int)) := ⟨_, rfl⟩
      go_upto_region 4 with (fail)
      refine wp_region_until (fun w' => w'.cell? ⟨pl, 0, none⟩ = some (.pointer (some ⟨p, 0, none⟩)) ∧ w'.cell? ⟨pl, 1, none⟩ = some (.int .i64 (id : Int))) 14 (by kernel_rfl) ?_
      have hS0 : wr.drew.cell? ⟨pl, 0, none⟩ = some (.pointer (some ⟨p, 0, none⟩)) ∧ wr.drew.cell? ⟨pl, 1, none⟩ = some (.int .i64 (id : Int)) := ⟨c0, c1⟩
      refine wpAnyU_take (i := 0) (v := (.pointer (some ⟨pl, 0, none⟩))) (some 16) rfl rfl (by kernel_rfl) (by kernel_rfl) (by kernel_rfl) (by kernel_rfl) (fun _ _ _ h => h) hS0 (yields_of (by kernel_rfl) (fun w ⟨h0, h1⟩ => by go_simp)) ?_
      refine wpAnyU_take (i := 1) (v := (.pointer (some ⟨pl, 0, none⟩))) (some 17) rfl rfl (by kernel_rfl) (by kernel_rfl) (by kernel_rfl) (by kernel_rfl) (fun _ _ _ h => h) hS0 (yields_of (by kernel_rfl) (fun w ⟨h0, h1⟩ => by go_simp)) ?_
      refine wpAnyU_take (i := 2) (v := (.pointer (some ⟨pl, 0, none⟩))) (some 18) rfl rfl (by kernel_rfl) (by kernel_rfl) (by kernel_rfl) (by kernel_rfl) (fun _ _ _ h => h) hS0 (yields_of (by kernel_rfl) (fun w ⟨h0, h1⟩ => by go_simp)) ?_
      refine wpAnyU_take (i := 3) (v := (.pointer (some ⟨p, 0, none⟩))) (some 19) rfl rfl (by kernel_rfl) (by kernel_rfl) (by kernel_rfl) (by kernel_rfl) (fun _ _ _ h => h) hS0 (yields_of (by kernel_rfl) (fun w ⟨h0, h1⟩ => by go_simp)) ?_
      refine wpAnyU_take (i := 4) (v := (.pointer (some ⟨pl, 0, none⟩))) (some 20) rfl rfl (by kernel_rfl) (by kernel_rfl) (by kernel_rfl) (by kernel_rfl) (fun _ _ _ h => h) hS0 (yields_of (by kernel_rfl) (fun w ⟨h0, h1⟩ => by go_simp)) ?_
      refine wpAnyU_take (i := 5) (v := (.pointer (some ⟨pl, 0, none⟩))) (some 21) rfl rfl (by kernel_rfl) (by kernel_rfl) (by kernel_rfl) (by kernel_rfl) (fun _ _ _ h => h) hS0 (yields_of (by kernel_rfl) (fun w ⟨h0, h1⟩ => by go_simp)) ?_
      refine wpAnyU_take (i := 6) (v := (.pointer (some ⟨pl, 1, none⟩))) (some 22) rfl rfl (by kernel_rfl) (by kernel_rfl) (by kernel_rfl) (by kernel_rfl) (fun _ _ _ h => h) hS0 (yields_of (by kernel_rfl) (fun w ⟨h0, h1⟩ => by go_simp)) ?_
      refine wpAnyU_take (i := 7) (v := (.int .i64 (id : Int))) (some 23) rfl rfl (by kernel_rfl) (by kernel_rfl) (by kernel_rfl) (by kernel_rfl) (fun _ _ _ h => h) hS0 (yields_of (by kernel_rfl) (fun w ⟨h0, h1⟩ => by go_simp)) ?_
      refine wpAnyU_take (i := 8) (v := (.int .i64 ((a + i : Nat) : Int))) (some 24) rfl rfl (by kernel_rfl) (by kernel_rfl) (by kernel_rfl) (by kernel_rfl) (fun _ _ _ h => h) hS0 (yields_of (by kernel_rfl) (fun w ⟨h0, h1⟩ => by go_simp)) ?_
      refine wpAnyU_take (i := 9) (v := (.string ⟨b.toArray⟩)) (some 25) rfl rfl (by kernel_rfl) (by kernel_rfl) (by kernel_rfl) (by kernel_rfl) (fun _ _ _ h => h) hS0 (yields_of (by kernel_rfl) (fun w ⟨h0, h1⟩ => by go_simp)) ?_
      refine wpAnyU_take (i := 10) (v := (.int .i64 (m : Int))) (some 26) rfl rfl (by kernel_rfl) (by kernel_rfl) (by kernel_rfl) (by kernel_rfl) (fun _ _ _ h => h) hS0 (yields_of (by kernel_rfl) (fun w ⟨h0, h1⟩ => by go_simp)) ?_
      refine wpAnyU_take (i := 11) (v := (.string ⟨(b.take m).toArray⟩)) (some 27) rfl rfl (by kernel_rfl) (by kernel_rfl) (by kernel_rfl) (by kernel_rfl) (fun _ _ _ h => h) hS0 (yields_of (by kernel_rfl) (fun w ⟨h0, h1⟩ => by go_simp)) ?_
      refine wpAnyU_call (i := 12) (f := 53) (args := #[.pointer (some ⟨p, 0, none⟩), .int .i64 (id : Int), .int .i64 ((a + i : Nat) : Int), .string ⟨(b.take m).toArray⟩]) (some 28) rfl rfl (by kernel_rfl) (by kernel_rfl) (by kernel_rfl) ?_
      refine HW.out.mono ?_
      clear HW
      rintro e' w2 ⟨v, rfl, hev, hgE, hleft, hnext⟩
      have hL2 := HL.out.1.kept hleft.size HL.out.2
      refine ⟨_, rfl, fun _ => ⟨Holds.cell hL2 0 _ rfl, Holds.cell hL2 1 _ rfl⟩, ?_⟩
      refine wpAnyU_run (i := 13) (v := v) (w' := w2) (some 8) rfl rfl (by kernel_rfl) (by kernel_rfl) (by kernel_rfl) (fun _ => ⟨Holds.cell hL2 0 _ rfl, Holds.cell hL2 1 _ rfl⟩) ?_
      refine wpAnyU_done (by kernel_rfl) ?_ _
      simp only [put_lit, List.set_cons_succ, List.set_cons_zero]
      clear hS0 c0 c1 hL2
      rw [hchunk.out] at hev hleft hnext
      rcases hev with ⟨hz, rfl⟩ | ⟨hnz, q, hq, rfl, hfa⟩
      · have HI5 : Hid (∃ V1, WrAt w B p pd V vF X V1 (i + 1) w2 ∧ writesV V (id : Int) a (chunksL s) = writesV V1 (id : Int) (a + (i + 1)) ((chunksL s).drop (i + 1))) :=
          ⟨_, hnext hz, by rw [HE.out, writesV_ok hz]; rfl⟩
        clear hz hgE hleft hnext HE
        go_wp2
        go_roundw
        case rel => exact ⟨i + 1, b.drop m, HIN.out, hrest, by first | rfl | go_num, by first | rfl | (rw [List.take_of_length_le (by simp)]), HI5⟩
        case measure => have := HM.out; simp [intOf]; omega
      · have HBe := Lib.hid (belowE w2 _ _ _ hgE (.inr ⟨hnz, q, hq, rfl, hfa⟩))
        have HEq : Hid (thenSync (writesV V (id : Int) a (chunksL s)) = writeV V1 (id : Int) ((a + i : Nat) : Int) (chunk s i)) := by show _ = _; rw [HE.out, writesV_bad hnz, thenSync_bad hnz]
        have HLf := Lib.hid hleft
        clear hnz hgE hleft hnext HE hfa hq
        go_wp2_with fail
        refine HBe.out.mono ?_
        clear HBe
        rintro e' w3 ⟨u, rfl, hu, hfu, hk3⟩
        have HU := Lib.hid (And.intro hu (And.intro hfu hk3))
        clear hu hfu hk3
        go_wp2
        go_ret
        rw [HEq.out]
        exact ⟨_, rfl, HU.out.1, HLf.out.out HU.out.1 HU.out.2.1 HU.out.2.2⟩

end Go.Proofs.YtfbgagpihhbllaaGreatDoor

/- Package wal: write and mark. -/
namespace Go.Proofs.YtfbgagpihhbllaaGreatDoor
open Go.RowKit Go.Proofs Go.Proofs.Pk
set_option maxRecDepth 10000
attribute [local simp] mk_get wrap64_u8 mk_extract ByteArray.mk_append_mk get_1k

set_option maxHeartbeats 1000000 in
theorem pWriteL (g o m cap n : Nat) (D : List UInt8) (e : TypeId) (w : World) (h : Holds w g (Lib.byteCells D) e) (hm : m ≤ 7) (ho : o + m ≤ D.length) (hD : D.length ≤ 4096) (hn : n < 72057594037927936) :
    Calls Tryz.prog 48 #[.slice (some ⟨g, o, none⟩) m cap, .int .i64 (n : Int)] w fun e' w' => e' = .returned (.tuple #[]) ∧ Holds w' g (Lib.byteCells (layB D o (big m n))) e ∧ Kept (fun k => k = g) w w' := by
  have HM : Hid (m ≤ 7 ∧ o + m ≤ D.length ∧ D.length ≤ 4096 ∧ n < 72057594037927936) := ⟨hm, ho, hD, hn⟩
  have hm1 : (m : Int) ≤ 7 := by omega
  have H0 : Hid (Holds w g (Lib.byteCells (layB D (o + m) ((big m n).drop m))) e) := by
    show Holds _ _ _ _
    rw [List.drop_eq_nil_of_le (by rw [big_length]; exact Nat.le_refl _), layB_nil]; exact h
  clear h ho hD hm hn
  go_enter Tryz.func48, Tryz.ntmps48
  go_wp2
  obtain ⟨wq, hwq⟩ : ∃ wq, wq = w := ⟨_, rfl⟩
  have HS : Hid (Kept (fun k => k = g) w wq) := by rw [hwq]; exact Kept.refl _ _
  have H1 : Hid (Holds wq g (Lib.byteCells (layB D (o + m) ((big m n).drop m))) e) := by rw [hwq]; exact H0
  rw [← hwq]
  clear hwq H0
  go_loopw [1, 4] (fun x i wr => ∃ (j : Nat) (q : Nat), j ≤ m ∧ q = n / 256 ^ (m - j) ∧ x = .int .i64 (q : Int) ∧ i = .int .i64 ((j : Int) - 1) ∧ Hid (Holds wr g (Lib.byteCells (layB D (o + j) ((big m n).drop j))) e) ∧ Hid (Kept (fun k => k = g) w wr)) (fun _ i _ => (intOf i + 1).toNat)
  case atStart => exact ⟨m, n, Nat.le_refl _, by rw [Nat.sub_self]; simp, rfl, by go_num, H1, HS⟩
  case round =>
    obtain ⟨j, q, hj, hq, rfl, rfl, hh, hk⟩ := hrel
    cases j with
    | zero =>
      clear hq
      have hh2 := hh.out
      rw [Nat.add_zero, List.drop_zero] at hh2
      have HH := Lib.hid hh2
      clear hh hh2
      go_wp2
      go_end0
      exact ⟨rfl, HH.out, hk.out⟩
    | succ J =>
      have hmm := HM.out
      have hJl : J < (big m n).length := by rw [big_length]; omega
      have hdrop : (big m n).drop J = (big m n)[J] :: (big m n).drop (J + 1) := List.drop_eq_getElem_cons hJl
      have hbg := big_get m n J (by omega)
      rw [show m - 1 - J = m - (J + 1) from by omega, ← hq] at hbg
      have hset := layB_set D (o + J) ((big m n).drop (J + 1)) ((big m n)[J]) (by rw [List.length_drop, big_length]; omega)
      rw [← hdrop, hbg] at hset
      have hq2 : q / 256 = n / 256 ^ (m - J) := by
        rw [hq, Nat.div_div_eq_div_mul, ← Nat.pow_succ]; congr 2; omega
      have hqn : q < 72057594037927936 := by rw [hq]; exact Nat.lt_of_le_of_lt (Nat.div_le_self _ _) hmm.2.2.2
      have hlen : (layB D (o + (J + 1)) ((big m n).drop (J + 1))).length = D.length := layB_length _ _ _ (by rw [List.length_drop, big_length]; omega)
      obtain ⟨E, hE⟩ : ∃ E, E = layB D (o + (J + 1)) ((big m n).drop (J + 1)) := ⟨_, rfl⟩
      rw [← Nat.add_assoc] at hE
      rw [← hE] at hset
      have hh2 := hh.out
      rw [← Nat.add_assoc] at hh2 hlen
      rw [← hE] at hh2 hlen
      have hc : wr.cell? ⟨g, o + J, none⟩ = some (.int .u8 ((E[o + J]'(by omega)).toNat : Int)) := hh2.cell _ _ (by unfold Lib.byteCells; rw [List.getElem?_map, List.getElem?_eq_getElem (by omega)]; rfl)
      have hf : wr.frozen? ⟨g, o + J, none⟩ = false := hh2.free _
      have hwu : IntKind.u8.wrap (q : Int) = ((UInt8.ofNat q).toNat : Int) := u8_wrap q
      have hi1 : IntKind.i64.wrap ((J : Int) - 1) = (J : Int) - 1 := IntWalk.i64_in _ (by omega)
      have e1 : ((J + 1 : Nat) : Int) - 1 = (J : Int) := by omega
      have hJ0 : (0 : Int) ≤ (J : Int) := Int.natCast_nonneg _
      have hJm : (J : Int) < (m : Int) := by omega
      have H2 : Hid (Holds (wr.setCell ⟨g, o + J, none⟩ (.int .u8 ((UInt8.ofNat q).toNat : Int))) g (Lib.byteCells (layB D (o + J) ((big m n).drop J))) e) := by
        show Holds _ _ _ _
        rw [← hset, ← bc_set]
        exact hh2.set (o + J) _
      have K2 : Hid (Kept (fun k => k = g) w (wr.setCell ⟨g, o + J, none⟩ (.int .u8 ((UInt8.ofNat q).toNat : Int)))) := hk.out.setCell rfl _
      have HQ2 := Lib.hid hq2
      rw [e1]
      generalize (E[o + J]'(by omega)).toNat = z at hc
      clear hh hh2 hset hlen hE hdrop hbg hq hq2 hk hmm hJl
      go_wp2
      go_roundw
      case rel => exact ⟨J, q / 256, by omega, HQ2.out, by first | rfl | (congr 1; simp) , by go_num, H2, K2⟩
      case measure => simp [intOf]

theorem mark_lay (BI : List UInt8) (hl : BI.length = 7) (BX BS : List UInt8) (hx : BX.length = 4) (hs : BS.length = 4) :
    layB (layB (layB (layB (layB (List.replicate 64 0) 0 [76, 71]) 2 BI) 9 BX) 13 BS) 53 (BI ++ BX) = [76, 71] ++ (BI ++ (BX ++ (BS ++ (List.replicate 36 0 ++ (BI ++ BX))))) := by
  match BI, hl, BX, hx, BS, hs with
  | [a, b, c, d, e, f, g], _, [h, i, j, k], _, [l, m, n, o], _ => rfl
theorem mark_row (BI : List UInt8) (hl : BI.length = 7) (BX BS : List UInt8) (hx : BX.length = 4) (hs : BS.length = 4) (j : Nat) (x : Value) (h : (Lib.byteCells (BI ++ BX))[j]? = some x) :
    (Lib.byteCells (layB (layB (layB (layB (List.replicate 64 0) 0 [76, 71]) 2 BI) 9 BX) 13 BS))[2 + j]? = some x := by
  match BI, hl, BX, hx, BS, hs with
  | [a, b, c, d, e, f, g], _, [k, l, m, n], _, [o, p, q, r], _ =>
    have hj : j < 11 := by have := (List.getElem?_eq_some_iff.1 h).1; simpa [Lib.byteCells] using this
    have hc : j = 0 ∨ j = 1 ∨ j = 2 ∨ j = 3 ∨ j = 4 ∨ j = 5 ∨ j = 6 ∨ j = 7 ∨ j = 8 ∨ j = 9 ∨ j = 10 := by omega
    rcases hc with rfl | rfl | rfl | rfl | rfl | rfl | rfl | rfl | rfl | rfl | rfl <;> exact h

set_option maxHeartbeats 1000000 in
/-- mark makes the mark. -/
theorem pMk (id index size : Nat) (w : World) (h1 : id < 72057594037927936) (h2 : index < 72057594037927936) (h3 : size < 72057594037927936) :
    Calls Tryz.prog 28 #[.int .i64 (id : Int), .int .i64 (index : Int), .int .i64 (size : Int)] w fun e w' => e = .returned (.string ⟨(markN id index size).toArray⟩) ∧ Kept (fun _ => False) w w' := by
  obtain ⟨i, hi, hz⟩ := sector_zero
  have HN : Hid (id < 72057594037927936 ∧ index < 72057594037927936 ∧ size < 72057594037927936) := ⟨h1, h2, h3⟩
  clear h1 h2 h3
  go_enter Tryz.func28, Tryz.ntmps28
  go_upto_region 1 with (fail)
  obtain ⟨g, hg⟩ : ∃ g, Hid (g = w.heap.size) := ⟨_, rfl⟩
  have HA := Holds.new w (Lib.byteCells (List.replicate 64 0)) 87
  have HK : Kept (fun k => k = g) w (w.alloc (.cells (Lib.byteCells (List.replicate 64 0)).toArray 87)) := (Kept.refl _ w).alloc _
  refine wp_region_lit ?_
  refine wpList_alloc_row rfl 87 rfl i _ hi hz ?_
  rw [← hg.out] at HA ⊢
  generalize w.alloc (.cells (Lib.byteCells (List.replicate 64 0)).toArray 87) = w1 at HA HK ⊢
  refine wpList_nil ?_
  change Exit.then _ _ _ _ w1
  obtain ⟨BI, hBI⟩ : ∃ BI, Hid (BI = big 7 id) := ⟨_, rfl⟩
  obtain ⟨BX, hBX⟩ : ∃ BX, Hid (BX = big 4 index) := ⟨_, rfl⟩
  obtain ⟨BS, hBS⟩ : ∃ BS, Hid (BS = big 4 size) := ⟨_, rfl⟩
  have lBI : BI.length = 7 := by rw [hBI.out, big_length]
  have lBX : BX.length = 4 := by rw [hBX.out, big_length]
  have lBS : BS.length = 4 := by rw [hBS.out, big_length]
  have hlen0 : (List.replicate 64 (0 : UInt8)).length = 64 := by simp
  obtain ⟨D0, hD0⟩ : ∃ D, Hid (D = List.replicate 64 (0 : UInt8)) := ⟨_, rfl⟩
  rw [← hD0.out] at HA hlen0
  -- LG
  go_upto_region 2 with (fail)
  refine wp_region_lit ?_
  refine wpList_plain rfl fun K hK => ?_
  go_simp
  refine hK _ _ ?_
  clear hK K
  have l1 : 0 + [(76 : UInt8), 71].length ≤ D0.length := by rw [hlen0]; decide
  have HB := Holds.setCells (Lib.byteCells [76, 71]) 0 w1 _ HA (by rw [bc_length, bc_length]; exact l1)
  have KB := Kept.setCells (X := fun k => k = g) (g := g) rfl (Lib.byteCells [76, 71]) 0 w1 HK
  rw [lay_bytes] at HB
  refine wpList_copy_text rfl (.tmp 8) (.const (.string ⟨[76, 71].toArray⟩)) _ _ rfl 5 Tryz.underlying60 byte_size g 0 2 64 [76, 71] (by kernel_rfl) (by kernel_rfl) (by decide) (HA.there _ _ (by rw [bc_length]; exact l1)) ?_
  refine wpList_nil ?_
  change Exit.then _ _ _ _ (w1.setCells g 0 (Lib.byteCells [76, 71]))
  generalize w1.setCells g 0 (Lib.byteCells [76, 71]) = w2 at HB KB ⊢
  have hlen1 := layB_length D0 0 [76, 71] l1
  obtain ⟨D1, hD1⟩ : ∃ D, Hid (D = layB D0 0 [76, 71]) := ⟨_, rfl⟩
  rw [← hD1.out] at HB hlen1
  rw [hlen0] at hlen1
  clear HA HK hlen0 l1
  -- id
  have HW := Lib.hid (pWriteL g 2 7 62 id D1 _ w2 HB (by omega) (by omega) (by omega) HN.out.1)
  rw [← hBI.out] at HW
  clear HB
  go_wp2_with fail
  refine HW.out.mono ?_
  rintro e w3 ⟨rfl, HC, KC⟩
  have KC := KB.trans KC (fun n h => .inl h)
  have hlen2 := layB_length D1 2 BI (by omega)
  obtain ⟨D2, hD2⟩ : ∃ D, Hid (D = layB D1 2 BI) := ⟨_, rfl⟩
  rw [← hD2.out] at HC hlen2
  rw [hlen1] at hlen2
  clear HW KB hlen1
  -- index
  have HW := Lib.hid (pWriteL g 9 4 55 index D2 _ w3 HC (by omega) (by omega) (by omega) HN.out.2.1)
  rw [← hBX.out] at HW
  clear HC
  go_wp2_with fail
  refine HW.out.mono ?_
  rintro e w4 ⟨rfl, HE, KE⟩
  have KE := KC.trans KE (fun n h => .inl h)
  have hlen3 := layB_length D2 9 BX (by omega)
  obtain ⟨D3, hD3⟩ : ∃ D, Hid (D = layB D2 9 BX) := ⟨_, rfl⟩
  rw [← hD3.out] at HE hlen3
  rw [hlen2] at hlen3
  clear HW KC hlen2
  -- size
  have HW := Lib.hid (pWriteL g 13 4 51 size D3 _ w4 HE (by omega) (by omega) (by omega) HN.out.2.2)
  rw [← hBS.out] at HW
  clear HE
  go_wp2_with fail
  refine HW.out.mono ?_
  rintro e w5 ⟨rfl, HF, KF⟩
  have KF := KE.trans KF (fun n h => .inl h)
  have hlen4 := layB_length D3 13 BS (by omega)
  obtain ⟨D4, hD4⟩ : ∃ D, Hid (D = layB D3 13 BS) := ⟨_, rfl⟩
  rw [← hD4.out] at HF hlen4
  rw [hlen3] at hlen4
  clear HW KE hlen3
  -- id and index again
  obtain ⟨BT, hBT⟩ : ∃ BT, Hid (BT = BI ++ BX) := ⟨_, rfl⟩
  have lBT : BT.length = 11 := by rw [hBT.out, List.length_append, lBI, lBX]
  have HRow : Hid (∀ (j : Nat) (x : Value), (Lib.byteCells BT)[j]? = some x → (Lib.byteCells D4)[2 + j]? = some x) := by
    show ∀ _ _, _
    rw [hD4.out, hD3.out, hD2.out, hD1.out, hD0.out, hBT.out]
    exact mark_row BI lBI BX BS lBX lBS
  go_upto_region 6 with (fail)
  refine wp_region_still_tail 2 (by kernel_rfl) (by kernel_rfl) ?_
  simp only [List.take_succ_cons, List.take_zero, List.drop_succ_cons, List.drop_zero]
  repeat still_step
  refine wpStill_nil ?_
  change wpList _ _ _ _ _ w5.drew
  have HG := Holds.setCells (Lib.byteCells BT) 53 w5.drew _ HF.drew (by rw [bc_length, bc_length]; omega)
  have KG := Kept.setCells (X := fun k => k = g) (g := g) rfl (Lib.byteCells BT) 53 w5.drew (KF.drewN 1)
  rw [lay_bytes] at HG
  refine wpList_copy_mid rfl (.tmp 19) (.tmp 20) _ _ rfl 5 Tryz.underlying60 byte_size g 53 11 11 g 2 11 62 (by kernel_rfl) (by kernel_rfl) (Lib.byteCells BT) (by rw [bc_length, lBT]; rfl) (HF.drew.range 2 _ HRow.out)
    (HF.drew.there _ _ (by rw [bc_length, bc_length]; omega)) (bc_one _) ?_
  refine wpList_nil ?_
  change Exit.then _ _ _ _ (w5.drew.setCells g 53 (Lib.byteCells BT))
  generalize w5.drew.setCells g 53 (Lib.byteCells BT) = w6 at HG KG ⊢
  have hlen5 := layB_length D4 53 BT (by omega)
  rw [hlen4] at hlen5
  have hcv := conv_held w6 g 64 64 _ _ HG (by rw [hlen5]; exact Nat.le_refl _)
  rw [List.take_of_length_le (by rw [hlen5]; exact Nat.le_refl _)] at hcv
  have hall : layB D4 53 BT = markN id index size := by
    rw [hBT.out, hD4.out, hD3.out, hD2.out, hD1.out, hD0.out, mark_lay _ lBI _ _ lBX lBS, hBI.out, hBX.out, hBS.out, markN]
  rw [hall] at hcv
  have HKG := Lib.hid (And.intro KG hg.out)
  clear KF HF hlen4 hlen5 KG hall HG hD4 hD3 hD2 hD1 hD0 hBS hBI hBX hBT lBI lBX lBS lBT HN HRow
  obtain ⟨H, hH⟩ : ∃ H, Hid (H = markN id index size) := ⟨_, rfl⟩
  rw [← hH.out] at hcv
  go_wp2
  go_ret
  refine ⟨by rw [← hH.out]; rfl, ?_⟩
  have hb := HKG.out.1.below (B := w.heap.size) (Nat.le_refl _) (fun n h => by have := HKG.out.2; omega)
  exact Kept.of_below _ hb

end Go.Proofs.YtfbgagpihhbllaaGreatDoor
