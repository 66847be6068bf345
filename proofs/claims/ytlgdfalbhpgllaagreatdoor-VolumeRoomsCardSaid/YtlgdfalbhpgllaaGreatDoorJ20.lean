/- VolC, RtQ, RtW. -/
import Derived.Test.YtlgdfalbhpgllaaGreatDoorJ18
import Derived.Deep.Cut
import Derived.Deep.CutRange
import Derived.Test.YtlgdfalbhpgllaaGreatDoorJ05
import Derived.Test.YtlgdfalbhpgllaaGreatDoorJ07
import Derived.BigQuiet
import Derived.Test.YtlgdfalbhpgllaaGreatDoorJ09
import Derived.Test.YtlgdfalbhpgllaaGreatDoorJ04

/- Package volume: put: bytes written to sectors one behind the other, and synced. -/
namespace Go.Proofs.YtlgdfalbhpgllaaGreatDoor
open Go.RowKit Go.Proofs Go.Proofs.Pk
set_option maxRecDepth 10000
attribute [local simp] mk_get wrap64_u8 mk_extract ByteArray.mk_append_mk get_1k

theorem write_len (S : Dsk) (k : Int) (s : List UInt8) : (S.write k s).1.L.length = S.L.length := by
  unfold Dsk.write
  repeat' split
  all_goals rfl
theorem write_more (S : Dsk) (k : Int) (s : List UInt8) : (S.write k s).1.C.length ≤ S.C.length + 1 ∧ (S.write k s).1.n ≤ S.n + 1 := by
  unfold Dsk.write
  repeat' split
  all_goals first | (simp; done) | (constructor <;> simp <;> omega)
theorem writesL_all : ∀ (l : List (Nat × List UInt8)) (S : Dsk), (writesL S l).1.L.length = S.L.length ∧ (writesL S l).1.C.length ≤ S.C.length + l.length ∧ (writesL S l).1.n ≤ S.n + l.length ∧ (S.Ok → (writesL S l).1.Ok)
  | [], S => ⟨rfl, by simp [writesL], by simp [writesL], fun h => h⟩
  | x :: l, S => by
    have h1 := write_len S x.1 x.2
    have h2 := write_more S x.1 x.2
    obtain ⟨a, b, c, d⟩ := writesL_all l (S.write x.1 x.2).1
    unfold writesL
    split
    · exact ⟨h1, by simp; omega, by simp; omega, fun h => Dsk.write_ok h _ _⟩
    · exact ⟨by rw [a, h1], by simp; omega, by simp; omega, fun h => d (Dsk.write_ok h _ _)⟩
theorem writesL_append : ∀ (l m : List (Nat × List UInt8)) (S : Dsk), writesL S (l ++ m) = if (writesL S l).2 ≠ 0 then writesL S l else writesL (writesL S l).1 m
  | [], m, S => by simp [writesL]
  | x :: l, m, S => by
    rw [List.cons_append, writesL, writesL]
    by_cases h : (S.write x.1 x.2).2 ≠ 0
    · rw [if_pos h, if_pos h, if_pos h]
    · rw [if_neg h, if_neg h, writesL_append l m]
theorem writesL_one (S : Dsk) (x : Nat × List UInt8) : writesL S [x] = S.write x.1 x.2 := by
  rw [writesL, writesL]
  split
  · rfl
  · rename_i h
    have : (S.write x.1 x.2).2 = 0 := by omega
    rw [← this]
theorem writesL_next (S : Dsk) (l : List (Nat × List UInt8)) (j : Nat) (hj : j < l.length) (h0 : (writesL S (l.take j)).2 = 0) : writesL S (l.take (j + 1)) = (writesL S (l.take j)).1.write l[j].1 l[j].2 := by
  rw [List.take_succ_eq_append_getElem hj, writesL_append, if_neg (by omega), writesL_one]
theorem writesL_stop (S : Dsk) (l : List (Nat × List UInt8)) (j : Nat) (h0 : (writesL S (l.take j)).2 ≠ 0) : writesL S l = writesL S (l.take j) := by
  have := writesL_append (l.take j) (l.drop j) S
  rw [List.take_append_drop, if_pos h0] at this
  exact this

/-- Bytes put from a sector on: the volume, the error. -/
def putV (V : Vol) (a : Nat) (b : List UInt8) : Vol × Nat :=
  let r1 := writesL V.D (chunksAt a b)
  if r1.2 ≠ 0 then (downV ⟨r1.1, V.R, V.gone⟩ r1.2, r1.2) else (downV ⟨r1.1.sync.1, V.R, V.gone⟩ r1.1.sync.2, r1.1.sync.2)
theorem chunksAt_length (a : Nat) (b : List UInt8) : (chunksAt a b).length = nch b.length := by simp [chunksAt]
theorem chunksAt_get (a : Nat) (b : List UInt8) (j : Nat) (hj : j < (chunksAt a b).length) : (chunksAt a b)[j] = (a + j, chunk b j) := by simp [chunksAt]

set_option maxHeartbeats 2000000 in
theorem putP (w : World) (B p pd : Nat) (V : Vol) (vF : Value) (X : Nat → Prop) (h : VlP w B p pd V vF X) (hg : ErrTy w) (hB : 0 < B) (hl : V.gone = false) (a : Nat) (ha : a ≤ 100000) (b : List UInt8) (hb : b.length ≤ 512) (hC : V.D.C.length ≤ 999000) (hN : V.D.n ≤ 999000) :
    Calls Tryz.prog 45 #[.pointer (some ⟨p, 0, none⟩), .int .i64 (a : Int), .string ⟨b.toArray⟩] w fun e w' => ∃ v, e = .returned v ∧ ErF w' v (putV V a b).2 true ∧ VlLeft w B p pd (putV V a b).1 vF X w' := by
  have HL := Lib.hid h.lt
  have HG := Lib.hid hg
  have HI : Hid (∃ X', VlP w B p pd ⟨(writesL V.D ((chunksAt a b).take 0)).1, V.R, V.gone⟩ vF X' ∧ Grows w X X' ∧ Kept X w w) := ⟨X, h, Grows.refl _ _, Kept.refl _ _⟩
  have HZ : Hid ((writesL V.D ((chunksAt a b).take 0)).2 = 0) := rfl
  have HC := Lib.hid hC
  have HN := Lib.hid hN
  have HL0 := Lib.hid hl
  have HB := Lib.hid hb
  clear h hg hC hN hl
  go_enter Tryz.func45, Tryz.ntmps45
  go_wp2
  go_loopw [7, 8, 9] (fun at' _ _ wr => ∃ j : Nat, j ≤ nch b.length ∧ at' = .int .i64 ((64 * j : Nat) : Int) ∧ Hid (∃ X', VlP wr B p pd ⟨(writesL V.D ((chunksAt a b).take j)).1, V.R, V.gone⟩ vF X' ∧ Grows w X X' ∧ Kept X w wr) ∧ Hid ((writesL V.D ((chunksAt a b).take j)).2 = 0)) (fun at' _ _ _ => 1000 - (intOf at').toNat)
  case atStart => exact ⟨0, Nat.zero_le _, rfl, HI, HZ⟩
  case round =>
    obtain ⟨j, hj, rfl, hI, hZ⟩ := hrel
    have hjn : j < nch b.length ↔ 64 * j < b.length := by unfold nch; omega
    by_cases hlt : ((64 * j : Nat) : Int) < (b.length : Int)
    · have hch : j < (chunksAt a b).length := by rw [chunksAt_length]; omega
      have hnx := writesL_next V.D _ j hch hZ.out
      rw [chunksAt_get] at hnx
      simp only at hnx
      rw [show ((a + j : Nat) : Int) = (a : Int) + (j : Int) from by omega] at hnx
      obtain ⟨X', hv, hgr, hk⟩ := hI.out
      have hok := hv.ok
      obtain ⟨m1, m2, m3, m4⟩ := writesL_all ((chunksAt a b).take j) V.D
      have hlen : ((chunksAt a b).take j).length = j := by rw [List.length_take]; omega
      have hj8 : j ≤ 8 := by unfold nch at hj; have := HB.out; omega
      obtain ⟨Xd, hA, hX⟩ := hv
      simp only at hok
      generalize (writesL V.D ((chunksAt a b).take j)).1 = S at hnx hA hok m1 m2 m3
      have c0 := hA.obj.cell 0 _ rfl
      have HW := Lib.hid (pWr ((a : Int) + (j : Int)) (chunk b j) wr B pd S Xd hA.dsk hok (by rw [hlen] at m2; have := HC.out; omega) (by rw [hlen] at m3; have := HN.out; omega))
      obtain ⟨m, hm⟩ : ∃ m, m = min (64 * j + 64) b.length := ⟨_, rfl⟩
      have hmin : (min (64 * (j : Int) + 64) (b.length : Int)) = (m : Int) := by omega
      have hm0 : (0 : Int) ≤ 64 * (j : Int) := by omega
      have hm1 : 64 * (j : Int) ≤ (m : Int) := by omega
      have hm2 : (m : Int) ≤ (b.length : Int) := by omega
      have hw64 : IntKind.i64.wrap (64 * (j : Int) + 64) = 64 * (j : Int) + 64 := IntWalk.i64_in _ (by omega)
      have hchk : Hid (List.take (m - 64 * j) (List.drop (64 * j) b) = chunk b j) := by
        show _ = _
        unfold chunk
        exact List.take_eq_take_iff.2 (by rw [List.length_drop]; omega)
      have HS := Lib.hid (And.intro hA (And.intro hX (And.intro hgr hk)))
      have HNX := Lib.hid hnx
      have HOK := Lib.hid hok
      have hjn' : j < nch b.length := by omega
      have HJ := Lib.hid hjn'
      clear hA hX hgr hk m1 m2 m3 m4 hlen hm hnx hok hjn hI hjn' hch
      go_upto_region 5 with (fail)
      go_wp2_with fail
      rw [hchk.out]
      refine HW.out.mono ?_
      rintro e w1 ⟨rfl, Xd', hd1, hgr1, hk1⟩
      obtain ⟨hv1, hg1, hkx1⟩ := VlP.disk HS.out.1 HS.out.2.1 hd1 hgr1 hk1 (Dsk.write_ok HOK.out _ _) (write_len _ _ _)
      have hgX1 := HS.out.2.2.1.trans hg1 HS.out.2.2.2.size
      have hkX1 := HS.out.2.2.2.trans hkx1 HS.out.2.2.1
      have hE := HG.out.kept hkX1 (fun hx => by have := (HL.out _ (.inl hx)).1; omega)
      rw [← HNX.out] at hv1 ⊢
      have HBW := Lib.hid (belowP w1 B p pd _ vF _ hv1 hE hB (writesL V.D ((chunksAt a b).take (j + 1))).2)
      have HK1 := Lib.hid (And.intro hgX1 hkX1)
      clear hd1 hgr1 hk1 hv1 hg1 hkx1 hgX1 hkX1 hE HW HS HNX HOK c0
      go_wp2_with fail
      refine HBW.out.mono ?_
      clear HBW
      rintro e w2 ⟨v, rfl, he, hv2, hk2⟩
      have hkX2 := HK1.out.2.trans hk2 HK1.out.1
      rcases he with ⟨hz, rfl⟩ | ⟨hnz, q, hq, rfl, hfa⟩
      · rw [hz] at hv2
        have HV2 := Lib.hid (And.intro hv2 hkX2)
        have HZ2 := Lib.hid hz
        clear hv2 hkX2 hk2 hz
        go_wp2
        go_roundw
        case rel => exact ⟨j + 1, HJ.out, by first | rfl | go_num, ⟨_, HV2.out.1, HK1.out.1, HV2.out.2⟩, HZ2⟩
        case measure => simp [intOf]; omega
      · have hput : Hid (putV V a b = (downV ⟨(writesL V.D ((chunksAt a b).take (j + 1))).1, V.R, V.gone⟩ (writesL V.D ((chunksAt a b).take (j + 1))).2, (writesL V.D ((chunksAt a b).take (j + 1))).2)) := by
          show _ = _
          unfold putV
          rw [writesL_stop _ _ _ hnz, if_pos hnz]
        have HV2 := Lib.hid (And.intro hv2 hkX2)
        have HE2 := Lib.hid (show ErF w2 _ _ true from .inr ⟨hnz, q, hq, rfl, hfa⟩)
        clear hv2 hkX2 hk2 hnz hfa hq
        go_wp2
        go_ret
        rw [hput.out]
        exact ⟨_, rfl, HE2.out, _, _, HV2.out.1, HK1.out.1, fun b hb => .inl (downF_sub hb), HV2.out.2⟩
    · obtain rfl : j = nch b.length := by omega
      have hall : (chunksAt a b).take (nch b.length) = chunksAt a b := by rw [← chunksAt_length a b, List.take_length]
      have hI' := hI.out
      have hZ' := hZ.out
      rw [hall] at hI' hZ'
      obtain ⟨X', hv, hgr, hk⟩ := hI'
      have hE := HG.out.kept hk (fun hx => by have := (HL.out _ (.inl hx)).1; omega)
      have HS := Lib.hid (syncP wr B p pd _ vF X' hv hE hB HL0.out)
      have HK := Lib.hid (And.intro hgr hk)
      have hput : Hid (putV V a b = (downV ⟨(writesL V.D (chunksAt a b)).1.sync.1, V.R, V.gone⟩ (writesL V.D (chunksAt a b)).1.sync.2, (writesL V.D (chunksAt a b)).1.sync.2)) := by
        show _ = _
        unfold putV
        rw [if_neg (by omega)]
      clear hI hZ hZ' hv hgr hk hE hall hjn
      go_wp2_with fail
      refine HS.out.mono ?_
      clear HS
      rintro e w2 ⟨v, rfl, he, X2, vF2, hv2, hg2, hf2, hk2⟩
      go_wp2
      go_ret
      rw [hput.out]
      exact ⟨_, rfl, he, X2, vF2, hv2, HK.out.1.trans hg2 HK.out.2.size, fun b hb => (hf2 b hb).elim .inl (fun h => .inr (Nat.le_trans HK.out.2.size h)), HK.out.2.trans hk2 HK.out.1⟩

end Go.Proofs.YtlgdfalbhpgllaaGreatDoor

/- Package root: Right. -/
namespace Go.Proofs.YtlgdfalbhpgllaaGreatDoor
open Go.RowKit Go.Proofs Go.Proofs.Pk
set_option maxRecDepth 10000
attribute [local simp] mk_get wrap64_u8 mk_extract ByteArray.mk_append_mk get_1k

set_option maxHeartbeats 1000000 in
theorem pRightR (T seq next cur : Int) (ad : Option Addr) (len cap : Nat) (l : List FileV) (w : World) (ht : Fit T) (h : Files w ad len l) :
    Calls Tryz.prog 59 #[.int .i64 T, .agg #[.int .i64 seq, .int .i64 next, .int .i64 cur, .slice ad len cap]] w fun e w' => e = .returned (.bool (rightV T seq next cur l)) ∧ Below w.heap.size w w' := by
  obtain ⟨iR, hiR, hzR, hsR, hbR⟩ := info_parts run_info
  by_cases hh : headF seq next l.length = true
  · have hl := h.1
    have hhh := hh
    unfold headF at hhh
    simp only [Bool.and_eq_true, decide_eq_true_eq] at hhh
    obtain ⟨⟨⟨⟨k1, k2⟩, k3⟩, k4⟩, k5⟩ := hhh
    have hlen : (len : Int) ≤ 24 := by omega
    have HV : Hid (rightV T seq next cur l = (okF next 0 l && curF cur l && (takenO T (usedF l)).isSome)) := by show _ = _; unfold rightV; rw [hh, Bool.true_and]
    have HR := Lib.hid h
    have HT := Lib.hid ht
    have e1 : decide (seq < 1) = false := by rw [decide_eq_false_iff_not]; omega
    have e2 : decide (9007199254740991 < seq) = false := by rw [decide_eq_false_iff_not]; omega
    have e3 : decide (next < 1) = false := by rw [decide_eq_false_iff_not]; omega
    have e4 : decide (9007199254740991 < next) = false := by rw [decide_eq_false_iff_not]; omega
    have e5 : decide (24 < (len : Int)) = false := by rw [decide_eq_false_iff_not]; omega
    have HBX := Holds.new w [.int .i64 seq, .int .i64 next, .int .i64 cur, .slice ad len cap] 40
    have hb0 : Below w.heap.size w (w.alloc (.cells #[.int .i64 seq, .int .i64 next, .int .i64 cur, .slice ad len cap] 40)) := (Below.refl _ _).alloc (Nat.le_refl _) _
    have hFit : Hid (∀ f ∈ l, FitF f) := h.fit
    have hnx : -9223372036854775808 ≤ next ∧ next ≤ 9223372036854775807 := by omega
    clear hh h ht k5
    go_enter Tryz.func59, Tryz.ntmps59
    go_wp2
    obtain ⟨p, hp⟩ : ∃ p, Hid (p = w.heap.size) := ⟨_, rfl⟩
    rw [← hp.out] at HBX ⊢
    change Holds (w.alloc (.cells #[.int .i64 seq, .int .i64 next, .int .i64 cur, .slice ad len cap] 40)) p _ _ at HBX
    generalize w.alloc (.cells #[.int .i64 seq, .int .i64 next, .int .i64 cur, .slice ad len cap] 40) = w1 at HBX hb0 ⊢
    have HP : Hid (p < w1.heap.size) := HBX.lt
    have HX := Lib.hid HBX
    have HB0 := Lib.hid hb0
    have z2 := HBX.cell 2 _ rfl
    have z3 := HBX.cell 3 _ rfl
    clear HBX hb0
    go_quiet (fail)
    go_wp2
    obtain ⟨wq, hwq⟩ : ∃ wq, wq = w1.drewN nq := ⟨_, rfl⟩
    have HS : Hid (Below w1.heap.size w1 wq) := by rw [hwq]; exact belowN (Below.refl _ _) _
    clear z2 z3
    have HC0 : Hid ((cur == 0) = curF cur (l.take 0)) := by show _ = _; unfold curF; simp
    rw [← hwq]
    clear hwq
    generalize (cur == 0) = c0 at HC0 ⊢
    go_loopw [5, 6, 7, 38] (fun la c v i wr => ∃ (j : Nat) (last : Int) (cb : Bool), j ≤ len ∧ c = .bool cb ∧ la = .int .i64 last ∧ i = .int .i64 j ∧ Hid (cb = curF cur (l.take j)) ∧ Hid (okF next 0 l = okF next last (l.drop j)) ∧ Hid (wr.ownsRow w1.heap.size 101 2 v j ((usedF (l.take j)).flatMap runV)) ∧ Hid (Below w1.heap.size w1 wr)) (fun _ _ _ i _ => len - (intOf i).toNat)
    case atStart => exact ⟨0, 0, c0, Nat.zero_le _, rfl, rfl, rfl, HC0, rfl, World.ownsRow_nil _ _ _ _, HS⟩
    case round =>
      obtain ⟨j, last, cb, hj, rfl, rfl, rfl, hcb, hok, ho, hb⟩ := hrel
      have x0 : wr.cell? ⟨p, 0, none⟩ = some (.int .i64 seq) := by rw [hb.out.cell (p := ⟨p, 0, none⟩) HP.out]; exact HX.out.cell 0 _ rfl
      have x1 : wr.cell? ⟨p, 1, none⟩ = some (.int .i64 next) := by rw [hb.out.cell (p := ⟨p, 1, none⟩) HP.out]; exact HX.out.cell 1 _ rfl
      have x2 : wr.cell? ⟨p, 2, none⟩ = some (.int .i64 cur) := by rw [hb.out.cell (p := ⟨p, 2, none⟩) HP.out]; exact HX.out.cell 2 _ rfl
      have x3 : wr.cell? ⟨p, 3, none⟩ = some (.slice ad len cap) := by rw [hb.out.cell (p := ⟨p, 3, none⟩) HP.out]; exact HX.out.cell 3 _ rfl
      have y1 : ∀ o, (wr.alloc o).cell? ⟨p, 1, none⟩ = some (.int .i64 next) := fun o => Lib.cell?_alloc_some o x1
      have y2 : ∀ o, (wr.alloc o).cell? ⟨p, 2, none⟩ = some (.int .i64 cur) := fun o => Lib.cell?_alloc_some o x2
      by_cases hlt : (j : Int) < len
      · have hjl : j < len := by omega
        have hjL : j < l.length := by have := HR.out.1; omega
        obtain ⟨b, off, rfl, hbl, hrow, hfit⟩ := files_at (HR.out.below (HB0.out.trans (hb.out.mono HB0.out.size))) j hjl
        have hdrop : l.drop j = l[j] :: l.drop (j + 1) := List.drop_eq_getElem_cons hjL
        have htake : l.take (j + 1) = l.take j ++ [l[j]] := List.take_succ_eq_append_getElem hjL
        have hok2 := hok.out
        rw [hdrop, okF] at hok2
        have hcur : curF cur (l.take (j + 1)) = (curF cur (l.take j) || l[j].1 == cur) := by rw [htake, curF_snoc]
        have hus : usedF (l.take (j + 1)) = usedF (l.take j) ++ [l[j].2] := by rw [htake, usedF_snoc]
        generalize l[j] = f at hrow hfit hok2 hcur hus
        obtain ⟨f0, f1, f2⟩ := f
        simp only at hok2 hcur hus
        have d0 : wr.cell? ⟨b, off + j * 3, none⟩ = some (.int .i64 f0) := hrow 0 _ rfl
        have d1 : wr.cell? ⟨b, off + j * 3 + 1, none⟩ = some (.int .i64 f1) := hrow 1 _ rfl
        have d2 : wr.cell? ⟨b, off + j * 3 + 2, none⟩ = some (.int .i64 f2) := hrow 2 _ rfl
        have hj0 : (0 : Int) ≤ (j : Int) := Int.natCast_nonneg _
        have hwj : IntKind.i64.wrap ((j : Int) + 1) = ((j + 1 : Nat) : Int) := by rw [IntWalk.i64_in _ (by omega)]; omega
        have HOK := Lib.hid hok2
        have HCU := Lib.hid hcur
        have HUS := Lib.hid hus
        clear hrow hdrop htake hok hok2 hcur hus hfit
        have hbA : Hid (Below w.heap.size w wr) := HB0.out.trans (hb.out.mono HB0.out.size)
        by_cases gg : f0 ≤ last ∨ next ≤ f0 ∨ f1 < 18
        · have HF : Hid (rightV T seq next cur l = false) := by
            show _ = _
            have e : (decide (f0 ≤ last) || decide (next ≤ f0) || decide (f1 < 18)) = true := by
              rcases gg with h | h | h <;> simp [h]
            rw [HV.out, HOK.out, e]; rfl
          clear HV HOK HCU HUS hcb
          by_cases g1 : f0 ≤ last
          case' neg =>
            by_cases g2 : next ≤ f0
            case' neg =>
              have g3 : f1 < 18 := by omega
          all_goals
            clear gg
            go_wp2
            all_goals
              go_ret
              rw [HF.out]
              exact ⟨rfl, hbA.out.alloc hbA.out.size _⟩
        · have r1 : decide (f0 ≤ last) = false := by rw [decide_eq_false_iff_not]; omega
          have r2 : decide (next ≤ f0) = false := by rw [decide_eq_false_iff_not]; omega
          have r3 : decide (f1 < 18) = false := by rw [decide_eq_false_iff_not]; omega
          have HOK2 : Hid (okF next 0 l = okF next f0 (l.drop (j + 1))) := by show _ = _; rw [HOK.out, r1, r2, r3]; rfl
          obtain ⟨F, hF⟩ : ∃ F, Hid (F = usedF (l.take j)) := ⟨_, rfl⟩
          rw [← hF.out] at ho HUS
          have hcb2 := hcb.out
          rw [← hcb2] at HCU
          clear gg HOK hF hcb hcb2
          cases cb
          all_goals
            have hd := hb.out.alloc hb.out.size (.cells #[.int .i64 f0, .int .i64 f1, .int .i64 f2] 49)
            have hoD := ho.out.alloc (.cells #[.int .i64 f0, .int .i64 f1, .int .i64 f2] 49)
            have HNF := Holds.new wr [.int .i64 f0, .int .i64 f1, .int .i64 f2] 49
            obtain ⟨gq, hgq⟩ : ∃ gq, Hid (gq = wr.heap.size) := ⟨_, rfl⟩
            go_upto_region 14 with (fail)
            rw [← hgq.out] at HNF ⊢
            change Holds (wr.alloc (.cells #[.int .i64 f0, .int .i64 f1, .int .i64 f2] 49)) _ _ _ at HNF
            generalize wr.alloc (.cells #[.int .i64 f0, .int .i64 f1, .int .i64 f2] 49) = wf at hd hoD HNF ⊢
            have n1 := HNF.cell 1 _ rfl
            have n2 := HNF.cell 2 _ rfl
            refine wp_region_lit ?_
            iterate 6
              refine wpList_plain rfl fun K hK => ?_
              go_simp
              refine hK _ _ ?_
              clear hK K
            have HQ := Holds.new wf (runV (f1, f2)) 101
            have HBd := hd.alloc hd.size (.cells (runV (f1, f2)).toArray 101)
            have HOw := hoD.alloc (.cells (runV (f1, f2)).toArray 101)
            obtain ⟨q, hq⟩ : ∃ q, Hid (q = wf.heap.size) := ⟨_, rfl⟩
            refine wpList_buildSlice_row rfl 80 101 (.tmp 73) rfl iR _ (runV (f1, f2)) Tryz.underlying80 hiR hzR (by rw [hsR]; rfl) (by simp [runV]) (by simp [runV]) (by rfl) ?_
            rw [← hq.out] at HQ ⊢
            generalize wf.alloc (.cells (runV (f1, f2)).toArray 101) = wd at HQ HBd HOw ⊢
            refine wpList_append_at wd rfl (.tmp 68) (.tmp 74) 80 rfl w1.heap.size 101 iR _ 2 16 Tryz.underlying80 hiR hzR hsR hbR (by rfl) (by omega) _ j (F.flatMap runV) (by rfl) HOw
              ⟨q, 0, none⟩ 1 1 (runV (f1, f2)) (by rfl) (by simp [runV]) (fun j u hj => by rw [add0]; exact HQ.cell j u hj) (by simp [runV, Value.oneCell']) (by unfold maxLen; omega) (by omega) HBd.size (by omega) ?_
            intro v' we ho2 hgr _
            have HB2 : Hid (Below w1.heap.size w1 we) := HBd.grown hgr HBd.size (own_low HOw)
            have HO2 : Hid (we.ownsRow w1.heap.size 101 2 v' (j + 1) ((usedF (l.take (j + 1))).flatMap runV)) := by
              show World.ownsRow _ _ _ _ _ _ _
              rw [HUS.out]; exact owns_len ho2 rfl (by simp)
            clear ho2 hgr HQ HBd HOw hd hoD n1 n2 HNF
            go_wp2
            go_roundw
            case rel => exact ⟨j + 1, f0, _, by omega, by rfl, by go_num, by go_num, by show _ = _; rw [HCU.out]; simp, HOK2, HO2, HB2⟩
            case measure => simp [intOf]; omega
      · have hjl : j = len := by omega
        subst hjl
        have hLL := HR.out.1
        have hcb2 := hcb.out
        have ho2 := ho.out
        rw [List.take_of_length_le (by omega)] at hcb2 ho2
        have HOK : Hid (okF next 0 l = true) := by show _ = _; rw [hok.out, List.drop_eq_nil_of_le (by omega)]; rfl
        have hff : ∀ r ∈ usedF l, Fit r.1 ∧ Fit r.2 := by
          intro r hr
          unfold usedF at hr
          obtain ⟨f, hf, rfl⟩ := List.mem_map.1 hr
          exact (hFit.out f hf).2
        have hbA : Hid (Below w.heap.size w wr) := HB0.out.trans (hb.out.mono HB0.out.size)
        obtain ⟨_, ad2, cap2, rfl, hfl, _, hRu⟩ := own_runs ho2 hff
        have HFL := Lib.hid hfl
        have HRU := Lib.hid hRu
        have HCB : Hid (cb = curF cur l) := hcb2
        clear hcb hcb2 ho ho2 hok hff hRu
        cases cb with
        | false =>
          have HF : Hid (rightV T seq next cur l = false) := by show _ = _; rw [HV.out, HOK.out, ← HCB.out]; rfl
          go_wp2
          go_ret
          rw [HF.out]
          exact ⟨rfl, hbA.out⟩
        | true =>
          have HF : Hid (rightV T seq next cur l = (takenO T (usedF l)).isSome) := by show _ = _; rw [HV.out, HOK.out, ← HCB.out]; rfl
          go_wp2_with fail
          refine (rightP T ad2 j cap2 (usedF l) _ HT.out HRU.out HFL.out).mono ?_
          rintro e wz ⟨rfl, hbz⟩
          go_wp2
          go_ret
          rw [HF.out]
          exact ⟨rfl, hbA.out.trans (hbz.mono hbA.out.size)⟩
  · have HV : Hid (rightV T seq next cur l = false) := by show _ = _; unfold rightV; rw [Bool.not_eq_true] at hh; rw [hh]; rfl
    rw [HV.out]
    have hl := h.1
    unfold headF at hh
    simp only [Bool.and_eq_true, decide_eq_true_eq] at hh
    by_cases k1 : seq < 1
    case' neg =>
      by_cases k2 : 9007199254740991 < seq
      case' neg =>
        by_cases k3 : next < 1
        case' neg =>
          by_cases k4 : 9007199254740991 < next
          case' neg =>
            have k5 : 24 < (len : Int) := by omega
    all_goals
      clear hh hl h
      go_enter Tryz.func59, Tryz.ntmps59
      go_wp2
      all_goals
        go_ret
        exact ⟨rfl, (Below.refl _ _).alloc (Nat.le_refl _) _⟩

end Go.Proofs.YtlgdfalbhpgllaaGreatDoor

/- Package root: write and number, and a row of bytes in memory written over in places. -/
namespace Go.Proofs.YtlgdfalbhpgllaaGreatDoor
open Go.RowKit Go.Proofs Go.Proofs.Pk
set_option maxRecDepth 10000
attribute [local simp] mk_get wrap64_u8 mk_extract ByteArray.mk_append_mk get_1k

/-- Bytes written over from a place on. -/
def layB (D : List UInt8) (o : Nat) (l : List UInt8) : List UInt8 := D.take o ++ (l ++ D.drop (o + l.length))
theorem layB_length (D : List UInt8) (o : Nat) (l : List UInt8) (h : o + l.length ≤ D.length) : (layB D o l).length = D.length := by
  unfold layB; simp; omega
theorem lay_bytes (D : List UInt8) (o : Nat) (l : List UInt8) : lay (Lib.byteCells D) o (Lib.byteCells l) = Lib.byteCells (layB D o l) := by
  unfold lay layB
  rw [bc_length, Lib.byteCells_append, Lib.byteCells_append, bc_take, bc_drop]
theorem layB_nil (D : List UInt8) (o : Nat) : layB D o [] = D := by unfold layB; simp
theorem layB_set (D : List UInt8) (o : Nat) (l : List UInt8) (c : UInt8) (h : o + 1 + l.length ≤ D.length) : (layB D (o + 1) l).set o c = layB D o (c :: l) := by
  unfold layB
  have h1 : D.take (o + 1) = D.take o ++ [D[o]'(by omega)] := List.take_succ_eq_append_getElem (by omega)
  rw [h1, List.append_assoc, List.set_append_right _ _ (by rw [List.length_take]; omega)]
  rw [List.length_take, Nat.min_eq_left (by omega), Nat.sub_self]
  simp only [List.cons_append, List.nil_append, List.set_cons_zero, List.length_cons]
  rw [show o + 1 + l.length = o + (l.length + 1) from by omega]
theorem bc_set (D : List UInt8) (o : Nat) (c : UInt8) : (Lib.byteCells D).set o (.int .u8 (c.toNat : Int)) = Lib.byteCells (D.set o c) := by
  simp [Lib.byteCells, List.map_set]
theorem big_get : ∀ (m n j : Nat) (hj : j < m), (big m n)[j]'(by rw [big_length]; exact hj) = UInt8.ofNat (n / 256 ^ (m - 1 - j))
  | 0, _, _, hj => by omega
  | m + 1, n, j, hj => by
    by_cases h : j = m
    · subst h
      simp only [big]
      rw [List.getElem_append_right (by rw [big_length]; exact Nat.le_refl _)]
      simp [big_length]
    · have hjm : j < m := by omega
      simp only [big]
      rw [List.getElem_append_left (by rw [big_length]; exact hjm), big_get m (n / 256) j hjm, Nat.div_div_eq_div_mul]
      rw [show 256 * 256 ^ (m - 1 - j) = 256 ^ (m + 1 - 1 - j) from by rw [Nat.mul_comm, ← Nat.pow_succ]; congr 1; omega]

/-- A slice of a held row of bytes as a text. -/
theorem conv_held (w : World) (g cap N : Nat) (e : TypeId) (D : List UInt8) (h : Holds w g (Lib.byteCells D) e) (hN : N ≤ D.length) :
    (convert 76 9 (.slice (some ⟨g, 0, none⟩) N cap)).run Tryz.prog w = .ok (.string ⟨(D.take N).toArray⟩) w := by
  have hl : (D.take N).length = N := by rw [List.length_take]; omega
  have := run_convert_bytes_arg (P := Tryz.prog) w 76 5 Tryz.underlying76 Tryz.underlying5 g 0 N cap ((D.take N).map fun c => (c.toNat : Int)) (by simp; omega) (fun i hi => by
    have hiT : i < D.length := by omega
    have := h.cell i (.int .u8 ((D[i]).toNat)) (by simp [Lib.byteCells, hiT])
    simpa [hiT, hi, List.getD, List.getElem?_take] using this) 9 Tryz.underlying9
  rw [str_nums] at this
  exact this

theorem pNumber (l : List UInt8) (w : World) (hl : l.length ≤ 7) :
    Calls Tryz.prog 63 #[.string ⟨l.toArray⟩] w fun e w' => e = .returned (.int .i64 (val l : Nat)) ∧ w' = w := by
  have HL : Hid (l.length ≤ 7) := hl
  have hli : (l.length : Int) ≤ 7 := by omega
  clear hl
  go_enter Tryz.func63, Tryz.ntmps63
  go_wp2
  go_loop [3, 7] (fun n i => ∃ k : Nat, (k : Int) ≤ l.length ∧ n = .int .i64 (val (l.take k)) ∧ i = .int .i64 k) (fun _ i => l.length - (intOf i).toNat)
  case atStart => exact ⟨0, by omega, rfl, rfl⟩
  case round =>
    obtain ⟨k, hk, rfl, rfl⟩ := hrel
    by_cases hlt : (k : Int) < l.length
    · have hkl : k < l.length := by omega
      go_wp2
      go_round
      case rel => exact ⟨k + 1, by omega, by rw [val_take l k hkl]; exact congrArg _ (or_byte _ _ (val6 l k (by have := HL.out; omega))), by go_num⟩
      case measure => simp [intOf]; omega
    · have hkc : k = l.length := by omega
      subst hkc
      go_wp2
      go_ret
      exact ⟨rfl, rfl⟩

set_option maxHeartbeats 1000000 in
theorem pWrite (g o m cap n : Nat) (D : List UInt8) (e : TypeId) (w : World) (h : Holds w g (Lib.byteCells D) e) (hm : m ≤ 7) (ho : o + m ≤ D.length) (hD : D.length ≤ 4096) (hn : n < 72057594037927936) :
    Calls Tryz.prog 62 #[.slice (some ⟨g, o, none⟩) m cap, .int .i64 (n : Int)] w fun e' w' => e' = .returned (.tuple #[]) ∧ Holds w' g (Lib.byteCells (layB D o (big m n))) e ∧ Kept (fun k => k = g) w w' := by
  have HM : Hid (m ≤ 7 ∧ o + m ≤ D.length ∧ D.length ≤ 4096 ∧ n < 72057594037927936) := ⟨hm, ho, hD, hn⟩
  have hm1 : (m : Int) ≤ 7 := by omega
  have H0 : Hid (Holds w g (Lib.byteCells (layB D (o + m) ((big m n).drop m))) e) := by
    show Holds _ _ _ _
    rw [List.drop_eq_nil_of_le (by rw [big_length]; exact Nat.le_refl _), layB_nil]; exact h
  clear h ho hD hm hn
  go_enter Tryz.func62, Tryz.ntmps62
  go_wp2
  obtain ⟨wq, hwq⟩ : ∃ wq, wq = w := ⟨_, rfl⟩
  have HS : Hid (Kept (fun k => k = g) w wq) := by rw [hwq]; exact Kept.refl _ _
  have H1 : Hid (Holds wq g (Lib.byteCells (layB D (o + m) ((big m n).drop m))) e) := by rw [hwq]; exact H0
  rw [← hwq]
  clear hwq H0
  go_loopw [1, 4] (fun x i wr => ∃ (j : Nat) (q : Nat), j ≤ m ∧ q = n / 256 ^ (m - j) ∧ x = .int .i64 (q : Int) ∧ i = .int .i64 ((j : Int) - 1) ∧ Hid (Holds wr g (Lib.byteCells (layB D (o + j) ((big m n).drop j))) e) ∧ Hid (Kept (fun k => k = g) w wr)) (fun _ i _ => (intOf i + 1).toNat)
  case atStart => exact ⟨m, n, Nat.le_refl _, by rw [Nat.sub_self]; simp, rfl, by go_num, H1, HS⟩
  case round =>
    obtain ⟨j, q, hj, hq, rfl, rfl, hh, hk⟩ := hrel
    cases j with
    | zero =>
      clear hq
      have hh2 := hh.out
      rw [Nat.add_zero, List.drop_zero] at hh2
      have HH := Lib.hid hh2
      clear hh hh2
      go_wp2
      go_end0
      exact ⟨rfl, HH.out, hk.out⟩
    | succ J =>
      have hmm := HM.out
      have hJl : J < (big m n).length := by rw [big_length]; omega
      have hdrop : (big m n).drop J = (big m n)[J] :: (big m n).drop (J + 1) := List.drop_eq_getElem_cons hJl
      have hbg := big_get m n J (by omega)
      rw [show m - 1 - J = m - (J + 1) from by omega, ← hq] at hbg
      have hset := layB_set D (o + J) ((big m n).drop (J + 1)) ((big m n)[J]) (by rw [List.length_drop, big_length]; omega)
      rw [← hdrop, hbg] at hset
      have hq2 : q / 256 = n / 256 ^ (m - J) := by
        rw [hq, Nat.div_div_eq_div_mul, ← Nat.pow_succ]; congr 2; omega
      have hqn : q < 72057594037927936 := by rw [hq]; exact Nat.lt_of_le_of_lt (Nat.div_le_self _ _) hmm.2.2.2
      have hlen : (layB D (o + (J + 1)) ((big m n).drop (J + 1))).length = D.length := layB_length _ _ _ (by rw [List.length_drop, big_length]; omega)
      obtain ⟨E, hE⟩ : ∃ E, E = layB D (o + (J + 1)) ((big m n).drop (J + 1)) := ⟨_, rfl⟩
      rw [← Nat.add_assoc] at hE
      rw [← hE] at hset
      have hh2 := hh.out
      rw [← Nat.add_assoc] at hh2 hlen
      rw [← hE] at hh2 hlen
      have hc : wr.cell? ⟨g, o + J, none⟩ = some (.int .u8 ((E[o + J]'(by omega)).toNat : Int)) := hh2.cell _ _ (by unfold Lib.byteCells; rw [List.getElem?_map, List.getElem?_eq_getElem (by omega)]; rfl)
      have hf : wr.frozen? ⟨g, o + J, none⟩ = false := hh2.free _
      have hwu : IntKind.u8.wrap (q : Int) = ((UInt8.ofNat q).toNat : Int) := u8_wrap q
      have hi1 : IntKind.i64.wrap ((J : Int) - 1) = (J : Int) - 1 := IntWalk.i64_in _ (by omega)
      have e1 : ((J + 1 : Nat) : Int) - 1 = (J : Int) := by omega
      have hJ0 : (0 : Int) ≤ (J : Int) := Int.natCast_nonneg _
      have hJm : (J : Int) < (m : Int) := by omega
      have H2 : Hid (Holds (wr.setCell ⟨g, o + J, none⟩ (.int .u8 ((UInt8.ofNat q).toNat : Int))) g (Lib.byteCells (layB D (o + J) ((big m n).drop J))) e) := by
        show Holds _ _ _ _
        rw [← hset, ← bc_set]
        exact hh2.set (o + J) _
      have K2 : Hid (Kept (fun k => k = g) w (wr.setCell ⟨g, o + J, none⟩ (.int .u8 ((UInt8.ofNat q).toNat : Int)))) := hk.out.setCell rfl _
      have HQ2 := Lib.hid hq2
      rw [e1]
      generalize (E[o + J]'(by omega)).toNat = z at hc
      clear hh hh2 hset hlen hE hdrop hbg hq hq2 hk hmm hJl
      go_wp2
      go_roundw
      case rel => exact ⟨J, q / 256, by omega, HQ2.out, by first | rfl | (congr 1; simp) , by go_num, H2, K2⟩
      case measure => simp [intOf]

end Go.Proofs.YtlgdfalbhpgllaaGreatDoor
