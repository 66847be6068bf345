/- The law BloomMore, walked over the contract of the program's filters. -/
import Derived.Test.YtjhninkdpmdpbaaEx11
import Derived.Laws.IdiomStrings
import Derived.Lib.ConvBytes
import Derived.Lib.UnsafeStr
import Derived.Laws.BitsAllLaws
import Derived.StillTailTactics
namespace Go.Proofs.Ytjhninkdpmdpbaa
open Go.RowKit Go.Proofs Go.Proofs.Pk
set_option maxRecDepth 10000
attribute [local simp] mk_get wrap64_u8 mk_extract ByteArray.mk_append_mk get_1k

/-- The block g holds the bytes l, one a cell. -/
structure BRow (w : World) (g : Nat) (l : List UInt8) : Prop where
  lt : g < w.heap.size
  cell : ∀ j (h : j < l.length), w.cell? ⟨g, j, none⟩ = some (.int .u8 (l[j].toNat))
  free : ∀ j, j < l.length → w.frozen? ⟨g, j, none⟩ = false
theorem BRow.set {w : World} {g : Nat} {l : List UInt8} (h : BRow w g l) (k : Nat) (hk : k < l.length) (c : UInt8) : BRow (w.setCell ⟨g, k, none⟩ (.int .u8 (c.toNat))) g (l.set k c) := by
  refine ⟨by simpa using h.lt, ?_, ?_⟩
  · intro j hj
    rw [List.length_set] at hj
    by_cases he : k = j
    · subst he
      rw [World.cell?_setCell_same _ _ _ (h.cell k hk)]
      simp
    · rw [World.cell?_setCell_other _ _ _ _ (by intro e; injection e with _ e2 _; exact he e2), h.cell j hj, List.getElem_set_ne he]
  · intro j hj
    rw [List.length_set] at hj
    rw [World.frozen?_setCell]
    exact h.free j hj
theorem BRow.kept {w w' : World} {g : Nat} {l : List UInt8} (h : BRow w g l) (hk : Kept (fun _ => False) w w') : BRow w' g l :=
  ⟨Nat.lt_of_lt_of_le h.lt hk.size, fun j hj => (hk.cell (p := ⟨g, j, none⟩) h.lt (fun f => f)).trans (h.cell j hj), fun j hj => (hk.frozen (p := ⟨g, j, none⟩) h.lt (fun f => f)).trans (h.free j hj)⟩
theorem BRow.back {w : World} {g cap : Nat} {l : List UInt8} (h : BRow w g l) (n : Nat) (hn : n = l.length) : (convert 36 9 (.slice (some ⟨g, 0, none⟩) n cap)).run Try.prog w = .ok (.string ⟨l.toArray⟩) w := by
  subst hn
  exact run_convert_bytes_back w 36 9 5 ⟨g, 0, none⟩ cap l Try.underlying36 Try.underlying5 Try.underlying9 (fun j hj => by rw [add0]; exact h.cell j hj)
theorem bytes_new (w : World) (F : List UInt8) : ∃ (wB : World) (g cap : Nat), (convert 9 36 (.string ⟨F.toArray⟩)).run Try.prog w = .ok (.slice (some ⟨g, 0, none⟩) F.length cap) wB ∧ BRow wB g F ∧ w.heap.size ≤ g ∧ Below w.heap.size w wB := by
  refine ⟨Lib.bytesWorld w 5 ⟨F.toArray⟩, w.heap.size, _, Lib.run_convert_string_bytes w 9 36 5 ⟨F.toArray⟩ Try.underlying9 Try.underlying36 Try.underlying5, ?_, Nat.le_refl _, ?_⟩
  · refine ⟨by rw [Lib.bytesWorld_size]; omega, ?_, ?_⟩
    · intro j hj
      rw [Lib.bytesWorld_cell w _ _ j (by rw [mk_size]; exact hj)]
      simp [List.getD, hj]
    · intro j hj
      have hsz : F.length ≤ (Lib.bytesCells w 5 ⟨F.toArray⟩).size := by simp [Lib.bytesCells]
      simp only [World.frozen?, Lib.bytesWorld_at_new]
      have h1 : ¬(Lib.bytesCells w 5 ⟨F.toArray⟩).size ≤ j := by omega
      simp [h1]
  · refine ⟨rfl, rfl, rfl, by rw [Lib.bytesWorld_size]; omega, fun k hk => Lib.bytesWorld_at_old w _ _ k hk⟩

/-- A filter as long as f, with its bits and perhaps more. -/
structure MoreF (f l : TxtB) : Prop where
  len : l.length = f.length
  last : f.getD (f.length - 1) 0 = l.getD (f.length - 1) 0
  bits : ∀ p, p / 8 < f.length - 1 → getB f p = true → getB l p = true
theorem MoreF.refl (f : TxtB) : MoreF f f := ⟨rfl, rfl, fun _ _ h => h⟩
theorem MoreF.set {f l : TxtB} (h : MoreF f l) {j : Nat} (hj : j < f.length - 1) (hjl : j < l.length) (d c : UInt8) (hc : c.toNat = l[j].toNat ||| d.toNat) : MoreF f (l.set j c) := by
  refine ⟨by rw [List.length_set]; exact h.len, ?_, fun p hp hb => ?_⟩
  · rw [h.last]
    simp only [List.getD_eq_getElem?_getD]
    rw [List.getElem?_set_ne (by omega)]
  · have hb2 := h.bits p hp hb
    unfold getB at hb2 ⊢
    simp only [List.getD_eq_getElem?_getD] at hb2 ⊢
    by_cases e : j = p / 8
    · subst e
      rw [List.getElem?_set_self hjl, Option.getD_some, hc, Nat.testBit_or]
      rw [List.getElem?_eq_getElem hjl, Option.getD_some] at hb2
      rw [hb2]; rfl
    · rw [List.getElem?_set_ne e]; exact hb2

set_option maxHeartbeats 2000000 in
theorem more11 (K : BlK) (f o k : TxtB) (w : World) (hf : (f.length : Int) ≤ 140737488351232) (ho : (o.length : Int) ≤ 140737488351232) (hk : (k.length : Int) ≤ 140737488351232) :
    Calls Try.prog 7 #[.string ⟨f.toArray⟩, .string ⟨o.toArray⟩, .string ⟨k.toArray⟩] w fun e w' => e = .returned (.bool true) ∧ Below w.heap.size w w' := by
  have HE := Lib.hid (examples11 K w)
  by_cases h2 : (f.length : Int) < 2
  · go_enter Try.func7, Try.ntmps7
    go_wp2_with fail
    refine HE.out.mono ?_
    clear HE
    rintro e w1 ⟨rfl, hk1⟩
    have HK := Lib.hid (hk1.below (B := w.heap.size) (Nat.le_refl _) (fun _ f => f.elim))
    clear hk1
    go_wp2
    go_ret
    exact ⟨rfl, HK.out⟩
  by_cases h200 : (200 : Int) < (f.length : Int)
  · go_enter Try.func7, Try.ntmps7
    go_wp2_with fail
    refine HE.out.mono ?_
    clear HE
    rintro e w1 ⟨rfl, hk1⟩
    have HK := Lib.hid (hk1.below (B := w.heap.size) (Nat.le_refl _) (fun _ f => f.elim))
    clear hk1
    go_wp2
    go_ret
    exact ⟨rfl, HK.out⟩
  obtain ⟨n, hn⟩ : ∃ n : Nat, Hid (f.length = n + 1) := ⟨f.length - 1, by show _ = _; omega⟩
  have hnI : (f.length : Int) = (n : Int) + 1 := by have := hn.out; omega
  have q1 : IntKind.i64.wrap (n : Int) = (n : Int) := IntWalk.i64_in _ (by omega)
  have HMf := Lib.hid (fun W => K.may f k W hf hk)
  have HMl := Lib.hid (fun (l : TxtB) (W : World) (hl : l.length = f.length) => K.may l k W (by omega) hk)
  go_enter Try.func7, Try.ntmps7
  go_wp2_with fail
  refine HE.out.mono ?_
  clear HE
  rintro e w1 ⟨rfl, hk1⟩
  obtain ⟨wB, g, cp, hrun, hrow, hgw, hbB⟩ := bytes_new w1 f
  have HI : Hid (∃ l, BRow wB g l ∧ MoreF f l ∧ Kept (fun _ => False) w wB) := ⟨f, hrow, MoreF.refl f, hk1.trans (Kept.of_below (fun _ => False) hbB) (fun _ h => h.elim)⟩
  have HG : Hid (w.heap.size ≤ g) := Nat.le_trans hk1.size hgw
  obtain ⟨N, hN⟩ : ∃ N : Nat, Hid (N = f.length) := ⟨_, rfl⟩
  rw [← hN.out] at hrun
  have hNI : (N : Int) = (n : Int) + 1 := by have := hN.out; omega
  clear hk1 hrow hgw hbB
  go_wp2
  go_loopw [9] (fun i wr => ∃ j : Nat, j ≤ n ∧ i = .int .i64 (j : Int) ∧ Hid (∃ l, BRow wr g l ∧ MoreF f l ∧ Kept (fun _ => False) w wr)) (fun i _ => n - (intOf i).toNat)
  case atStart => exact ⟨0, Nat.zero_le _, rfl, HI⟩
  case round =>
    obtain ⟨j, hj, rfl, hI⟩ := hrel
    clear HI
    have j0 : (0 : Int) ≤ (j : Int) := by omega
    have hwj : IntKind.i64.wrap ((j : Int) + 1) = (j : Int) + 1 := IntWalk.i64_in _ (by omega)
    obtain ⟨l, hrow, hmore, hkw⟩ := hI.out
    by_cases hlt : j < n ∧ j < o.length
    · obtain ⟨g1, g2⟩ := hlt
      have jn : (j : Int) < (n : Int) := by omega
      have jo : (j : Int) < (o.length : Int) := by omega
      have jN : (j : Int) < (n : Int) + 1 := by omega
      have jN2 : (j : Int) < (N : Int) := by omega
      have hw2 : IntKind.i64.wrap (j : Int) = (j : Int) := IntWalk.i64_in _ (by omega)
      have hjl : j < l.length := by have := hmore.len; have := hn.out; omega
      have c0 := hrow.cell j hjl
      have f0 := hrow.free j hjl
      obtain ⟨d, hd⟩ : ∃ d, o[j] = d := ⟨_, rfl⟩
      obtain ⟨V, hV⟩ : ∃ V : Nat, Hid (V = l[j].toNat ||| d.toNat) := ⟨l[j].toNat ||| d.toNat, rfl⟩
      have hV8 : V < 256 := by rw [hV.out]; exact Nat.or_lt_two_pow (n := 8) l[j].toNat_lt d.toNat_lt
      have hor : bits .or .u8 (l[j].toNat : Int) (d.toNat : Int) = (V : Int) := by rw [hV.out]; exact u8_or_nat _ _ l[j].toNat_lt d.toNat_lt
      have hVt : (UInt8.ofNat V).toNat = V := by simp; omega
      have HN : Hid (∃ l', BRow ((wr.setCell ⟨g, j, none⟩ (.int .u8 (V : Int))).drew) g l' ∧ MoreF f l' ∧ Kept (fun _ => False) w ((wr.setCell ⟨g, j, none⟩ (.int .u8 (V : Int))).drew)) := by
        refine ⟨l.set j (UInt8.ofNat V), ?_, hmore.set (by have := hn.out; omega) hjl d _ (by rw [hVt]; exact hV.out), (hkw.setNew (p := ⟨g, j, none⟩) HG.out _).drewN 1⟩
        have := (hrow.set j hjl (UInt8.ofNat V)).kept ((Kept.refl _ _).drewN 1)
        rw [hVt] at this
        exact this
      generalize l[j].toNat = x at c0 hor
      have c0' : wr.drew.cell? ⟨g, j, none⟩ = some (.int .u8 (x : Int)) := c0
      have f0' : wr.drew.frozen? ⟨g, j, none⟩ = false := f0
      clear hI hrow hmore hkw hV hVt hjl
      go_wp2_with fail
      go_still_tail 11, (by kernel_rfl)
      change wpList _ _ _ _ _ wr.drew
      go_wp2
      go_roundw
      case rel => exact ⟨j + 1, by omega, by first | rfl | go_num, HN⟩
      case measure => simp [intOf]; omega
    · have HL : Hid (l.length = f.length) := hmore.len
      have hconv := hrow.back (cap := cp) N (by rw [hN.out]; exact hmore.len.symm)
      obtain ⟨b1, hb1⟩ : ∃ b1 : Bool, b1 = mayN f k := ⟨_, rfl⟩
      have hMf := HMf.out wr
      rw [← hb1] at hMf
      have HMf2 := Lib.hid hMf
      have hyes : b1 = true → mayN l k = true := fun hb => may_more hmore.len.symm hmore.last hmore.bits (by rw [← hb1]; exact hb)
      have HKw := Lib.hid hkw
      have HRow := Lib.hid hrow
      clear hI hrow hmore hkw hMf HMf hb1
      have hexit : ¬(j : Int) < (n : Int) ∨ ((j : Int) < (n : Int) ∧ ¬(j : Int) < (o.length : Int)) := by omega
      cases b1 with
      | false =>
        rcases hexit with k1 | ⟨k1, k2⟩
        all_goals
          go_wp2_with fail
          refine HMf2.out.mono ?_
          rintro e w3 ⟨rfl, hk3⟩
          have HK := Lib.hid ((HKw.out.trans hk3 (fun _ h => h.elim)).below (B := w.heap.size) (Nat.le_refl _) (fun _ h => h.elim))
          clear hk3
          go_wp2
          go_ret
          exact ⟨rfl, HK.out⟩
      | true =>
        have hMl := fun W => HMl.out l W HL.out
        rw [hyes rfl] at hMl
        have HMl2 := Lib.hid hMl
        have HCv : Hid (∀ W, Kept (fun _ => False) wr W → (convert 36 9 (.slice (some ⟨g, 0, none⟩) N cp)).run Try.prog W = .ok (.string ⟨l.toArray⟩) W) := fun W hk => (HRow.out.kept hk).back (cap := cp) N (by rw [hN.out]; exact HL.out.symm)
        clear hMl hconv HMl
        rcases hexit with k1 | ⟨k1, k2⟩
        all_goals
          go_wp2_with fail
          refine HMf2.out.mono ?_
          rintro e w3 ⟨rfl, hk3⟩
          have hcv := HCv.out w3 hk3
          go_wp2_with fail
          refine (HMl2.out _).mono ?_
          rintro e w4 ⟨rfl, hk4⟩
          have HK := Lib.hid (((HKw.out.trans hk3 (fun _ h => h.elim)).trans hk4 (fun _ h => h.elim)).below (B := w.heap.size) (Nat.le_refl _) (fun _ h => h.elim))
          clear hk3 hk4
          go_wp2
          go_ret
          exact ⟨rfl, HK.out⟩

end Go.Proofs.Ytjhninkdpmdpbaa
