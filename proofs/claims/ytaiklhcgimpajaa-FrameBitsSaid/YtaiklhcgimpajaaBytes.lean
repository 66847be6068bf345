/- A slice of bytes that a conversion has made: its cells, a store, the conversion back. -/
import Derived.Test.YtaiklhcgimpajaaFour
import Derived.Lib.ConvBytes
import Derived.Laws.IdiomStrings
namespace Go.Proofs.Ytaiklhcgimpajaa
open Go.RowKit Go.Proofs Go.Proofs.Pk
set_option maxRecDepth 10000
attribute [local simp] mk_get wrap64_u8 mk_extract ByteArray.mk_append_mk get_1k

/-- The block g holds the bytes l, one a cell, and they may be written. -/
structure BRow (w : World) (g : Nat) (l : List UInt8) : Prop where
  lt : g < w.heap.size
  cell : ∀ j (h : j < l.length), w.cell? ⟨g, j, none⟩ = some (.int .u8 (l[j].toNat))
  free : ∀ j, j < l.length → w.frozen? ⟨g, j, none⟩ = false

theorem BRow.set {w : World} {g : Nat} {l : List UInt8} (h : BRow w g l) (k : Nat) (hk : k < l.length) (c : UInt8) : BRow (w.setCell ⟨g, k, none⟩ (.int .u8 (c.toNat))) g (l.set k c) := by
  refine ⟨by simpa using h.lt, ?_, ?_⟩
  · intro j hj
    rw [List.length_set] at hj
    by_cases he : k = j
    · subst he
      rw [World.cell?_setCell_same _ _ _ (h.cell k hk)]
      simp
    · rw [World.cell?_setCell_other _ _ _ _ (by intro e; injection e with _ e2 _; exact he e2), h.cell j hj, List.getElem_set_ne he]
  · intro j hj
    rw [List.length_set] at hj
    rw [World.frozen?_setCell]
    exact h.free j hj

theorem BRow.drewN {w : World} {g : Nat} {l : List UInt8} (h : BRow w g l) (n : Nat) : BRow (w.drewN n) g l := by
  have b := belowN (B := w.heap.size) (Below.refl _ w) n
  exact ⟨Nat.lt_of_lt_of_le h.lt b.size, fun j hj => by rw [b.cell (p := ⟨g, j, none⟩) h.lt]; exact h.cell j hj, fun j hj => by rw [b.frozen (p := ⟨g, j, none⟩) h.lt]; exact h.free j hj⟩

theorem BRow.back {w : World} {g cap : Nat} {l : List UInt8} (h : BRow w g l) (n : Nat) (hn : n = l.length) : (convert 43 9 (.slice (some ⟨g, 0, none⟩) n cap)).run Try.prog w = .ok (.string ⟨l.toArray⟩) w := by
  subst hn
  exact run_convert_bytes_back w 43 9 5 ⟨g, 0, none⟩ cap l Try.underlying43 Try.underlying5 Try.underlying9 (fun j hj => by rw [add0]; exact h.cell j hj)

theorem bytes_new (w : World) (F : List UInt8) : ∃ (wB : World) (g cap : Nat), (convert 9 43 (.string ⟨F.toArray⟩)).run Try.prog w = .ok (.slice (some ⟨g, 0, none⟩) F.length cap) wB ∧ BRow wB g F ∧ w.heap.size ≤ g ∧ Below w.heap.size w wB := by
  refine ⟨Lib.bytesWorld w 5 ⟨F.toArray⟩, w.heap.size, _, Lib.run_convert_string_bytes w 9 43 5 ⟨F.toArray⟩ Try.underlying9 Try.underlying43 Try.underlying5, ?_, Nat.le_refl _, ?_⟩
  · refine ⟨by rw [Lib.bytesWorld_size]; omega, ?_, ?_⟩
    · intro j hj
      rw [Lib.bytesWorld_cell w _ _ j (by rw [mk_size]; exact hj)]
      simp [List.getD, hj]
    · intro j hj
      have hsz : F.length ≤ (Lib.bytesCells w 5 ⟨F.toArray⟩).size := by simp [Lib.bytesCells]
      simp only [World.frozen?, Lib.bytesWorld_at_new]
      have h1 : ¬(Lib.bytesCells w 5 ⟨F.toArray⟩).size ≤ j := by omega
      simp [h1]
  · refine ⟨rfl, rfl, rfl, by rw [Lib.bytesWorld_size]; omega, fun k hk => Lib.bytesWorld_at_old w _ _ k hk⟩

/-- Behind j bits: the text t stands between H and C, and no bit of it but of those from P on is turned. -/
def BitsAt (s H C : List UInt8) (P g : Nat) (w : World) (j : Nat) : Prop := ∃ t, Flips s t P j ∧ BRow w g (H ++ t ++ C)

theorem BitsAt.start {s H C : List UInt8} {P g : Nat} {w : World} (h : BRow w g (H ++ s ++ C)) : BitsAt s H C P g w 0 := ⟨s, Flips.zero s P, h⟩

theorem BitsAt.skip {s H C : List UInt8} {P g j : Nat} {w : World} (h : BitsAt s H C P g w j) (hj : 0 < j) : BitsAt s H C P g w (j + 1) := by
  obtain ⟨t, hf, hr⟩ := h
  exact ⟨t, hf.skip hj, hr⟩

theorem BitsAt.turn {s H C : List UInt8} {P g j : Nat} {w : World} (h : BitsAt s H C P g w j) (hb : (P + j) / 8 < s.length) :
    ∃ c : UInt8, w.cell? ⟨g, H.length + (P + j) / 8, none⟩ = some (.int .u8 c.toNat) ∧ w.frozen? ⟨g, H.length + (P + j) / 8, none⟩ = false ∧ g < w.heap.size ∧
      ∀ d : UInt8, d.toNat = c.toNat ^^^ 2 ^ ((P + j) % 8) → BitsAt s H C P g (w.setCell ⟨g, H.length + (P + j) / 8, none⟩ (.int .u8 d.toNat)).drew (j + 1) := by
  obtain ⟨t, hf, hr⟩ := h
  have hbt : (P + j) / 8 < t.length := by have := hf.size; omega
  have hk : H.length + (P + j) / 8 < (H ++ t ++ C).length := by simp; omega
  have hget : (H ++ t ++ C)[H.length + (P + j) / 8]'hk = t[(P + j) / 8]'hbt := by
    rw [List.getElem_append_left (by simp; omega), List.getElem_append_right (by omega)]
    simp
  refine ⟨t[(P + j) / 8], by rw [← hget]; exact hr.cell _ hk, hr.free _ hk, hr.lt, fun d hd => ?_⟩
  refine ⟨t.set ((P + j) / 8) d, hf.turn hbt d hd, ?_⟩
  have hset : H ++ t.set ((P + j) / 8) d ++ C = (H ++ t ++ C).set (H.length + (P + j) / 8) d := by
    rw [List.set_append_left _ _ (by simp; omega), List.set_append_right _ _ (by omega)]
    simp
  rw [hset]
  exact (hr.set _ hk d).drewN 1

theorem xor_u8 (c : UInt8) (R : Nat) (hR : R < 8) : ∃ d : UInt8, d.toNat = c.toNat ^^^ 2 ^ R ∧ bits .xor .u8 (c.toNat : Int) (2 ^ R % 256) = (d.toNat : Int) := by
  have hc := c.toNat_lt
  have hp : (2 : Nat) ^ R < 2 ^ 8 := Nat.pow_lt_pow_right (by omega) hR
  have hx : c.toNat ^^^ 2 ^ R < 2 ^ 8 := Nat.xor_lt_two_pow (by omega) hp
  have hd : (UInt8.ofNat (c.toNat ^^^ 2 ^ R)).toNat = c.toNat ^^^ 2 ^ R := by
    rw [UInt8.toNat_ofNat']; exact Nat.mod_eq_of_lt hx
  refine ⟨UInt8.ofNat (c.toNat ^^^ 2 ^ R), hd, ?_⟩
  rw [hd]
  have hi : ((2 : Int) ^ R % 256) = ((2 ^ R : Nat) : Int) := by
    rw [show ((2 : Int) ^ R) = ((2 ^ R : Nat) : Int) from by simp]
    clear hd hx
    generalize 2 ^ R = p at hp ⊢
    omega
  rw [hi]
  have e1 : (BitVec.ofInt 8 (c.toNat : Int)).toNat = c.toNat := by
    rw [BitVec.ofInt_natCast, BitVec.toNat_ofNat]; exact Nat.mod_eq_of_lt (by omega)
  have e2 : (BitVec.ofInt 8 ((2 ^ R : Nat) : Int)).toNat = 2 ^ R := by
    rw [BitVec.ofInt_natCast, BitVec.toNat_ofNat]; exact Nat.mod_eq_of_lt hp
  show IntKind.u8.wrap ((BitVec.ofInt 8 (c.toNat : Int) ^^^ BitVec.ofInt 8 ((2 ^ R : Nat) : Int)).toNat : Int) = _
  rw [BitVec.toNat_xor, e1, e2, IntKind.wrap_u8]
  omega

end Go.Proofs.Ytaiklhcgimpajaa
