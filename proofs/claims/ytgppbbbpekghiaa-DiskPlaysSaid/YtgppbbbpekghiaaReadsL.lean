/- The law DiskReads, walked. -/
import Derived.Test.YtgppbbbpekghiaaPlain
namespace Go.Proofs.Ytgppbbbpekghiaa
open Go.RowKit Go.Proofs Go.Proofs.Pk
set_option maxRecDepth 10000
attribute [local simp] mk_get wrap64_u8 mk_extract ByteArray.mk_append_mk get_1k

/-- What a sector reads as. -/
def readL (L : List (List UInt8)) (C : List (Nat × List UInt8)) (k : Nat) : List UInt8 := (lastW C k).getD (L.getD k [])
theorem readL_write (L : List (List UInt8)) (C : List (Nat × List UInt8)) (k : Nat) (d : List UInt8) (i : Nat) : readL L (C ++ [(k, d)]) i = if k = i then d else readL L C i := by
  unfold readL; rw [lastW_snoc]; split <;> rfl
theorem readL_sync (L : List (List UInt8)) (C : List (Nat × List UInt8)) (i : Nat) (hi : i < L.length) : readL (syncL L C) [] i = readL L C i := by
  have e := syncL_get L i hi C.length C rfl
  unfold readL
  rw [lastW_nil, sec_in L [] hi]
  simp only [Option.getD_none, List.getD, e, Option.getD_some]

/-- The disk reads as W, padded; the wanted texts W lie at gw, apart from it. -/
structure RS (B : Nat) (w0 w : World) (p gw : Nat) (W : List (List UInt8)) (j : Nat) (N : Nat) (L : List (List UInt8)) (C : List (Nat × List UInt8)) (n : Nat) (X : Nat → Prop) : Prop where
  al : Al B w0 w p ⟨L, C, -1, false, n⟩ X
  want : Holds w gw (W.map strV) 9
  off : ¬X gw
  base : B ≤ gw
  len : L.length = N ∧ W.length = N
  few : C.length ≤ j ∧ n ≤ j
  same : ∀ k, k < N → readL L C k = padL (W.getD k [])
  short : ∀ s ∈ W, s.length ≤ 64

section
variable {B p gw j N n : Nat} {w0 w : World} {W L : List (List UInt8)} {C : List (Nat × List UInt8)} {X : Nat → Prop}
theorem RS.still (h : RS B w0 w p gw W j N L C n X) {w' : World} (hk : Kept (fun _ => False) w w') : RS B w0 w' p gw W j N L C n X :=
  ⟨h.al.still hk, h.want.of_block (hk.block gw h.want.lt (fun hf => hf)), h.off, h.base, h.len, h.few, h.same, h.short⟩
theorem RS.below (h : RS B w0 w p gw W j N L C n X) {w' : World} (hb : Below w.heap.size w w') : RS B w0 w' p gw W j N L C n X := h.still (Kept.of_below _ hb)
/-- A write, that the wanted texts do not yet tell. -/
theorem rs_wr (h : RS B w0 w p gw W j N L C n X) (k : Nat) (hk : k < N) (t : List UInt8) (ht : t.length ≤ 64) (hj : j ≤ 200) :
    Calls Try.prog 14 #[.pointer (some ⟨p, 0, none⟩), .int .i64 (k : Int), .string ⟨t.toArray⟩] w fun e w' => e = .returned .nilIface ∧
      ∃ X', Al B w0 w' p ⟨L, C ++ [(k, padL t)], -1, false, n + 1⟩ X' ∧ Holds w' gw (W.map strV) 9 ∧ ¬X' gw := by
  have hl := h.len
  have hf := h.few
  refine (aWr h.al k t (by simp only; omega) (by simp only; omega)).mono fun e w' ⟨he, ⟨X', h', hg⟩, hkp⟩ => ?_
  rw [wr_plain k (by omega) t ht] at he h'
  exact ⟨he, X', h', h.want.of_block (hkp.block gw h.want.lt h.off), fun hx => (hg gw hx).elim h.off (fun hb => by have := h.want.lt; omega)⟩
theorem rs_rd (h : RS B w0 w p gw W j N L C n X) (k : Nat) (hk : k < N) :
    Calls Try.prog 22 #[.pointer (some ⟨p, 0, none⟩), .int .i64 (k : Int)] w fun e w' => e = .returned (.tuple #[.string ⟨(padL (W.getD k [])).toArray⟩, .nilIface]) ∧ RS B w0 w' p gw W j N L C n X := by
  have hl := h.len
  refine (aRd h.al k).mono fun e w' ⟨he, h', hkp⟩ => ⟨?_, h.still hkp⟩
  rw [he, Dsk.read_ok (S := ⟨L, C, -1, false, n⟩) rfl k (by simp only; omega), ← h.same k hk, readL, sec_in L [] (by omega)]
  rfl
end
/-- A sync behind it. -/
theorem rs_sy {B p gw : Nat} {w0 w : World} {L W : List (List UInt8)} {C : List (Nat × List UInt8)} {n : Nat} {X : Nat → Prop} (h : Al B w0 w p ⟨L, C, -1, false, n⟩ X) (hw : Holds w gw (W.map strV) 9) (ho : ¬X gw) :
    Calls Try.prog 16 #[.pointer (some ⟨p, 0, none⟩)] w fun e w' => e = .returned .nilIface ∧
      ∃ X', Al B w0 w' p ⟨syncL L C, [], -1, false, n⟩ X' ∧ Holds w' gw (W.map strV) 9 ∧ ¬X' gw :=
  (aSy h).mono fun e w' ⟨he, ⟨X', h', hg⟩, hkp⟩ => ⟨he, X', h', hw.of_block (hkp.block gw hw.lt ho), fun hx => (hg gw hx).elim ho (fun hb => by have := hw.lt; omega)⟩
/-- Now the wanted texts tell it. -/
theorem RS.next {B p gw j N n n' : Nat} {w0 w w' : World} {W L L' : List (List UInt8)} {C C' : List (Nat × List UInt8)} {X X' : Nat → Prop} (h : RS B w0 w p gw W j N L C n X) (k : Nat) (hk : k < N) (t : List UInt8) (ht : t.length ≤ 64)
    (ha : Al B w0 w' p ⟨L', C', -1, false, n'⟩ X') (hw : Holds w' gw (W.map strV) 9) (ho : ¬X' gw)
    (hL : L' = L ∧ C' = C ++ [(k, padL t)] ∨ L' = syncL L (C ++ [(k, padL t)]) ∧ C' = []) (hn : n' = n + 1) : RS B w0 (w'.setCell ⟨gw, k, none⟩ (.string ⟨t.toArray⟩)) p gw (W.set k t) (j + 1) N L' C' n' X' := by
  have hl := h.len
  have hf := h.few
  refine ⟨ha.kept ((Kept.refl (fun b => b = gw) w').setCell (p := ⟨gw, k, none⟩) rfl _) (fun b hb => by subst hb; exact h.base) (fun b hb e => ho (e ▸ hb)), ?_, ho, h.base, ⟨?_, by rw [List.length_set]; exact hl.2⟩, ?_, ?_, ?_⟩
  · have := hw.set k (.string ⟨t.toArray⟩)
    rwa [show (W.map strV).set k (.string ⟨t.toArray⟩) = (W.set k t).map strV from by rw [List.map_set]; rfl] at this
  · rcases hL with ⟨rfl, _⟩ | ⟨rfl, _⟩
    · exact hl.1
    · rw [syncL_length]; exact hl.1
  · rcases hL with ⟨_, rfl⟩ | ⟨_, rfl⟩
    · rw [List.length_append, List.length_singleton]; omega
    · exact ⟨by simp, by omega⟩
  · intro i hi
    have e : readL L' C' i = readL L (C ++ [(k, padL t)]) i := by
      rcases hL with ⟨rfl, rfl⟩ | ⟨rfl, rfl⟩
      · rfl
      · exact readL_sync _ _ i (by omega)
    rw [e, readL_write]
    by_cases hik : k = i
    · subst hik; rw [if_pos rfl]; congr 1; simp [List.getD, show k < W.length by omega]
    · rw [if_neg hik, h.same i hi]; congr 1; simp [List.getD, List.getElem?_set_ne hik]
  · intro s hs
    rcases List.mem_or_eq_of_mem_set hs with hs | rfl
    · exact h.short s hs
    · exact ht

theorem ints_cell {w : World} {ad : Option Addr} {len : Nat} {l : List Int} (h : Ints w ad len l) (j : Nat) (hj : j < len) : ∃ b off, ad = some ⟨b, off, none⟩ ∧ b < w.heap.size ∧ w.cell? ⟨b, off + j, none⟩ = some (.int .i64 (l[j]'(by rw [h.1]; exact hj))) := by
  have hl := h.1
  rcases h.2 with h | ⟨b, off, h1, h2, h3⟩
  · rw [h] at hl; simp at hl; omega
  · exact ⟨b, off, h1, h2, h3 j (by omega)⟩
theorem strs_cell {w : World} {ad : Option Addr} {len : Nat} {l : List (List UInt8)} (h : Strs w ad len l) (j : Nat) (hj : j < len) : ∃ b off, ad = some ⟨b, off, none⟩ ∧ b < w.heap.size ∧ w.cell? ⟨b, off + j, none⟩ = some (.string ⟨(l[j]'(by rw [h.1]; exact hj)).toArray⟩) := by
  have hl := h.1
  rcases h.2 with h | ⟨b, off, h1, h2, h3⟩
  · rw [h] at hl; simp at hl; omega
  · exact ⟨b, off, h1, h2, h3 j (by omega)⟩

theorem string_infoL : (Try.prog.info? 9).map (fun i => (i.zero, i.size, i.bytes)) = some (some (.string ByteArray.empty), 1, 16) := by kernel_rfl
theorem made8 (w : World) : (Instr.makeSlice 46 (.int .i64 8) (.int .i64 8)).run Try.prog w = .ok (.slice (some ⟨w.heap.size, 0, none⟩) 8 8) (w.alloc (.cells ((List.replicate 8 ([] : List UInt8)).map strV).toArray 9)) := by
  obtain ⟨i, hi, hz, hs, hb⟩ := info_parts string_infoL
  have := run_make (P := Try.prog) w 46 9 i _ Try.underlying46 hi hz .i64 .i64 8 8 (by omega) (Int.le_refl _) (by rw [hb]; decide) (by omega)
  rw [this, hs]
  have e : madeCells #[Value.string ByteArray.empty] 8 = (List.replicate 8 (Value.string ByteArray.empty)).toArray := made_rep 1 (by decide) _ 8
  show Result.ok _ _ = _
  rw [show (Value.string ByteArray.empty).cells = #[Value.string ByteArray.empty] from rfl, show Int.toNat 8 * 1 = 8 from rfl, e]
  rfl

end Go.Proofs.Ytgppbbbpekghiaa
