/- WalS, WalO, WalF. -/
import Derived.Test.YtfbgagpihhbllaaGreatDoorJ13

/- Mathematics of layer 8 (wal): what Lay, Append and Open leave in a volume. -/
namespace Go.Proofs.YtfbgagpihhbllaaGreatDoor
open Go.RowKit Go.Proofs Go.Proofs.Pk
set_option maxRecDepth 10000

/-- Sync of a volume; writes one behind the other, up to the first error; then Sync. -/
def syncV (V : Vol) : Vol × Nat × Bool := if V.gone = true then (V, 6, false) else cameV V V.D.sync
def writesV (V : Vol) (id : Int) : Nat → List (List UInt8) → Vol × Nat × Bool
  | _, [] => (V, 0, false)
  | j, s :: l => if (writeV V id (j : Int) s).2.1 ≠ 0 then writeV V id (j : Int) s else writesV (writeV V id (j : Int) s).1 id (j + 1) l
def thenSync (r : Vol × Nat × Bool) : Vol × Nat × Bool := if r.2.1 ≠ 0 then r else syncV r.1
def chunksL (s : List UInt8) : List (List UInt8) := (List.range (nch s.length)).map (chunk s)
/-- Lay: the file's sectors, emptied. Append: to a log of so many records that ends at a sector. -/
def layW (V : Vol) (id many : Nat) : Vol × Nat × Bool := thenSync (writesV V (id : Int) 0 (List.replicate many []))
def bodyW (V : Vol) (id e : Nat) (s : List UInt8) : Vol × Nat × Bool := if nch s.length = 0 then (V, 0, false) else thenSync (writesV V (id : Int) (e + 1) (chunksL s))
def appendW (V : Vol) (id many e n : Nat) (s : List UInt8) : Vol × Nat × Bool :=
  if many < e + 1 + nch s.length then (V, 7, false) else
  if (bodyW V id e s).2.1 ≠ 0 then bodyW V id e s else thenSync (writesV (bodyW V id e s).1 (id : Int) e [markN id n s.length])

theorem writes_file : ∀ (l : List (List UInt8)) (V : Vol) (_ : Alive V) (g : FileN) (_ : g ∈ V.R.2.2.2) (j : Nat) (_ : j + l.length ≤ g.2.2) (_ : ∀ s ∈ l, s.length ≤ 64),
    (∃ D', writesV V (g.1 : Int) j l = (⟨D', V.R, V.gone⟩, 0, false) ∧ Alive ⟨D', V.R, V.gone⟩ ∧ D'.L = V.D.L ∧ D'.C = V.D.C ++ padsAt (g.2.1 + j) l ∧ (V.D.fuse < 0 → D'.fuse < 0) ∧ D'.n ≤ V.D.n + l.length) ∨
    (∃ D', writesV V (g.1 : Int) j l = (⟨D', rootZ, true⟩, 6, true) ∧ D'.off = true ∧ Safe D' V.R ∧ D'.L = V.D.L ∧ (∀ x ∈ D'.C, x ∈ V.D.C ∨ g.2.1 + j ≤ x.1 ∧ x.1 + 1 < g.2.1 + j + l.length) ∧ 0 ≤ V.D.fuse ∧ 0 < l.length ∧ D'.n ≤ V.D.n + l.length)
  | [], V, h, g, hg, j, hj, hs => .inl ⟨V.D, rfl, h, rfl, by simp [padsAt], fun h => h, Nat.le_refl _⟩
  | s :: l, V, h, g, hg, j, hj, hs => by
    simp only [List.length_cons] at hj
    rcases file_write h g hg j (by omega) s (hs s (List.mem_cons_self ..)) with ⟨e, hsf, hf⟩ | ⟨D1, e, ha, hL, hC, hf, hn⟩
    · right
      refine ⟨_, by rw [writesV, e, if_pos (by simp)], rfl, hsf, rfl, fun x hx => .inl hx, hf, by simp, Nat.le_add_right _ _⟩
    · rw [writesV, e, if_neg (by simp)]
      rcases writes_file l ⟨D1, V.R, V.gone⟩ ha g hg (j + 1) (by omega) (fun x hx => hs x (List.mem_cons_of_mem _ hx)) with ⟨D2, e2, ha2, hL2, hC2, hf2, hn2⟩ | ⟨D2, e2, ho, hsf, hL2, hC2, hf2, hl0, hn2⟩
      · left
        refine ⟨D2, e2, ha2, by rw [hL2]; exact hL, ?_, fun h0 => hf2 (hf h0), by simp only [List.length_cons] at hn2 ⊢; omega⟩
        rw [hC2]
        simp only [hC, padsAt, List.append_assoc, List.cons_append, List.nil_append]
        rw [show g.2.1 + (j + 1) = g.2.1 + j + 1 from by omega]
      · right
        refine ⟨D2, e2, ho, hsf, by rw [hL2]; exact hL, fun x hx => ?_, ?_⟩
        · rcases hC2 x hx with h1 | h1
          · simp only [hC] at h1
            rcases List.mem_append.1 h1 with h1 | h1
            · exact .inl h1
            · rw [List.mem_singleton.1 h1]; right; simp only [List.length_cons]; omega
          · right; simp only [List.length_cons]; omega
        · refine ⟨?_, by simp, by simp only [List.length_cons] at hn2 ⊢; omega⟩
          by_cases h0 : V.D.fuse < 0
          · have := hf h0; simp only at hf2; omega
          · omega
theorem sync_file {V : Vol} (h : Alive V) : syncV V = (⟨{ V.D with L := syncL V.D.L V.D.C, C := [] }, V.R, V.gone⟩, 0, false) ∧ Alive ⟨{ V.D with L := syncL V.D.L V.D.C, C := [] }, V.R, V.gone⟩ := by
  have hs := h.safe.sync h.off
  unfold syncV
  rw [if_neg (by simp [h.gone]), sync_on h.off] at *
  exact ⟨rfl, ⟨h.gone, h.off, hs, fun x hx => by simp at hx⟩⟩
/-- Writes, then Sync. -/
theorem put_file {V : Vol} (h : Alive V) (g : FileN) (hg : g ∈ V.R.2.2.2) (j : Nat) (l : List (List UInt8)) (hj : j + l.length ≤ g.2.2) (hs : ∀ s ∈ l, s.length ≤ 64) :
    (∃ D', thenSync (writesV V (g.1 : Int) j l) = (⟨D', V.R, V.gone⟩, 0, false) ∧ Alive ⟨D', V.R, V.gone⟩ ∧ D'.L = syncL V.D.L (V.D.C ++ padsAt (g.2.1 + j) l) ∧ D'.C = [] ∧ (V.D.fuse < 0 → D'.fuse < 0) ∧ D'.n ≤ V.D.n + l.length) ∨
    (∃ D', thenSync (writesV V (g.1 : Int) j l) = (⟨D', rootZ, true⟩, 6, true) ∧ D'.off = true ∧ Safe D' V.R ∧ D'.L = V.D.L ∧ (∀ x ∈ D'.C, x ∈ V.D.C ∨ g.2.1 + j ≤ x.1 ∧ x.1 + 1 < g.2.1 + j + l.length) ∧ 0 ≤ V.D.fuse ∧ D'.n ≤ V.D.n + l.length) := by
  rcases writes_file l V h g hg j hj hs with ⟨D1, e, ha, hL, hC, hf, hn⟩ | ⟨D1, e, h1, h2, h3, h4, h5, _, hn⟩
  · left
    obtain ⟨e2, ha2⟩ := sync_file ha
    refine ⟨_, by unfold thenSync; rw [e, if_neg (by simp)]; exact e2, ha2, by simp only [hL, hC], rfl, hf, hn⟩
  · right
    exact ⟨D1, by unfold thenSync; rw [e, if_pos (by simp)], h1, h2, h3, h4, h5, hn⟩

/-- What a log's file reads as: its records, and behind them a sector that is no mark of the next; or nothing but zeros. -/
structure LogH (see : Nat → Option (List UInt8)) (a id : Nat) (recs : List (List UInt8)) (many : Nat) : Prop where
  fits : recN recs ≤ many
  seen : ∀ j, j < recN recs → see (a + j) = (recS id 0 recs)[j]?
  next : recN recs < many → ∃ b, see (a + recN recs) = some b ∧ rdMark b id recs.length = none
structure LogL (see : Nat → Option (List UInt8)) (a id : Nat) (recs : List (List UInt8)) (many : Nat) : Prop where
  fits : recN recs ≤ many
  seen : ∀ j, j < recN recs → see (a + j) = (recS id 0 recs)[j]?
  zero : ∀ j, recN recs ≤ j → j < many → see (a + j) = some (padL [])
theorem pad_nil : padL [] = List.replicate 64 0 := by simp [padL]
theorem LogL.half {see : Nat → Option (List UInt8)} {a id many : Nat} {recs : List (List UInt8)} (h : LogL see a id recs many) : LogH see a id recs many :=
  ⟨h.fits, h.seen, fun hl => ⟨_, h.zero _ (Nat.le_refl _) hl, by rw [pad_nil]; exact rd_zero _ _⟩⟩
theorem LogL.of_see {see see' : Nat → Option (List UInt8)} {a id many : Nat} {recs : List (List UInt8)} (h : LogL see a id recs many) (hs : ∀ k, a ≤ k → k < a + many → see' k = see k) : LogL see' a id recs many :=
  ⟨h.fits, fun j hj => by rw [hs _ (by omega) (by have := h.fits; omega)]; exact h.seen j hj, fun j h1 h2 => by rw [hs _ (by omega) (by omega)]; exact h.zero j h1 h2⟩
theorem LogH.of_see {see see' : Nat → Option (List UInt8)} {a id many : Nat} {recs : List (List UInt8)} (h : LogH see a id recs many) (hs : ∀ k, a ≤ k → k < a + many → k ≤ a + recN recs → see' k = see k) : LogH see' a id recs many :=
  ⟨h.fits, fun j hj => by rw [hs _ (by omega) (by have := h.fits; omega) (by omega)]; exact h.seen j hj, fun hl => by rw [hs _ (by omega) (by omega) (by omega)]; exact h.next hl⟩

theorem lay_log {V : Vol} (h : Alive V) (g : FileN) (hg : g ∈ V.R.2.2.2) :
    (∃ D', layW V g.1 g.2.2 = (⟨D', V.R, V.gone⟩, 0, false) ∧ Alive ⟨D', V.R, V.gone⟩ ∧ D'.C = [] ∧ D'.L.length = V.D.L.length ∧ LogL (seenAt D') g.2.1 g.1 [] g.2.2 ∧ (V.D.fuse < 0 → D'.fuse < 0) ∧ D'.n ≤ V.D.n + g.2.2) ∨
    (∃ D', layW V g.1 g.2.2 = (⟨D', rootZ, true⟩, 6, true) ∧ D'.off = true ∧ Safe D' V.R ∧ 0 ≤ V.D.fuse) := by
  by_cases h0 : 0 < g.2.2
  · have hfs := file_sector h g hg 0 h0
    rcases put_file h g hg 0 (List.replicate g.2.2 []) (by simp) (fun s hs => by rw [(List.mem_replicate.1 hs).2]; simp) with ⟨D', e, ha, hL, hC, hf, hn⟩ | ⟨D', e, ho, hsf, _, _, hf, _⟩
    · left
      refine ⟨D', e, ha, hC, by rw [hL, syncL_length], ⟨Nat.zero_le _, fun j hj => absurd hj (Nat.not_lt_zero _), fun j _ hj => ?_⟩, hf, by rw [List.length_replicate] at hn; exact hn⟩
      unfold seenAt
      rw [hC, hL, syncL_append]
      show (syncL (syncL V.D.L V.D.C) (padsAt (g.2.1 + 0) (List.replicate g.2.2 [])))[g.2.1 + 0 + j]? = _
      rw [pads_at _ _ _ (by rw [syncL_length, List.length_replicate]; omega) j (by rw [List.length_replicate]; exact hj)]
      simp [hj]
    · right
      exact ⟨D', e, ho, hsf, hf⟩
  · have hz : g.2.2 = 0 := by omega
    left
    obtain ⟨e2, ha2⟩ := sync_file h
    refine ⟨_, by unfold layW; rw [hz]; exact e2, ha2, rfl, by simp only [syncL_length], ⟨Nat.zero_le _, fun j hj => absurd hj (Nat.not_lt_zero _), fun j _ hj => by omega⟩, fun h => h, Nat.le_add_right _ _⟩

/-- The last record's sectors. -/
theorem recS_last (id : Nat) (recs : List (List UInt8)) (s : List UInt8) : recS id 0 (recs ++ [s]) = recS id 0 recs ++ (markN id recs.length s.length :: (chunksL s).map padL) := by
  rw [recS_append, Nat.zero_add]
  simp only [recS, List.append_nil, chunksL, List.map_map]
  rfl
theorem chunks_len (s : List UInt8) : (chunksL s).length = nch s.length := by simp [chunksL]
theorem chunks_small (s : List UInt8) : ∀ x ∈ chunksL s, x.length ≤ 64 := by
  intro x hx
  obtain ⟨i, _, rfl⟩ := List.mem_map.1 hx
  exact chunk_le _ _
theorem recN_last (recs : List (List UInt8)) (s : List UInt8) : recN (recs ++ [s]) = recN recs + (1 + nch s.length) := by rw [recN_append]; simp [recN]

/-- Append: there is no room; or the record is there; or the power goes, and what lasts are the records that were. -/
theorem append_log {V : Vol} (h : Alive V) (g : FileN) (hg : g ∈ V.R.2.2.2) (hC : V.D.C = []) (recs : List (List UInt8)) (hl : LogL (seenAt V.D) g.2.1 g.1 recs g.2.2) (s : List UInt8) :
    (g.2.2 < recN recs + 1 + nch s.length ∧ appendW V g.1 g.2.2 (recN recs) recs.length s = (V, 7, false)) ∨
    (recN recs + 1 + nch s.length ≤ g.2.2 ∧ ∃ D', appendW V g.1 g.2.2 (recN recs) recs.length s = (⟨D', V.R, V.gone⟩, 0, false) ∧ Alive ⟨D', V.R, V.gone⟩ ∧ D'.C = [] ∧ D'.L.length = V.D.L.length ∧ LogL (seenAt D') g.2.1 g.1 (recs ++ [s]) g.2.2 ∧ (V.D.fuse < 0 → D'.fuse < 0) ∧ D'.n ≤ V.D.n + g.2.2) ∨
    (recN recs + 1 + nch s.length ≤ g.2.2 ∧ ∃ D', appendW V g.1 g.2.2 (recN recs) recs.length s = (⟨D', rootZ, true⟩, 6, true) ∧ D'.off = true ∧ Safe D' V.R ∧ 0 ≤ V.D.fuse ∧ D'.L.length = V.D.L.length ∧ D'.n ≤ V.D.n + g.2.2 ∧ ∀ ks t b, LogH (seenAt (D'.crash ks t b)) g.2.1 g.1 recs g.2.2) := by
  by_cases hroom : g.2.2 < recN recs + 1 + nch s.length
  · left; exact ⟨hroom, by unfold appendW; rw [if_pos hroom]⟩
  have hr : recN recs + 1 + nch s.length ≤ g.2.2 := by omega
  have hfs := file_sector h g hg 0 (by omega)
  right
  have hz : ∀ k, seenAt V.D k = V.D.L[k]? := fun k => by unfold seenAt; rw [hC]; rfl
  -- the sectors of the bytes
  have hbody : (∃ D1, bodyW V g.1 (recN recs) s = (⟨D1, V.R, V.gone⟩, 0, false) ∧ Alive ⟨D1, V.R, V.gone⟩ ∧ D1.L = syncL V.D.L (padsAt (g.2.1 + (recN recs + 1)) (chunksL s)) ∧ D1.C = [] ∧ (V.D.fuse < 0 → D1.fuse < 0) ∧ D1.n ≤ V.D.n + nch s.length) ∨
      (∃ D1, bodyW V g.1 (recN recs) s = (⟨D1, rootZ, true⟩, 6, true) ∧ D1.off = true ∧ Safe D1 V.R ∧ D1.L = V.D.L ∧ (∀ x ∈ D1.C, g.2.1 + (recN recs + 1) ≤ x.1) ∧ 0 ≤ V.D.fuse ∧ D1.n ≤ V.D.n + nch s.length) := by
    unfold bodyW
    by_cases h0 : nch s.length = 0
    · rw [if_pos h0]
      left
      refine ⟨V.D, rfl, h, ?_, hC, fun h => h, Nat.le_add_right _ _⟩
      have : chunksL s = [] := by unfold chunksL; rw [h0]; rfl
      rw [this]; rfl
    · rw [if_neg h0]
      rcases put_file h g hg (recN recs + 1) (chunksL s) (by rw [chunks_len]; omega) (chunks_small s) with ⟨D1, e, ha, hL, hC1, hf, hn⟩ | ⟨D1, e, ho, hsf, hL, hC1, hf, hn⟩
      · exact .inl ⟨D1, e, ha, by rw [hL, hC]; rfl, hC1, hf, by rw [chunks_len] at hn; exact hn⟩
      · refine .inr ⟨D1, e, ho, hsf, hL, fun x hx => ?_, hf, by rw [chunks_len] at hn; exact hn⟩
        rcases hC1 x hx with h1 | h1
        · rw [hC] at h1; simp at h1
        · exact h1.1
  -- what lasts of a disk that has no mark of the record
  have hhalf : ∀ (D : Dsk), (∀ k, g.2.1 ≤ k → k ≤ g.2.1 + recN recs → D.L[k]? = V.D.L[k]?) → (∀ x ∈ D.C, g.2.1 + (recN recs + 1) ≤ x.1) → ∀ ks t b, LogH (seenAt (D.crash ks t b)) g.2.1 g.1 recs g.2.2 := by
    intro D hL hC1 ks t b
    refine hl.half.of_see fun k h1 _ h2 => ?_
    rw [hz]
    show (crashL ks t b D.L 0 D.C)[k]? = _
    rw [crashL_other ks t b k D.C D.L 0 (fun x hx => by have := hC1 x hx; omega)]
    exact hL k h1 h2
  unfold appendW
  rw [if_neg hroom]
  rcases hbody with ⟨D1, e, ha, hL1, hC1, hf, hn1⟩ | ⟨D1, e, ho, hsf, hL1, hC1, hf, hn1⟩
  · have hkeep : ∀ k, k ≤ g.2.1 + recN recs → D1.L[k]? = V.D.L[k]? := fun k hk => by rw [hL1]; exact pads_off _ _ _ _ (.inl (by omega))
    rw [e, if_neg (by simp)]
    simp only
    rcases put_file ha g hg (recN recs) [markN g.1 recs.length s.length] (by simp only [List.length_cons, List.length_nil]; omega) (fun x hx => by rw [List.mem_singleton.1 hx, markN_length]; omega) with ⟨D2, e2, ha2, hL2, hC2, hf2, hn2⟩ | ⟨D2, e2, ho, hsf, hL2, hC2, hf2, hn2⟩
    · left
      refine ⟨hr, D2, e2, ha2, hC2, by rw [hL2, syncL_length, hL1, syncL_length], ?_, fun h0 => hf2 (hf h0), by simp only [List.length_cons, List.length_nil] at hn2; omega⟩
      have hlen1 : D1.L.length = V.D.L.length := by rw [hL1, syncL_length]
      have hsee : ∀ k, seenAt D2 k = (D1.L.set (g.2.1 + recN recs) (padL (markN g.1 recs.length s.length)))[k]? := fun k => by
        unfold seenAt
        rw [hC2, hL2]
        simp only [hC1, List.nil_append]
        rfl
      have hpm : padL (markN g.1 recs.length s.length) = markN g.1 recs.length s.length := by unfold padL; rw [markN_length]; simp
      refine ⟨by rw [recN_last]; omega, fun j hj => ?_, fun j h1 h2 => ?_⟩
      · rw [recN_last] at hj
        rw [hsee, recS_last]
        rcases Nat.lt_trichotomy j (recN recs) with h3 | h3 | h3
        · rw [List.getElem?_set_ne (by omega), hkeep _ (by omega), ← hz, hl.seen j h3, List.getElem?_append_left (by rw [recS_length]; exact h3)]
        · subst h3
          rw [List.getElem?_set_self (by omega), List.getElem?_append_right (by rw [recS_length]; omega), recS_length, Nat.sub_self, hpm]
          rfl
        · rw [List.getElem?_set_ne (by omega), List.getElem?_append_right (by rw [recS_length]; omega), recS_length]
          obtain ⟨i, hi⟩ : ∃ i, j = recN recs + 1 + i := ⟨j - recN recs - 1, by omega⟩
          subst hi
          rw [show recN recs + 1 + i - recN recs = i + 1 from by omega, List.getElem?_cons_succ, List.getElem?_map, hL1]
          have := pads_at (chunksL s) (g.2.1 + (recN recs + 1)) V.D.L (by rw [chunks_len]; omega) i (by rw [chunks_len]; omega)
          rw [← this]
          congr 1; omega
      · rw [recN_last] at h1
        rw [hsee, List.getElem?_set_ne (by omega), hL1, pads_off _ _ _ _ (.inr (by rw [chunks_len]; omega)), ← hz]
        exact hl.zero j (by omega) h2
    · right
      refine ⟨hr, D2, e2, ho, hsf, ?_, by rw [hL2]; show D1.L.length = _; rw [hL1, syncL_length], by simp only [List.length_cons, List.length_nil] at hn2; omega, hhalf D2 (fun k h1 h2 => by rw [hL2]; exact hkeep k h2) (fun x hx => ?_)⟩
      · by_cases h0 : V.D.fuse < 0
        · have := hf h0; simp only at hf2; omega
        · omega
      · rcases hC2 x hx with h1 | h1
        · simp only [hC1] at h1; simp at h1
        · simp only [List.length_cons, List.length_nil] at h1; omega
  · rw [e, if_pos (by simp)]
    right
    exact ⟨hr, D1, rfl, ho, hsf, hf, by rw [hL1], by omega, hhalf D1 (fun k _ _ => by rw [hL1]) hC1⟩

end Go.Proofs.YtfbgagpihhbllaaGreatDoor

/- Mathematics of layer 8 (wal): what Open reads, and leaves; a crash. -/
namespace Go.Proofs.YtfbgagpihhbllaaGreatDoor
open Go.RowKit Go.Proofs Go.Proofs.Pk
set_option maxRecDepth 10000

theorem recs_split (recs : List (List UInt8)) (i : Nat) (hi : i < recs.length) : recs = recs.take i ++ (recs[i] :: recs.drop (i + 1)) := by
  conv => lhs; rw [← List.take_append_drop i recs, List.drop_eq_getElem_cons hi]
theorem recN_take (recs : List (List UInt8)) (i : Nat) (hi : i < recs.length) : recN (recs.take (i + 1)) = recN (recs.take i) + (1 + nch recs[i].length) := by
  rw [List.take_succ_eq_append_getElem hi, recN_last]
theorem recN_take_le (recs : List (List UInt8)) (i : Nat) : recN (recs.take i) ≤ recN recs := by
  have := recN_append (recs.take i) (recs.drop i)
  rw [List.take_append_drop] at this; omega
theorem recN_many : ∀ recs : List (List UInt8), recs.length ≤ recN recs
  | [] => Nat.le_refl _
  | r :: l => by have := recN_many l; simp only [recN, List.length_cons]; omega
theorem len_nch (r : List UInt8) : r.length ≤ 64 * nch r.length := by unfold nch; omega
/-- A record's mark and its sectors, where the records lie. -/
theorem recS_at (id : Nat) (recs : List (List UInt8)) (i : Nat) (hi : i < recs.length) :
    (recS id 0 recs)[recN (recs.take i)]? = some (markN id i recs[i].length) ∧ ∀ t, t < nch recs[i].length → (recS id 0 recs)[recN (recs.take i) + 1 + t]? = some (padL (chunk recs[i] t)) := by
  have e := recS_append id (recs.take i) (recs[i] :: recs.drop (i + 1)) 0
  rw [← recs_split recs i hi, Nat.zero_add, List.length_take, Nat.min_eq_left (by omega)] at e
  have hl := recS_length id (recs.take i) 0
  simp only [recS] at e
  refine ⟨?_, fun t ht => ?_⟩
  · rw [e, List.getElem?_append_right (by omega), hl, Nat.sub_self]; rfl
  · rw [e, List.getElem?_append_right (by omega), hl, show recN (recs.take i) + 1 + t - recN (recs.take i) = t + 1 from by omega, List.cons_append, List.getElem?_cons_succ, List.getElem?_append_left (by simpa using ht)]
    simp [ht]
structure RecAt (see : Nat → Option (List UInt8)) (a id many : Nat) (recs : List (List UInt8)) (i : Nat) (r : List UInt8) : Prop where
  mark : see (a + recN (recs.take i)) = some (markN id i r.length)
  ok : MarkOk id i r.length
  text : ∀ t, t < nch r.length → see (a + recN (recs.take i) + 1 + t) = some (padL (chunk r t))
  room : recN (recs.take i) + 1 + nch r.length ≤ many
  step : recN (recs.take (i + 1)) = recN (recs.take i) + (1 + nch r.length)
theorem LogH.at_rec {see : Nat → Option (List UInt8)} {a id many : Nat} {recs : List (List UInt8)} (h : LogH see a id recs many) (hid : 1 ≤ id ∧ id ≤ MaxN) (hm : many ≤ 4000) (i : Nat) (hi : i < recs.length) : RecAt see a id many recs i recs[i] := by
  obtain ⟨h1, h2⟩ := recS_at id recs i hi
  have hs := recN_take recs i hi
  have hle := recN_take_le recs (i + 1)
  have hn := recN_many recs
  have hf := h.fits
  have hl := len_nch recs[i]
  refine ⟨by rw [h.seen _ (by omega)]; exact h1, ⟨hid.1, hid.2, by unfold Max31; omega, by unfold Max31; omega⟩, fun t ht => ?_, by omega, hs⟩
  rw [show a + recN (recs.take i) + 1 + t = a + (recN (recs.take i) + 1 + t) from by omega, h.seen _ (by omega)]
  exact h2 t ht
/-- The bytes of a record's sectors. -/
theorem rec_join (r : List UInt8) : ((List.range (nch r.length)).flatMap fun i => padL (chunk r i)).take r.length = r := chunks_join _ _ (len_nch r)

/-- What Open leaves: the sectors behind the records, emptied. -/
theorem open_log {V : Vol} (h : Alive V) (hf : V.D.fuse < 0) (g : FileN) (hg : g ∈ V.R.2.2.2) (recs : List (List UInt8)) (hl : LogH (seenAt V.D) g.2.1 g.1 recs g.2.2) :
    (recN recs = g.2.2 ∧ LogL (seenAt V.D) g.2.1 g.1 recs g.2.2) ∨
    (recN recs < g.2.2 ∧ ∃ D', thenSync (writesV V (g.1 : Int) (recN recs) (List.replicate (g.2.2 - recN recs) [])) = (⟨D', V.R, V.gone⟩, 0, false) ∧ Alive ⟨D', V.R, V.gone⟩ ∧ D'.C = [] ∧ D'.L.length = V.D.L.length ∧ LogL (seenAt D') g.2.1 g.1 recs g.2.2 ∧ D'.fuse < 0 ∧ D'.n ≤ V.D.n + g.2.2) := by
  have hfit := hl.fits
  by_cases h0 : recN recs = g.2.2
  · left
    exact ⟨h0, hl.fits, hl.seen, fun j h1 h2 => by omega⟩
  right
  have hfs := file_sector h g hg 0 (by omega)
  refine ⟨by omega, ?_⟩
  rcases put_file h g hg (recN recs) (List.replicate (g.2.2 - recN recs) []) (by rw [List.length_replicate]; omega) (fun s hs => by rw [(List.mem_replicate.1 hs).2]; simp) with ⟨D', e, ha, hL, hC, hf', hn⟩ | ⟨D', e, ho, hsf, _, _, hf', _⟩
  · have hsee : ∀ k, seenAt D' k = (syncL (syncL V.D.L V.D.C) (padsAt (g.2.1 + recN recs) (List.replicate (g.2.2 - recN recs) [])))[k]? := fun k => by
      unfold seenAt; rw [hC, hL, syncL_append]; rfl
    refine ⟨D', e, ha, hC, by rw [hL, syncL_length], ⟨hfit, fun j hj => ?_, fun j h1 h2 => ?_⟩, hf' hf, by rw [List.length_replicate] at hn; omega⟩
    · rw [hsee, pads_off _ _ _ _ (.inl (by omega))]
      exact hl.seen j hj
    · obtain ⟨i, rfl⟩ : ∃ i, j = recN recs + i := ⟨j - recN recs, by omega⟩
      rw [hsee, ← Nat.add_assoc, pads_at _ _ _ (by rw [syncL_length, List.length_replicate]; omega) i (by rw [List.length_replicate]; omega)]
      rw [List.getElem?_replicate, if_pos (by omega)]; rfl
  · omega
/-- Behind a crash the volume that is opened lives. -/
theorem crash_alive {S : Dsk} {R : RootN} (h : Safe S R) (ks : List Int) (t b : Int) : Alive ⟨S.crash ks t b, R, false⟩ ∧ (S.crash ks t b).fuse < 0 ∧ (S.crash ks t b).C = [] ∧ (S.crash ks t b).L.length = S.L.length :=
  ⟨⟨rfl, rfl, h.crash ks t b, fun x hx => by simp [Dsk.crash] at hx⟩, (by show (-1 : Int) < 0; decide), rfl, crashL_length ..⟩
theorem crash_calm {S : Dsk} (hC : S.C = []) (ks : List Int) (t b : Int) (k : Nat) : seenAt (S.crash ks t b) k = seenAt S k := by
  unfold seenAt Dsk.crash
  simp only [hC]
  rfl
/-- The first sector of a log is no mark of another file's log. -/
theorem LogL.apart {see : Nat → Option (List UInt8)} {a id many : Nat} {recs : List (List UInt8)} (h : LogL see a id recs many) (hid : 1 ≤ id ∧ id ≤ MaxN) (hm : 0 < many ∧ many ≤ 4000) (id' : Nat) (hne : id' ≠ id) : LogH see a id' [] many := by
  refine ⟨Nat.zero_le _, fun j hj => absurd hj (Nat.not_lt_zero _), fun _ => ?_⟩
  cases recs with
  | nil => exact ⟨_, h.zero 0 (Nat.le_refl _) hm.1, by rw [pad_nil]; exact rd_zero _ _⟩
  | cons r l =>
    have hr := h.half.at_rec hid hm.2 0 (by simp)
    exact ⟨_, hr.mark, rd_other hr.ok (.inl hne)⟩

end Go.Proofs.YtfbgagpihhbllaaGreatDoor

/- Mathematics of layer 8 (wal): the volume that its laws stand on: one file of all sectors behind the first 18. -/
namespace Go.Proofs.YtfbgagpihhbllaaGreatDoor
open Go.RowKit Go.Proofs Go.Proofs.Pk
set_option maxRecDepth 10000

/-- A root with one file, of all sectors, at 18. -/
def oneR (seq id m : Nat) : RootN := (seq, id + 1, 0, [(id, 18, m)])
set_option maxRecDepth 100000 in
theorem one_fits : ∀ m, m < 61 → 1 ≤ m → fitO ((takenO ((18 + m : Nat) : Int) ((0, 18) :: usedF (([] : List FileN).map fileI))).map freeL) (m : Int) = (18, 0) := by decide +kernel
set_option maxRecDepth 100000 in
theorem one_right : ∀ m, m < 61 → 1 ≤ m → rightN ((18 + m : Nat) : Int) (oneR 2 1 m) = true := by decide +kernel
theorem one_right2 : rightN ((78 : Nat) : Int) (3, 2, 0, []) = true ∧ rightN ((78 : Nat) : Int) (oneR 4 2 60) = true := by decide +kernel
/-- A root stored, the power on. -/
theorem lay_done {V : Vol} {R' : RootN} (h : Alive V) (hr : rightN V.D.L.length R' = true) (hs : R'.1 = V.R.1 + 1) (hf : V.D.fuse < 0) :
    (layV V R').2 = 0 ∧ Alive (layV V R').1 ∧ (layV V R').1.R = R' ∧ (layV V R').1.D.C = [] ∧ (layV V R').1.D.L.length = V.D.L.length ∧ (layV V R').1.D.fuse < 0 := by
  rcases lay_safe h.safe h.off h.gone hr hs h.cache with ⟨a1, a2, a3, a4, a5, a6, a7, a8⟩ | ⟨_, _, _, _, _, _, a7⟩
  · exact ⟨a1, ⟨a3, a4, by rw [a2]; exact a5, fun x hx => by rw [a6] at hx; simp at hx⟩, a2, a6, a7, a8 hf⟩
  · omega
/-- Make of a file of all sectors, where there is none. -/
theorem make_one {V : Vol} (h : Alive V) (hf : V.D.fuse < 0) (m : Nat) (hm : 1 ≤ m ∧ m ≤ 60) (hl : V.D.L.length = 18 + m) (seq id : Nat) (hR : V.R = (seq, id, 0, [])) (hn : seq < MaxN ∧ id < MaxN) (hr : rightN V.D.L.length (oneR (seq + 1) id m) = true) :
    ∃ V', makeV V (m : Int) = (V', id, 0, false) ∧ Alive V' ∧ V'.R = oneR (seq + 1) id m ∧ V'.D.C = [] ∧ V'.D.L.length = V.D.L.length ∧ V'.D.fuse < 0 ∧ ∀ k, 18 ≤ k → seenAt V'.D k = seenAt V.D k := by
  have hfit : fitV V (m : Int) = (18, 0) := by
    unfold fitV
    rw [hl, hR]
    exact one_fits m (by omega) hm.1
  obtain ⟨a1, a2, a3, a4, a5, a6⟩ := lay_done (R' := oneR (seq + 1) id m) h hr (by rw [hR]; rfl) hf
  have hsee := fun k hk => lay_seen (R' := oneR (seq + 1) id m) h.safe h.off hr k hk a1
  refine ⟨(layV V (oneR (seq + 1) id m)).1, ?_, a2, a3, a4, a5, a6, hsee⟩
  unfold makeV
  rw [if_neg (by simp [h.gone]), if_neg (by omega), hfit, hR]
  rw [if_neg (by simp), if_neg (by simp only; omega)]
  simp only [List.nil_append]
  have e : ((seq + 1, id + 1, 0, [(id, (18 : Int).toNat, (m : Int).toNat)]) : RootN) = oneR (seq + 1) id m := by unfold oneR; simp
  rw [e, a1]
  simp
theorem made_vol (m : Nat) (hm : 1 ≤ m ∧ m ≤ 60) :
    ∃ V', makeV (formatV (Dsk.new (18 + m))).1 (m : Int) = (V', 1, 0, false) ∧ Alive V' ∧ V'.R = oneR 2 1 m ∧ V'.D.C = [] ∧ V'.D.L.length = 18 + m ∧ V'.D.fuse < 0 := by
  obtain ⟨_, hR, hA, hL, hf⟩ := format_new (N := 18 + m) (by omega) (by omega)
  obtain ⟨V', e, a1, a2, a3, a4, a5, _⟩ := make_one hA hf m hm hL 1 1 hR (by unfold MaxN; omega) (by rw [hL]; exact one_right m (by omega) hm.1)
  exact ⟨V', e, a1, a2, a3, by rw [a4, hL], a5⟩
/-- The file dropped, and made anew: its sectors read as they did. -/
theorem again_vol {V : Vol} (h : Alive V) (hf : V.D.fuse < 0) (hl : V.D.L.length = 78) (hR : V.R = oneR 2 1 60) :
    ∃ V1 V2, dropV V [1] = (V1, 0, false) ∧ makeV V1 60 = (V2, 2, 0, false) ∧ Alive V1 ∧ V1.R = (3, 2, 0, []) ∧ Alive V2 ∧ V2.R = oneR 4 2 60 ∧ V2.D.fuse < 0 ∧ V1.D.fuse < 0 ∧ V1.D.C = [] ∧ V2.D.C = [] ∧ V1.D.L.length = 78 ∧ V2.D.L.length = 78 ∧ ∀ k, 18 ≤ k → seenAt V2.D k = seenAt V.D k := by
  obtain ⟨a1, a2, a3, a4, a5, a6⟩ := lay_done (R' := (3, 2, 0, [])) h (by rw [hl]; exact one_right2.1) (by rw [hR]; rfl) hf
  have hsee := fun k hk => lay_seen (R' := (3, 2, 0, [])) h.safe h.off (by rw [hl]; exact one_right2.1) k hk a1
  obtain ⟨V2, e, b1, b2, b3, b4, b5, b6⟩ := make_one a2 a6 60 (by omega) (by rw [a5, hl]) 3 2 a3 (by unfold MaxN; omega) (by rw [a5, hl]; exact one_right2.2)
  refine ⟨(layV V (3, 2, 0, [])).1, V2, ?_, e, a2, a3, b1, b2, b5, a6, a4, b3, by rw [a5, hl], by rw [b4, a5, hl], fun k hk => by rw [b6 k hk, hsee k hk]⟩
  unfold dropV
  rw [if_neg (by simp [h.gone]), hR]
  rw [if_neg (by decide), if_neg (by decide), if_neg (by decide), if_neg (by decide)]
  have e2 : ((oneR 2 1 60).1 + 1, (oneR 2 1 60).2.1, (oneR 2 1 60).2.2.1, (oneR 2 1 60).2.2.2.filter fun f => decide ((f.1 : Int) ∉ [1])) = ((3, 2, 0, []) : RootN) := by decide
  rw [e2]
  unfold laidV
  rw [a1]
  rfl

end Go.Proofs.YtfbgagpihhbllaaGreatDoor
