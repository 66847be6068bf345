/- WalC. -/
import Derived.Test.YtfbgagpihhbllaaGreatDoorJ14

/- Mathematics of layer 8 (wal): a log's states, through appends, cuts of the power, and openings. -/
namespace Go.Proofs.YtfbgagpihhbllaaGreatDoor
open Go.RowKit Go.Proofs Go.Proofs.Pk
set_option maxRecDepth 10000

/-- A log in a volume that lives, its records all in. -/
structure LogV (V : Vol) (R : RootN) (g : FileN) (recs : List (List UInt8)) : Prop where
  alive : Alive V
  root : V.R = R
  file : g ∈ R.2.2.2
  calm : V.D.C = []
  log : LogL (seenAt V.D) g.2.1 g.1 recs g.2.2
/-- A volume that the power left: what lasts are the records. -/
structure LogX (V : Vol) (R : RootN) (g : FileN) (recs : List (List UInt8)) : Prop where
  gone : V.gone = true
  off : V.D.off = true
  safe : Safe V.D R
  file : g ∈ R.2.2.2
  lasts : ∀ ks t b, LogH (seenAt (V.D.crash ks t b)) g.2.1 g.1 recs g.2.2
theorem LogV.setFuse {V : Vol} {R : RootN} {g : FileN} {recs : List (List UInt8)} (h : LogV V R g recs) (n : Int) (hn : n ≤ 9223372036854775807) : LogV ⟨V.D.setFuse n, V.R, V.gone⟩ R g recs :=
  ⟨⟨h.alive.gone, h.alive.off, h.alive.safe.of_same (Dsk.setFuse_ok h.alive.safe.ok n hn) rfl (fun _ _ => rfl) h.alive.safe.cache, h.alive.cache⟩, h.root, h.file, h.calm, h.log⟩
/-- Append, in any state of the fuse. -/
theorem LogV.append {V : Vol} {R : RootN} {g : FileN} {recs : List (List UInt8)} (h : LogV V R g recs) (s : List UInt8) :
    (g.2.2 < recN recs + 1 + nch s.length ∧ appendW V g.1 g.2.2 (recN recs) recs.length s = (V, 7, false)) ∨
    (recN recs + 1 + nch s.length ≤ g.2.2 ∧ ∃ V', appendW V g.1 g.2.2 (recN recs) recs.length s = (V', 0, false) ∧ LogV V' R g (recs ++ [s]) ∧ V'.D.L.length = V.D.L.length ∧ V'.D.n ≤ V.D.n + g.2.2 ∧ (V.D.fuse < 0 → V'.D.fuse < 0)) ∨
    (recN recs + 1 + nch s.length ≤ g.2.2 ∧ ∃ V', appendW V g.1 g.2.2 (recN recs) recs.length s = (V', 6, true) ∧ V'.R = rootZ ∧ LogX V' R g recs ∧ V'.D.L.length = V.D.L.length ∧ V'.D.n ≤ V.D.n + g.2.2 ∧ 0 ≤ V.D.fuse) := by
  have hfile : g ∈ V.R.2.2.2 := by rw [h.root]; exact h.file
  rcases append_log h.alive g hfile h.calm recs h.log s with h1 | ⟨hr, D', e, ha, hC, hL, hlog, hf, hn⟩ | ⟨hr, D', e, ho, hsf, hf, hL, hn, hlast⟩
  · exact .inl h1
  · exact .inr (.inl ⟨hr, _, e, ⟨ha, h.root, h.file, hC, hlog⟩, hL, hn, hf⟩)
  · refine .inr (.inr ⟨hr, _, e, rfl, ⟨rfl, ho, by rw [← h.root]; exact hsf, h.file, hlast⟩, hL, hn, hf⟩)
/-- Behind a crash: the volume that is opened lives, and its file reads as the records. -/
theorem LogV.crash {V : Vol} {R : RootN} {g : FileN} {recs : List (List UInt8)} (h : LogV V R g recs) (ks : List Int) (t b : Int) :
    Alive ⟨V.D.crash ks t b, R, false⟩ ∧ (V.D.crash ks t b).fuse < 0 ∧ (V.D.crash ks t b).C = [] ∧ (V.D.crash ks t b).L.length = V.D.L.length ∧ LogH (seenAt (V.D.crash ks t b)) g.2.1 g.1 recs g.2.2 ∧ openV (V.D.crash ks t b) = some R := by
  have hs : Safe V.D R := by rw [← h.root]; exact h.alive.safe
  obtain ⟨a1, a2, a3, a4⟩ := crash_alive hs ks t b
  exact ⟨a1, a2, a3, a4, h.log.half.of_see fun k _ _ _ => crash_calm h.calm ks t b k, open_crash hs ks t b⟩
theorem LogX.crash {V : Vol} {R : RootN} {g : FileN} {recs : List (List UInt8)} (h : LogX V R g recs) (ks : List Int) (t b : Int) :
    Alive ⟨V.D.crash ks t b, R, false⟩ ∧ (V.D.crash ks t b).fuse < 0 ∧ (V.D.crash ks t b).C = [] ∧ (V.D.crash ks t b).L.length = V.D.L.length ∧ LogH (seenAt (V.D.crash ks t b)) g.2.1 g.1 recs g.2.2 ∧ openV (V.D.crash ks t b) = some R := by
  obtain ⟨a1, a2, a3, a4⟩ := crash_alive h.safe ks t b
  exact ⟨a1, a2, a3, a4, h.lasts ks t b, open_crash h.safe ks t b⟩
/-- Open of the log: its records; the volume behind it. -/
def openW (V : Vol) (id many : Nat) (recs : List (List UInt8)) : Vol × Nat × Bool :=
  if recN recs = many then (V, 0, false) else thenSync (writesV V (id : Int) (recN recs) (List.replicate (many - recN recs) []))
theorem open_done {V : Vol} (h : Alive V) (hf : V.D.fuse < 0) (hC : V.D.C = []) (g : FileN) (hg : g ∈ V.R.2.2.2) (recs : List (List UInt8)) (hl : LogH (seenAt V.D) g.2.1 g.1 recs g.2.2) :
    ∃ V', openW V g.1 g.2.2 recs = (V', 0, false) ∧ LogV V' V.R g recs ∧ V'.D.L.length = V.D.L.length ∧ V'.D.n ≤ V.D.n + g.2.2 ∧ V'.D.fuse < 0 := by
  unfold openW
  rcases open_log h hf g hg recs hl with ⟨h0, hL⟩ | ⟨h0, D', e, ha, hC', hlen, hL, hf', hn⟩
  · rw [if_pos h0]
    exact ⟨V, rfl, ⟨h, rfl, hg, hC, hL⟩, rfl, Nat.le_add_right _ _, hf⟩
  · rw [if_neg (by omega), e]
    exact ⟨_, rfl, ⟨ha, rfl, hg, hC', hL⟩, hlen, hn, hf'⟩
/-- Room: the bytes of the next record. -/
def roomW (many e : Nat) : Int := if e = many then -1 else 64 * ((many : Int) - e - 1)
/-- A record has room just if it has no more bytes than Room says. -/
theorem room_iff {many e : Nat} (_he : e ≤ many) (n : Nat) : (e + 1 + nch n ≤ many) ↔ ((n : Int) ≤ roomW many e) := by
  unfold roomW nch
  split <;> omega
theorem lay_done8 {V : Vol} (h : Alive V) (hf : V.D.fuse < 0) (g : FileN) (hg : g ∈ V.R.2.2.2) :
    ∃ V', layW V g.1 g.2.2 = (V', 0, false) ∧ LogV V' V.R g [] ∧ V'.D.L.length = V.D.L.length ∧ V'.D.n ≤ V.D.n + g.2.2 ∧ V'.D.fuse < 0 := by
  rcases lay_log h g hg with ⟨D', e, ha, hC, hlen, hL, hf', hn⟩ | ⟨D', e, ho, hsf, h0⟩
  · exact ⟨_, e, ⟨ha, rfl, hg, hC, hL⟩, hlen, hn, hf' hf⟩
  · omega

end Go.Proofs.YtfbgagpihhbllaaGreatDoor
