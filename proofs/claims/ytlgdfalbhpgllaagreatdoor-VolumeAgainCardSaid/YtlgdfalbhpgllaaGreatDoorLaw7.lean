/- What the laws of layer 7 share: a deed done in a law, a deed among the arguments, a volume opened. -/
import Derived.Test.YtlgdfalbhpgllaaGreatDoorJ33
namespace Go.Proofs.YtlgdfalbhpgllaaGreatDoor
open Go.RowKit Go.Proofs Go.Proofs.Pk
set_option maxRecDepth 10000
attribute [local simp] mk_get wrap64_u8 mk_extract ByteArray.mk_append_mk get_1k

theorem On.at {w w1 : World} {p pd : Nat} {V : Vol} {vF : Value} {X : Nat → Prop} (h : On w w1 p pd V vF X) : AtV pd w1 w.heap.size p V X vF.ownBlock := ⟨⟨vF, h.vol, rfl⟩, h.lt⟩
theorem On.left {w w1 w2 : World} {p pd : Nat} {V V' : Vol} {vF : Value} {X : Nat → Prop} (h : On w w1 p pd V vF X) (hl : Left (AtV pd) w1 w.heap.size p V' X vF.ownBlock w2) : ∃ vF' X', On w w2 p pd V' vF' X' ∧ Grows w1 X X' ∧ (∀ b, vF'.ownBlock = some b → vF.ownBlock = some b ∨ w1.heap.size ≤ b) ∧ Kept X w1 w2 := by
  obtain ⟨X', F', ⟨⟨vF', hv, rfl⟩, _⟩, hg, hf, hk⟩ := hl
  exact h.step ⟨X', vF', hv, hg, hf, hk⟩
theorem deedsW_at {w : World} {ad : Option Addr} {len : Nat} {l : List DeedW} (h : DeedsW w ad len l) (j : Nat) (hj : j < len) : ∃ b off, ad = some ⟨b, off, none⟩ ∧ b < w.heap.size ∧ DeedWAt w b (off + j * 5) (l[j]'(by rw [h.1]; exact hj)) := by
  have hl := h.1
  rcases h.2 with h0 | ⟨b, off, h1, h2, h3⟩
  · rw [h0] at hl; simp at hl; omega
  · exact ⟨b, off, h1, h2, h3 j (by omega)⟩
/-- A deed's cells, in a later world. -/
theorem deedsW_cells {w w' : World} {ad : Option Addr} {len : Nat} {l : List DeedW} (h : DeedsW w ad len l) (hb : Below w.heap.size w w') (j : Nat) (hj : j < len) : ∃ b off u, ad = some ⟨b, off, none⟩ ∧ u = l[j]'(by rw [h.1]; exact hj) ∧
    w'.cell? ⟨b, off + j * 5, none⟩ = some (.int .i64 u.kind) ∧ w'.cell? ⟨b, off + j * 5 + 1, none⟩ = some (.int .i64 u.a) ∧ w'.cell? ⟨b, off + j * 5 + 2, none⟩ = some (.int .i64 u.b) ∧ w'.cell? ⟨b, off + j * 5 + 3, none⟩ = some (.string ⟨u.s.toArray⟩) ∧ w'.cell? ⟨b, off + j * 5 + 4, none⟩ = some (.slice u.kad u.klen u.kcap) ∧
    FitI u.kind ∧ FitI u.a ∧ FitI u.b ∧ (u.s.length : Int) ≤ 9223372036854775807 := by
  obtain ⟨b, off, h1, h2, h3⟩ := deedsW_at h j hj
  refine ⟨b, off, _, h1, rfl, ?_, ?_, ?_, ?_, ?_, h3.fit, h3.fita, h3.fitb, h3.long⟩
  · rw [hb.cell (p := ⟨b, off + j * 5, none⟩) h2]; exact h3.row 0 _ rfl
  · rw [hb.cell (p := ⟨b, off + j * 5 + 1, none⟩) h2]; exact h3.row 1 _ rfl
  · rw [hb.cell (p := ⟨b, off + j * 5 + 2, none⟩) h2]; exact h3.row 2 _ rfl
  · rw [hb.cell (p := ⟨b, off + j * 5 + 3, none⟩) h2]; exact h3.row 3 _ rfl
  · rw [hb.cell (p := ⟨b, off + j * 5 + 4, none⟩) h2]; exact h3.row 4 _ rfl
/-- A new disk, and a volume on it. -/
theorem format_on (w w1 : World) (pd N : Nat) (Xd : Nat → Prop) (hd : DskP w1 w.heap.size pd (Dsk.new N) Xd) (hb : Below w.heap.size w w1) (hg : ErrTy w) (h18 : 18 ≤ N) (hN : N ≤ 4000) :
    Calls Tryz.prog 8 #[.pointer (some ⟨pd, 0, none⟩)] w1 fun e w' => ∃ p vF X, e = .returned (.tuple #[.pointer (some ⟨p, 0, none⟩), .nilIface]) ∧ On w w' p pd (formatV (Dsk.new N)).1 vF X ∧ Grows w1 Xd X ∧ Kept Xd w1 w' ∧ (∀ b, vF.ownBlock = some b → w1.heap.size ≤ b) := by
  refine (formatP w1 w.heap.size pd N Xd hd h18 hN hb.size (hg.kept (Kept.of_below (fun _ => False) hb) (fun hf => hf)) hg.lt).mono ?_
  rintro e w' ⟨p, vF, X, rfl, hv, hgr, hf, hk⟩
  have hXd : ∀ n, Xd n → w.heap.size ≤ n := fun n hn => (hd.lt n hn).1
  have hbw := hb.trans (hk.below hb.size hXd)
  exact ⟨p, vF, X, rfl, ⟨hv, hbw, hg.kept (Kept.of_below (fun _ => False) hbw) (fun hf => hf), hg.lt⟩, hgr, hk, hf⟩

end Go.Proofs.YtlgdfalbhpgllaaGreatDoor
