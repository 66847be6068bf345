/- Two volumes and two roots in memory, each apart from the others (for the law VolumeCrash). -/
import Derived.Test.YtlgdfalbhpgllaaGreatDoorLaw7
import Derived.Test.YtlgdfalbhpgllaaGreatDoorJ34
namespace Go.Proofs.YtlgdfalbhpgllaaGreatDoor
open Go.RowKit Go.Proofs Go.Proofs.Pk
set_option maxRecDepth 10000
attribute [local simp] mk_get wrap64_u8 mk_extract ByteArray.mk_append_mk get_1k

def ZV (vF : Value) (X : Nat → Prop) (k : Nat) : Prop := X k ∨ vF.ownBlock = some k
def rootC (R : RootN) (vR : Value) : List Value := [.int .i64 (R.1 : Int), .int .i64 (R.2.1 : Int), .int .i64 (R.2.2.1 : Int), vR]
/-- A root in a variable of its own. -/
structure RB (w : World) (q : Nat) (R : RootN) (vR : Value) : Prop where
  box : Holds w q (rootC R vR) 40
  own : w.ownsRow 0 49 3 vR R.2.2.2.length (cellsF R.2.2.2)
  fit : ∀ f ∈ R.2.2.2, FitF (fileI f)
  few : R.2.2.2.length ≤ 24
  ne : vR.ownBlock ≠ some q
def ZR (q : Nat) (vR : Value) (k : Nat) : Prop := k = q ∨ vR.ownBlock = some k
theorem RB.lt {w : World} {q : Nat} {R : RootN} {vR : Value} (h : RB w q R vR) : ∀ k, ZR q vR k → k < w.heap.size := by
  rintro k (rfl | hk)
  · exact h.box.lt
  · exact (h.own.lt k hk).2
theorem RB.kept {w w' : World} {q : Nat} {R : RootN} {vR : Value} {Y : Nat → Prop} (h : RB w q R vR) (hk : Kept Y w w') (hd : ∀ k, ZR q vR k → ¬Y k) : RB w' q R vR :=
  ⟨h.box.of_block (hk.block q h.box.lt (hd q (.inl rfl))), owns_of_block h.own fun g hg => hk.block g (h.own.lt g hg).2 (hd g (.inr hg)), h.fit, h.few, h.ne⟩
theorem RB.files {w : World} {q : Nat} {R : RootN} {vR : Value} (h : RB w q R vR) : ∃ ad cap, vR = .slice ad R.2.2.2.length cap ∧ Files w ad R.2.2.2.length (R.2.2.2.map fileI) := own_files h.own rfl h.fit
/-- The root's cells written into a variable. -/
theorem box_rooted {w : World} {q : Nat} {R R' : RootN} {vR vR' : Value} (h : Holds w q (rootC R vR) 40) :
    Holds ((((w.setCell ⟨q, 0, none⟩ (.int .i64 (R'.1 : Int))).setCell ⟨q, 1, none⟩ (.int .i64 (R'.2.1 : Int))).setCell ⟨q, 2, none⟩ (.int .i64 (R'.2.2.1 : Int))).setCell ⟨q, 3, none⟩ vR') q (rootC R' vR') 40 :=
  root_stored (a' := .int .i64 (R'.1 : Int)) (b' := .int .i64 (R'.2.1 : Int)) (c' := .int .i64 (R'.2.2.1 : Int)) (d' := vR') h
theorem kept_boxed {w : World} {q : Nat} {a b c d : Value} : Kept (fun k => k = q) w ((((w.setCell ⟨q, 0, none⟩ a).setCell ⟨q, 1, none⟩ b).setCell ⟨q, 2, none⟩ c).setCell ⟨q, 3, none⟩ d) :=
  ((((Kept.refl (fun k => k = q) w).setCell (p := ⟨q, 0, none⟩) rfl a).setCell (p := ⟨q, 1, none⟩) rfl b).setCell (p := ⟨q, 2, none⟩) rfl c).setCell (p := ⟨q, 3, none⟩) rfl d

/-- Two volumes, each on its disk. -/
structure St2 (w1 wr : World) (p pd p2 pd2 : Nat) (V W : Vol) (vF vF2 : Value) (X X2 : Nat → Prop) : Prop where
  a : On w1 wr p pd V vF X
  b : On w1 wr p2 pd2 W vF2 X2
  ab : ∀ k, ZV vF X k → ¬ZV vF2 X2 k
theorem On.zlt {w1 wr : World} {p pd : Nat} {V : Vol} {vF : Value} {X : Nat → Prop} (h : On w1 wr p pd V vF X) : ∀ k, ZV vF X k → w1.heap.size ≤ k ∧ k < wr.heap.size := h.vol.lt
theorem On.keepZ {w1 wr w2 : World} {p pd : Nat} {V : Vol} {vF : Value} {X Y : Nat → Prop} (h : On w1 wr p pd V vF X) (hk : Kept Y wr w2) (hd : ∀ k, ZV vF X k → ¬Y k) (hY : ∀ k, Y k → w1.heap.size ≤ k) : On w1 w2 p pd V vF X :=
  ⟨h.vol.kept hk hd, h.below.trans (hk.below h.below.size hY), h.err.kept hk (fun hx => by have := hY _ hx; have := h.lt; omega), h.lt⟩
/-- One of the two goes on. -/
theorem St2.goA {w1 wr w2 : World} {p pd p2 pd2 : Nat} {V V' W : Vol} {vF vF2 : Value} {X X2 : Nat → Prop} (h : St2 w1 wr p pd p2 pd2 V W vF vF2 X X2) (hl : VlLeft wr w1.heap.size p pd V' vF X w2) :
    ∃ vF' X', St2 w1 w2 p pd p2 pd2 V' W vF' vF2 X' X2 ∧ (∀ k, ZV vF' X' k → ZV vF X k ∨ wr.heap.size ≤ k) ∧ Kept X wr w2 := by
  obtain ⟨vF', X', hOn, hg, hf, hk⟩ := h.a.step hl
  have hz : ∀ k, ZV vF' X' k → ZV vF X k ∨ wr.heap.size ≤ k := by
    rintro k (hx | hx)
    · exact (hg k hx).elim (fun h => .inl (.inl h)) .inr
    · exact (hf k hx).elim (fun h => .inl (.inr h)) .inr
  refine ⟨vF', X', ⟨hOn, h.b.keepZ hk (fun k hb hx => h.ab k (.inl hx) hb) (fun k hx => (h.a.zlt k (.inl hx)).1), fun k ha hb => ?_⟩, hz, hk⟩
  rcases hz k ha with h1 | h1
  · exact h.ab k h1 hb
  · have := (h.b.zlt k hb).2; omega
theorem St2.goB {w1 wr w2 : World} {p pd p2 pd2 : Nat} {V W W' : Vol} {vF vF2 : Value} {X X2 : Nat → Prop} (h : St2 w1 wr p pd p2 pd2 V W vF vF2 X X2) (hl : VlLeft wr w1.heap.size p2 pd2 W' vF2 X2 w2) :
    ∃ vF2' X2', St2 w1 w2 p pd p2 pd2 V W' vF vF2' X X2' ∧ (∀ k, ZV vF2' X2' k → ZV vF2 X2 k ∨ wr.heap.size ≤ k) ∧ Kept X2 wr w2 := by
  obtain ⟨vF', X', hOn, hg, hf, hk⟩ := h.b.step hl
  have hz : ∀ k, ZV vF' X' k → ZV vF2 X2 k ∨ wr.heap.size ≤ k := by
    rintro k (hx | hx)
    · exact (hg k hx).elim (fun h => .inl (.inl h)) .inr
    · exact (hf k hx).elim (fun h => .inl (.inr h)) .inr
  refine ⟨vF', X', ⟨h.a.keepZ hk (fun k ha hx => h.ab k ha (.inl hx)) (fun k hx => (h.b.zlt k (.inl hx)).1), hOn, fun k ha hb => ?_⟩, hz, hk⟩
  rcases hz k hb with h1 | h1
  · exact h.ab k ha h1
  · have := (h.a.zlt k ha).2; omega
theorem St2.still {w1 wr w2 : World} {p pd p2 pd2 : Nat} {V W : Vol} {vF vF2 : Value} {X X2 : Nat → Prop} (h : St2 w1 wr p pd p2 pd2 V W vF vF2 X X2) (hk : Kept (fun _ => False) wr w2) : St2 w1 w2 p pd p2 pd2 V W vF vF2 X X2 :=
  ⟨h.a.still hk, h.b.still hk, h.ab⟩
theorem left_vl {w w' : World} {B p pd : Nat} {V' : Vol} {vF : Value} {X : Nat → Prop} (h : Left (AtV pd) w B p V' X vF.ownBlock w') : VlLeft w B p pd V' vF X w' := by
  obtain ⟨X', F', ⟨⟨vF', hv, rfl⟩, _⟩, hg, hf, hk⟩ := h
  exact ⟨X', vF', hv, hg, hf, hk⟩

/-- Two volumes and two roots. -/
structure St (w1 wr : World) (p pd p2 pd2 q1 q2 : Nat) (V W : Vol) (Rw Rn : RootN) (vF vF2 va vb : Value) (X X2 : Nat → Prop) : Prop where
  two : St2 w1 wr p pd p2 pd2 V W vF vF2 X X2
  c : RB wr q1 Rw va
  d : RB wr q2 Rn vb
  ac : ∀ k, ZV vF X k → ¬ZR q1 va k
  ad : ∀ k, ZV vF X k → ¬ZR q2 vb k
  bc : ∀ k, ZV vF2 X2 k → ¬ZR q1 va k
  bd : ∀ k, ZV vF2 X2 k → ¬ZR q2 vb k
  cd : q1 ≠ q2 ∧ vb.ownBlock ≠ some q1 ∧ va.ownBlock ≠ some q2
  low : w1.heap.size ≤ q1 ∧ w1.heap.size ≤ q2
section
variable {w1 wr w2 : World} {p pd p2 pd2 q1 q2 : Nat} {V W : Vol} {Rw Rn : RootN} {vF vF2 va vb : Value} {X X2 : Nat → Prop}
theorem St.still (h : St w1 wr p pd p2 pd2 q1 q2 V W Rw Rn vF vF2 va vb X X2) (hk : Kept (fun _ => False) wr w2) : St w1 w2 p pd p2 pd2 q1 q2 V W Rw Rn vF vF2 va vb X X2 :=
  ⟨h.two.still hk, h.c.kept hk (fun _ _ hf => hf), h.d.kept hk (fun _ _ hf => hf), h.ac, h.ad, h.bc, h.bd, h.cd, h.low⟩
theorem St.goA {V' : Vol} (h : St w1 wr p pd p2 pd2 q1 q2 V W Rw Rn vF vF2 va vb X X2) (hl : VlLeft wr w1.heap.size p pd V' vF X w2) : ∃ vF' X', St w1 w2 p pd p2 pd2 q1 q2 V' W Rw Rn vF' vF2 va vb X' X2 := by
  obtain ⟨vF', X', h2, hz, hk⟩ := h.two.goA hl
  refine ⟨vF', X', h2, h.c.kept hk (fun k hc hx => h.ac k (.inl hx) hc), h.d.kept hk (fun k hc hx => h.ad k (.inl hx) hc), fun k ha hc => ?_, fun k ha hc => ?_, h.bc, h.bd, h.cd, h.low⟩
  · rcases hz k ha with h1 | h1
    · exact h.ac k h1 hc
    · have := h.c.lt k hc; omega
  · rcases hz k ha with h1 | h1
    · exact h.ad k h1 hc
    · have := h.d.lt k hc; omega
theorem St.goB {W' : Vol} (h : St w1 wr p pd p2 pd2 q1 q2 V W Rw Rn vF vF2 va vb X X2) (hl : VlLeft wr w1.heap.size p2 pd2 W' vF2 X2 w2) : ∃ vF2' X2', St w1 w2 p pd p2 pd2 q1 q2 V W' Rw Rn vF vF2' va vb X X2' := by
  obtain ⟨vF', X', h2, hz, hk⟩ := h.two.goB hl
  refine ⟨vF', X', h2, h.c.kept hk (fun k hc hx => h.bc k (.inl hx) hc), h.d.kept hk (fun k hc hx => h.bd k (.inl hx) hc), h.ac, h.ad, fun k ha hc => ?_, fun k ha hc => ?_, h.cd, h.low⟩
  · rcases hz k ha with h1 | h1
    · exact h.bc k h1 hc
    · have := h.c.lt k hc; omega
  · rcases hz k ha with h1 | h1
    · exact h.bd k h1 hc
    · have := h.d.lt k hc; omega
/-- A new root into the first variable. -/
theorem St.setC (h : St w1 wr p pd p2 pd2 q1 q2 V W Rw Rn vF vF2 va vb X X2) (hk : Kept (fun _ => False) wr w2) (R : RootN) (vR : Value) (ho : w2.ownsRow wr.heap.size 49 3 vR R.2.2.2.length (cellsF R.2.2.2)) (hf : ∀ f ∈ R.2.2.2, FitF (fileI f)) (hn : R.2.2.2.length ≤ 24) :
    St w1 ((((w2.setCell ⟨q1, 0, none⟩ (.int .i64 (R.1 : Int))).setCell ⟨q1, 1, none⟩ (.int .i64 (R.2.1 : Int))).setCell ⟨q1, 2, none⟩ (.int .i64 (R.2.2.1 : Int))).setCell ⟨q1, 3, none⟩ vR) p pd p2 pd2 q1 q2 V W R Rn vF vF2 vR vb X X2 := by
  have h2 := h.still hk
  have hlo := fun k hk' => (ho.lt k hk').1
  have hKb := kept_boxed (w := w2) (q := q1) (a := .int .i64 (R.1 : Int)) (b := .int .i64 (R.2.1 : Int)) (c := .int .i64 (R.2.2.1 : Int)) (d := vR)
  have hq1 := h.c.box.lt
  have hq2 := h.d.box.lt
  have hnq1 : vR.ownBlock ≠ some q1 := fun hx => by have := hlo q1 hx; omega
  refine ⟨⟨h2.two.a.keepZ hKb (fun k ha e => h.ac k ha (.inl e)) (fun k e => by have := h.low.1; omega), h2.two.b.keepZ hKb (fun k ha e => h.bc k ha (.inl e)) (fun k e => by have := h.low.1; omega), h.two.ab⟩, ⟨box_rooted h2.c.box, owns_base (owns_setCell (owns_setCell (owns_setCell (owns_setCell ho hnq1) hnq1) hnq1) hnq1) (Nat.zero_le _), hf, hn, hnq1⟩,
    h2.d.kept hKb (fun k hd e => ?_), fun k ha hc => ?_, h.ad, fun k ha hc => ?_, h.bd, ⟨h.cd.1, h.cd.2.1, fun hx => by have := hlo q2 hx; omega⟩, h.low⟩
  · rcases hd with hd | hd
    · exact h.cd.1 (e.symm.trans hd)
    · rw [e] at hd; exact h.cd.2.1 hd
  · rcases hc with hc | hc
    · exact h.ac k ha (.inl hc)
    · have := hlo k hc; have := (h.two.a.zlt k ha).2; omega
  · rcases hc with hc | hc
    · exact h.bc k ha (.inl hc)
    · have := hlo k hc; have := (h.two.b.zlt k ha).2; omega
/-- A new root into the second variable. -/
theorem St.setD (h : St w1 wr p pd p2 pd2 q1 q2 V W Rw Rn vF vF2 va vb X X2) (hk : Kept (fun _ => False) wr w2) (R : RootN) (vR : Value) (ho : w2.ownsRow wr.heap.size 49 3 vR R.2.2.2.length (cellsF R.2.2.2)) (hf : ∀ f ∈ R.2.2.2, FitF (fileI f)) (hn : R.2.2.2.length ≤ 24) :
    St w1 ((((w2.setCell ⟨q2, 0, none⟩ (.int .i64 (R.1 : Int))).setCell ⟨q2, 1, none⟩ (.int .i64 (R.2.1 : Int))).setCell ⟨q2, 2, none⟩ (.int .i64 (R.2.2.1 : Int))).setCell ⟨q2, 3, none⟩ vR) p pd p2 pd2 q1 q2 V W Rw R vF vF2 va vR X X2 := by
  have h2 := h.still hk
  have hlo := fun k hk' => (ho.lt k hk').1
  have hKb := kept_boxed (w := w2) (q := q2) (a := .int .i64 (R.1 : Int)) (b := .int .i64 (R.2.1 : Int)) (c := .int .i64 (R.2.2.1 : Int)) (d := vR)
  have hq1 := h.c.box.lt
  have hq2 := h.d.box.lt
  have hnq2 : vR.ownBlock ≠ some q2 := fun hx => by have := hlo q2 hx; omega
  refine ⟨⟨h2.two.a.keepZ hKb (fun k ha e => h.ad k ha (.inl e)) (fun k e => by have := h.low.2; omega), h2.two.b.keepZ hKb (fun k ha e => h.bd k ha (.inl e)) (fun k e => by have := h.low.2; omega), h.two.ab⟩,
    h2.c.kept hKb (fun k hd e => ?_), ⟨box_rooted h2.d.box, owns_base (owns_setCell (owns_setCell (owns_setCell (owns_setCell ho hnq2) hnq2) hnq2) hnq2) (Nat.zero_le _), hf, hn, hnq2⟩, h.ac, fun k ha hc => ?_, h.bc, fun k ha hc => ?_, ⟨h.cd.1, fun hx => by have := hlo q1 hx; omega, h.cd.2.2⟩, h.low⟩
  · rcases hd with hd | hd
    · exact h.cd.1 (hd.symm.trans e)
    · rw [e] at hd; exact h.cd.2.2 hd
  · rcases hc with hc | hc
    · exact h.ad k ha (.inl hc)
    · have := hlo k hc; have := (h.two.a.zlt k ha).2; omega
  · rcases hc with hc | hc
    · exact h.bd k ha (.inl hc)
    · have := hlo k hc; have := (h.two.b.zlt k ha).2; omega
end

/-- A fuse changes nothing of what a volume is. -/
theorem Alive.setFuse {V : Vol} (h : Alive V) (n : Int) (hn : n ≤ 9223372036854775807) : Alive ⟨V.D.setFuse n, V.R, V.gone⟩ :=
  ⟨h.gone, h.off, h.safe.of_same (Dsk.setFuse_ok h.safe.ok n hn) rfl (fun _ _ => rfl) h.safe.cache, h.cache⟩

/-- A deed's cells, in every later world. -/
theorem deedsW_all {w : World} {ad : Option Addr} {len : Nat} {l : List DeedW} (h : DeedsW w ad len l) (j : Nat) (hj : j < len) : ∃ (b off : Nat) (u : DeedW), ad = some ⟨b, off, none⟩ ∧ (FitI u.kind ∧ FitI u.a ∧ FitI u.b ∧ (u.s.length : Int) ≤ 9223372036854775807) ∧ ∀ w' : World, Below w.heap.size w w' →
    w'.cell? ⟨b, off + j * 5, none⟩ = some (.int .i64 u.kind) ∧ w'.cell? ⟨b, off + j * 5 + 1, none⟩ = some (.int .i64 u.a) ∧ w'.cell? ⟨b, off + j * 5 + 2, none⟩ = some (.int .i64 u.b) ∧ w'.cell? ⟨b, off + j * 5 + 3, none⟩ = some (.string ⟨u.s.toArray⟩) ∧ w'.cell? ⟨b, off + j * 5 + 4, none⟩ = some (.slice u.kad u.klen u.kcap) := by
  obtain ⟨b, off, h1, h2, h3⟩ := deedsW_at h j hj
  refine ⟨b, off, _, h1, ⟨h3.fit, h3.fita, h3.fitb, h3.long⟩, fun w' hb => ⟨?_, ?_, ?_, ?_, ?_⟩⟩
  · rw [hb.cell (p := ⟨b, off + j * 5, none⟩) h2]; exact h3.row 0 _ rfl
  · rw [hb.cell (p := ⟨b, off + j * 5 + 1, none⟩) h2]; exact h3.row 1 _ rfl
  · rw [hb.cell (p := ⟨b, off + j * 5 + 2, none⟩) h2]; exact h3.row 2 _ rfl
  · rw [hb.cell (p := ⟨b, off + j * 5 + 3, none⟩) h2]; exact h3.row 3 _ rfl
  · rw [hb.cell (p := ⟨b, off + j * 5 + 4, none⟩) h2]; exact h3.row 4 _ rfl
/-- Whether two roots are the same, whatever they are. -/
theorem same_any (R1 R2 : RootN) (a1 a2 : Option Addr) (c1 c2 : Nat) (w : World) (h1 : Files w a1 R1.2.2.2.length (R1.2.2.2.map fileI)) (h2 : Files w a2 R2.2.2.2.length (R2.2.2.2.map fileI)) (hl1 : R1.2.2.2.length ≤ 24) :
    Calls Tryz.prog 16 #[.agg #[.int .i64 (R1.1 : Int), .int .i64 (R1.2.1 : Int), .int .i64 (R1.2.2.1 : Int), .slice a1 R1.2.2.2.length c1], .agg #[.int .i64 (R2.1 : Int), .int .i64 (R2.2.1 : Int), .int .i64 (R2.2.2.1 : Int), .slice a2 R2.2.2.2.length c2]] w fun e w' => ∃ b, e = .returned (.bool b) ∧ (R1 = R2 → b = true) ∧ Below w.heap.size w w' := by
  by_cases he : R1 = R2
  · subst he
    refine (same_true R1.1 R1.2.1 R1.2.2.1 a1 a2 R1.2.2.2.length c1 c2 _ w h1 h2 (by omega)).mono ?_
    rintro e w' ⟨rfl, hb⟩
    exact ⟨true, rfl, fun _ => rfl, hb⟩
  · by_cases hh : (R1.1 : Int) = (R2.1 : Int) ∧ (R1.2.1 : Int) = (R2.2.1 : Int) ∧ (R1.2.2.1 : Int) = (R2.2.2.1 : Int) ∧ R1.2.2.2.length = R2.2.2.2.length
    · obtain ⟨e1, e2, e3, e4⟩ := hh
      rw [e1, e2, e3, e4]
      rw [e4] at h1
      refine (same_lists R2.1 R2.2.1 R2.2.2.1 a1 a2 R2.2.2.2.length c1 c2 _ _ w h1 h2 (by omega)).mono ?_
      rintro e w' ⟨rfl | rfl, hb⟩
      · exact ⟨false, rfl, fun h => absurd h he, hb⟩
      · exact ⟨true, rfl, fun h => absurd h he, hb⟩
    · refine (same_heads _ _ _ _ _ _ a1 a2 _ _ c1 c2 w hh).mono ?_
      rintro e w' ⟨rfl, hb⟩
      exact ⟨false, rfl, fun h => absurd h he, hb⟩

end Go.Proofs.YtlgdfalbhpgllaaGreatDoor
