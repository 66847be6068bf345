/- On8, IsL8. -/
import Derived.Test.YtfbgagpihhbllaaGreatDoorJ38
import Derived.Test.YtfbgagpihhbllaaGreatDoorJ18

/- What goes on in a law of layer 8: a volume and a log in it; Lay, Append, Open as steps of it. -/
namespace Go.Proofs.YtfbgagpihhbllaaGreatDoor
open Go.RowKit Go.Proofs Go.Proofs.Pk
set_option maxRecDepth 10000

theorem On.step8 {w w1 w2 : World} {p pd : Nat} {V V' : Vol} {vF vF' : Value} {X X' Y : Nat → Prop} (h : On w w1 p pd V vF X) (hv : VlP w2 w.heap.size p pd V' vF' X') (hk : Kept Y w1 w2) (hY : ∀ k, Y k → w.heap.size ≤ k) : On w w2 p pd V' vF' X' :=
  ⟨hv, h.below.trans (hk.below h.below.size hY), h.err.kept hk (fun hx => by have := hY _ hx; have := h.lt; omega), h.lt⟩
/-- What a step adds to a volume's blocks. -/
def GrowsV (w : World) (X X' : Nat → Prop) (vF vF' : Value) : Prop := Grows w X X' ∧ ∀ b, vF'.ownBlock = some b → vF.ownBlock = some b ∨ w.heap.size ≤ b
/-- A volume, and a log in its file g. -/
structure On8 (At : LogOf) (w w1 : World) (p pd pl : Nat) (V : Vol) (vF : Value) (X : Nat → Prop) (R : RootN) (g : FileN) (recs : List (List UInt8)) : Prop where
  on : On w w1 p pd V vF X
  log : LogV V R g recs
  held : At w1 pl p g.1 g.2.2 (recN recs) recs.length
  off : ¬X pl
  offF : vF.ownBlock ≠ some pl
  low : w.heap.size ≤ pl
theorem On8.still {At : LogOf} (K : WalK At) {w w1 w2 : World} {p pd pl : Nat} {V : Vol} {vF : Value} {X : Nat → Prop} {R : RootN} {g : FileN} {recs : List (List UInt8)} (h : On8 At w w1 p pd pl V vF X R g recs) (hk : Kept (fun _ => False) w1 w2) : On8 At w w2 p pd pl V vF X R g recs :=
  ⟨h.on.still hk, h.log, K.kept h.held hk (fun hf => hf), h.off, h.offF, h.low⟩
theorem lay8 {At : LogOf} (K : WalK At) {w w1 : World} {p pd : Nat} {V : Vol} {vF : Value} {X : Nat → Prop} (h : On w w1 p pd V vF X) (ha : Alive V) (hf : V.D.fuse < 0) (hn : V.D.n ≤ 800000) (hc : V.D.C.length ≤ 800000) (g : FileN) (hg : g ∈ V.R.2.2.2) :
    Calls Tryz.prog 14 #[.pointer (some ⟨p, 0, none⟩), .int .i64 (g.1 : Int)] w1 fun r w2 => ∃ pl V' vF' X', r = .returned (.tuple #[.pointer (some ⟨pl, 0, none⟩), .nilIface]) ∧
      On8 At w w2 p pd pl V' vF' X' V.R g [] ∧ V'.D.L.length = V.D.L.length ∧ V'.D.n ≤ V.D.n + g.2.2 ∧ V'.D.fuse < 0 ∧ Kept X w1 w2 ∧ GrowsV w1 X X' vF vF' := by
  obtain ⟨V', e, hl, hL, hn', hf'⟩ := lay_done8 ha hf g hg
  refine (K.lay h.vol h.err h.lt ha hf hn hc g hg).mono ?_
  rintro r w2 ⟨pl, rfl, hpl, ⟨X', vF', hv, hgr, hfo, hk, ho, hoF⟩, hAt⟩
  rw [e] at hv
  have hX : ∀ k, X k → w.heap.size ≤ k := fun k hk => (h.vol.lt k (.inl hk)).1
  exact ⟨pl, V', vF', X', rfl, ⟨h.step8 hv hk hX, hl, hAt, ho, hoF, Nat.le_trans h.below.size hpl⟩, hL, hn', hf', hk, hgr, hfo⟩
theorem fault_code {w : World} {v : Value} {c : Nat} {f : Bool} (h : Er8 w v c f) (hc : c ≠ 0) : ∃ b inner, b < w.heap.size ∧ v = .iface 81 (.pointer (some ⟨b, 0, none⟩)) ∧ FaultAt w b 8 c inner ∧ ((f = false ∧ inner = .nilIface) ∨ (f = true ∧ ∃ b2, inner = .iface 81 (.pointer (some ⟨b2, 0, none⟩)))) := by
  rcases h with ⟨h0, _⟩ | ⟨_, h1⟩
  · exact absurd h0 hc
  · exact h1
/-- Append: the record is in; there is no room; or the power goes. -/
theorem append8 {At : LogOf} (K : WalK At) {w w1 : World} {p pd pl : Nat} {V : Vol} {vF : Value} {X : Nat → Prop} {R : RootN} {g : FileN} {recs : List (List UInt8)} (h : On8 At w w1 p pd pl V vF X R g recs) (hn : V.D.n ≤ 800000) (hr : recs.length ≤ 4000) (s : List UInt8) (hs : s.length ≤ 140737488351232) :
    Calls Tryz.prog 18 #[.pointer (some ⟨pl, 0, none⟩), .string ⟨s.toArray⟩] w1 fun r w2 => ∃ v, r = .returned v ∧ Kept (fun k => X k ∨ k = pl) w1 w2 ∧
      ((recN recs + 1 + nch s.length ≤ g.2.2 ∧ v = .nilIface ∧ ∃ V' vF' X', On8 At w w2 p pd pl V' vF' X' R g (recs ++ [s]) ∧ V'.D.L.length = V.D.L.length ∧ V'.D.n ≤ V.D.n + g.2.2 ∧ (V.D.fuse < 0 → V'.D.fuse < 0) ∧ GrowsV w1 X X' vF vF') ∨
       (¬recN recs + 1 + nch s.length ≤ g.2.2 ∧ Er8 w2 v 7 false ∧ ∃ vF' X', On8 At w w2 p pd pl V vF' X' R g recs ∧ OffV v X' ∧ GrowsV w1 X X' vF vF') ∨
       (0 ≤ V.D.fuse ∧ Er8 w2 v 6 true ∧ ∃ V' vF' X', On w w2 p pd V' vF' X' ∧ LogX V' R g recs ∧ V'.D.L.length = V.D.L.length ∧ V'.D.n ≤ V.D.n + g.2.2 ∧ GrowsV w1 X X' vF vF')) := by
  have hcase := h.log.append s
  refine (K.appd h.on.vol h.on.err h.on.lt h.low h.off h.offF h.log hn hr h.held s hs).mono ?_
  rintro r w2 ⟨v, rfl, he, ⟨X', vF', hv, hgr, hfo, hk, ho, hoF, hov⟩, hAt⟩
  have hY : ∀ k, (X k ∨ k = pl) → w.heap.size ≤ k := by
    rintro k (hk | rfl)
    · exact (h.on.vol.lt k (.inl hk)).1
    · exact h.low
  refine ⟨v, rfl, hk, ?_⟩
  rcases hcase with ⟨hfull, e⟩ | ⟨hfit, V', e, hl, hL, hn', hf'⟩ | ⟨hfit, V', e, hR, hl, hL, hn', hf'⟩
  · right; left
    rw [e] at he hv hAt
    exact ⟨by omega, he, vF', X', ⟨h.on.step8 hv hk hY, h.log, by simpa using hAt, ho, hoF, h.low⟩, hov, hgr, hfo⟩
  · left
    rw [e] at he hv hAt
    refine ⟨hfit, he.zero, V', vF', X', ⟨h.on.step8 hv hk hY, hl, ?_, ho, hoF, h.low⟩, hL, hn', hf', hgr, hfo⟩
    rw [recN_last, List.length_append]
    simpa using hAt
  · right; right
    rw [e] at he hv hAt
    exact ⟨hf', he, V', vF', X', h.on.step8 hv hk hY, hl, hL, hn', hgr, hfo⟩
/-- Open: the records, and the log. -/
theorem open8 {At : LogOf} (K : WalK At) {w w1 : World} {p pd : Nat} {V : Vol} {vF : Value} {X : Nat → Prop} (h : On w w1 p pd V vF X) (ha : Alive V) (hf : V.D.fuse < 0) (hC : V.D.C = []) (hn : V.D.n ≤ 800000) (g : FileN) (hg : g ∈ V.R.2.2.2) (recs : List (List UInt8)) (hl : LogH (seenAt V.D) g.2.1 g.1 recs g.2.2) :
    Calls Tryz.prog 21 #[.pointer (some ⟨p, 0, none⟩), .int .i64 (g.1 : Int)] w1 fun r w2 => ∃ pl ad cap V' vF' X', r = .returned (.tuple #[.slice ad recs.length cap, .pointer (some ⟨pl, 0, none⟩), .nilIface]) ∧ Strs w2 ad recs.length recs ∧
      On8 At w w2 p pd pl V' vF' X' V.R g recs ∧ V'.D.L.length = V.D.L.length ∧ V'.D.n ≤ V.D.n + g.2.2 ∧ V'.D.fuse < 0 ∧ Kept X w1 w2 ∧ w1.heap.size ≤ pl ∧ GrowsV w1 X X' vF vF' ∧ ∀ b o, ad = some ⟨b, o, none⟩ → ¬X' b := by
  obtain ⟨V', e, hl', hL, hn', hf'⟩ := open_done ha hf hC g hg recs hl
  refine (K.opn h.vol h.err h.lt ha hf (by rw [hC]; simp) hn g hg hl).mono ?_
  rintro r w2 ⟨pl, ad, cap, rfl, hpl, hst, ⟨X', vF', hv, hgr, hfo, hk, ho, hoF, hst0⟩, hAt⟩
  rw [e] at hv
  have hX : ∀ k, X k → w.heap.size ≤ k := fun k hk => (h.vol.lt k (.inl hk)).1
  exact ⟨pl, ad, cap, V', vF', X', rfl, hst, ⟨h.step8 hv hk hX, hl', hAt, ho, hoF, Nat.le_trans h.below.size hpl⟩, hL, hn', hf', hk, hpl, ⟨hgr, hfo⟩, hst0⟩

end Go.Proofs.YtfbgagpihhbllaaGreatDoor

/- The law's own question for an error (layer 8). -/
namespace Go.Proofs.YtfbgagpihhbllaaGreatDoor
open Go.RowKit Go.Proofs Go.Proofs.Pk Go.Extern.Stop Go.Stop Go.Extern
set_option maxRecDepth 10000
attribute [local simp] mk_get wrap64_u8 mk_extract ByteArray.mk_append_mk get_1k

set_option maxHeartbeats 400000 in
/-- The law's question, where there is no error. -/
theorem law_is_none (fr : Bool) (w : World) : Calls Tryz.prog 25 #[.nilIface, .int .i64 0, .bool fr] w (Q1 w (.bool true)) := by
  go_enter Tryz.func25, Tryz.ntmps25
  go_wp2
  go_ret
  exact ⟨rfl, 0, rfl⟩

set_option maxHeartbeats 1000000 in
/-- The law's question, where the fault is just that. -/
theorem law_is_yes (b : Nat) (c : Nat) (inner : Value) (fr : Bool) (w : World) (hc : ((c : Int) == 0) = false) (h : FaultAt w b 8 c inner) (hi : inner = .nilIface ∧ fr = false ∨ fr = true ∧ ∃ d : Nat, inner = .iface 81 (.pointer (some ⟨d, 0, none⟩))) :
    Calls Tryz.prog 25 #[.iface 81 (.pointer (some ⟨b, 0, none⟩)), .int .i64 c, .bool fr] w (Q1 w (.bool true)) := by
  have HI := Lib.hid (is_fault b 8 c inner w h)
  have fA := fAssert
  obtain ⟨c0, c1, c2⟩ := h
  rcases hi with ⟨rfl, rfl⟩ | ⟨rfl, d, rfl⟩
  all_goals
    go_enter Tryz.func25, Tryz.ntmps25
    go_wp2_with (go_at_call 40; refine HI.out.mono ?_; rintro e wn ⟨rfl, m, rfl⟩)
    go_wp2
    go_ret
    exact ⟨rfl, m, rfl⟩

end Go.Proofs.YtfbgagpihhbllaaGreatDoor
