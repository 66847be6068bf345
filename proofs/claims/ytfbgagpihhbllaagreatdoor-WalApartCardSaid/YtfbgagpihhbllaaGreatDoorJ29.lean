/- Ex7V, WalK, AsF. -/
import Derived.Test.YtfbgagpihhbllaaGreatDoorJ28
import Derived.Test.YtfbgagpihhbllaaGreatDoorJ15
import Derived.Test.YtfbgagpihhbllaaGreatDoorJ20
import Derived.Test.YtfbgagpihhbllaaGreatDoorJ18
import Derived.Test.YtfbgagpihhbllaaGreatDoorJ04
import Derived.Stop.Asserts
import Derived.LaidEql
import Derived.Lib.ReflectliteSlice

/- What the laws of layer 7 and of those above it share: a living volume; what goes on in a law; a new volume. -/
namespace Go.Proofs.YtfbgagpihhbllaaGreatDoor
open Go.RowKit Go.Proofs Go.Proofs.Pk
set_option maxRecDepth 10000
attribute [local simp] mk_get wrap64_u8 mk_extract ByteArray.mk_append_mk get_1k

theorem lay_code (V : Vol) (R : RootN) (h : (layV V R).2 ≠ 0) : (layV V R).1.R = V.R ∨ (layV V R).1.gone = true := by
  have key : ∀ r : Dsk × Nat, (failsV V r).1.R = V.R ∨ (failsV V r).1.gone = true := fun r => by
    unfold failsV; simp only; split
    · exact .inr rfl
    · exact .inl rfl
  unfold layV at h ⊢
  simp only at h ⊢
  split
  · exact key _
  · rename_i h1
    rw [if_neg h1] at h
    split
    · exact key _
    · rename_i h2
      rw [if_neg h2] at h
      split
      · exact key _
      · rename_i h3
        rw [if_neg h3] at h
        split
        · exact key _
        · rename_i h4
          rw [if_neg h4] at h
          exact absurd rfl h
/-- A living volume without a fuse. -/
structure Live (V : Vol) (N : Nat) (R : RootN) : Prop where
  alive : Alive V
  fuse : V.D.fuse < 0
  size : V.D.L.length = N
  root : V.R = R
theorem Live.of_goes {V V' : Vol} {N : Nat} {R R' : RootN} (h : Live V N R) (hg : Goes V V' R') : Live V' N R' := by
  rcases hg.fate with ⟨a, b, c⟩ | ⟨_, _, _, _, c⟩
  · exact ⟨a, c h.fuse, by rw [hg.size, h.size], b⟩
  · have := h.fuse; omega
theorem Live.make {V : Vol} {N : Nat} {R : RootN} (h : Live V N R) (m : Int) (R' : RootN) (h1 : makeR N R m = R') (hne : R' ≠ R) : Live (makeV V m).1 N R' ∧ (makeV V m).2.1 = R.2.1 ∧ (makeV V m).2.2.1 = 0 := by
  have hg := make_goes h.alive m
  rw [h.size, h.root, h1] at hg
  have hl := h.of_goes hg
  refine ⟨hl, ?_⟩
  have hr := hl.root
  have hgo := hl.alive.gone
  unfold makeV at hr hgo ⊢
  split
  · rename_i h0; rw [if_pos h0] at hr; exact absurd (hr.symm.trans h.root) hne
  rename_i h0; rw [if_neg h0] at hr hgo
  split
  · rename_i h0; rw [if_pos h0] at hr; exact absurd (hr.symm.trans h.root) hne
  rename_i h0; rw [if_neg h0] at hr hgo
  split
  · rename_i h0; rw [if_pos h0] at hr; exact absurd (hr.symm.trans h.root) hne
  rename_i h0; rw [if_neg h0] at hr hgo
  split
  · rename_i h0; rw [if_pos h0] at hr; exact absurd (hr.symm.trans h.root) hne
  rename_i h0; rw [if_neg h0] at hr hgo
  simp only at hr hgo ⊢
  split
  · rename_i h5
    rw [if_pos h5] at hr hgo
    rcases lay_code _ _ h5 with h6 | h6
    · exact absurd (hr.symm.trans (h6.trans h.root)) hne
    · simp only at hgo; rw [h6] at hgo; cases hgo
  · simp only; rw [h.root]; exact ⟨rfl, by first | trivial | rfl⟩
theorem Live.drop {V : Vol} {N : Nat} {R : RootN} (h : Live V N R) (ids : List Int) (R' : RootN) (h1 : dropR R ids = R') (hne : R' ≠ R) : Live (dropV V ids).1 N R' ∧ (dropV V ids).2.1 = 0 := by
  have hg := drop_goes h.alive ids
  rw [h.root, h1] at hg
  have hl := h.of_goes hg
  refine ⟨hl, ?_⟩
  have hr := hl.root
  have hgo := hl.alive.gone
  unfold dropV at hr hgo ⊢
  split
  · rename_i h0; rw [if_pos h0] at hr; exact absurd (hr.symm.trans h.root) hne
  rename_i h0; rw [if_neg h0] at hr hgo
  split
  · rename_i h0; rw [if_pos h0] at hr; exact absurd (hr.symm.trans h.root) hne
  rename_i h0; rw [if_neg h0] at hr hgo
  split
  · rename_i h0; rw [if_pos h0] at hr; exact absurd (hr.symm.trans h.root) hne
  rename_i h0; rw [if_neg h0] at hr hgo
  split
  · first | rfl | trivial
  rename_i h0; rw [if_neg h0] at hr hgo
  split
  · rename_i h0; rw [if_pos h0] at hr; exact absurd (hr.symm.trans h.root) hne
  rename_i h0; rw [if_neg h0] at hr hgo
  by_cases h5 : (layV V (V.R.1 + 1, V.R.2.1, V.R.2.2.1, V.R.2.2.2.filter fun f => decide ((f.1 : Int) ∉ ids))).2 = 0
  · exact h5
  · rcases lay_code _ _ h5 with h6 | h6
    · exact absurd (hr.symm.trans (h6.trans h.root)) hne
    · have hgo' : (layV V (V.R.1 + 1, V.R.2.1, V.R.2.2.1, V.R.2.2.2.filter fun f => decide ((f.1 : Int) ∉ ids))).1.gone = false := hgo
      rw [h6] at hgo'; cases hgo'
theorem Live.first {N : Nat} (h18 : 18 ≤ N) (hN : N ≤ 4000) : Live (formatV (Dsk.new N)).1 N (1, 1, 0, []) := by
  obtain ⟨_, b, c, d, e⟩ := format_new h18 hN
  exact ⟨c, e, d, b⟩
theorem format_bound {N : Nat} (h18 : 18 ≤ N) : (formatV (Dsk.new N)).1.D.n ≤ 22 ∧ (formatV (Dsk.new N)).1.D.C.length ≤ 20 := by
  obtain ⟨z0, z1, z2, o1, o2, c3, n3, l3, _⟩ := fmt_codes h18
  rw [fmt_is h18]
  obtain ⟨a, b, _⟩ := lay_bound ⟨fmt3 N, rootZ, false⟩ (1, 1, 0, []) (by simp)
  simp only at a b
  rw [c3] at a
  exact ⟨by omega, by simpa using a⟩
theorem faultAt_kept {w w' : World} {b : Nat} {l c : Int} {inner : Value} {X : Nat → Prop} (h : FaultAt w b l c inner) (hk : Kept X w w') (hb : b < w.heap.size) (hX : ¬X b) : FaultAt w' b l c inner :=
  ⟨by rw [hk.cell (p := ⟨b, 0, none⟩) hb hX]; exact h.1, by rw [hk.cell (p := ⟨b, 1, none⟩) hb hX]; exact h.2.1, by rw [hk.cell (p := ⟨b, 2, none⟩) hb hX]; exact h.2.2⟩
/-- What goes on in a law: a volume, and all that lay below as it was. -/
structure On (w w' : World) (p pd : Nat) (V : Vol) (vF : Value) (X : Nat → Prop) : Prop where
  vol : VlP w' w.heap.size p pd V vF X
  below : Below w.heap.size w w'
  err : ErrTy w'
  lt : 0 < w.heap.size
theorem On.step {w w1 w2 : World} {p pd : Nat} {V V' : Vol} {vF : Value} {X : Nat → Prop} (h : On w w1 p pd V vF X) (hl : VlLeft w1 w.heap.size p pd V' vF X w2) : ∃ vF' X', On w w2 p pd V' vF' X' ∧ Grows w1 X X' ∧ (∀ b, vF'.ownBlock = some b → vF.ownBlock = some b ∨ w1.heap.size ≤ b) ∧ Kept X w1 w2 := by
  obtain ⟨X', vF', hv, hg, hf, hk⟩ := hl
  have hX : ∀ n, X n → w.heap.size ≤ n := fun n hn => (h.vol.lt n (.inl hn)).1
  exact ⟨vF', X', ⟨hv, h.below.trans (hk.below h.below.size hX), h.err.kept hk (fun hx => by have := hX _ hx; have := h.lt; omega), h.lt⟩, hg, hf, hk⟩
theorem On.still {w w1 w2 : World} {p pd : Nat} {V : Vol} {vF : Value} {X : Nat → Prop} (h : On w w1 p pd V vF X) (hk : Kept (fun _ => False) w1 w2) : On w w2 p pd V vF X :=
  ⟨h.vol.still hk, h.below.trans (hk.below h.below.size (fun _ hf => hf.elim)), h.err.kept hk (fun hf => hf), h.lt⟩
/-- A new disk, and a volume on it. -/
theorem format_on (w w1 : World) (pd N : Nat) (Xd : Nat → Prop) (hd : DskP w1 w.heap.size pd (Dsk.new N) Xd) (hb : Below w.heap.size w w1) (hg : ErrTy w) (h18 : 18 ≤ N) (hN : N ≤ 4000) :
    Calls Tryz.prog 31 #[.pointer (some ⟨pd, 0, none⟩)] w1 fun e w' => ∃ p vF X, e = .returned (.tuple #[.pointer (some ⟨p, 0, none⟩), .nilIface]) ∧ On w w' p pd (formatV (Dsk.new N)).1 vF X ∧ Grows w1 Xd X ∧ Kept Xd w1 w' ∧ (∀ b, vF.ownBlock = some b → w1.heap.size ≤ b) := by
  refine (formatP w1 w.heap.size pd N Xd hd h18 hN hb.size (hg.kept (Kept.of_below (fun _ => False) hb) (fun hf => hf)) hg.lt).mono ?_
  rintro e w' ⟨p, vF, X, rfl, hv, hgr, hf, hk⟩
  have hXd : ∀ n, Xd n → w.heap.size ≤ n := fun n hn => (hd.lt n hn).1
  have hbw := hb.trans (hk.below hb.size hXd)
  exact ⟨p, vF, X, rfl, ⟨hv, hbw, hg.kept (Kept.of_below (fun _ => False) hbw) (fun hf => hf), hg.lt⟩, hgr, hk, hf⟩

end Go.Proofs.YtfbgagpihhbllaaGreatDoor

/- The contract that the laws of layer 8 want of the program's log, whatever its fields are. -/
namespace Go.Proofs.YtfbgagpihhbllaaGreatDoor
open Go.RowKit Go.Proofs Go.Proofs.Pk
set_option maxRecDepth 10000

/-- An error of the log: its number, and whether it came from the volume. -/
def Er8 (w : World) (v : Value) (c : Nat) (from' : Bool) : Prop :=
  (c = 0 ∧ v = .nilIface) ∨ (c ≠ 0 ∧ ∃ b inner, b < w.heap.size ∧ v = .iface 81 (.pointer (some ⟨b, 0, none⟩)) ∧ FaultAt w b 8 c inner ∧
    ((from' = false ∧ inner = .nilIface) ∨ (from' = true ∧ ∃ b2, inner = .iface 81 (.pointer (some ⟨b2, 0, none⟩)))))
theorem Er8.zero {w : World} {v : Value} {f : Bool} (h : Er8 w v 0 f) : v = .nilIface := by
  rcases h with ⟨_, h⟩ | ⟨h, _⟩
  · exact h
  · exact absurd rfl h
/-- A fault that is none of these blocks. -/
def OffV (v : Value) (X : Nat → Prop) : Prop := ∀ t b, v = .iface t (.pointer (some ⟨b, 0, none⟩)) → ¬X b
/-- A log in memory: its volume, its file, how many sectors that has, where the records end, how many they are. -/
abbrev LogOf := World → Nat → Nat → Nat → Nat → Nat → Nat → Prop
structure WalK (At : LogOf) : Prop where
  lt : ∀ {w pl p id many e n}, At w pl p id many e n → pl < w.heap.size
  kept : ∀ {w w' pl p id many e n} {Y : Nat → Prop}, At w pl p id many e n → Kept Y w w' → ¬Y pl → At w' pl p id many e n
  room : ∀ {w pl p id many e n}, At w pl p id many e n → e ≤ many → many ≤ 4000 →
    Calls Tryz.prog 24 #[.pointer (some ⟨pl, 0, none⟩)] w fun r w' => r = .returned (.int .i64 (roomW many e)) ∧ Kept (fun _ => False) w w'
  len : ∀ {w pl p id many e n}, At w pl p id many e n →
    Calls Tryz.prog 23 #[.pointer (some ⟨pl, 0, none⟩)] w fun r w' => r = .returned (.int .i64 (n : Int)) ∧ Kept (fun _ => False) w w'
  lay : ∀ {w B p pd V vF X}, VlP w B p pd V vF X → ErrTy w → 0 < B → Alive V → V.D.fuse < 0 → V.D.n ≤ 800000 → V.D.C.length ≤ 800000 → ∀ g ∈ V.R.2.2.2,
    Calls Tryz.prog 14 #[.pointer (some ⟨p, 0, none⟩), .int .i64 (g.1 : Int)] w fun r w' => ∃ pl, r = .returned (.tuple #[.pointer (some ⟨pl, 0, none⟩), .nilIface]) ∧ w.heap.size ≤ pl ∧
      (∃ X' vF', VlP w' B p pd (layW V g.1 g.2.2).1 vF' X' ∧ Grows w X X' ∧ (∀ b, vF'.ownBlock = some b → vF.ownBlock = some b ∨ w.heap.size ≤ b) ∧ Kept X w w' ∧ ¬X' pl ∧ vF'.ownBlock ≠ some pl) ∧ At w' pl p g.1 g.2.2 0 0
  lost : ∀ {w B p pd V vF X}, VlP w B p pd V vF X → ErrTy w → 0 < B → V.gone = false → V.D.C.length ≤ 800000 → V.D.n ≤ 800000 → ∀ id : Nat, id ≤ 1000 → (∀ f ∈ V.R.2.2.2, f.1 ≠ id) →
    Calls Tryz.prog 14 #[.pointer (some ⟨p, 0, none⟩), .int .i64 (id : Int)] w fun r w' => ∃ v, r = .returned (.tuple #[.pointer none, v]) ∧ Er8 w' v 8 true ∧ VlLeft w B p pd V vF X w'
  appd : ∀ {w B p pd V vF X pl R g recs}, VlP w B p pd V vF X → ErrTy w → 0 < B → B ≤ pl → ¬X pl → vF.ownBlock ≠ some pl → LogV V R g recs → V.D.n ≤ 800000 → recs.length ≤ 4000 → At w pl p g.1 g.2.2 (recN recs) recs.length → ∀ s : List UInt8, s.length ≤ 140737488351232 →
    Calls Tryz.prog 18 #[.pointer (some ⟨pl, 0, none⟩), .string ⟨s.toArray⟩] w fun r w' => ∃ v, r = .returned v ∧ Er8 w' v (appendW V g.1 g.2.2 (recN recs) recs.length s).2.1 (appendW V g.1 g.2.2 (recN recs) recs.length s).2.2 ∧
      (∃ X' vF', VlP w' B p pd (appendW V g.1 g.2.2 (recN recs) recs.length s).1 vF' X' ∧ Grows w X X' ∧ (∀ b, vF'.ownBlock = some b → vF.ownBlock = some b ∨ w.heap.size ≤ b) ∧ Kept (fun k => X k ∨ k = pl) w w' ∧ ¬X' pl ∧ vF'.ownBlock ≠ some pl ∧ OffV v X') ∧
      At w' pl p g.1 g.2.2 (if (appendW V g.1 g.2.2 (recN recs) recs.length s).2.1 = 0 then recN recs + (1 + nch s.length) else recN recs) (if (appendW V g.1 g.2.2 (recN recs) recs.length s).2.1 = 0 then recs.length + 1 else recs.length)
  opn : ∀ {w B p pd V vF X recs}, VlP w B p pd V vF X → ErrTy w → 0 < B → Alive V → V.D.fuse < 0 → V.D.C.length ≤ 800000 → V.D.n ≤ 800000 → ∀ g ∈ V.R.2.2.2, LogH (seenAt V.D) g.2.1 g.1 recs g.2.2 →
    Calls Tryz.prog 21 #[.pointer (some ⟨p, 0, none⟩), .int .i64 (g.1 : Int)] w fun r w' => ∃ pl ad cap, r = .returned (.tuple #[.slice ad recs.length cap, .pointer (some ⟨pl, 0, none⟩), .nilIface]) ∧ w.heap.size ≤ pl ∧ Strs w' ad recs.length recs ∧
      (∃ X' vF', VlP w' B p pd (openW V g.1 g.2.2 recs).1 vF' X' ∧ Grows w X X' ∧ (∀ b, vF'.ownBlock = some b → vF.ownBlock = some b ∨ w.heap.size ≤ b) ∧ Kept X w w' ∧ ¬X' pl ∧ vF'.ownBlock ≠ some pl ∧ ∀ b o, ad = some ⟨b, o, none⟩ → ¬X' b) ∧ At w' pl p g.1 g.2.2 (recN recs) recs.length

end Go.Proofs.YtfbgagpihhbllaaGreatDoor

/- errors.As of a Fault, into a variable of that type: Go's own text, walked. -/
namespace Go.Proofs.YtfbgagpihhbllaaGreatDoor
open Go.RowKit Go.Proofs Go.Proofs.Pk Go.Extern.Stop Go.Stop Go.Extern
set_option maxRecDepth 10000

theorem afValueP (t : Addr) (w : World) : (ReflectliteValue.unpack (.iface 138 (.pointer (some t)))).run Tryz.prog w
    = .ok (.agg #[.pointer (some ⟨1, 138, none⟩), .pointer (some ⟨w.heap.size, 0, none⟩), .int .u64 150]) (w.alloc (.cells #[.pointer (some t)] 138)) := by kernel_rfl
theorem afTypeP (a : Addr) (w : World) : (ReflectliteValue.methodAny (ReflectliteValue.valueError "reflectlite.Value.Type" 0) (fun t _ _ _ => ReflectliteType.toType t) #[.agg #[.pointer (some ⟨1, 138, none⟩), .pointer (some a), .int .u64 150]]).run Tryz.prog w
    = .ok (.iface 146 (.agg #[.pointer (some ⟨1, 138, none⟩)])) w := by kernel_rfl
theorem afMKind (h : Value) (w : World) : (Go.method 333 146 (.agg #[h]) "Kind").run Tryz.prog w = .ok (134, h) w := by kernel_rfl
theorem afMElem (h : Value) (w : World) : (Go.method 333 146 (.agg #[h]) "Elem").run Tryz.prog w = .ok (146, .agg #[h]) w := by kernel_rfl
theorem afMImpl (h : Value) (w : World) : (Go.method 333 146 (.agg #[h]) "Implements").run Tryz.prog w = .ok (147, .agg #[h]) w := by kernel_rfl
theorem afMAssign (h : Value) (w : World) : (Go.method 333 146 (.agg #[h]) "AssignableTo").run Tryz.prog w = .ok (144, .agg #[h]) w := by kernel_rfl
theorem afKindP (w : World) : ((ReflectliteType.abiMethod fun t => (fun a : Nat => Value.int IntKind.u8 (a : Int)) <$> Rtype.kind t) #[.pointer (some ⟨1, 138, none⟩)]).run Tryz.prog w = .ok (.int .u8 22) w := by kernel_rfl
theorem afKindE (w : World) : ((ReflectliteType.abiMethod fun t => (fun a : Nat => Value.int IntKind.u8 (a : Int)) <$> Rtype.kind t) #[.pointer (some ⟨1, 81, none⟩)]).run Tryz.prog w = .ok (.int .u8 22) w := by kernel_rfl
theorem afPartsP (a : Addr) (w : World) : (ReflectliteValue.parts (.agg #[.pointer (some ⟨1, 138, none⟩), .pointer (some a), .int .u64 150])).run Tryz.prog w = .ok (some (138, a, 150)) w := by kernel_rfl
theorem afIsNilP (a p : Addr) (W : World) (ha : W.cell? a = some (.pointer (some p))) :
    (ReflectliteValue.method (ReflectliteValue.valueError "reflectlite.Value.IsNil" 0) ReflectliteValue.isNil #[.agg #[.pointer (some ⟨1, 138, none⟩), .pointer (some a), .int .u64 150]]).run Tryz.prog W = .ok (.bool false) W := by
  rw [Go.Lib.rl_method]
  simp only [Sem.run_bind, afPartsP, Result.andThen]
  simp [ReflectliteValue.isNil, loadVar, isAgg, underlying, Tryz.underlying138, ha, Result.andThen]
theorem afElemP (w : World) : (ReflectliteType.method ReflectliteType.elem #[.agg #[.pointer (some ⟨1, 138, none⟩)]]).run Tryz.prog w = .ok (.iface 146 (.agg #[.pointer (some ⟨1, 81, none⟩)])) w := by kernel_rfl
theorem afImplE (w : World) : (ReflectliteType.relation "Implements" ReflectliteType.implements_ #[.agg #[.pointer (some ⟨1, 81, none⟩)], .iface 146 (.agg #[.pointer (some ⟨1, 24, none⟩)])]).run Tryz.prog w = .ok (.bool true) w := by kernel_rfl
theorem afTypeOfE (v : Value) (w : World) : (ReflectliteType.typeOf #[.iface 81 v]).run Tryz.prog w = .ok (.iface 146 (.agg #[.pointer (some ⟨1, 81, none⟩)])) w := by kernel_rfl
theorem afAssignE (w : World) : (ReflectliteType.relation "AssignableTo" ReflectliteType.assignableTo #[.agg #[.pointer (some ⟨1, 81, none⟩)], .iface 146 (.agg #[.pointer (some ⟨1, 81, none⟩)])]).run Tryz.prog w = .ok (.bool true) w := by kernel_rfl
theorem afValueE (c : Addr) (w : World) : (ReflectliteValue.unpack (.iface 81 (.pointer (some c)))).run Tryz.prog w
    = .ok (.agg #[.pointer (some ⟨1, 81, none⟩), .pointer (some ⟨w.heap.size, 0, none⟩), .int .u64 150]) (w.alloc (.cells #[.pointer (some c)] 81)) := by kernel_rfl
theorem afElemOfP (w : World) : (Rtype.elem? 138).run Tryz.prog w = .ok (some 81) w := by kernel_rfl
theorem afMkE (p : Addr) (w : World) : (ReflectliteValue.mk 81 p ReflectliteValue.flagAddr).run Tryz.prog w = .ok (.agg #[.pointer (some ⟨1, 81, none⟩), .pointer (some p), .int .u64 406]) w := by kernel_rfl
theorem afElemVP (a p : Addr) (W : World) (ha : W.cell? a = some (.pointer (some p))) :
    (ReflectliteValue.method (ReflectliteValue.valueError "reflectlite.Value.Elem" 0) ReflectliteValue.elem #[.agg #[.pointer (some ⟨1, 138, none⟩), .pointer (some a), .int .u64 150]]).run Tryz.prog W
      = .ok (.agg #[.pointer (some ⟨1, 81, none⟩), .pointer (some p), .int .u64 406]) W := by
  rw [Go.Lib.rl_method]
  simp only [Sem.run_bind, afPartsP, Result.andThen]
  simp [ReflectliteValue.elem, loadVar, isAgg, underlying, Tryz.underlying138, ha, Result.andThen, afElemOfP, afMkE]
theorem afPartsEa (a : Addr) (w : World) : (ReflectliteValue.parts (.agg #[.pointer (some ⟨1, 81, none⟩), .pointer (some a), .int .u64 406])).run Tryz.prog w = .ok (some (81, a, 406)) w := by kernel_rfl
theorem afPartsE (a : Addr) (w : World) : (ReflectliteValue.parts (.agg #[.pointer (some ⟨1, 81, none⟩), .pointer (some a), .int .u64 150])).run Tryz.prog w = .ok (some (81, a, 150)) w := by kernel_rfl
theorem afDirectE (w : World) : (Rtype.directlyAssignable 81 81).run Tryz.prog w = .ok true w := by kernel_rfl
theorem afSetE (ta b : Addr) (c : Addr) (old : Value) (W : World) (hb : W.cell? b = some (.pointer (some c))) (ht : W.cell? ta = some old) (hf : W.frozen? ta = false) :
    (ReflectliteValue.set #[.agg #[.pointer (some ⟨1, 81, none⟩), .pointer (some ta), .int .u64 406], .agg #[.pointer (some ⟨1, 81, none⟩), .pointer (some b), .int .u64 150]]).run Tryz.prog W
      = .ok (.tuple #[]) (W.setCell ta (.pointer (some c))) := by
  rw [ReflectliteValue.set.eq_def, asTwo]
  simp only [Sem.run_bind, afPartsEa, afPartsE, Result.andThen]
  simp [ReflectliteValue.flagAddr, loadVar, isAgg, underlying, Tryz.underlying81, hb, Result.andThen, afDirectE, storeVar, Value.cells, storeCells, Addr.add]
  rw [run_store Tryz.prog W ta _ _ (by rfl)]
  simp [ht, hf]

set_option maxHeartbeats 2000000 in
theorem af_in (c : Addr) (t v0 : Addr) (old : Value) (w : World) (hv : w.cell? v0 = some (.pointer (some t))) (hvl : v0.block < w.heap.size) (ht : w.cell? t = some old) (htl : t.block < w.heap.size) (hf : w.frozen? t = false) :
    Calls Tryz.prog 85 #[.iface 81 (.pointer (some c)), .iface 138 (.pointer (some t)), .agg #[.pointer (some ⟨1, 138, none⟩), .pointer (some v0), .int .u64 150], .iface 146 (.agg #[.pointer (some ⟨1, 81, none⟩)])] w fun e w' =>
      e = .returned (.bool true) ∧ w' = ((w.alloc (.cells #[.pointer (some ⟨1, 138, none⟩), .pointer (some v0), .int .u64 150] 160)).alloc (.cells #[.pointer (some c)] 81)).setCell t (.pointer (some c)) := by
  have h43 := @run_callFunc_extern Tryz.prog 63 _ (ReflectliteType.typeOf) Tryz.func63 (by kernel_rfl) (by kernel_rfl) (by kernel_rfl) (by kernel_rfl)
  have h45 := @run_callFunc_extern Tryz.prog 82 _ (fun args => ReflectliteValue.unpack (args.getD 0 (.tuple #[]))) Tryz.func82 (by kernel_rfl) (by kernel_rfl) (by kernel_rfl) (by kernel_rfl)
  have h56 := @run_callFunc_extern Tryz.prog 96 _ (ReflectliteValue.method (ReflectliteValue.valueError "reflectlite.Value.Elem" 0) ReflectliteValue.elem) Tryz.func96 (by kernel_rfl) (by kernel_rfl) (by kernel_rfl) (by kernel_rfl)
  have h57 := @run_callFunc_extern Tryz.prog 97 _ (ReflectliteValue.set) Tryz.func97 (by kernel_rfl) (by kernel_rfl) (by kernel_rfl) (by kernel_rfl)
  have h115 := @run_callFunc_extern Tryz.prog 144 _ (ReflectliteType.relation "AssignableTo" ReflectliteType.assignableTo) Tryz.func144 (by kernel_rfl) (by kernel_rfl) (by kernel_rfl) (by kernel_rfl)
  have tO := afTypeOfE
  have mA := afMAssign
  have aE := afAssignE
  have vE := afValueE
  have el := afElemVP v0 t (w.alloc (.cells #[.pointer (some ⟨1, 138, none⟩), .pointer (some v0), .int .u64 150] 160)) (by rw [World.cell?_alloc_lt _ _ v0 hvl]; exact hv)
  have st := afSetE t ⟨w.heap.size + 1, 0, none⟩ c old ((w.alloc (.cells #[.pointer (some ⟨1, 138, none⟩), .pointer (some v0), .int .u64 150] 160)).alloc (.cells #[.pointer (some c)] 81))
    (by rw [World.cell?_alloc_at _ _ _ _ (by simp)]; rfl)
    (by rw [World.cell?_alloc_lt _ _ t (by simp <;> omega), World.cell?_alloc_lt _ _ t htl]; exact ht)
    (by rw [World.frozen?_alloc_old _ _ t (by simp <;> omega), World.frozen?_alloc_old _ _ t (Nat.ne_of_lt htl)]; exact hf)
  go_enter Tryz.func85, Tryz.ntmps85
  go_wp2
  refine wp_loop_rounds 1 ?_
  rw [rounds_succ]
  go_wp2
  go_ret
  exact ⟨rfl, rfl⟩

set_option maxHeartbeats 2000000 in
/-- errors.As(a number of api, a variable of that type): it is, and the variable has it. -/
theorem af_num (c : Addr) (t : Addr) (old : Value) (w : World) (hg : ErrTy w) (ht : w.cell? t = some old) (hf : w.frozen? t = false) :
    Calls Tryz.prog 70 #[.iface 81 (.pointer (some c)), .iface 138 (.pointer (some t))] w fun e w' =>
      e = .returned (.bool true) ∧ w' = ((((w.alloc (.cells #[.pointer (some t)] 138)).alloc (.cells #[.pointer (some ⟨1, 138, none⟩), .pointer (some ⟨w.heap.size, 0, none⟩), .int .u64 150] 160)).alloc (.cells #[.pointer (some ⟨1, 138, none⟩), .pointer (some ⟨w.heap.size, 0, none⟩), .int .u64 150] 160)).alloc (.cells #[.pointer (some c)] 81)).setCell t (.pointer (some c)) := by
  have hlt : 0 < w.heap.size := by
    rcases Nat.lt_or_ge 0 w.heap.size with h | h
    · exact h
    · unfold ErrTy at hg; simp [World.cell?, Array.getElem?_eq_none h] at hg
  have htl : t.block < w.heap.size := by
    rcases Nat.lt_or_ge t.block w.heap.size with h | h
    · exact h
    · simp [World.cell?, Array.getElem?_eq_none h] at ht
  have h45 := @run_callFunc_extern Tryz.prog 82 _ (fun args => ReflectliteValue.unpack (args.getD 0 (.tuple #[]))) Tryz.func82 (by kernel_rfl) (by kernel_rfl) (by kernel_rfl) (by kernel_rfl)
  have h46 := @run_callFunc_extern Tryz.prog 83 _ (ReflectliteValue.methodAny (ReflectliteValue.valueError "reflectlite.Value.Type" 0) (fun t _ _ _ => ReflectliteType.toType t)) Tryz.func83 (by kernel_rfl) (by kernel_rfl) (by kernel_rfl) (by kernel_rfl)
  have h47 := @run_callFunc_extern Tryz.prog 84 _ (ReflectliteValue.method (ReflectliteValue.valueError "reflectlite.Value.IsNil" 0) ReflectliteValue.isNil) Tryz.func84 (by kernel_rfl) (by kernel_rfl) (by kernel_rfl) (by kernel_rfl)
  have h103 := @run_callFunc_extern Tryz.prog 134 _ (ReflectliteType.abiMethod fun t => do pure (.int .u8 (← Rtype.kind t))) Tryz.func134 (by kernel_rfl) (by kernel_rfl) (by kernel_rfl) (by kernel_rfl)
  have h117 := @run_callFunc_extern Tryz.prog 146 _ (ReflectliteType.method ReflectliteType.elem) Tryz.func146 (by kernel_rfl) (by kernel_rfl) (by kernel_rfl) (by kernel_rfl)
  have h118 := @run_callFunc_extern Tryz.prog 147 _ (ReflectliteType.relation "Implements" ReflectliteType.implements_) Tryz.func147 (by kernel_rfl) (by kernel_rfl) (by kernel_rfl) (by kernel_rfl)
  have vP := afValueP
  have tP := afTypeP
  have mK := afMKind
  have mE := afMElem
  have mI := afMImpl
  have kP := afKindP
  have kE := afKindE
  have eP := afElemP
  have iE := afImplE
  have n8 := afIsNilP ⟨w.heap.size, 0, none⟩ t ((w.alloc (.cells #[.pointer (some t)] 138)).alloc (.cells #[.pointer (some ⟨1, 138, none⟩), .pointer (some ⟨w.heap.size, 0, none⟩), .int .u64 150] 160)) (by simp)
  have hg2 : ((w.alloc (.cells #[.pointer (some t)] 138)).alloc (.cells #[.pointer (some ⟨1, 138, none⟩), .pointer (some ⟨w.heap.size, 0, none⟩), .int .u64 150] 160)).cell? ⟨0, 0, none⟩ = some (.iface 146 (.agg #[.pointer (some ⟨1, 24, none⟩)])) := by
    rw [World.cell?_alloc_lt _ _ ⟨0, 0, none⟩ (by simp <;> omega), World.cell?_alloc_lt _ _ ⟨0, 0, none⟩ hlt]; exact hg
  have HIN := Lib.hid (af_in c t ⟨w.heap.size, 0, none⟩ old ((w.alloc (.cells #[.pointer (some t)] 138)).alloc (.cells #[.pointer (some ⟨1, 138, none⟩), .pointer (some ⟨w.heap.size, 0, none⟩), .int .u64 150] 160)) (by rw [World.cell?_alloc_lt _ _ ⟨w.heap.size, 0, none⟩ (by simp)]; simp) (by simp <;> omega)
    (by rw [World.cell?_alloc_lt _ _ t (by simp <;> omega), World.cell?_alloc_lt _ _ t htl]; exact ht) (by simp <;> omega)
    (by rw [World.frozen?_alloc_old _ _ t (by simp <;> omega), World.frozen?_alloc_old _ _ t (Nat.ne_of_lt htl)]; exact hf))
  go_enter Tryz.func70, Tryz.ntmps70
  go_wp2_with fail
  refine HIN.out.mono ?_
  rintro e w' ⟨rfl, rfl⟩
  go_wp2
  go_ret
  exact ⟨rfl, rfl⟩

/-- errors.As of a Fault, into a variable that holds nothing yet. -/
theorem af_var (c : Addr) (t : Nat) (old : Value) (w : World) (hg : ErrTy w) (h : Holds w t [old] 81) :
    Calls Tryz.prog 70 #[.iface 81 (.pointer (some c)), .iface 138 (.pointer (some ⟨t, 0, none⟩))] w fun e w' => e = .returned (.bool true) ∧ Holds w' t [.pointer (some c)] 81 ∧ Kept (fun k => k = t) w w' := by
  refine (af_num c ⟨t, 0, none⟩ old w hg (h.cell 0 _ rfl) (h.free 0)).mono ?_
  rintro e w' ⟨rfl, rfl⟩
  refine ⟨rfl, ?_, ?_⟩
  · exact ((((h.alloc _).alloc _).alloc _).alloc _).set 0 (.pointer (some c))
  · exact Kept.setCell (X := fun k => k = t) (p := ⟨t, 0, none⟩) (((((Kept.refl _ w).alloc _).alloc _).alloc _).alloc _) rfl _

end Go.Proofs.YtfbgagpihhbllaaGreatDoor
