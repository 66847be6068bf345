/- What the law WalCrash goes through: the fuse, the crash, the volume opened again. -/
import Derived.Test.YtfbgagpihhbllaaGreatDoorJ36
import Derived.Test.YtfbgagpihhbllaaGreatDoorRoom8
import Derived.Test.YtfbgagpihhbllaaGreatDoorJ43
import Derived.Test.YtfbgagpihhbllaaGreatDoorJ44
import Derived.Laws.AppendOwnNone
namespace Go.Proofs.YtfbgagpihhbllaaGreatDoor
open Go.RowKit Go.Proofs Go.Proofs.Pk
set_option maxRecDepth 10000

abbrev R60 : RootN := oneR 2 1 60
abbrev g60 : FileN := (1, 18, 60)
theorem fuse8 {w wr : World} {p pd pl : Nat} {V : Vol} {vF : Value} {X : Nat → Prop} {recs : List (List UInt8)} (h : On8 LgAt w wr p pd pl V vF X R60 g60 recs) (n : Int) (hn : n ≤ 9223372036854775807) :
    Calls Tryz.prog 15 #[.pointer (some ⟨pd, 0, none⟩), .int .i64 n] wr fun e w' => e = .returned (.tuple #[]) ∧ ∃ X', On8 LgAt w w' p pd pl ⟨V.D.setFuse n, V.R, V.gone⟩ vF X' R60 g60 recs ∧ GrowsV wr X X' vF vF ∧ Kept X wr w' := by
  obtain ⟨Xd, hA, hX⟩ := h.on.vol
  refine (pFuse n wr w.heap.size pd V.D Xd hA.dsk).mono ?_
  rintro e w' ⟨rfl, hd, hk⟩
  obtain ⟨hv, hg, hkx⟩ := VlP.disk hA hX hd (Grows.refl _ _) hk (Dsk.setFuse_ok hA.ok n hn) rfl
  have hXl : ∀ k, X k → w.heap.size ≤ k := fun k hk => (h.on.vol.lt k (.inl hk)).1
  refine ⟨rfl, _, ⟨h.on.step8 hv hkx hXl, h.log.setFuse n hn, LgAt.kept h.held hkx h.off, fun hx => ?_, h.offF, h.low⟩, ⟨hg, fun b hb => .inl hb⟩, hkx⟩
  rcases hg pl hx with h1 | h1
  · exact h.off h1
  · have := Holds.lt h.held; omega

/-- What a crash finds, whatever becomes of the cache. -/
def Lasts8 (S : Dsk) (recs : List (List UInt8)) : Prop := ∀ ks t b, Alive ⟨S.crash ks t b, R60, false⟩ ∧ (S.crash ks t b).fuse < 0 ∧ (S.crash ks t b).C = [] ∧ (S.crash ks t b).L.length = 78 ∧ LogH (seenAt (S.crash ks t b)) 18 1 recs 60 ∧ openV (S.crash ks t b) = some R60
structure Mid8 (w wr : World) (p pd : Nat) (V : Vol) (vF : Value) (X : Nat → Prop) (vk : Value) (recs : List (List UInt8)) (n : Nat) : Prop where
  on : On w wr p pd V vF X
  last : Lasts8 V.D recs
  own : wr.ownsRow w.heap.size 9 1 vk recs.length (recs.map strV)
  off : ∀ k, vk.ownBlock = some k → ¬X k
  fits : recN recs ≤ 60
  n : V.D.n ≤ n
/-- The law's second loop: all goes on, or the power is gone. -/
structure Live8 (w wr : World) (p pd pl : Nat) (V : Vol) (vF : Value) (X : Nat → Prop) (vk : Value) (recs : List (List UInt8)) (n : Nat) : Prop where
  on : On8 LgAt w wr p pd pl V vF X R60 g60 recs
  kl : KL w wr pl vF X vk recs
  n : V.D.n ≤ n
  size : V.D.L.length = 78
structure Dead8 (w wr : World) (p pd pl : Nat) (V : Vol) (vF : Value) (X : Nat → Prop) (vk : Value) (recs : List (List UInt8)) (n : Nat) : Prop where
  on : On w wr p pd V vF X
  log : LogX V R60 g60 recs
  kl : KL w wr pl vF X vk recs
  fits : recN recs ≤ 60
  n : V.D.n ≤ n
  size : V.D.L.length = 78
theorem Live8.mid {w wr : World} {p pd pl n : Nat} {V : Vol} {vF vk : Value} {X : Nat → Prop} {recs : List (List UInt8)} (h : Live8 w wr p pd pl V vF X vk recs n) : Mid8 w wr p pd V vF X vk recs n :=
  ⟨h.on.on, fun ks t b => by obtain ⟨a1, a2, a3, a4, a5, a6⟩ := h.on.log.crash ks t b; exact ⟨a1, a2, a3, by rw [a4, h.size], a5, a6⟩, h.kl.own, fun k hk => (h.kl.off k hk).1, h.on.log.log.fits, h.n⟩
theorem Dead8.mid {w wr : World} {p pd pl n : Nat} {V : Vol} {vF vk : Value} {X : Nat → Prop} {recs : List (List UInt8)} (h : Dead8 w wr p pd pl V vF X vk recs n) : Mid8 w wr p pd V vF X vk recs n :=
  ⟨h.on, fun ks t b => by obtain ⟨a1, a2, a3, a4, a5, a6⟩ := h.log.crash ks t b; exact ⟨a1, a2, a3, by rw [a4, h.size], a5, a6⟩, h.kl.own, fun k hk => (h.kl.off k hk).1, h.fits, h.n⟩
theorem Mid8.still {w wr w' : World} {p pd n : Nat} {V : Vol} {vF vk : Value} {X : Nat → Prop} {recs : List (List UInt8)} (h : Mid8 w wr p pd V vF X vk recs n) (hk : Kept (fun _ => False) wr w') : Mid8 w w' p pd V vF X vk recs n :=
  ⟨h.on.still hk, h.last, owns_of_block h.own fun b hb => hk.block b (h.own.lt b hb).2 (fun hf => hf), h.off, h.fits, h.n⟩

/-- Behind the crash. -/
structure Down8 (w wr : World) (pd : Nat) (S : Dsk) (Xd : Nat → Prop) (vk : Value) (recs : List (List UInt8)) (n : Nat) : Prop where
  dsk : DskP wr w.heap.size pd S Xd
  ok : S.Ok
  below : Below w.heap.size w wr
  err : ErrTy wr
  lt : 0 < w.heap.size
  own : wr.ownsRow w.heap.size 9 1 vk recs.length (recs.map strV)
  off : ∀ k, vk.ownBlock = some k → ¬Xd k
  alive : Alive ⟨S, R60, false⟩
  fuse : S.fuse < 0
  calm : S.C = []
  size : S.L.length = 78
  log : LogH (seenAt S) 18 1 recs 60
  opens : openV S = some R60
  n : S.n ≤ n
theorem crash8 {w wr : World} {p pd n : Nat} {V : Vol} {vF vk : Value} {X : Nat → Prop} {recs : List (List UInt8)} (h : Mid8 w wr p pd V vF X vk recs n) (kad : Option Addr) (klen kcap : Nat) (ks : List Int) (t b : Int) (hks : Ints wr kad klen ks) (hoff : ks = [] ∨ ∀ b o, kad = some ⟨b, o, none⟩ → b < w.heap.size) :
    Calls Tryz.prog 19 #[.pointer (some ⟨pd, 0, none⟩), .slice kad klen kcap, .int .i64 t, .int .i64 b] wr fun e w' => e = .returned (.tuple #[]) ∧ (∃ X', Down8 w w' pd (V.D.crash ks t b) X' vk recs n) ∧ Kept (fun k => w.heap.size ≤ k) wr w' := by
  obtain ⟨Xd, hA, hX⟩ := h.on.vol
  refine (pCr wr w.heap.size pd V.D Xd hA.dsk hA.ok kad klen kcap ks t b hks (hoff.imp (fun x => x) (fun ho b' o' hb hx => by have := ho b' o' hb; have := (hA.dsk.lt b' hx).1; omega))).mono ?_
  rintro e w' ⟨rfl, X', hd, hg, hk⟩
  obtain ⟨a1, a2, a3, a4, a5, a6⟩ := h.last ks t b
  have hXl : ∀ k, Xd k → w.heap.size ≤ k := fun k hk => (hA.dsk.lt k hk).1
  have hnx : ∀ k, vk.ownBlock = some k → ¬Xd k := fun k hb hx => h.off k hb ((hX k).2 (.inr hx))
  refine ⟨rfl, ⟨X', hd, Dsk.crash_ok hA.ok ks t b, h.on.below.trans (hk.below h.on.below.size hXl), h.on.err.kept hk (fun hx => by have := hXl _ hx; have := h.on.lt; omega), h.on.lt, owns_of_block h.own fun g hb => hk.block g (h.own.lt g hb).2 (hnx g hb), fun k hb hx => ?_, a1, a2, a3, a4, a5, a6, h.n⟩, hk.mono hXl⟩
  rcases hg k hx with h1 | h1
  · exact hnx k hb h1
  · have := (h.own.lt k hb).2; omega
/-- The volume, opened again. -/
structure Up8 (w wr : World) (p pd : Nat) (S : Dsk) (vF : Value) (X : Nat → Prop) (vk : Value) (recs : List (List UInt8)) (n : Nat) : Prop where
  on : On w wr p pd ⟨S, R60, false⟩ vF X
  own : wr.ownsRow w.heap.size 9 1 vk recs.length (recs.map strV)
  off : ∀ k, vk.ownBlock = some k → ¬X k ∧ vF.ownBlock ≠ some k
  alive : Alive ⟨S, R60, false⟩
  fuse : S.fuse < 0
  calm : S.C = []
  size : S.L.length = 78
  log : LogH (seenAt S) 18 1 recs 60
  n : S.n ≤ n
theorem up8 {w wr : World} {pd n : Nat} {S : Dsk} {Xd : Nat → Prop} {vk : Value} {recs : List (List UInt8)} (h : Down8 w wr pd S Xd vk recs n) :
    Calls Tryz.prog 20 #[.pointer (some ⟨pd, 0, none⟩)] wr fun e w' => ∃ q vF X', e = .returned (.tuple #[.pointer (some ⟨q, 0, none⟩), .nilIface]) ∧ Up8 w w' q pd S vF X' vk recs n ∧ Kept (fun _ => False) wr w' := by
  refine (openP wr w.heap.size pd S Xd h.dsk h.ok h.alive.off (by rw [h.size]; omega) h.below.size).mono ?_
  rintro e w' ⟨hk, ⟨R5, q, vF, X', ho, rfl, hv, hq, hX', hF⟩ | ⟨ho, _⟩⟩
  · rw [h.opens] at ho
    obtain rfl : R60 = R5 := Option.some.inj ho
    refine ⟨q, vF, X', rfl, ⟨⟨hv, h.below.trans (hk.below h.below.size (fun _ hf => hf.elim)), h.err.kept hk (fun hf => hf), h.lt⟩, owns_of_block h.own fun g hb => hk.block g (h.own.lt g hb).2 (fun hf => hf), fun k hb => ⟨fun hx => ?_, fun hx => ?_⟩, h.alive, h.fuse, h.calm, h.size, h.log, h.n⟩, hk⟩
    · have := (h.own.lt k hb).2
      rcases (hX' k).1 hx with h1 | h1
      · omega
      · exact h.off k hb h1
    · have := (h.own.lt k hb).2
      have := hF k hx
      omega
  · rw [h.opens] at ho; cases ho
/-- The log, opened again: the records that were kept. -/
theorem again8 {w wr : World} {p pd n : Nat} {S : Dsk} {vF vk : Value} {X : Nat → Prop} {recs : List (List UInt8)} (h : Up8 w wr p pd S vF X vk recs n) (hn : n ≤ 800000) :
    Calls Tryz.prog 21 #[.pointer (some ⟨p, 0, none⟩), .int .i64 1] wr fun r w' => ∃ pl ad cap V' vF' X', r = .returned (.tuple #[.slice ad recs.length cap, .pointer (some ⟨pl, 0, none⟩), .nilIface]) ∧ Strs w' ad recs.length recs ∧
      Live8 w w' p pd pl V' vF' X' vk recs (n + 60) ∧ V'.D.fuse < 0 ∧ Kept X wr w' := by
  have hop := open8 walK h.on h.alive h.fuse h.calm (by show S.n ≤ _; have := h.n; omega) g60 (List.mem_cons_self ..) recs h.log
  refine hop.mono ?_
  rintro r w' ⟨pl, ad, cap, V', vF', X', rfl, hst, h8, hL, hn', hf, hk, hpl, hg, _⟩
  have hkl : KL w w' pl vF' X' vk recs := by
    refine ⟨owns_of_block h.own fun g hb => hk.block g (h.own.lt g hb).2 (h.off g hb).1, fun k hb => ?_⟩
    have h1 := h.off k hb
    have h2 := (h.own.lt k hb).2
    refine ⟨fun hx => ?_, by omega, fun hx => ?_⟩
    · rcases hg.1 k hx with h3 | h3
      · exact h1.1 h3
      · omega
    · rcases hg.2 k hx with h3 | h3
      · exact h1.2 h3
      · omega
  exact ⟨pl, ad, cap, V', vF', X', rfl, hst, ⟨h8, hkl, by have := h.n; have : V'.D.n ≤ S.n + 60 := hn'; omega, by rw [hL]; exact h.size⟩, hf, hk⟩

end Go.Proofs.YtfbgagpihhbllaaGreatDoor
