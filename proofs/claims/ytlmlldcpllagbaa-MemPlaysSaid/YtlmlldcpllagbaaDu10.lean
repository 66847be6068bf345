/- The law MemPlays (layer 10): the program's table and the reference's in memory, side by side. -/
import Derived.Test.YtlmlldcpllagbaaOw10
import Derived.Test.YtlmlldcpllagbaaEs10
import Derived.Test.YtlmlldcpllagbaaRMp
import Derived.Test.YtlmlldcpllagbaaOrd2
namespace Go.Proofs.Ytlmlldcpllagbaa
open Go.RowKit Go.Proofs Go.Proofs.Pk
set_option maxRecDepth 10000

structure Dm (At : MmOf) (w1 wr : World) (t q : Nat) (T F : List MEnt) (X : Nat → Prop) (vL : Value) : Prop where
  mt : Mt At w1 wr t T X
  rf : RmAt wr w1.heap.size q vL F
  apart : ∀ k, X k → k ≠ q ∧ vL.ownBlock ≠ some k
theorem Dm.kept {At : MmOf} (K : MmK At) {w1 wr w' : World} {t q : Nat} {T F : List MEnt} {X Y : Nat → Prop} {vL : Value} (h : Dm At w1 wr t q T F X vL) (hk : Kept Y wr w') (hY : ∀ k, Y k → w1.heap.size ≤ k ∧ ¬X k ∧ k ≠ q ∧ vL.ownBlock ≠ some k) : Dm At w1 w' t q T F X vL :=
  ⟨h.mt.kept K hk (fun k hy => ⟨(hY k hy).1, (hY k hy).2.1⟩), h.rf.kept hk (fun k hk2 hy => by rcases hk2 with rfl | hk2; exact (hY _ hy).2.2.1 rfl; exact (hY k hy).2.2.2 hk2), h.apart⟩
theorem Dm.still {At : MmOf} (K : MmK At) {w1 wr w' : World} {t q : Nat} {T F : List MEnt} {X : Nat → Prop} {vL : Value} (h : Dm At w1 wr t q T F X vL) (hk : Kept (fun _ => False) wr w') : Dm At w1 w' t q T F X vL := h.kept K hk (fun _ hf => hf.elim)
/-- A block that is none of the two tables'. -/
theorem Dm.far {At : MmOf} (K : MmK At) {w1 wr : World} {t q : Nat} {T F : List MEnt} {X : Nat → Prop} {vL : Value} (h : Dm At w1 wr t q T F X vL) (k : Nat) (hk : wr.heap.size ≤ k) : w1.heap.size ≤ k ∧ ¬X k ∧ k ≠ q ∧ vL.ownBlock ≠ some k := by
  refine ⟨by have := h.mt.below.size; omega, fun hx => ?_, fun e => ?_, fun e => ?_⟩
  · have := (K.lt h.mt.sk k hx).2; omega
  · have := h.rf.obj.lt; omega
  · have := (h.rf.row.lt k e).2; omega
theorem Dm.put {At : MmOf} (K : MmK At) {w1 wr : World} {t q : Nat} {T F : List MEnt} {X : Nat → Prop} {vL : Value} (h : Dm At w1 wr t q T F X vL) (hl : T.length ≤ 200) (e : MEnt) (hf : FitN e.2.1) :
    Calls Try.prog 9 #[.pointer (some ⟨t, 0, none⟩), .agg (entC e).toArray] wr fun r w' => r = .returned (errV 55 (putC T e)) ∧ ∃ X', Dm At w1 w' t q (putM T e) F X' vL := by
  refine (h.mt.put K hl e hf).mono ?_
  rintro r w' ⟨rfl, hk, X', hm, hg⟩
  refine ⟨rfl, X', hm, h.rf.kept hk (fun b hb hx => ?_), fun b hx => ?_⟩
  · have := h.apart b hx
    rcases hb with rfl | hb
    · exact this.1 rfl
    · exact this.2 hb
  · rcases hg b hx with h1 | h1
    · exact h.apart b h1
    · exact ⟨fun e => by subst e; have := h.rf.obj.lt; omega, fun e => by have := (h.rf.row.lt b e).2; omega⟩
theorem Dm.putR {At : MmOf} (K : MmK At) {w1 wr : World} {t q : Nat} {T F : List MEnt} {X : Nat → Prop} {vL : Value} (h : Dm At w1 wr t q T F X vL) (hl : F.length ≤ 1000) (e : MEnt) :
    Calls Try.prog 10 #[.pointer (some ⟨q, 0, none⟩), .agg (entC e).toArray] wr fun r w' => r = .returned (.int .i64 (putC F e : Int)) ∧ ∃ vL', Dm At w1 w' t q T (putM F e) X vL' := by
  refine (rmPut wr w1.heap.size q vL F e h.rf h.mt.below.size hl).mono ?_
  rintro r w' ⟨rfl, vL', hr, ho, hk⟩
  refine ⟨rfl, vL', h.mt.kept K hk (fun b hb => ⟨?_, fun hx => ?_⟩), hr, fun b hx => ⟨(h.apart b hx).1, fun e => ?_⟩⟩
  · rcases hb with rfl | hb
    · exact h.rf.base
    · exact (h.rf.row.lt b hb).1
  · rcases hb with rfl | hb
    · exact (h.apart _ hx).1 rfl
    · exact (h.apart b hx).2 hb
  · rcases ho b e with h1 | h1
    · exact (h.apart b hx).2 h1
    · have := (K.lt h.mt.sk b hx).2; omega
/-- What the two tables answer, in each world in which nothing of theirs has changed. -/
theorem Dm.get {At : MmOf} (K : MmK At) {w1 wr : World} {t q : Nat} {T F : List MEnt} {X : Nat → Prop} {vL : Value} (h : Dm At w1 wr t q T F X vL) (hl : T.length ≤ 201) (k : Txt) (s : Int) (hs : FitN s) (W : World) (hk : Kept (fun _ => False) wr W) :
    Calls Try.prog 16 #[.pointer (some ⟨t, 0, none⟩), .string ⟨k.toArray⟩, .int .i64 s] W fun r w' => r = .returned (.tuple #[.agg (entC (getM T k s).1).toArray, .bool (getM T k s).2]) ∧ Kept (fun _ => False) W w' := K.get (h.still K hk).mt.sk hl k s hs
theorem Dm.find {At : MmOf} (K : MmK At) {w1 wr : World} {t q : Nat} {T F : List MEnt} {X : Nat → Prop} {vL : Value} (h : Dm At w1 wr t q T F X vL) (hl : F.length ≤ 1000) (k : Txt) (s : Int) (W : World) (hk : Kept (fun _ => False) wr W) :
    Calls Try.prog 17 #[vL, .string ⟨k.toArray⟩, .int .i64 s] W fun r w' => r = .returned (.tuple #[.agg (entC (getM F k s).1).toArray, .bool (getM F k s).2]) ∧ Kept (fun _ => False) W w' := by
  obtain ⟨ad, cap, rfl, hr⟩ := h.rf.rows
  exact rmFind W ad F.length cap F k s (hr.kept hk) hl
theorem rightR (e : MEnt) (W : World) : Calls Try.prog 13 #[.agg (entC e).toArray] W fun r w' => r = .returned (.bool (rightM e)) ∧ Kept (fun _ => False) W w' :=
  (rRight e W).mono fun r w' ⟨h1, h2⟩ => ⟨h1, by rw [h2]; exact (Kept.refl _ W).alloc _⟩
theorem beforeR (a b : MEnt) (W : World) : Calls Try.prog 15 #[.agg (entC a).toArray, .agg (entC b).toArray] W fun r w' => r = .returned (.bool (befM a b)) ∧ Kept (fun _ => False) W w' :=
  (rBefore a b W).mono fun r w' ⟨h1, h2⟩ => ⟨h1, by rw [h2]; exact ((Kept.refl _ W).alloc _).alloc _⟩
/-- A row of its own as a block: its cells, all of them. -/
theorem owns_holds {w : World} {B n size : Nat} {e : TypeId} {v : Value} {xs : List Value} (h : w.ownsRow B e size v n xs) : (v = .slice none 0 0 ∧ n = 0) ∨ ∃ g cap C, v = .slice (some ⟨g, 0, none⟩) n cap ∧ B ≤ g ∧ Holds w g C e ∧ n ≤ cap ∧ C.length = cap * size := by
  rcases h.2 with h | ⟨g, cap, cur, hv, hB, h2, h3, _, h5, _⟩
  · exact .inl h
  · exact .inr ⟨g, cap, cur.toList, hv, hB, by unfold Holds; rw [h2], h3, by simpa using h5⟩

end Go.Proofs.Ytlmlldcpllagbaa
