/- A disk of the program's among other things: what each call leaves. -/
import Derived.Test.YtgppbbbpekghiaaPCr
import Derived.Test.YtgppbbbpekghiaaPNw
import Derived.Test.YtgppbbbpekghiaaIs4
namespace Go.Proofs.Ytgppbbbpekghiaa
open Go.RowKit Go.Proofs Go.Proofs.Pk
set_option maxRecDepth 10000

theorem erV_errV (c : Nat) : erV c = errV 56 c := rfl

/-- The program's disk S at p, all of whose blocks X lie from B on; below B all is as it was in w0. -/
structure Al (B : Nat) (w0 w : World) (p : Nat) (S : Dsk) (X : Nat → Prop) : Prop where
  ok : S.Ok
  bel : Below B w0 w
  dsk : DskP w B p S X

theorem Al.lt {B p : Nat} {w0 w : World} {S : Dsk} {X : Nat → Prop} (h : Al B w0 w p S X) : ∀ k, X k → B ≤ k ∧ k < w.heap.size := by
  obtain ⟨gD, gS, vC, hd⟩ := h.dsk
  exact hd.lt
theorem Al.size {B p : Nat} {w0 w : World} {S : Dsk} {X : Nat → Prop} (h : Al B w0 w p S X) : B ≤ w.heap.size := by
  obtain ⟨gD, gS, vC, hd⟩ := h.dsk
  have := h.lt p hd.mine; omega
/-- Others do not touch it. -/
theorem Al.kept {B p : Nat} {w0 w w' : World} {S : Dsk} {X Y : Nat → Prop} (h : Al B w0 w p S X) (hk : Kept Y w w') (hY : ∀ k, Y k → B ≤ k) (hd : ∀ k, X k → ¬Y k) : Al B w0 w' p S X :=
  ⟨h.ok, h.bel.trans (hk.below h.size hY), h.dsk.kept hk hd⟩
theorem Al.still {B p : Nat} {w0 w w' : World} {S : Dsk} {X : Nat → Prop} (h : Al B w0 w p S X) (hk : Kept (fun _ => False) w w') : Al B w0 w' p S X := h.kept hk (fun _ hf => hf.elim) (fun _ _ hf => hf)
theorem Al.below {B p : Nat} {w0 w w' : World} {S : Dsk} {X : Nat → Prop} (h : Al B w0 w p S X) (hb : Below w.heap.size w w') : Al B w0 w' p S X := h.still (Kept.of_below _ hb)

theorem aNw {w0 w : World} (k : Nat) (h1 : 1 ≤ k) (h2 : k ≤ 4000) (hb : Below w0.heap.size w0 w) : Calls Try.prog 9 #[.int .i64 (k : Int)] w fun e w' =>
    ∃ p X, e = .returned (.tuple #[.pointer (some ⟨p, 0, none⟩), .nilIface]) ∧ Al w.heap.size w w' p (Dsk.new k) X :=
  (pNw_ok k h1 h2 w).mono fun e w' ⟨p, X, he, hd, hb'⟩ => ⟨p, X, he, Dsk.new_ok k h2, hb', hd⟩

theorem aWr {B p : Nat} {w0 w : World} {S : Dsk} {X : Nat → Prop} (h : Al B w0 w p S X) (k : Int) (s : List UInt8) (hn : S.C.length ≤ 1000000) (hN : S.n ≤ 1000000) :
    Calls Try.prog 14 #[.pointer (some ⟨p, 0, none⟩), .int .i64 k, .string ⟨s.toArray⟩] w fun e w' =>
      e = .returned (erV (S.write k s).2) ∧ (∃ X', Al B w0 w' p (S.write k s).1 X' ∧ Grows w X X') ∧ Kept X w w' :=
  (pWr k s w B p S X h.dsk h.ok hn hN).mono fun e w' ⟨he, X', hd, hg, hk⟩ => ⟨he, ⟨X', ⟨Dsk.write_ok h.ok k s, h.bel.trans (hk.below h.size (fun n hn => (h.lt n hn).1)), hd⟩, hg⟩, hk⟩

theorem aSy {B p : Nat} {w0 w : World} {S : Dsk} {X : Nat → Prop} (h : Al B w0 w p S X) :
    Calls Try.prog 16 #[.pointer (some ⟨p, 0, none⟩)] w fun e w' =>
      e = .returned (erV S.sync.2) ∧ (∃ X', Al B w0 w' p S.sync.1 X' ∧ Grows w X X') ∧ Kept X w w' :=
  (pSy w B p S X h.dsk h.ok).mono fun e w' ⟨he, X', hd, hg, hk⟩ => ⟨he, ⟨X', ⟨Dsk.sync_ok h.ok, h.bel.trans (hk.below h.size (fun n hn => (h.lt n hn).1)), hd⟩, hg⟩, hk⟩

theorem aFu {B p : Nat} {w0 w : World} {S : Dsk} {X : Nat → Prop} (h : Al B w0 w p S X) (n : Int) (hn : n ≤ 9223372036854775807) :
    Calls Try.prog 18 #[.pointer (some ⟨p, 0, none⟩), .int .i64 n] w fun e w' =>
      e = .returned (.tuple #[]) ∧ Al B w0 w' p (S.setFuse n) X ∧ Kept X w w' :=
  (pFuse n w B p S X h.dsk).mono fun e w' ⟨he, hd, hk⟩ => ⟨he, ⟨Dsk.setFuse_ok h.ok n hn, h.bel.trans (hk.below h.size (fun n hn => (h.lt n hn).1)), hd⟩, hk⟩

theorem aCr {B p : Nat} {w0 w : World} {S : Dsk} {X : Nat → Prop} (h : Al B w0 w p S X) (kad : Option Addr) (klen kcap : Nat) (ks : List Int) (torn bytes : Int) (hks : Ints w kad klen ks) (hoff : ks = [] ∨ IntsOff X kad) :
    Calls Try.prog 20 #[.pointer (some ⟨p, 0, none⟩), .slice kad klen kcap, .int .i64 torn, .int .i64 bytes] w fun e w' =>
      e = .returned (.tuple #[]) ∧ (∃ X', Al B w0 w' p (S.crash ks torn bytes) X' ∧ Grows w X X') ∧ Kept X w w' :=
  (pCr w B p S X h.dsk h.ok kad klen kcap ks torn bytes hks hoff).mono fun e w' ⟨he, X', hd, hg, hk⟩ => ⟨he, ⟨X', ⟨Dsk.crash_ok h.ok ks torn bytes, h.bel.trans (hk.below h.size (fun n hn => (h.lt n hn).1)), hd⟩, hg⟩, hk⟩

theorem aRd {B p : Nat} {w0 w : World} {S : Dsk} {X : Nat → Prop} (h : Al B w0 w p S X) (k : Int) :
    Calls Try.prog 22 #[.pointer (some ⟨p, 0, none⟩), .int .i64 k] w fun e w' =>
      e = .returned (.tuple #[.string ⟨(S.read k).1.toArray⟩, erV (S.read k).2]) ∧ Al B w0 w' p S X ∧ Kept (fun _ => False) w w' :=
  (pRd k w B p S X h.dsk h.ok).mono fun e w' ⟨he, hk⟩ => ⟨he, h.still hk, hk⟩

theorem aQ {B p : Nat} {w0 w : World} {S : Dsk} {X : Nat → Prop} (h : Al B w0 w p S X) {f : Nat} {args : Array Value} {v : Value} (hc : Calls Try.prog f args w (Q1 w v)) :
    Calls Try.prog f args w fun e w' => e = .returned v ∧ Al B w0 w' p S X ∧ Kept (fun _ => False) w w' :=
  hc.mono fun e w' ⟨he, m, hm⟩ => by subst hm; exact ⟨he, h.still (kept_drewN _ w m), kept_drewN _ w m⟩

theorem ints_nil (w : World) (kad : Option Addr) : Ints w kad 0 [] := ⟨rfl, .inl rfl⟩
theorem off_none (X : Nat → Prop) : IntsOff X none := fun _ _ h => by cases h

end Go.Proofs.Ytgppbbbpekghiaa
