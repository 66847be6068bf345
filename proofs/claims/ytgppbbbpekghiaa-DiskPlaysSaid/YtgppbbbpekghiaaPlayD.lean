/- Both disks side by side, and a deed's row: what each call leaves. -/
import Derived.Test.YtgppbbbpekghiaaPlain
import Derived.Test.YtgppbbbpekghiaaDskCr
import Derived.Test.YtgppbbbpekghiaaDskNw
namespace Go.Proofs.Ytgppbbbpekghiaa
open Go.RowKit Go.Proofs Go.Proofs.Pk
set_option maxRecDepth 10000

theorem RefD.kept {w w' : World} {B q : Nat} {T : Dsk} {X Y : Nat → Prop} (h : RefD w B q T Y) (hk : Kept X w w') (hd : ∀ k, Y k → ¬X k) : RefD w' B q T Y := by
  obtain ⟨vL, vC, h⟩ := h
  exact ⟨vL, vC, h.kept hk hd⟩
theorem RefD.lt {w : World} {B q : Nat} {T : Dsk} {Y : Nat → Prop} (h : RefD w B q T Y) : ∀ k, Y k → B ≤ k ∧ k < w.heap.size := by
  obtain ⟨vL, vC, h⟩ := h
  exact h.lt

theorem RefD.base {w : World} {B B' q : Nat} {T : Dsk} {Y : Nat → Prop} (h : RefD w B' q T Y) (hB : B ≤ B') : RefD w B q T Y := by
  obtain ⟨vL, vC, h⟩ := h
  exact ⟨vL, vC, h.obj, owns_base h.last hB, owns_base h.cache hB, Nat.le_trans hB h.base, h.neL, h.neC, h.apart, h.own⟩

structure DeedV where
  kind : Int
  n : Int
  torn : Int
  bytes : Int
  s : List UInt8
  kad : Option Addr
  klen : Nat
  kcap : Nat
  ks : List Int
def dc (u : DeedV) : List Value := [.int .i64 u.kind, .int .i64 u.n, .int .i64 u.torn, .int .i64 u.bytes, .string ⟨u.s.toArray⟩, .slice u.kad u.klen u.kcap]

/-- The program's disk S at p (blocks X), the document's T at q (blocks Y), a deed's row at g. -/
structure Duo (B : Nat) (w0 w : World) (p q : Nat) (S T : Dsk) (X Y : Nat → Prop) (g : Nat) (u : DeedV) : Prop where
  al : Al B w0 w p S X
  ref : RefD w B q T Y
  tok : T.Ok
  ap : ∀ k, X k → ¬Y k
  row : Holds w g (dc u) 35
  base : B ≤ g
  offX : ¬X g
  offY : ¬Y g

section
variable {B p q g : Nat} {w0 w w' : World} {S T S' T' : Dsk} {X Y X' Y' : Nat → Prop} {u : DeedV}
theorem Duo.still (h : Duo B w0 w p q S T X Y g u) (hk : Kept (fun _ => False) w w') : Duo B w0 w' p q S T X Y g u :=
  ⟨h.al.still hk, h.ref.kept hk (fun _ _ hf => hf), h.tok, h.ap, h.row.of_block (hk.block g h.row.lt (fun hf => hf)), h.base, h.offX, h.offY⟩
theorem Duo.below (h : Duo B w0 w p q S T X Y g u) (hb : Below w.heap.size w w') : Duo B w0 w' p q S T X Y g u := h.still (Kept.of_below _ hb)
theorem Duo.prog (h : Duo B w0 w p q S T X Y g u) (hk : Kept X w w') (ha : Al B w0 w' p S' X') (hg : Grows w X X') : Duo B w0 w' p q S' T X' Y g u :=
  ⟨ha, h.ref.kept hk (fun k hy hx => h.ap k hx hy), h.tok, fun k hx hy => (hg k hx).elim (fun hx => h.ap k hx hy) (fun hs => by have := (h.ref.lt k hy).2; omega),
    h.row.of_block (hk.block g h.row.lt h.offX), h.base, fun hx => (hg g hx).elim h.offX (fun hs => by have := h.row.lt; omega), h.offY⟩
theorem Duo.refr (h : Duo B w0 w p q S T X Y g u) (hk : Kept Y w w') (hr : RefD w' B q T' Y') (ht : T'.Ok) (hg : Grows w Y Y') : Duo B w0 w' p q S T' X Y' g u :=
  ⟨h.al.kept hk (fun k hy => (h.ref.lt k hy).1) h.ap, hr, ht, fun k hx hy => (hg k hy).elim (fun hy => h.ap k hx hy) (fun hs => by have := (h.al.lt k hx).2; omega),
    h.row.of_block (hk.block g h.row.lt h.offY), h.base, h.offX, fun hy => (hg g hy).elim h.offY (fun hs => by have := h.row.lt; omega)⟩

theorem dWr (h : Duo B w0 w p q S T X Y g u) (k : Int) (s : List UInt8) (hn : S.C.length ≤ 1000000) (hN : S.n ≤ 1000000) :
    Calls Try.prog 14 #[.pointer (some ⟨p, 0, none⟩), .int .i64 k, .string ⟨s.toArray⟩] w fun e w' => e = .returned (erV (S.write k s).2) ∧ ∃ X', Duo B w0 w' p q (S.write k s).1 T X' Y g u :=
  (aWr h.al k s hn hN).mono fun e w' ⟨he, ⟨X', ha, hg⟩, hk⟩ => ⟨he, X', h.prog hk ha hg⟩
theorem xWr (h : Duo B w0 w p q S T X Y g u) (k : Int) (s : List UInt8) (hn : T.C.length ≤ 1000000) (hN : T.n ≤ 1000000) :
    Calls Try.prog 15 #[.pointer (some ⟨q, 0, none⟩), .int .i64 k, .string ⟨s.toArray⟩] w fun e w' => e = .returned (.int .i64 ((T.write k s).2 : Nat)) ∧ ∃ Y', Duo B w0 w' p q S (T.write k s).1 X Y' g u :=
  (rWr k s w B q T Y h.ref h.tok hn hN).mono fun e w' ⟨he, Y', hr, hg, hk⟩ => ⟨he, Y', h.refr hk hr (Dsk.write_ok h.tok k s) hg⟩
theorem dSy (h : Duo B w0 w p q S T X Y g u) :
    Calls Try.prog 16 #[.pointer (some ⟨p, 0, none⟩)] w fun e w' => e = .returned (erV S.sync.2) ∧ ∃ X', Duo B w0 w' p q S.sync.1 T X' Y g u :=
  (aSy h.al).mono fun e w' ⟨he, ⟨X', ha, hg⟩, hk⟩ => ⟨he, X', h.prog hk ha hg⟩
theorem xSy (h : Duo B w0 w p q S T X Y g u) :
    Calls Try.prog 17 #[.pointer (some ⟨q, 0, none⟩)] w fun e w' => e = .returned (.int .i64 (T.sync.2 : Nat)) ∧ ∃ Y', Duo B w0 w' p q S T.sync.1 X Y' g u :=
  (rSy w B q T Y h.ref h.tok).mono fun e w' ⟨he, Y', hr, hg, hk⟩ => ⟨he, Y', h.refr hk hr (Dsk.sync_ok h.tok) hg⟩
theorem dFu (h : Duo B w0 w p q S T X Y g u) (n : Int) (hn : n ≤ 9223372036854775807) :
    Calls Try.prog 18 #[.pointer (some ⟨p, 0, none⟩), .int .i64 n] w fun e w' => e = .returned (.tuple #[]) ∧ Duo B w0 w' p q (S.setFuse n) T X Y g u :=
  (aFu h.al n hn).mono fun e w' ⟨he, ha, hk⟩ => ⟨he, h.prog hk ha (Grows.refl w X)⟩
theorem xFu (h : Duo B w0 w p q S T X Y g u) (n : Int) (hn : n ≤ 9223372036854775807) :
    Calls Try.prog 19 #[.pointer (some ⟨q, 0, none⟩), .int .i64 n] w fun e w' => e = .returned (.tuple #[]) ∧ Duo B w0 w' p q S (T.setFuse n) X Y g u :=
  (rFuse n w B q T Y h.ref).mono fun e w' ⟨he, hr, hk⟩ => ⟨he, h.refr hk hr (Dsk.setFuse_ok h.tok n hn) (Grows.refl w Y)⟩
theorem dCr (h : Duo B w0 w p q S T X Y g u) (kad : Option Addr) (klen kcap : Nat) (ks : List Int) (torn bytes : Int) (hks : Ints w kad klen ks ∧ (ks = [] ∨ ∀ b off, kad = some ⟨b, off, none⟩ → b < B)) :
    Calls Try.prog 20 #[.pointer (some ⟨p, 0, none⟩), .slice kad klen kcap, .int .i64 torn, .int .i64 bytes] w fun e w' => e = .returned (.tuple #[]) ∧ (∃ X', Duo B w0 w' p q (S.crash ks torn bytes) T X' Y g u) ∧ Ints w' kad klen ks := by
  have ho : ks = [] ∨ IntsOff X kad := hks.2.imp id (fun hb b off e hx => by have := hb b off e; have := (h.al.lt b hx).1; omega)
  exact (aCr h.al kad klen kcap ks torn bytes hks.1 ho).mono fun e w' ⟨he, ⟨X', ha, hg⟩, hk⟩ => ⟨he, ⟨X', h.prog hk ha hg⟩, hks.1.kept hk ho⟩
theorem xCr (h : Duo B w0 w p q S T X Y g u) (kad : Option Addr) (klen kcap : Nat) (ks : List Int) (torn bytes : Int) (hks : Ints w kad klen ks ∧ (ks = [] ∨ ∀ b off, kad = some ⟨b, off, none⟩ → b < B)) :
    Calls Try.prog 21 #[.pointer (some ⟨q, 0, none⟩), .slice kad klen kcap, .int .i64 torn, .int .i64 bytes] w fun e w' => e = .returned (.tuple #[]) ∧ ∃ Y', Duo B w0 w' p q S (T.crash ks torn bytes) X Y' g u := by
  have ho : ks = [] ∨ IntsOff Y kad := hks.2.imp id (fun hb b off e hy => by have := hb b off e; have := (h.ref.lt b hy).1; omega)
  exact (rCr w B q T Y h.ref h.tok kad klen kcap ks torn bytes hks.1 ho).mono fun e w' ⟨he, Y', hr, hg, hk⟩ => ⟨he, Y', h.refr hk hr (Dsk.crash_ok h.tok ks torn bytes) hg⟩
theorem dRd (h : Duo B w0 w p q S T X Y g u) (k : Int) :
    Calls Try.prog 22 #[.pointer (some ⟨p, 0, none⟩), .int .i64 k] w fun e w' => e = .returned (.tuple #[.string ⟨(S.read k).1.toArray⟩, erV (S.read k).2]) ∧ Duo B w0 w' p q S T X Y g u :=
  (aRd h.al k).mono fun e w' ⟨he, _, hk⟩ => ⟨he, h.still hk⟩
theorem xRd (h : Duo B w0 w p q S T X Y g u) (k : Int) :
    Calls Try.prog 23 #[.pointer (some ⟨q, 0, none⟩), .int .i64 k] w fun e w' => e = .returned (.tuple #[.string ⟨(T.read k).1.toArray⟩, .int .i64 ((T.read k).2 : Nat)]) ∧ Duo B w0 w' p q S T X Y g u :=
  (rRd k w B q T Y h.ref h.tok).mono fun e w' ⟨he, m, hm⟩ => ⟨he, by subst hm; exact h.still (kept_drewN _ w m)⟩
theorem dDown (h : Duo B w0 w p q S T X Y g u) : Calls Try.prog 24 #[.pointer (some ⟨p, 0, none⟩)] w fun e w' => e = .returned (.bool S.off) ∧ Duo B w0 w' p q S T X Y g u :=
  (aQ h.al (pDown w B p S X h.al.dsk)).mono fun e w' ⟨he, _, hk⟩ => ⟨he, h.still hk⟩
theorem dWrites (h : Duo B w0 w p q S T X Y g u) : Calls Try.prog 25 #[.pointer (some ⟨p, 0, none⟩)] w fun e w' => e = .returned (.int .i64 S.n) ∧ Duo B w0 w' p q S T X Y g u :=
  (aQ h.al (pWrites w B p S X h.al.dsk)).mono fun e w' ⟨he, _, hk⟩ => ⟨he, h.still hk⟩
end

theorem is_erV (c k : Nat) (w : World) : Calls Try.prog 11 #[erV c, .int .i64 (k : Int)] w fun e w' => e = .returned (.bool (c == k)) ∧ w = w' := is_any c k w

/-- What a deed makes of a disk. -/
def deed (S : Dsk) (u : DeedV) : Dsk :=
  let c := pkN u.kind 5
  if c = 0 then (S.write u.n u.s).1 else if c = 1 then S.sync.1 else if c = 2 then S.setFuse u.n else if c = 3 then S.crash u.ks u.torn u.bytes else S

theorem write_b (S : Dsk) (k : Int) (s : List UInt8) : (S.write k s).1.L.length = S.L.length ∧ (S.write k s).1.C.length ≤ S.C.length + 1 ∧ (S.write k s).1.n ≤ S.n + 1 := by
  unfold Dsk.write
  repeat' split
  all_goals (refine ⟨rfl, ?_, ?_⟩ <;> simp)
theorem sync_b (S : Dsk) : S.sync.1.L.length = S.L.length ∧ S.sync.1.C.length ≤ S.C.length + 1 ∧ S.sync.1.n ≤ S.n + 1 := by
  unfold Dsk.sync
  split
  · exact ⟨rfl, Nat.le_succ _, Nat.le_succ _⟩
  · exact ⟨by simp only [syncL_length], by simp, by simp⟩
theorem crash_b (S : Dsk) (ks : List Int) (t b : Int) : (S.crash ks t b).L.length = S.L.length ∧ (S.crash ks t b).C.length ≤ S.C.length + 1 ∧ (S.crash ks t b).n ≤ S.n + 1 :=
  ⟨by simp only [Dsk.crash, crashL_length], by simp [Dsk.crash], by simp [Dsk.crash]⟩
theorem RefD.c34 {w : World} {B q : Nat} {T : Dsk} {Y : Nat → Prop} (h : RefD w B q T Y) : w.cell? ⟨q, 3, none⟩ = some (.bool T.off) ∧ w.cell? ⟨q, 4, none⟩ = some (.int .i64 T.n) := by
  obtain ⟨vL, vC, h⟩ := h
  exact ⟨h.obj.cell 3 _ rfl, h.obj.cell 4 _ rfl⟩

end Go.Proofs.Ytgppbbbpekghiaa
