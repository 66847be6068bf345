/- What layers above want of the program's list (New, Put, Seek, Lane, Len), whatever its nodes are. -/
import Derived.Test.YtlmlldcpllagbaaProg
import Derived.Test.YtlmlldcpllagbaaSkM
import Derived.Test.YtlmlldcpllagbaaAppend
import Derived.Test.YtlmlldcpllagbaaMid
namespace Go.Proofs.Ytlmlldcpllagbaa
open Go.RowKit Go.Proofs Go.Proofs.Pk
set_option maxRecDepth 10000

/-- A list in memory at the pointer l, in the blocks X, which lie from B on: its entries. -/
abbrev SkOf := World → Nat → Nat → List Ent → (Nat → Prop) → Prop
def FitH (h : Int) : Prop := -9223372036854775808 ≤ h ∧ h ≤ 9223372036854775807
structure SkJ (At : SkOf) : Prop where
  lt : ∀ {w B l E X}, At w B l E X → ∀ k, X k → B ≤ k ∧ k < w.heap.size
  ok : ∀ {w B l E X}, At w B l E X → SkOk E
  kept : ∀ {w w' B l E X} {Y : Nat → Prop}, At w B l E X → Kept Y w w' → (∀ k, X k → ¬Y k) → At w' B l E X
  new : ∀ (w : World) (B : Nat), B ≤ w.heap.size → Calls Try.prog 24 #[] w fun e w' => ∃ l X, e = .returned (.pointer (some ⟨l, 0, none⟩)) ∧ At w' B l [] X ∧ (∀ k, X k → w.heap.size ≤ k) ∧ Kept (fun _ => False) w w'
  put : ∀ {w B l E X}, At w B l E X → E.length ≤ 1000 → ∀ (k v : Txt) (h : Int), FitH h →
    Calls Try.prog 26 #[.pointer (some ⟨l, 0, none⟩), .string ⟨k.toArray⟩, .string ⟨v.toArray⟩, .int .i64 h] w fun e w' => e = .returned (.bool (!hasE E k)) ∧ ∃ X', At w' B l (putE E k v h) X' ∧ Grows w X X' ∧ Kept X w w'
  seek : ∀ {w B l E X}, At w B l E X → E.length ≤ 1001 → ∀ k : Txt,
    Calls Try.prog 28 #[.pointer (some ⟨l, 0, none⟩), .string ⟨k.toArray⟩] w fun e w' => e = .returned (.tuple #[.string ⟨(seekE E k).1.toArray⟩, .string ⟨(seekE E k).2.1.toArray⟩, .bool (seekE E k).2.2]) ∧ Kept (fun _ => False) w w'
  lane : ∀ {w B l E X}, At w B l E X → E.length ≤ 1001 → ∀ h : Int, FitH h →
    Calls Try.prog 31 #[.pointer (some ⟨l, 0, none⟩), .int .i64 h] w fun e w' => ∃ v, e = .returned v ∧ w'.ownsRow w.heap.size 9 1 v (laneE E h).length ((laneE E h).map strV) ∧ Kept (fun _ => False) w w'
  len : ∀ {w B l E X}, At w B l E X → E.length ≤ 1001 →
    Calls Try.prog 32 #[.pointer (some ⟨l, 0, none⟩)] w fun e w' => e = .returned (.int .i64 (E.length : Int)) ∧ Kept (fun _ => False) w w'
theorem SkJ.still {At : SkOf} (K : SkJ At) {w w' : World} {B l : Nat} {E : List Ent} {X : Nat → Prop} (h : At w B l E X) (hk : Kept (fun _ => False) w w') : At w' B l E X := K.kept h hk (fun _ _ hf => hf)

theorem info9S : (Try.prog.info? 9).map (fun i => (i.zero, i.size, i.bytes)) = some (some (.string ⟨#[]⟩), 1, 16) := by kernel_rfl
end Go.Proofs.Ytlmlldcpllagbaa
