/- The contract that the laws of layer 10 want of the program's table, whatever it is made of. -/
import Derived.Test.YtlmlldcpllagbaaOpenE
import Derived.Test.YtlmlldcpllagbaaOpenJ
import Derived.Test.YtlmlldcpllagbaaRMb
import Derived.Test.YtlmlldcpllagbaaRMf
namespace Go.Proofs.Ytlmlldcpllagbaa
open Go.RowKit Go.Proofs Go.Proofs.Pk
set_option maxRecDepth 10000

/-- A table in memory at the pointer t, in the blocks X, which lie from B on: its entries. -/
abbrev MmOf := World → Nat → Nat → List MEnt → (Nat → Prop) → Prop
structure MmK (At : MmOf) : Prop where
  lt : ∀ {w B t T X}, At w B t T X → ∀ k, X k → B ≤ k ∧ k < w.heap.size
  ok : ∀ {w B t T X}, At w B t T X → MmOk T
  kept : ∀ {w w' B t T X} {Y : Nat → Prop}, At w B t T X → Kept Y w w' → (∀ k, X k → ¬Y k) → At w' B t T X
  new : ∀ (w : World) (B : Nat) (ad : Option Addr) (len cap : Nat) (hs : List Int), B ≤ w.heap.size → Ints w ad len hs → Fit64 hs → len ≤ cap → (len : Int) * 8 ≤ 140737488351232 → (ad = none → len = 0 ∧ cap = 0) →
    Calls Try.prog 8 #[.slice ad len cap] w fun e w' => ∃ t X, e = .returned (.pointer (some ⟨t, 0, none⟩)) ∧ At w' B t [] X ∧ (∀ k, X k → w.heap.size ≤ k) ∧ Kept (fun _ => False) w w'
  put : ∀ {w B t T X}, At w B t T X → T.length ≤ 200 → ∀ e : MEnt, FitN e.2.1 →
    Calls Try.prog 9 #[.pointer (some ⟨t, 0, none⟩), .agg (entC e).toArray] w fun r w' => r = .returned (errV 55 (putC T e)) ∧ ∃ X', At w' B t (putM T e) X' ∧ Grows w X X' ∧ Kept X w w'
  get : ∀ {w B t T X}, At w B t T X → T.length ≤ 201 → ∀ (k : Txt) (s : Int), FitN s →
    Calls Try.prog 16 #[.pointer (some ⟨t, 0, none⟩), .string ⟨k.toArray⟩, .int .i64 s] w fun r w' => r = .returned (.tuple #[.agg (entC (getM T k s).1).toArray, .bool (getM T k s).2]) ∧ Kept (fun _ => False) w w'
  all : ∀ {w B t T X}, At w B t T X → T.length ≤ 201 →
    Calls Try.prog 18 #[.pointer (some ⟨t, 0, none⟩)] w fun r w' => ∃ v, r = .returned v ∧ w'.ownsRow w.heap.size 34 4 v T.length (cellsM T) ∧ Kept (fun _ => False) w w'
  size : ∀ {w B t T X}, At w B t T X → T.length ≤ 201 →
    Calls Try.prog 20 #[.pointer (some ⟨t, 0, none⟩)] w fun r w' => r = .returned (.int .i64 (sizeM T : Int)) ∧ Kept (fun _ => False) w w'
  len : ∀ {w B t T X}, At w B t T X → T.length ≤ 201 →
    Calls Try.prog 22 #[.pointer (some ⟨t, 0, none⟩)] w fun r w' => r = .returned (.int .i64 (T.length : Int)) ∧ Kept (fun _ => False) w w'
  right : ∀ (e : MEnt) (w : World), FitN e.2.1 → Calls Try.prog 12 #[.agg (entC e).toArray] w fun r w' => r = .returned (.bool (rightM e)) ∧ Kept (fun _ => False) w w'
  before : ∀ (a b : MEnt) (w : World), FitN a.2.1 → FitN b.2.1 → Calls Try.prog 14 #[.agg (entC a).toArray, .agg (entC b).toArray] w fun r w' => r = .returned (.bool (befM a b)) ∧ Kept (fun _ => False) w w'
theorem MmK.still {At : MmOf} (K : MmK At) {w w' : World} {B t : Nat} {T : List MEnt} {X : Nat → Prop} (h : At w B t T X) (hk : Kept (fun _ => False) w w') : At w' B t T X := K.kept h hk (fun _ _ hf => hf)

end Go.Proofs.Ytlmlldcpllagbaa
