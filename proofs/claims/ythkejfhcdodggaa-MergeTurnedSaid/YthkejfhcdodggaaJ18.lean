/- ShelfM, Si15, Ne15. -/
import Derived.Shelf.SlicesG.Clone
import Derived.Shelf.SortG.Plain
import Derived.Shelf.SortG.SortNone
import Derived.Shelf.Slices.SearchI
import Derived.Test.YthkejfhcdodggaaProg
import Derived.Test.YthkejfhcdodggaaJ04
import Derived.Test.YthkejfhcdodggaaJ14
import Derived.Test.YthkejfhcdodggaaJ05
import Derived.Test.YthkejfhcdodggaaRn15
import Derived.Test.YthkejfhcdodggaaUn15

/- The shelf's contracts of slices.Clone, Sort and BinarySearch of numbers, laid at this program (each field: a fact of the program's own, or the kernel's comparison). No condition. -/
namespace Go.Proofs.Ythkejfhcdodggaa
open Go.Shelf Go.Proofs Go.RowKit
def Try.cloneInt_ren : Go.Shelf.Ren := ⟨fun | 41 => 28 | n => n, fun | 4 => 4 | 22 => 36 | 23 => 3 | n => n, fun | n => n⟩
theorem Try.cloneInt : SlLaysN.n41 Try.prog Try.cloneInt_ren := {
  mixed := by kernel_rfl
  f41 := ⟨Try.f28.name, by decide, Try.func28.trans (congrArg some (by kernel_rfl))⟩
  t4 := Try.underlying4
  a4 := Try.isAgg4
  z4 := Try.sizeOf4
  v4 := Try.zeroValue4
  t22 := Try.underlying36
  a22 := Try.isAgg36
  z22 := Try.sizeOf36
  v22 := Try.zeroValue36
  t23 := Try.underlying3
  a23 := Try.isAgg3
  z23 := Try.sizeOf3
  v23 := Try.zeroValue3
  i23 := by kernel_rfl }
def Try.sortInt_ren : Go.Shelf.Ren := ⟨fun | 53 => 29 | 59 => 50 | 63 => 40 | 64 => 41 | 68 => 61 | 70 => 44 | 71 => 45 | 72 => 46 | 73 => 47 | 74 => 48 | 75 => 49 | 76 => 51 | 77 => 52 | 78 => 53 | 79 => 54 | 88 => 56 | 89 => 57 | 90 => 58 | 91 => 59 | 92 => 60 | 96 => 62 | n => n, fun | 0 => 0 | 3 => 3 | 4 => 4 | 5 => 5 | 9 => 9 | 22 => 36 | 23 => 3 | 44 => 71 | 51 => 70 | 60 => 74 | 61 => 75 | 67 => 82 | 69 => 84 | 75 => 86 | 79 => 90 | 83 => 92 | 84 => 93 | n => n, fun | n => n⟩
theorem Try.sortInt : SlLaysN.n53 Try.prog Try.sortInt_ren := {
  mixed := by kernel_rfl
  f53 := ⟨Try.f29.name, by decide, Try.func29.trans (congrArg some (by kernel_rfl))⟩
  f59 := ⟨Try.f50.name, by decide, Try.func50.trans (congrArg some (by kernel_rfl))⟩
  f63 := ⟨Try.f40.name, by decide, Try.func40.trans (congrArg some (by kernel_rfl))⟩
  f64 := Try.func41.trans (congrArg some (by kernel_rfl))
  f68 := ⟨Try.f61.name, by decide, Try.func61.trans (congrArg some (by kernel_rfl))⟩
  f70 := ⟨Try.f44.name, by decide, Try.func44.trans (congrArg some (by kernel_rfl))⟩
  f71 := ⟨Try.f45.name, by decide, Try.func45.trans (congrArg some (by kernel_rfl))⟩
  f72 := ⟨Try.f46.name, by decide, Try.func46.trans (congrArg some (by kernel_rfl))⟩
  f73 := ⟨Try.f47.name, by decide, Try.func47.trans (congrArg some (by kernel_rfl))⟩
  f74 := ⟨Try.f48.name, by decide, Try.func48.trans (congrArg some (by kernel_rfl))⟩
  f75 := ⟨Try.f49.name, by decide, Try.func49.trans (congrArg some (by kernel_rfl))⟩
  f76 := ⟨Try.f51.name, by decide, Try.func51.trans (congrArg some (by kernel_rfl))⟩
  f77 := ⟨Try.f52.name, by decide, Try.func52.trans (congrArg some (by kernel_rfl))⟩
  f78 := Try.func53.trans (congrArg some (by kernel_rfl))
  f79 := Try.func54.trans (congrArg some (by kernel_rfl))
  f88 := ⟨Try.f56.name, by decide, Try.func56.trans (congrArg some (by kernel_rfl))⟩
  f89 := Try.func57.trans (congrArg some (by kernel_rfl))
  f90 := Try.func58.trans (congrArg some (by kernel_rfl))
  f91 := ⟨Try.f59.name, by decide, Try.func59.trans (congrArg some (by kernel_rfl))⟩
  f92 := ⟨Try.f60.name, by decide, Try.func60.trans (congrArg some (by kernel_rfl))⟩
  f96 := ⟨Try.f62.name, by decide, Try.func62.trans (congrArg some (by kernel_rfl))⟩
  t0 := Try.underlying0
  a0 := Try.isAgg0
  z0 := Try.sizeOf0
  v0 := Try.zeroValue0
  t3 := Try.underlying3
  a3 := Try.isAgg3
  z3 := Try.sizeOf3
  v3 := Try.zeroValue3
  t4 := Try.underlying4
  a4 := Try.isAgg4
  z4 := Try.sizeOf4
  v4 := Try.zeroValue4
  t5 := Try.underlying5
  a5 := Try.isAgg5
  z5 := Try.sizeOf5
  v5 := Try.zeroValue5
  t9 := Try.underlying9
  a9 := Try.isAgg9
  z9 := Try.sizeOf9
  v9 := Try.zeroValue9
  t22 := Try.underlying36
  a22 := Try.isAgg36
  z22 := Try.sizeOf36
  v22 := Try.zeroValue36
  t23 := Try.underlying3
  a23 := Try.isAgg3
  z23 := Try.sizeOf3
  v23 := Try.zeroValue3
  t44 := Try.underlying71
  a44 := Try.isAgg71
  z44 := Try.sizeOf71
  v44 := Try.zeroValue71
  t51 := Try.underlying70
  a51 := Try.isAgg70
  z51 := Try.sizeOf70
  v51 := Try.zeroValue70
  t60 := Try.underlying74
  a60 := Try.isAgg74
  z60 := Try.sizeOf74
  v60 := Try.zeroValue74
  t61 := Try.underlying75
  a61 := Try.isAgg75
  z61 := Try.sizeOf75
  v61 := Try.zeroValue75
  t67 := Try.underlying82
  a67 := Try.isAgg82
  z67 := Try.sizeOf82
  v67 := Try.zeroValue82
  t69 := Try.underlying84
  a69 := Try.isAgg84
  z69 := Try.sizeOf84
  v69 := Try.zeroValue84
  t75 := Try.underlying86
  a75 := Try.isAgg86
  z75 := Try.sizeOf86
  v75 := Try.zeroValue86
  t79 := Try.underlying90
  a79 := Try.isAgg90
  z79 := Try.sizeOf90
  v79 := Try.zeroValue90
  t83 := Try.underlying92
  a83 := Try.isAgg92
  z83 := Try.sizeOf92
  v83 := Try.zeroValue92
  t84 := Try.underlying93
  a84 := Try.isAgg93
  z84 := Try.sizeOf93
  v84 := Try.zeroValue93 }
def Try.bsInt_ren : Go.Shelf.Ren := ⟨fun | 25 => 43 | 31 => 50 | 32 => 55 | 37 => 61 | n => n, fun | 0 => 0 | 3 => 3 | 4 => 4 | 22 => 36 | 40 => 70 | n => n, fun | n => n⟩
theorem Try.bsInt : Lays2.n25 Try.prog Try.bsInt_ren := {
  mixed := by kernel_rfl
  f25 := Try.func43.trans (congrArg some (by kernel_rfl))
  f31 := Try.func50.trans (congrArg some (by kernel_rfl))
  f32 := Try.func55.trans (congrArg some (by kernel_rfl))
  f37 := Try.func61.trans (congrArg some (by kernel_rfl))
  t0 := Try.underlying0
  a0 := fun w => by kernel_rfl
  z0 := fun w => by kernel_rfl
  v0 := fun w => by kernel_rfl
  t3 := Try.underlying3
  a3 := fun w => by kernel_rfl
  z3 := fun w => by kernel_rfl
  v3 := fun w => by kernel_rfl
  t4 := Try.underlying4
  a4 := fun w => by kernel_rfl
  z4 := fun w => by kernel_rfl
  v4 := fun w => by kernel_rfl
  t22 := Try.underlying36
  a22 := fun w => by kernel_rfl
  z22 := fun w => by kernel_rfl
  v22 := fun w => by kernel_rfl
  t40 := Try.underlying70
  a40 := fun w => by kernel_rfl
  z40 := fun w => by kernel_rfl
  v40 := fun w => by kernel_rfl }
end Go.Proofs.Ythkejfhcdodggaa

/- The program of layer 15: slices.Clone, Sort and BinarySearch of numbers. -/
namespace Go.Proofs.Ythkejfhcdodggaa
open Go.RowKit Go.Proofs Go.Proofs.Pk
set_option maxRecDepth 10000

abbrev intV (i : Int) : Value := .int .i64 i
theorem cloneInts15 (ad : Option Addr) (len cap : Nat) (l : List Int) (w : World) (h : Ints w ad len l) (hn : ad = none → len = 0 ∧ cap = 0) (hb : (len : Int) * 8 ≤ 140737488355328) :
    Calls Try.prog 28 #[.slice ad len cap] w fun e w' => ∃ v, e = .returned v ∧ w'.ownsRow w.heap.size 3 1 v len (l.map intV) ∧ Below w.heap.size w w' := by
  have hl := h.1
  cases ad with
  | none =>
    obtain ⟨rfl, rfl⟩ := hn rfl
    have : l = [] := List.length_eq_zero_iff.1 hl
    subst this
    refine Calls.mono (AnyG.slices_Clone_int_nil Try.cloneInt 0 0 w) ?_
    rintro e w' ⟨rfl, rfl⟩
    exact ⟨_, rfl, World.ownsRow_nil _ _ _ _, Below.refl _ _⟩
  | some a =>
    rcases h.2 with h0 | ⟨b, off, h1, h2, h3⟩
    · subst h0
      obtain rfl : len = 0 := by simpa using hl.symm
      refine Calls.mono (AnyG.slices_Clone_int_zero Try.cloneInt a cap w) ?_
      rintro e w' ⟨v, rfl, ho, _, hb⟩
      exact ⟨v, rfl, ho, hb⟩
    · injection h1 with h1
      subst h1
      refine Calls.mono (AnyG.slices_Clone_int Try.cloneInt b off len cap l w (by omega) (by omega) (fun j hj => ?_)) ?_
      · rw [h3 j hj, List.getD_eq_getElem?_getD, List.getElem?_eq_getElem hj]; rfl
      · rintro e w' ⟨v, rfl, ho, _, hb⟩
        rw [List.take_of_length_le (by omega)] at ho
        exact ⟨v, rfl, ho, hb⟩

/-- Numbers in a row of their own, sorted: that row alone is turned. -/
theorem sortInts15 (B g cap n : Nat) (l : List Int) (w : World) (h : w.ownsRow B 3 1 (.slice (some ⟨g, 0, none⟩) n cap) n (l.map intV)) (hlen : n < 4611686018427387904) :
    Calls Try.prog 29 #[.slice (some ⟨g, 0, none⟩) n cap] w fun e w' => e = .returned (.tuple #[]) ∧ ∃ L, Ints w' (some ⟨g, 0, none⟩) n L ∧ L.Perm l ∧ L.Pairwise (· ≤ ·) ∧ Kept (fun k => k = g) w w' := by
  have hln : l.length = n := by have := h.1; simpa using this
  subst hln
  rcases h.2 with ⟨h1, h2⟩ | ⟨g', cap', cur, h1, h2, h3, h4, h5, h6, h7⟩
  · cases h1
  · cases h1
    have hgl : g < w.heap.size := (Array.getElem?_eq_some_iff.1 h3).1
    have hH : Go.Sort.Holds (Value.int .i64) w g 0 l.toArray := by
      intro j hj
      have hj' : j < l.length := by simpa using hj
      have h9 := World.ownsRow.cells h (g := g) rfl j (intV l[j]) (by rw [List.getElem?_map, List.getElem?_eq_getElem hj']; rfl)
      rw [Addr.add_mid] at h9
      refine ⟨?_, by have := h.frozenAt (0 + j); simpa using this⟩
      rw [h9, getElem!_pos l.toArray j hj]; simp [intV]
    have hle : ∀ a b : Int, decide (a ≤ b) = true ∨ decide (b ≤ a) = true := fun a b => by simp only [decide_eq_true_eq]; omega
    have htr : ∀ a b c : Int, decide (a ≤ b) = true → decide (b ≤ c) = true → decide (a ≤ c) = true := fun a b c h k => by simp only [decide_eq_true_eq] at *; omega
    have hperm : (l.mergeSort fun x y => decide (x ≤ y)).Perm l := List.mergeSort_perm _ _
    have hsort : (l.mergeSort fun x y => decide (x ≤ y)).Pairwise (· ≤ ·) := (List.pairwise_mergeSort (le := fun x y : Int => decide (x ≤ y)) (fun a b c h k => htr a b c h k) (fun a b => by have := hle a b; simpa using this) l).imp (fun h => of_decide_eq_true h)
    have hlen2 : (l.mergeSort fun x y => decide (x ≤ y)).length = l.length := (List.mergeSort_perm _ _).length_eq
    refine Calls.mono (AnyG.slices_Sort_int Try.sortInt g 0 cap l w hH hgl hlen) ?_
    rintro e w' ⟨rfl, n, os, rfl⟩
    generalize (l.mergeSort fun x y => decide (x ≤ y)) = L at *
    have hHL : Go.Sort.Holds (Value.int .i64) (Go.Sort.putRow (Value.int .i64) (Go.Sort.ahead w n) g 0 L.toArray) g 0 L.toArray := Go.Sort.holds_putRow _ _ _ _ _ _ (Go.Sort.holds_ahead _ _ n _ _ _ hH) (by simp [hlen2])
    have hgp : g < (Go.Sort.putRow (Value.int .i64) (Go.Sort.ahead w n) g 0 L.toArray).heap.size := by simpa using hgl
    refine ⟨rfl, L, ⟨hlen2, .inr ⟨g, 0, rfl, ?_, fun i hi => ?_⟩⟩, hperm, hsort, ?_⟩
    · simp [Go.Sort.grow]; omega
    · rw [Go.Sort.cell?_grow _ _ _ hgp, (hHL i (by simpa using hi)).1, getElem!_pos L.toArray i (by simpa using hi)]; simp
    · refine ⟨rfl, rfl, rfl, by simp [Go.Sort.grow], fun k hk hkg => ?_⟩
      show ((w.heap.modify g _) ++ os)[k]? = _
      rw [Array.getElem?_append_left (by simp; omega), Array.getElem?_modify, if_neg (fun e => hkg e.symm)]

/-- Where a number stands among sorted ones. -/
def atI (rs : List Int) (x : Int) : Nat := rs.countP fun r => decide (r < x)
theorem atI_le (rs : List Int) (x : Int) : atI rs x ≤ rs.length := List.countP_le_length
theorem atI_need (m : Int) : ∀ (rs : List Int) (x : Int), rs.Pairwise (· ≤ ·) → (∃ n ∈ rs, x ≤ n) → ∃ h : atI rs x < rs.length, decide (rs[atI rs x] < m) = rs.any fun n => decide (x ≤ n) && decide (n < m)
  | [], _, _, h => by obtain ⟨_, h, _⟩ := h; cases h
  | r :: t, x, hs, h => by
    obtain ⟨h1, h2⟩ := List.pairwise_cons.1 hs
    by_cases hr : r < x
    · have h' : ∃ n ∈ t, x ≤ n := by
        obtain ⟨n, hn, hx⟩ := h
        rcases List.mem_cons.1 hn with rfl | hn
        · omega
        · exact ⟨n, hn, hx⟩
      obtain ⟨hl, he⟩ := atI_need m t x h2 h'
      have hc : atI (r :: t) x = atI t x + 1 := by unfold atI; rw [List.countP_cons_of_pos (by simpa using hr)]
      refine ⟨by rw [hc, List.length_cons]; omega, ?_⟩
      simp only [hc, List.getElem_cons_succ]
      rw [he, List.any_cons, decide_eq_false (show ¬x ≤ r by omega), Bool.false_and, Bool.false_or]
    · have hall : ∀ y ∈ t, x ≤ y := fun y hy => by have := h1 y hy; omega
      have hc : atI (r :: t) x = 0 := by
        unfold atI
        rw [List.countP_eq_zero]
        intro y hy
        rcases List.mem_cons.1 hy with rfl | hy
        · simpa using hr
        · have := hall y hy; simp; omega
      refine ⟨by rw [hc]; simp, ?_⟩
      simp only [hc, List.getElem_cons_zero]
      rw [Bool.eq_iff_iff, decide_eq_true_eq, List.any_eq_true]
      constructor
      · intro hm
        exact ⟨r, by simp, by simp only [Bool.and_eq_true, decide_eq_true_eq]; omega⟩
      · rintro ⟨n, hn, hp⟩
        simp only [Bool.and_eq_true, decide_eq_true_eq] at hp
        rcases List.mem_cons.1 hn with rfl | hn
        · exact hp.2
        · have := h1 n hn; omega
theorem searchInts15 (ad : Option Addr) (len cap : Nat) (rs : List Int) (x : Int) (w : World) (h : Ints w ad len rs) (h0 : rs ≠ []) (hs : rs.Pairwise (· ≤ ·)) (hb : len < 4611686018427387904) :
    Calls Try.prog 43 #[.slice ad len cap, .int .i64 x] w fun e w' => (∃ b : Bool, e = .returned (.tuple #[.int .i64 ((atI rs x : Nat) : Int), .bool b])) ∧ Kept (fun _ => False) w w' := by
  have hl := h.1
  rcases h.2 with h1 | ⟨b, off, h1, h2, h3⟩
  · exact absurd h1 h0
  · subst h1
    refine Calls.mono (Any.slices_BinarySearch_int Try.bsInt b off len cap rs x w (by omega) hb (fun j hj => ?_) (by rw [List.take_of_length_le (by omega)]; exact hs)) ?_
    · rw [h3 j hj, List.getD_eq_getElem?_getD, List.getElem?_eq_getElem hj]; rfl
    · rintro e w' ⟨rfl, q, rfl⟩
      rw [List.take_of_length_le (by omega)]
      exact ⟨⟨_, rfl⟩, (Kept.refl _ w).drewN q⟩

end Go.Proofs.Ythkejfhcdodggaa

/- The program of layer 15: needed, the versions of a key that are read. -/
namespace Go.Proofs.Ythkejfhcdodggaa
open Go.RowKit Go.Proofs Go.Proofs.Pk
set_option maxRecDepth 10000
attribute [local simp] mk_get wrap64_u8 mk_extract ByteArray.mk_append_mk

theorem need_take1 (rs : List Int) (m : Int) {V : List MEnt} {j : Nat} (h : j < V.length) : needK rs m (V.take (j + 1)) = needK rs m (V.take j) ++ if needB rs (lastS m (V.take j)) V[j] = true then [V[j]] else [] := by
  rw [List.take_succ_eq_append_getElem h, needK_snoc]
theorem last_take1 (m : Int) {V : List MEnt} {j : Nat} (h : j < V.length) : lastS m (V.take (j + 1)) = V[j].2.1 := by
  rw [List.take_succ_eq_append_getElem h, lastS_snoc]

set_option maxHeartbeats 8000000 in
theorem pNeeded (w : World) (ad : Option Addr) (len cap : Nat) (V : List MEnt) (rd : Option Addr) (rl rc : Nat) (rs : List Int) (h : EntsW w ad len V) (hlm : len ≤ 1000) (hi : Ints w rd rl rs) (hrs : rs.Pairwise (· ≤ ·)) (hrl : rl < 4611686018427387904) (hf : Fit64 rs) (hmax : ∀ e ∈ V, ∃ n ∈ rs, e.2.1 ≤ n) :
    Calls Try.prog 31 #[.slice ad len cap, .slice rd rl rc] w (UniE w (needK rs 9007199254740992 V)) := by
  have hlen := h.1
  have hil := hi.1
  have H := Lib.hid h
  have HI := Lib.hid hi
  have HMx := Lib.hid (And.intro hmax (And.intro hrs (And.intro hrl hf)))
  obtain ⟨w0, hw0⟩ : ∃ w0, w0 = w := ⟨_, rfl⟩
  rw [← hw0] at H HI ⊢
  have HI0 : Hid (OutO w0 w0 none 0 0 (needK rs 9007199254740992 (V.take 0)) ∧ lastS 9007199254740992 (V.take 0) = 9007199254740992) := ⟨OutO.nil (Kept.refl _ _), rfl⟩
  clear h hi hmax hrs hrl hf
  go_enter Try.func31, Try.ntmps31
  clear hw0
  go_wp2
  go_loopw [5, 6, 13] (fun o m i wr => ∃ (j n : Nat) (ao : Option Addr) (co : Nat) (nw : Int), (j ≤ len ∧ n ≤ j) ∧ o = .slice ao n co ∧ m = .int .i64 nw ∧ i = .int .i64 (j : Int) ∧ Hid (OutO w0 wr ao n co (needK rs 9007199254740992 (V.take j)) ∧ lastS 9007199254740992 (V.take j) = nw)) (fun _ _ i _ => len - (intOf i).toNat)
  case atStart => exact ⟨0, 0, none, 0, _, ⟨Nat.zero_le _, Nat.le_refl _⟩, rfl, rfl, rfl, HI0⟩
  case round =>
    clear HI0
    obtain ⟨j, n, ao, co, nw, ⟨hj, hnj⟩, rfl, rfl, rfl, hI⟩ := hrel
    have j0 : (0 : Int) ≤ (j : Int) := by omega
    by_cases hlt : j < len
    case neg =>
      obtain rfl : j = len := by omega
      have jn : ¬(j : Int) < (j : Int) := by omega
      have HV : Hid (OutO w0 wr ao n co (needK rs 9007199254740992 V)) := by
        have := hI.out.1
        rwa [List.take_of_length_le (by omega)] at this
      clear hI
      go_wp2
      go_ret
      exact ⟨ao, n, co, rfl, HV.out⟩
    have jn : (j : Int) < (len : Int) := by omega
    have hwj : IntKind.i64.wrap ((j : Int) + 1) = (j : Int) + 1 := IntWalk.i64_in _ (by omega)
    have hjl : j < V.length := by omega
    have hk := hI.out.1.2.2.1
    obtain ⟨b, off, rfl, hb, x0, x1, x2, x3⟩ := (ents_keptK H.out hk).atS j hjl
    have hfx := ents_fit H.out _ (List.getElem_mem hjl)
    have hnt := need_take1 rs 9007199254740992 hjl
    have hlt1 := last_take1 9007199254740992 hjl
    have hmx := HMx.out.1 _ (List.getElem_mem hjl)
    obtain ⟨x, hx⟩ : ∃ x, x = V[j] := ⟨_, rfl⟩
    rw [← hx] at x0 x1 x2 x3 hfx hnt hlt1 hmx
    obtain ⟨hat, hdec⟩ := atI_need nw rs x.2.1 HMx.out.2.1 hmx
    rw [hI.out.2] at hnt
    have hnb : needB rs nw x = decide (rs[atI rs x.2.1] < nw) := hdec.symm
    rw [hnb] at hnt
    have hr0 : rs ≠ [] := by rintro rfl; simp at hat
    obtain ⟨g, o, hrd, hgl, hcell⟩ : ∃ g o, rd = some ⟨g, o, none⟩ ∧ g < w0.heap.size ∧ w0.cell? ⟨g, o + atI rs x.2.1, none⟩ = some (.int .i64 rs[atI rs x.2.1]) := by
      rcases HI.out.2 with h0 | ⟨g, o, h1, h2, h3⟩
      · exact absurd h0 hr0
      · exact ⟨g, o, h1, h2, h3 _ hat⟩
    obtain ⟨A, hA⟩ : ∃ A, A = atI rs x.2.1 := ⟨_, rfl⟩
    have hSr := fun W : World => searchInts15 rd rl rc rs x.2.1 W
    simp only [← hA] at hSr hcell hnt hat
    obtain ⟨r, hr⟩ : ∃ r, r = rs[A] := ⟨_, rfl⟩
    rw [← hr] at hcell hnt
    subst hrd
    have HSr : Hid (∀ W, Kept (fun _ => False) w0 W → Calls Try.prog 43 #[.slice (some ⟨g, o, none⟩) rl rc, .int .i64 x.2.1] W fun e w' => (∃ b : Bool, e = .returned (.tuple #[.int .i64 ((A : Nat) : Int), .bool b])) ∧ Kept (fun _ => False) W w') := fun W hk => hSr W (HI.out.kept hk (.inr fun _ _ _ f => f)) hr0 HMx.out.2.1 HMx.out.2.2.1
    have HC : Hid (∀ W, Kept (fun _ => False) w0 W → W.cell? ⟨g, o + A, none⟩ = some (.int .i64 r)) := fun W hk => (hk.cell (p := ⟨g, o + A, none⟩) hgl (fun f => f)).trans hcell
    have hA0 : (0 : Int) ≤ (A : Int) := by omega
    have hAl : A < rl := by omega
    have hAlI : (A : Int) < (rl : Int) := by omega
    have HNt := Lib.hid (And.intro hnt hlt1)
    have HFx := Lib.hid hfx
    obtain ⟨eb, heb⟩ : ∃ eb, eb = wr.heap.size := ⟨_, rfl⟩
    have HJ : Hid (OutO w0 (wr.alloc (.cells #[.string ⟨x.1.toArray⟩, .int .i64 x.2.1, .bool x.2.2.1, .string ⟨x.2.2.2.toArray⟩] 34)) ao n co (needK rs 9007199254740992 (V.take j)) ∧ Holds (wr.alloc (.cells #[.string ⟨x.1.toArray⟩, .int .i64 x.2.1, .bool x.2.2.1, .string ⟨x.2.2.2.toArray⟩] 34)) eb (entC x) 34 ∧ (Value.slice ao n co).ownBlock ≠ some eb) := by
      refine ⟨hI.out.1.kept ((Kept.refl _ wr).alloc _), by rw [heb]; exact Holds.new wr _ _, fun e => ?_⟩
      have := (hI.out.1.2.1.lt _ e).2; omega
    clear hk hb hfx hnt hlt1 hmx hdec hnb hr0 hgl hcell hSr hr hat hA hI hx
    go_upto_region 6 with (fail)
    rw [← heb]
    obtain ⟨wq, hwq⟩ : ∃ wq, wq = wr.alloc (.cells #[.string ⟨x.1.toArray⟩, .int .i64 x.2.1, .bool x.2.2.1, .string ⟨x.2.2.2.toArray⟩] 34) := ⟨_, rfl⟩
    rw [← hwq] at HJ ⊢
    clear hwq heb x0 x1 x2 x3
    have q1 := HJ.out.2.1.cell 1 _ rfl
    have HS := Lib.hid (HSr.out wq HJ.out.1.2.2.1)
    go_wp2_with fail
    refine HS.out.mono ?_
    clear HS HSr q1
    rintro e wv ⟨⟨bb, rfl⟩, hkv⟩
    have HJv : Hid (OutO w0 wv ao n co (needK rs 9007199254740992 (V.take j)) ∧ Holds wv eb (entC x) 34 ∧ (Value.slice ao n co).ownBlock ≠ some eb) := ⟨HJ.out.1.kept hkv, HJ.out.2.1.of_block (hkv.block eb HJ.out.2.1.lt (fun f => f)), HJ.out.2.2⟩
    have rcell := HC.out wv HJv.out.1.2.2.1
    have e0 := HJv.out.2.1.cell 0 _ rfl
    have e1 := HJv.out.2.1.cell 1 _ rfl
    have e2 := HJv.out.2.1.cell 2 _ rfl
    have e3 := HJv.out.2.1.cell 3 _ rfl
    clear HJ hkv HC
    by_cases hc : r < nw
    case neg =>
      have HN : Hid (OutO w0 wv ao n co (needK rs 9007199254740992 (V.take (j + 1))) ∧ lastS 9007199254740992 (V.take (j + 1)) = x.2.1) := by
        refine ⟨?_, HNt.out.2⟩
        rw [HNt.out.1, decide_eq_false hc, if_neg (by simp), List.append_nil]
        exact HJv.out.1
      clear HJv HNt
      go_wp2
      go_roundw
      case rel => exact ⟨j + 1, n, ao, co, x.2.1, by omega, rfl, rfl, by first | rfl | go_num, HN⟩
      case measure => simp [intOf]; omega
    obtain ⟨ao2, co2, wB, hrun, hO2, hgr, _⟩ := app_list (cx := 1) (HJv.out.1.kept ((Kept.refl _ wv).alloc (.cells #[.string ⟨x.1.toArray⟩, .int .i64 x.2.1, .bool x.2.2.1, .string ⟨x.2.2.2.toArray⟩] 34))) (one_ents wv x HFx.out) (by omega) 24
    have hxB : Holds wB eb (entC x) 34 := (HJv.out.2.1.alloc _).of_block (hgr.block eb (HJv.out.2.1.alloc _).lt (fun e => HJv.out.2.2 e.symm))
    have f1 := hxB.cell 1 _ rfl
    have HN : Hid (OutO w0 wB ao2 (n + 1) co2 (needK rs 9007199254740992 (V.take (j + 1))) ∧ lastS 9007199254740992 (V.take (j + 1)) = x.2.1) := by
      refine ⟨?_, HNt.out.2⟩
      rw [HNt.out.1, decide_eq_true hc, if_pos rfl]
      exact hO2
    clear HJv HNt hO2 hgr hxB
    go_wp2_with (at_builtin; refine wpList_run_append rfl (.tmp 30) (.tmp 32) 24 24 rfl rfl rfl rfl hrun ?_)
    clear hrun e0 e1 e2 e3
    go_roundw
    case rel => exact ⟨j + 1, n + 1, ao2, co2, x.2.1, by omega, rfl, rfl, by first | rfl | go_num, HN⟩
    case measure => simp [intOf]; omega

end Go.Proofs.Ythkejfhcdodggaa
