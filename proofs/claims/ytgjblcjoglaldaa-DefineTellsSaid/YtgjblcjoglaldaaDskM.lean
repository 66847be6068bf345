/- Plain mathematics for layer 4 (disk): what a disk is, and what its calls do. No Go, no program. -/
import Derived.Test.YtgjblcjoglaldaaMathR
namespace Go.Proofs.Pk
set_option maxRecDepth 10000

/-- What lasts, by sectors; the cache, the first write first; the fuse (-1: not set); whether the power is off; how many writes there were. -/
structure Dsk where
  L : List (List UInt8)
  C : List (Nat × List UInt8)
  fuse : Int
  off : Bool
  n : Nat

def padL (s : List UInt8) : List UInt8 := s ++ List.replicate (64 - s.length) 0
def Dsk.new (k : Nat) : Dsk := ⟨List.replicate k (List.replicate 64 0), [], -1, false, 0⟩
/-- The last write to a sector in the cache. -/
def lastW (C : List (Nat × List UInt8)) (k : Nat) : Option (List UInt8) := (C.reverse.find? (fun x => x.1 == k)).map (·.2)
/-- Read: the bytes, the error. -/
def Dsk.read (S : Dsk) (k : Int) : List UInt8 × Nat :=
  if S.off then ([], 6) else if k < 0 ∨ (S.L.length : Int) ≤ k then ([], 1)
  else ((lastW S.C k.toNat).getD (S.L.getD k.toNat []), 0)
/-- Write: the disk, the error. -/
def Dsk.write (S : Dsk) (k : Int) (s : List UInt8) : Dsk × Nat :=
  if S.off then (S, 6) else if k < 0 ∨ (S.L.length : Int) ≤ k then (S, 1) else if 64 < s.length then (S, 5)
  else if S.fuse = 0 then ({ S with off := true }, 6)
  else ({ S with fuse := if 0 < S.fuse then S.fuse - 1 else S.fuse, n := S.n + 1, C := S.C ++ [(k.toNat, padL s)] }, 0)
/-- The writes of the cache, one by one. -/
def syncL (L : List (List UInt8)) (C : List (Nat × List UInt8)) : List (List UInt8) := C.foldl (fun L x => L.set x.1 x.2) L
def Dsk.sync (S : Dsk) : Dsk × Nat := if S.off then (S, 6) else ({ S with L := syncL S.L S.C, C := [] }, 0)
def Dsk.setFuse (S : Dsk) (n : Int) : Dsk := { S with fuse := max n (-1) }
/-- What a crash does with the write of index i. -/
def crashOne (keeps : List Int) (torn bytes : Int) (L : List (List UInt8)) (i : Nat) (x : Nat × List UInt8) : List (List UInt8) :=
  if (i : Int) = torn then L.set x.1 (x.2.take (min (max bytes 0) 64).toNat ++ (L.getD x.1 []).drop (min (max bytes 0) 64).toNat)
  else if i < keeps.length ∧ (keeps.getD i 0) % 2 ≠ 0 then L.set x.1 x.2 else L
def crashL (keeps : List Int) (torn bytes : Int) (L : List (List UInt8)) (i : Nat) : List (Nat × List UInt8) → List (List UInt8)
  | [] => L
  | x :: C => crashL keeps torn bytes (crashOne keeps torn bytes L i x) (i + 1) C
def Dsk.crash (S : Dsk) (keeps : List Int) (torn bytes : Int) : Dsk := { S with L := crashL keeps torn bytes S.L 0 S.C, C := [], fuse := -1, off := false }

/-- A disk as it should be: sectors of 64 bytes, writes to sectors that are there. -/
structure Dsk.Ok (S : Dsk) : Prop where
  few : S.L.length ≤ 4000
  sect : ∀ s ∈ S.L, s.length = 64
  cach : ∀ x ∈ S.C, x.1 < S.L.length ∧ x.2.length = 64
  fus : -1 ≤ S.fuse ∧ S.fuse ≤ 9223372036854775807

theorem padL_length (s : List UInt8) (h : s.length ≤ 64) : (padL s).length = 64 := by
  unfold padL; rw [List.length_append, List.length_replicate]; omega
theorem Dsk.new_ok (k : Nat) (h : k ≤ 4000) : (Dsk.new k).Ok :=
  ⟨by simpa [Dsk.new] using h, by simp [Dsk.new], by simp [Dsk.new], by simp [Dsk.new]⟩
theorem Dsk.write_ok {S : Dsk} (h : S.Ok) (k : Int) (s : List UInt8) : (S.write k s).1.Ok := by
  unfold Dsk.write
  repeat' split
  all_goals (first | exact h | skip)
  · exact ⟨h.few, h.sect, h.cach, h.fus⟩
  · rename_i h1 h2 h3 h4
    refine ⟨h.few, h.sect, ?_, ?_⟩
    · intro x hx
      rcases List.mem_append.1 hx with hx | hx
      · exact h.cach x hx
      · have : x = (k.toNat, padL s) := by simpa using hx
        subst this
        exact ⟨by simp only []; omega, padL_length s (by omega)⟩
    · have := h.fus; simp only []; omega
  · rename_i h1 h2 h3 h4
    refine ⟨h.few, h.sect, ?_, ?_⟩
    · intro x hx
      rcases List.mem_append.1 hx with hx | hx
      · exact h.cach x hx
      · have : x = (k.toNat, padL s) := by simpa using hx
        subst this
        exact ⟨by simp only []; omega, padL_length s (by omega)⟩
    · have := h.fus; simp only []; omega

theorem lastW_nil (k : Nat) : lastW [] k = none := rfl
theorem lastW_snoc (C : List (Nat × List UInt8)) (x : Nat × List UInt8) (k : Nat) : lastW (C ++ [x]) k = if x.1 = k then some x.2 else lastW C k := by
  unfold lastW
  rw [List.reverse_append]
  simp only [List.reverse_cons, List.reverse_nil, List.nil_append, List.singleton_append, List.find?_cons]
  by_cases h : x.1 = k
  · simp [h]
  · rw [show (x.1 == k) = false from by simpa using h]; simp [h]
theorem lastW_take (C : List (Nat × List UInt8)) (j : Nat) (h : j < C.length) (k : Nat) : lastW (C.take (j + 1)) k = if (C[j]).1 = k then some (C[j]).2 else lastW (C.take j) k := by
  rw [List.take_succ_eq_append_getElem h, lastW_snoc]
theorem Dsk.read_off {S : Dsk} (h : S.off = true) (k : Int) : S.read k = ([], 6) := by unfold Dsk.read; rw [if_pos h]
theorem Dsk.read_arg {S : Dsk} (h : S.off = false) (k : Int) (hk : k < 0 ∨ (S.L.length : Int) ≤ k) : S.read k = ([], 1) := by unfold Dsk.read; rw [if_neg (by simp [h]), if_pos hk]
theorem Dsk.read_ok {S : Dsk} (h : S.off = false) (k : Nat) (hk : k < S.L.length) : S.read k = ((lastW S.C k).getD (S.L[k]), 0) := by
  unfold Dsk.read; rw [if_neg (by simp [h]), if_neg (by omega)]; simp [List.getD, hk]

end Go.Proofs.Pk
