/- RtY, SlfM, ShelfG. -/
import Derived.Test.YtfbgagpihhbllaaGreatDoorJ05
import Derived.Test.YtfbgagpihhbllaaGreatDoorJ03
import Derived.Test.YtfbgagpihhbllaaGreatDoorJ01
import Derived.Shelf.SlSortCmp.NoneTotal
import Derived.Shelf.SlSortCmp.WholeK
import Derived.Shelf.SlicesE.Clone
import Derived.Shelf.SlicesG.Cmp
import Derived.Test.YtfbgagpihhbllaaGreatDoorProg

/- Layer 6: numbers, some of a text (mathematics; no reference) -/
namespace Go.Proofs.YtfbgagpihhbllaaGreatDoor
open Go.RowKit Go.Proofs Go.Proofs.Pk
set_option maxRecDepth 10000
attribute [local simp] mk_get wrap64_u8 mk_extract ByteArray.mk_append_mk get_1k

/-- Some numbers of a text, the rest; the error. -/
def rdNums : Nat → List UInt8 → List Nat × List UInt8 × Nat
  | 0, b => ([], b, 0)
  | k + 1, b => if (rdNum b).2.2 ≠ 0 then ([], [], (rdNum b).2.2) else
      if (rdNums k (rdNum b).2.1).2.2 ≠ 0 then ([], [], (rdNums k (rdNum b).2.1).2.2) else ((rdNum b).1 :: (rdNums k (rdNum b).2.1).1, (rdNums k (rdNum b).2.1).2.1, 0)
/-- Numbers read before, and what the rest gives. -/
def addN (P : List Nat) (r : List Nat × List UInt8 × Nat) : List Nat × List UInt8 × Nat := if r.2.2 ≠ 0 then ([], [], r.2.2) else (P ++ r.1, r.2.1, 0)
theorem addN_nil (k : Nat) (b : List UInt8) : rdNums k b = addN [] (rdNums k b) := by
  cases k with
  | zero => rfl
  | succ k =>
    by_cases h1 : (rdNum b).2.2 = 0
    · by_cases h2 : (rdNums k (rdNum b).2.1).2.2 = 0 <;> simp [rdNums, addN, h1, h2]
    · simp [rdNums, addN, h1]
theorem addN_step (P : List Nat) (k : Nat) (b : List UInt8) (h : (rdNum b).2.2 = 0) : addN P (rdNums (k + 1) b) = addN (P ++ [(rdNum b).1]) (rdNums k (rdNum b).2.1) := by
  by_cases h2 : (rdNums k (rdNum b).2.1).2.2 = 0 <;> simp [rdNums, addN, h, h2]
theorem addN_err (P : List Nat) (k : Nat) (b : List UInt8) (h : (rdNum b).2.2 ≠ 0) : addN P (rdNums (k + 1) b) = ([], [], (rdNum b).2.2) := by
  simp [rdNums, addN, h]
theorem rdNum_rest (b : List UInt8) : (rdNum b).2.1.length ≤ b.length := by
  by_cases h : (rdNum b).2.2 = 0
  · have := congrArg List.length (rdNum_back b h)
    rw [List.length_append] at this; omega
  · rw [(rdNum_err b h).2]; simp
theorem rdNums_length (k : Nat) : ∀ (b : List UInt8), (rdNums k b).2.2 = 0 → (rdNums k b).1.length = k := by
  induction k with
  | zero => intro b _; rfl
  | succ k ih =>
    intro b h
    rw [rdNums] at h ⊢
    split at h
    · rename_i h1; exact absurd h h1
    · rename_i h1
      rw [if_neg h1]
      split at h
      · rename_i h2; exact absurd h h2
      · rename_i h2
        rw [if_neg h2, List.length_cons, ih _ (by simpa using h2)]
theorem rdNums_rest (k : Nat) : ∀ (b : List UInt8), (rdNums k b).2.1.length ≤ b.length := by
  induction k with
  | zero => intro b; exact Nat.le_refl _
  | succ k ih =>
    intro b
    rw [rdNums]
    split
    · simp
    · split
      · simp
      · have := ih (rdNum b).2.1
        have := rdNum_rest b
        simp only; omega
theorem rdNums_le (k : Nat) : ∀ (b : List UInt8), ∀ n ∈ (rdNums k b).1, n ≤ MaxN := by
  induction k with
  | zero => intro b n hn; simp [rdNums] at hn
  | succ k ih =>
    intro b n hn
    rw [rdNums] at hn
    split at hn
    · simp at hn
    · split at hn
      · simp at hn
      · rcases List.mem_cons.1 hn with rfl | hn
        · exact rdNum_le b
        · exact ih _ n hn
theorem rdNums_code (k : Nat) : ∀ (b : List UInt8), (rdNums k b).2.2 = 0 ∨ (rdNums k b).2.2 = 2 ∨ (rdNums k b).2.2 = 3 := by
  induction k with
  | zero => intro b; exact .inl rfl
  | succ k ih =>
    intro b
    rw [rdNums]
    split
    · exact rdNum_code b
    · split
      · exact ih _
      · exact .inl rfl
theorem rdNums_err (k : Nat) (b : List UInt8) (h : (rdNums k b).2.2 ≠ 0) : (rdNums k b).1 = [] ∧ (rdNums k b).2.1 = [] := by
  rw [addN_nil] at h ⊢
  unfold addN at h ⊢
  by_cases h2 : (rdNums k b).2.2 ≠ 0
  · rw [if_pos h2]; exact ⟨rfl, rfl⟩
  · rw [if_neg h2] at h; exact absurd rfl h
/-- Numbers as cells. -/
def intsN (l : List Nat) : List Value := l.map fun (n : Nat) => Value.int .i64 (n : Int)
theorem int_infoN : (Tryz.prog.info? 3).map (fun i => (i.zero, i.size, i.bytes)) = some (some (.int .i64 0), 1, 8) := by kernel_rfl

end Go.Proofs.YtfbgagpihhbllaaGreatDoor

/- Mathematics of layer 5 (space): runs sorted by their first sectors, looked at one behind the other. No program. -/
namespace Go.Proofs.Pk
set_option maxRecDepth 10000

/-- Runs looked at one behind the other: none empty, none ahead of the last one's end, none beyond the end. -/
def okR (total : Int) : Int → List (Int × Int) → Bool
  | _, [] => true
  | p, r :: l => !(decide (r.2 < 1) || decide (r.1 < p) || decide (total - r.1 < r.2)) && okR total (r.1 + r.2) l

theorem okR_iff : ∀ (l : List (Int × Int)) (p N : Nat), p ≤ N → (okR N p l = true ↔ (∀ r ∈ l, Good N r) ∧ Sorted' p N (l.map natR))
  | [], p, N, h => by simp [okR, Sorted', h]
  | (a, n) :: l, p, N, h => by
    simp only [okR, List.map_cons, Sorted', natR, List.mem_cons, forall_eq_or_imp, Bool.and_eq_true, Bool.not_eq_true', Bool.or_eq_false_iff, decide_eq_false_iff_not]
    by_cases hb : n < 1 ∨ a < p ∨ (N : Int) - a < n
    · constructor
      · rintro ⟨⟨⟨h1, h2⟩, h3⟩, _⟩; omega
      · rintro ⟨⟨hg, _⟩, h1, h2, h3, _⟩
        unfold Good at hg
        simp only at hg
        omega
    · obtain ⟨A, rfl⟩ := Int.eq_ofNat_of_zero_le (show 0 ≤ a by omega)
      obtain ⟨M, rfl⟩ := Int.eq_ofNat_of_zero_le (show 0 ≤ n by omega)
      have ih := okR_iff l (A + M) N (by omega)
      simp only [Int.toNat_natCast]
      have e : (A : Int) + (M : Int) = ((A + M : Nat) : Int) := by omega
      rw [e]
      constructor
      · rintro ⟨_, h4⟩
        obtain ⟨h5, h6⟩ := ih.1 h4
        refine ⟨⟨?_, h5⟩, by omega, by omega, by omega, h6⟩
        unfold Good; simp only; omega
      · rintro ⟨⟨_, h5⟩, _, _, _, h6⟩
        exact ⟨⟨⟨by omega, by omega⟩, by omega⟩, ih.2 ⟨h5, h6⟩⟩

theorem taken_sorted (used L : List (Int × Int)) (N : Nat) (hp : L.Perm used) (hs : L.Pairwise (fun r s => r.1 ≤ s.1)) :
    takeAll N used (List.replicate N false) = if okR N 0 L then some (rowOf 0 N (L.map natR)) else none := by
  have hiff := okR_iff L 0 N (Nat.zero_le _)
  have hm : (L.map natR).Perm (used.map natR) := hp.map natR
  have hs2 : (L.map natR).Pairwise (fun r s => r.1 ≤ s.1) := by
    rw [List.pairwise_map]
    exact hs.imp (fun h => by simp only [natR]; omega)
  by_cases hg : ∀ r ∈ used, Good N r
  · obtain ⟨h1, h2⟩ := take_sorted used N (L.map natR) hm hs2 hg
    split
    · rename_i h
      exact h1 (hiff.1 h).2
    · rename_i h
      refine h2 fun hx => h (hiff.2 ⟨fun r hr => hg r (hp.mem_iff.1 hr), hx⟩)
  · have hno : ¬okR N 0 L = true := fun h => hg fun r hr => (hiff.1 h).1 r (hp.mem_iff.2 hr)
    rw [if_neg hno]
    cases ht : takeAll N used (List.replicate N false) with
    | none => rfl
    | some t => exact absurd (takeAll_some used N _ t (by simp) ht).1 hg

theorem rowOf_free : ∀ (l : List (Nat × Nat)) (pos total : Nat), Sorted' pos total l → (rowOf pos total l).count false + (l.map (·.2)).sum = total - pos
  | [], pos, total, h => by simp [rowOf]
  | r :: l, pos, total, h => by
    obtain ⟨h1, h2, h3, h4⟩ := h
    have ih := rowOf_free l _ _ h4
    have hc : (List.replicate r.2 true).count false = 0 := List.count_eq_zero.2 (by simp)
    simp only [rowOf, List.count_append, List.count_replicate_self, hc, List.map_cons, List.sum_cons]
    omega

theorem gaps_end : ∀ (l : List (Nat × Nat)) (N : Nat), Sorted' N N l → l = []
  | [], _, _ => rfl
  | r :: l, N, h => by obtain ⟨h1, h2, h3, _⟩ := h; omega

theorem mark_count : ∀ (n k : Nat) (t t' : List Bool), k + n ≤ t.length → mark t k n = some t' → t'.count false + n = t.count false
  | 0, k, t, t', _, h => by
    have e : t = t' := by simpa [mark] using h
    subst e; omega
  | n + 1, k, t, t', hl, h => by
    rw [mark] at h
    split at h
    · cases h
    · rename_i h0
      have h0' : t.getD k false = false := by simpa using h0
      have ih := mark_count n (k + 1) (t.set k true) t' (by rw [List.length_set]; omega) h
      have hk : t[k]'(by omega) = false := by
        simpa [List.getD, List.getElem?_eq_getElem (show k < t.length by omega)] using h0'
      rw [List.count_set (by omega)] at ih
      have hc : 0 < t.count false := List.count_pos_iff.2 (by rw [← hk]; exact List.getElem_mem _)
      simp [hk] at ih
      omega
theorem takeAll_count : ∀ (l : List (Int × Int)) (N : Nat) (t t' : List Bool), t.length = N → takeAll N l t = some t' → t'.count false + ((l.map natR).map (·.2)).sum = t.count false
  | [], N, t, t', _, h => by
    have e : t = t' := by simpa [takeAll] using h
    subst e; simp
  | r :: l, N, t, t', hl, h => by
    rw [takeAll] at h
    split at h
    · rename_i hg
      obtain ⟨u, hu, hr⟩ := Option.bind_eq_some_iff.1 h
      have hn := hg.nat
      obtain ⟨_, b, _⟩ := mark_some _ _ _ _ (by omega) hu
      have h1 := mark_count _ _ _ _ (by omega) hu
      have h2 := takeAll_count l N u t' (by omega) hr
      simp only [List.map_cons, List.sum_cons]
      omega
    · cases h

theorem natR_int (r : Nat × Nat) : natR ((r.1 : Int), (r.2 : Int)) = r := by simp [natR]
def intR (r : Nat × Nat) : Int × Int := ((r.1 : Int), (r.2 : Int))
theorem intR_natR {total : Nat} {r : Int × Int} (h : Good total r) : intR (natR r) = r := by
  unfold Good at h
  obtain ⟨a, n⟩ := r
  simp only [intR, natR] at *
  ext <;> simp <;> omega
theorem map_intR {total : Nat} : ∀ {l : List (Int × Int)}, (∀ r ∈ l, Good total r) → (l.map natR).map intR = l
  | [], _ => rfl
  | r :: l, h => by rw [List.map_cons, List.map_cons, intR_natR (h r (by simp)), map_intR (fun x hx => h x (by simp [hx]))]

end Go.Proofs.Pk

/- The shelf's contracts of slices.Clone, slices.SortFunc and cmp.Compare, laid at this program (each field: a fact of the program's own, or the kernel's comparison). No condition. -/
namespace Go.Proofs.YtfbgagpihhbllaaGreatDoor
open Go.Shelf Go.Proofs Go.RowKit
def Tryz.sortRun_ren : Go.Shelf.Ren := ⟨fun | 6 => 93 | 14 => 99 | 15 => 100 | 20 => 104 | 21 => 105 | 22 => 106 | 23 => 107 | 24 => 108 | 25 => 109 | 26 => 110 | 27 => 111 | 28 => 112 | 29 => 113 | 46 => 114 | 47 => 115 | 48 => 116 | 49 => 117 | 50 => 118 | 57 => 119 | n => n, fun | 0 => 0 | 3 => 3 | 4 => 4 | 5 => 5 | 9 => 9 | 22 => 106 | 24 => 132 | 25 => 175 | 39 => 67 | 45 => 188 | 46 => 189 | 50 => 31 | 53 => 195 | 55 => 197 | 66 => 198 | 70 => 202 | 76 => 204 | 77 => 205 | n => n, fun | n => n⟩
theorem Tryz.sortRun : SlLaysF0.n6 Tryz.prog Tryz.sortRun_ren := {
  mixed := by kernel_rfl
  f6 := ⟨Tryz.f93.name, by decide, Tryz.func93.trans (congrArg some (by kernel_rfl))⟩
  f14 := ⟨Tryz.f99.name, by decide, Tryz.func99.trans (congrArg some (by kernel_rfl))⟩
  f15 := Tryz.func100.trans (congrArg some (by kernel_rfl))
  f20 := ⟨Tryz.f104.name, by decide, Tryz.func104.trans (congrArg some (by kernel_rfl))⟩
  f21 := ⟨Tryz.f105.name, by decide, Tryz.func105.trans (congrArg some (by kernel_rfl))⟩
  f22 := ⟨Tryz.f106.name, by decide, Tryz.func106.trans (congrArg some (by kernel_rfl))⟩
  f23 := ⟨Tryz.f107.name, by decide, Tryz.func107.trans (congrArg some (by kernel_rfl))⟩
  f24 := ⟨Tryz.f108.name, by decide, Tryz.func108.trans (congrArg some (by kernel_rfl))⟩
  f25 := ⟨Tryz.f109.name, by decide, Tryz.func109.trans (congrArg some (by kernel_rfl))⟩
  f26 := ⟨Tryz.f110.name, by decide, Tryz.func110.trans (congrArg some (by kernel_rfl))⟩
  f27 := ⟨Tryz.f111.name, by decide, Tryz.func111.trans (congrArg some (by kernel_rfl))⟩
  f28 := Tryz.func112.trans (congrArg some (by kernel_rfl))
  f29 := Tryz.func113.trans (congrArg some (by kernel_rfl))
  f46 := ⟨Tryz.f114.name, by decide, Tryz.func114.trans (congrArg some (by kernel_rfl))⟩
  f47 := Tryz.func115.trans (congrArg some (by kernel_rfl))
  f48 := Tryz.func116.trans (congrArg some (by kernel_rfl))
  f49 := ⟨Tryz.f117.name, by decide, Tryz.func117.trans (congrArg some (by kernel_rfl))⟩
  f50 := ⟨Tryz.f118.name, by decide, Tryz.func118.trans (congrArg some (by kernel_rfl))⟩
  f57 := ⟨Tryz.f119.name, by decide, Tryz.func119.trans (congrArg some (by kernel_rfl))⟩
  t0 := Tryz.underlying0
  a0 := Tryz.isAgg0
  z0 := Tryz.sizeOf0
  v0 := Tryz.zeroValue0
  t3 := Tryz.underlying3
  a3 := Tryz.isAgg3
  z3 := Tryz.sizeOf3
  v3 := Tryz.zeroValue3
  t4 := Tryz.underlying4
  a4 := Tryz.isAgg4
  z4 := Tryz.sizeOf4
  v4 := Tryz.zeroValue4
  t5 := Tryz.underlying5
  a5 := Tryz.isAgg5
  z5 := Tryz.sizeOf5
  v5 := Tryz.zeroValue5
  t9 := Tryz.underlying9
  a9 := Tryz.isAgg9
  z9 := Tryz.sizeOf9
  v9 := Tryz.zeroValue9
  t22 := Tryz.underlying106
  a22 := Tryz.isAgg106
  z22 := Tryz.sizeOf106
  v22 := Tryz.zeroValue106
  t25 := Tryz.underlying175
  a25 := Tryz.isAgg175
  z25 := Tryz.sizeOf175
  v25 := Tryz.zeroValue175
  t39 := Tryz.underlying67
  a39 := Tryz.isAgg67
  z39 := Tryz.sizeOf67
  v39 := Tryz.zeroValue67
  t45 := Tryz.underlying188
  a45 := Tryz.isAgg188
  z45 := Tryz.sizeOf188
  v45 := Tryz.zeroValue188
  t46 := Tryz.underlying189
  a46 := Tryz.isAgg189
  z46 := Tryz.sizeOf189
  v46 := Tryz.zeroValue189
  t50 := Tryz.underlying31
  a50 := Tryz.isAgg31
  z50 := Tryz.sizeOf31
  v50 := Tryz.zeroValue31
  t53 := Tryz.underlying195
  a53 := Tryz.isAgg195
  z53 := Tryz.sizeOf195
  v53 := Tryz.zeroValue195
  t55 := Tryz.underlying197
  a55 := Tryz.isAgg197
  z55 := Tryz.sizeOf197
  v55 := Tryz.zeroValue197
  t66 := Tryz.underlying198
  a66 := Tryz.isAgg198
  z66 := Tryz.sizeOf198
  v66 := Tryz.zeroValue198
  t70 := Tryz.underlying202
  a70 := Tryz.isAgg202
  z70 := Tryz.sizeOf202
  v70 := Tryz.zeroValue202
  t76 := Tryz.underlying204
  a76 := Tryz.isAgg204
  z76 := Tryz.sizeOf204
  v76 := Tryz.zeroValue204
  t77 := Tryz.underlying205
  a77 := Tryz.isAgg205
  z77 := Tryz.sizeOf205
  v77 := Tryz.zeroValue205 }
def Tryz.cloneRun_ren : Go.Shelf.Ren := ⟨fun | 41 => 92 | n => n, fun | 4 => 4 | 22 => 106 | 23 => 132 | n => n, fun | n => n⟩
theorem Tryz.cloneRun : SlLaysE0.n41 Tryz.prog Tryz.cloneRun_ren := {
  mixed := by kernel_rfl
  f41 := ⟨Tryz.f92.name, by decide, Tryz.func92.trans (congrArg some (by kernel_rfl))⟩
  t4 := Tryz.underlying4
  a4 := Tryz.isAgg4
  z4 := Tryz.sizeOf4
  v4 := Tryz.zeroValue4
  t22 := Tryz.underlying106
  a22 := Tryz.isAgg106
  z22 := Tryz.sizeOf106
  v22 := Tryz.zeroValue106 }
def Tryz.cloneFile_ren : Go.Shelf.Ren := ⟨fun | 41 => 65 | n => n, fun | 4 => 4 | 22 => 76 | 23 => 102 | n => n, fun | n => n⟩
theorem Tryz.cloneFile : SlLaysE0.n41 Tryz.prog Tryz.cloneFile_ren := {
  mixed := by kernel_rfl
  f41 := ⟨Tryz.f65.name, by decide, Tryz.func65.trans (congrArg some (by kernel_rfl))⟩
  t4 := Tryz.underlying4
  a4 := Tryz.isAgg4
  z4 := Tryz.sizeOf4
  v4 := Tryz.zeroValue4
  t22 := Tryz.underlying76
  a22 := Tryz.isAgg76
  z22 := Tryz.sizeOf76
  v22 := Tryz.zeroValue76 }
def Tryz.cmpInt_ren : Go.Shelf.Ren := ⟨fun | 5 => 95 | 7 => 101 | n => n, fun | 3 => 3 | 4 => 4 | 22 => 3 | n => n, fun | n => n⟩
theorem Tryz.cmpInt : SlLaysC2.n5 Tryz.prog Tryz.cmpInt_ren := {
  mixed := by kernel_rfl
  f5 := ⟨Tryz.f95.name, by decide, Tryz.func95.trans (congrArg some (by kernel_rfl))⟩
  f7 := ⟨Tryz.f101.name, by decide, Tryz.func101.trans (congrArg some (by kernel_rfl))⟩
  t3 := Tryz.underlying3
  a3 := Tryz.isAgg3
  z3 := Tryz.sizeOf3
  v3 := Tryz.zeroValue3
  t4 := Tryz.underlying4
  a4 := Tryz.isAgg4
  z4 := Tryz.sizeOf4
  v4 := Tryz.zeroValue4
  t22 := Tryz.underlying3
  a22 := Tryz.isAgg3
  z22 := Tryz.sizeOf3
  v22 := Tryz.zeroValue3 }
end Go.Proofs.YtfbgagpihhbllaaGreatDoor
