/- SpcL, SpcY, VolR. -/
import Derived.Test.YtfbgagpihhbllaaGreatDoorJ06
import Derived.Test.YtfbgagpihhbllaaGreatDoorJ05
import Derived.Test.YtfbgagpihhbllaaGreatDoorJ10

/- Mathematics of layer 5 (space): what the laws ask of runs that are taken. No program. -/
namespace Go.Proofs.Pk
set_option maxRecDepth 10000

/-- In whatever order runs are taken, they take the same sectors. -/
theorem takeAll_perm {l l' : List (Int × Int)} (h : l.Perm l') (N : Nat) : takeAll N l (List.replicate N false) = takeAll N l' (List.replicate N false) := by
  have hp : (l.mergeSort (fun a b => decide (a.1 ≤ b.1))).Perm l := List.mergeSort_perm l _
  have hs := List.pairwise_mergeSort (le := fun a b : Int × Int => decide (a.1 ≤ b.1)) (fun a b c h1 h2 => by simp at *; omega) (fun a b => by simp; omega) l
  have hs2 : (l.mergeSort (fun a b => decide (a.1 ≤ b.1))).Pairwise (fun r s => r.1 ≤ s.1) := hs.imp (fun h => by simpa using h)
  rw [taken_sorted l _ N hp hs2, taken_sorted l' _ N (hp.trans h) hs2]

theorem takeAll_tail (N : Nat) (x : Int × Int) (l : List (Int × Int)) (t : List Bool) (h : takeAll N (x :: l) (List.replicate N false) = some t) : ∃ t', takeAll N l (List.replicate N false) = some t' := by
  obtain ⟨h1, h2, _⟩ := takeAll_some _ N _ t (by simp) h
  refine takeAll_ok l N _ (by simp) (fun r hr => h1 r (by simp [hr])) ?_ (fun r _ i _ _ => ?_)
  · rw [List.map_cons, List.pairwise_cons] at h2; exact h2.2
  · simp only [List.getD, List.getElem?_replicate]; split <;> rfl

theorem takeAll_append (N : Nat) : ∀ (l l' : List (Int × Int)) (t : List Bool), takeAll N (l ++ l') t = (takeAll N l t).bind (takeAll N l')
  | [], l', t => rfl
  | r :: l, l', t => by
    simp only [List.cons_append, takeAll]
    split
    · cases mark t (natR r).1 (natR r).2 with
      | none => rfl
      | some u => simp only [Option.bind_some]; exact takeAll_append N l l' u
    · rfl

theorem mark_line : ∀ (n P M : Nat), n ≤ M → mark (List.replicate P true ++ List.replicate M false) P n = some (List.replicate (P + n) true ++ List.replicate (M - n) false)
  | 0, P, M, _ => by simp [mark]
  | n + 1, P, M, h => by
    obtain ⟨M, rfl⟩ : ∃ K, M = K + 1 := ⟨M - 1, by omega⟩
    have e1 : (List.replicate P true ++ List.replicate (M + 1) false).getD P false = false := by
      simp [List.getD, List.replicate_succ]
    have e2 : (List.replicate P true ++ List.replicate (M + 1) false).set P true = List.replicate (P + 1) true ++ List.replicate M false := by
      rw [List.set_append_right _ _ (by simp)]
      rw [List.replicate_succ' (n := P)]
      simp [List.replicate_succ]
    rw [mark, e1, if_neg (by decide), e2, mark_line n (P + 1) M (by omega)]
    congr 2
    · congr 1; omega
    · congr 1; omega

/-- The first P sectors taken, the others free. -/
def line (P M : Nat) : List Bool := List.replicate P true ++ List.replicate M false
theorem freeL_line (P M : Nat) : freeL (line P M) = if M = 0 then [] else [(P, M)] := by
  unfold freeL line
  rw [freeR_true]
  cases M with
  | zero => rfl
  | succ M =>
    have := freeR_gap (M + 1) (0 + P) (by omega) []
    rw [List.append_nil] at this
    rw [this]; simp [freeR]
theorem take_line (N P n : Nat) (l : List (Int × Int)) (h : takeAll N l (List.replicate N false) = some (line P (N - P))) (hP : P ≤ N) (h1 : 1 ≤ n) (hn : n ≤ N - P) :
    takeAll N (l ++ [((P : Int), (n : Int))]) (List.replicate N false) = some (line (P + n) (N - (P + n))) := by
  rw [takeAll_append, h, Option.bind_some, takeAll, if_pos (by unfold Good; simp only; omega)]
  simp only [natR, Int.toNat_natCast]
  unfold line
  rw [mark_line n P (N - P) hn, Option.bind_some, takeAll, show N - P - n = N - (P + n) from by omega]

/-- The free runs lie in order, apart, and on free sectors alone. -/
theorem freeR_sorted : ∀ (t : List Bool) (i : Nat) (o : Option (Nat × Nat)), (∀ r, o = some r → r.1 + r.2 = i ∧ 1 ≤ r.2) → ∀ pos, pos ≤ (match o with | none => i | some r => r.1) → Sorted' pos (i + t.length) (freeR i o t)
  | [], i, none, _, pos, hp => by simpa [freeR, Sorted'] using hp
  | [], i, some r, ho, pos, hp => by
    obtain ⟨h1, h2⟩ := ho r rfl
    simp only at hp
    simp only [freeR, Sorted', List.length_nil, Nat.add_zero]
    omega
  | true :: t, i, none, ho, pos, hp => by
    have := freeR_sorted t (i + 1) none (by simp) pos (by simp only at hp ⊢; omega)
    rw [freeR, List.length_cons, show i + (t.length + 1) = i + 1 + t.length from by omega]
    exact this
  | true :: t, i, some r, ho, pos, hp => by
    obtain ⟨h1, h2⟩ := ho r rfl
    simp only at hp
    have := freeR_sorted t (i + 1) none (by simp) (r.1 + r.2) (by simp only; omega)
    rw [freeR, List.length_cons, show i + (t.length + 1) = i + 1 + t.length from by omega]
    exact ⟨hp, h2, by omega, this⟩
  | false :: t, i, none, ho, pos, hp => by
    have := freeR_sorted t (i + 1) (some (i, 1)) (by rintro _ ⟨⟩; simp) pos (by simp only at hp ⊢; omega)
    rw [freeR, List.length_cons, show i + (t.length + 1) = i + 1 + t.length from by omega]
    exact this
  | false :: t, i, some r, ho, pos, hp => by
    obtain ⟨h1, h2⟩ := ho r rfl
    simp only at hp
    have := freeR_sorted t (i + 1) (some (r.1, r.2 + 1)) (by rintro _ ⟨⟩; simp; omega) pos (by simp only; omega)
    rw [freeR, List.length_cons, show i + (t.length + 1) = i + 1 + t.length from by omega]
    exact this
theorem freeR_holds : ∀ (t : List Bool) (i : Nat) (o : Option (Nat × Nat)), (∀ r, o = some r → r.1 + r.2 = i) → ∀ k, holdsK (freeR i o t) k → (∃ r, o = some r ∧ r.1 ≤ k ∧ k < i) ∨ (i ≤ k ∧ t[k - i]? = some false)
  | [], i, none, _, k, h => by obtain ⟨r, hr, _⟩ := h; simp [freeR] at hr
  | [], i, some r, ho, k, h => by
    obtain ⟨x, hx, h1, h2⟩ := h
    obtain rfl : x = r := by simpa [freeR] using hx
    have := ho x rfl
    exact .inl ⟨x, rfl, h1, by omega⟩
  | true :: t, i, none, ho, k, h => by
    rw [freeR] at h
    rcases freeR_holds t (i + 1) none (by simp) k h with ⟨r, hr, _⟩ | ⟨h1, h2⟩
    · cases hr
    · exact .inr ⟨by omega, by rw [show k - i = (k - (i + 1)) + 1 from by omega]; simpa using h2⟩
  | true :: t, i, some r, ho, k, h => by
    rw [freeR] at h
    obtain ⟨x, hx, h1, h2⟩ := h
    rcases List.mem_cons.1 hx with rfl | hx
    · have := ho x rfl
      exact .inl ⟨x, rfl, h1, by omega⟩
    · rcases freeR_holds t (i + 1) none (by simp) k ⟨x, hx, h1, h2⟩ with ⟨r, hr, _⟩ | ⟨h1, h2⟩
      · cases hr
      · exact .inr ⟨by omega, by rw [show k - i = (k - (i + 1)) + 1 from by omega]; simpa using h2⟩
  | false :: t, i, none, ho, k, h => by
    rw [freeR] at h
    rcases freeR_holds t (i + 1) (some (i, 1)) (by rintro _ ⟨⟩; rfl) k h with ⟨r, hr, h1, h2⟩ | ⟨h1, h2⟩
    · cases hr
      simp only at h1
      obtain rfl : k = i := by omega
      exact .inr ⟨by omega, by simp⟩
    · exact .inr ⟨by omega, by rw [show k - i = (k - (i + 1)) + 1 from by omega]; simpa using h2⟩
  | false :: t, i, some r, ho, k, h => by
    rw [freeR] at h
    have h0 := ho r rfl
    rcases freeR_holds t (i + 1) (some (r.1, r.2 + 1)) (by rintro _ ⟨⟩; simp; omega) k h with ⟨x, hx, h1, h2⟩ | ⟨h1, h2⟩
    · cases hx
      simp only at h1
      by_cases hk : k = i
      · subst hk; exact .inr ⟨by omega, by simp⟩
      · exact .inl ⟨r, rfl, h1, by omega⟩
    · exact .inr ⟨by omega, by rw [show k - i = (k - (i + 1)) + 1 from by omega]; simpa using h2⟩
theorem freeL_sorted (t : List Bool) : Sorted' 0 t.length (freeL t) := by
  have := freeR_sorted t 0 none (by simp) 0 (Nat.le_refl _)
  rw [Nat.zero_add] at this
  exact this
theorem freeL_holds (t : List Bool) (k : Nat) (h : holdsK (freeL t) k) : t[k]? = some false := by
  rcases freeR_holds t 0 none (by simp) k h with ⟨_, h, _⟩ | ⟨_, h⟩
  · cases h
  · simpa using h

theorem natR_intR (l : List (Nat × Nat)) : (l.map intR).map natR = l := by
  rw [List.map_map]
  conv => rhs; rw [← List.map_id l]
  exact List.map_congr_left fun r _ => by simp [natR, intR]
theorem good_intR {t : List Bool} {r : Nat × Nat} (h : r ∈ freeL t) : Good t.length (intR r) := by
  have := freeL_in t r h
  unfold Good intR
  simp only; omega

/-- What is free taken, too: all is. -/
theorem take_free (t : List Bool) : takeAll t.length ((freeL t).map intR) t = some (List.replicate t.length true) := by
  have hf : ∀ r ∈ (freeL t).map intR, ∀ i, (natR r).1 ≤ i → i < (natR r).1 + (natR r).2 → t.getD i false = false := by
    intro r hr i h1 h2
    obtain ⟨x, hx, rfl⟩ := List.mem_map.1 hr
    have := freeL_holds t i ⟨x, hx, by simpa [natR, intR] using h1, by simpa [natR, intR] using h2⟩
    simp [List.getD, this]
  obtain ⟨t', ht⟩ := takeAll_ok ((freeL t).map intR) t.length t rfl (fun r hr => by obtain ⟨x, hx, rfl⟩ := List.mem_map.1 hr; exact good_intR hx) (by rw [natR_intR]; exact (freeL_sorted t).apart) hf
  rw [ht]
  have h1 := takeAll_count _ _ _ _ rfl ht
  rw [natR_intR, freeL_sum] at h1
  have h2 := (takeAll_some _ _ _ _ rfl ht).2.2.2.1
  congr 1
  refine List.eq_replicate_iff.2 ⟨h2, fun b hb => ?_⟩
  cases b with
  | true => rfl
  | false => have := List.count_pos_iff.2 hb; omega

/-- A run that is chosen among the free ones may be taken. -/
theorem take_chosen (N : Nat) (l : List (Int × Int)) (t : List Bool) (h : takeAll N l (List.replicate N false) = some t) (r : Nat × Nat) (hr : r ∈ freeL t) (n : Nat) (h1 : 1 ≤ n) (hn : n ≤ r.2) :
    ∃ t', takeAll N (l ++ [((r.1 : Int), (n : Int))]) (List.replicate N false) = some t' := by
  have hl : t.length = N := (takeAll_some _ _ _ _ (by simp) h).2.2.2.1
  have hin := freeL_in t r hr
  rw [takeAll_append, h, Option.bind_some]
  refine takeAll_ok _ N t hl (fun x hx => ?_) (by simp) (fun x hx i h2 h3 => ?_)
  · obtain rfl : x = ((r.1 : Int), (n : Int)) := by simpa using hx
    unfold Good; simp only; omega
  · obtain rfl : x = ((r.1 : Int), (n : Int)) := by simpa using hx
    simp only [natR, Int.toNat_natCast] at h2 h3
    have := freeL_holds t i ⟨r, hr, h2, by omega⟩
    simp [List.getD, this]
/-- Runs that are taken are no more than their sectors. -/
theorem taken_many (N : Nat) (l : List (Int × Int)) (t : List Bool) (h : takeAll N l (List.replicate N false) = some t) : l.length + t.count false ≤ N := by
  have h1 := takeAll_count _ _ _ _ (by simp) h
  have h2 := (takeAll_some _ _ _ _ (by simp) h).1
  rw [List.count_replicate_self] at h1
  have : l.length ≤ ((l.map natR).map (·.2)).sum := by
    clear h h1
    induction l with
    | nil => simp
    | cons x l ih =>
      have := (h2 x (by simp)).nat
      have := ih (fun r hr => h2 r (by simp [hr]))
      simp only [List.length_cons, List.map_cons, List.sum_cons]; omega
  omega

end Go.Proofs.Pk

/- Layer 5: where there is room, how much (mathematics; no reference) -/
namespace Go.Proofs.YtfbgagpihhbllaaGreatDoor
open Go.RowKit Go.Proofs Go.Proofs.Pk
set_option maxRecDepth 10000
attribute [local simp] mk_get wrap64_u8 mk_extract ByteArray.mk_append_mk get_1k

theorem flatR_length : ∀ F : List (Nat × Nat), (flatR F).length = F.length * 2
  | [] => rfl
  | x :: F => by have := flatR_length F; simp only [flatR, List.flatMap_cons, List.length_append, List.length_cons] at *; simp only [runN, List.length_cons, List.length_nil]; omega
theorem flatR_get : ∀ (F : List (Nat × Nat)) (k : Nat) (hk : k < F.length), (flatR F)[k * 2]? = some (.int .i64 (F[k].1 : Int)) ∧ (flatR F)[k * 2 + 1]? = some (.int .i64 (F[k].2 : Int))
  | x :: F, 0, _ => ⟨rfl, rfl⟩
  | x :: F, k + 1, hk => by
    have := flatR_get F k (by simpa using hk)
    simpa [flatR, runN, show (k + 1) * 2 = k * 2 + 1 + 1 from by omega] using this
theorem own_at {w : World} {B : Nat} {e : TypeId} {v : Value} {F : List (Nat × Nat)} (h : w.ownsRow B e 2 v F.length (flatR F)) :
    ∃ ad cap, v = .slice ad F.length cap ∧ ∀ k (hk : k < F.length), ∃ g, ad = some ⟨g, 0, none⟩ ∧ w.cell? ⟨g, k * 2, none⟩ = some (.int .i64 (F[k].1 : Int)) ∧ w.cell? ⟨g, k * 2 + 1, none⟩ = some (.int .i64 (F[k].2 : Int)) := by
  by_cases h0 : 0 < F.length
  · obtain ⟨g, cap, rfl, _, _⟩ := h.form h0
    exact ⟨_, _, rfl, fun k hk => ⟨g, rfl, by rw [h.cellAt _ (by omega)]; exact (flatR_get F k hk).1, by rw [h.cellAt _ (by omega)]; exact (flatR_get F k hk).2⟩⟩
  · rcases h.2 with ⟨rfl, hz⟩ | ⟨g, cap, cur, rfl, _⟩
    · exact ⟨none, 0, by rw [hz], fun k hk => by omega⟩
    · exact ⟨_, _, rfl, fun k hk => by omega⟩
/-- Where there is room: the place, the error. -/
def fitL : List (Nat × Nat) → Int → Int × Int
  | [], _ => (0, 7)
  | r :: l, n => if n ≤ (r.2 : Int) then ((r.1 : Int), 0) else fitL l n
def fitO (o : Option (List (Nat × Nat))) (n : Int) : Int × Int :=
  match o with
  | none => (0, 1)
  | some l => if n < 1 then (0, 1) else fitL l n
def roomL (l : List (Nat × Nat)) : Nat := (l.map (·.2)).sum
theorem roomL_succ (F : List (Nat × Nat)) (k : Nat) (hk : k < F.length) : roomL (F.take (k + 1)) = roomL (F.take k) + F[k].2 := by
  unfold roomL
  rw [List.take_succ_eq_append_getElem hk]
  simp only [List.map_append, List.sum_append, List.map_cons, List.map_nil, List.sum_cons, List.sum_nil, Nat.add_zero]
theorem roomL_le (F : List (Nat × Nat)) (k : Nat) : roomL (F.take k) ≤ roomL F := by
  have : roomL F = roomL (F.take k ++ F.drop k) := by rw [List.take_append_drop]
  rw [this]; unfold roomL; rw [List.map_append, List.sum_append]; omega

end Go.Proofs.YtfbgagpihhbllaaGreatDoor

/- Mathematics of layer 7 (volume): what makes a right root a right one. -/
namespace Go.Proofs.YtfbgagpihhbllaaGreatDoor
open Go.RowKit Go.Proofs Go.Proofs.Pk
set_option maxRecDepth 10000

theorem used_apart {N : Nat} {s n c : Int} {l : List FileV} (h : RightP N s n c l) (h18 : 18 ≤ N) : (∀ r ∈ (0, 18) :: usedF l, Pk.Good N r) ∧ (((0, 18) :: usedF l).map natR).Pairwise Apart ∧ l.length + 1 ≤ 200 ∧ N ≤ 4000 := by
  obtain ⟨N', e, hN, hg, hp⟩ := h.runs
  obtain rfl : N = N' := by omega
  refine ⟨fun r hr => ?_, ?_, by have := h.few; omega, hN⟩
  · rcases List.mem_cons.1 hr with rfl | hr
    · unfold Pk.Good; simp only; omega
    · exact hg r hr
  · rw [List.map_cons, List.pairwise_cons]
    refine ⟨fun x hx => ?_, hp⟩
    obtain ⟨r, hr, rfl⟩ := List.mem_map.1 hx
    unfold usedF at hr
    obtain ⟨f, hf, rfl⟩ := List.mem_map.1 hr
    have := (h.each f hf).2.2
    left; unfold natR; simp only; omega
theorem used_taken {N : Nat} {s n c : Int} {l : List FileV} (h : RightP N s n c l) (h18 : 18 ≤ N) : ∃ t, takeAll N ((0, 18) :: usedF l) (List.replicate N false) = some t ∧ t.length = N := by
  obtain ⟨h1, h2, _, _⟩ := used_apart h h18
  obtain ⟨t, ht⟩ := takeAll_ok _ N (List.replicate N false) (by simp) h1 h2 (fun r _ i _ _ => by simp only [List.getD, List.getElem?_replicate]; split <;> rfl)
  exact ⟨t, ht, (takeAll_some _ N _ t (by simp) ht).2.2.2.1⟩
theorem fitL_mem : ∀ (F : List (Nat × Nat)) (n a : Int), fitL F n = (a, 0) → ∃ r ∈ F, a = (r.1 : Int) ∧ n ≤ (r.2 : Int)
  | [], n, a, h => by simp [fitL] at h
  | r :: F, n, a, h => by
    rw [fitL] at h
    split at h
    · rename_i h1
      exact ⟨r, by simp, by have := congrArg Prod.fst h; exact this.symm, h1⟩
    · obtain ⟨x, hx, h2⟩ := fitL_mem F n a h
      exact ⟨x, by simp [hx], h2⟩
/-- A file made where there is room. -/
theorem right_make {N : Nat} {s n c a many : Int} {l : List FileV} (h : RightP N s n c l) (hs : s < 9007199254740991) (hn : n < 9007199254740991) (hl : l.length < 24) (h18 : 18 ≤ N) (hf : fitO ((takenO N ((0, 18) :: usedF l)).map freeL) many = (a, 0)) :
    RightP N (s + 1) (n + 1) c (l ++ [(n, a, many)]) := by
  obtain ⟨h1, h2, h3, h4⟩ := used_apart h h18
  obtain ⟨t, ht, htl⟩ := used_taken h h18
  rw [takenO_nat h4 (by simp [usedF]; omega), ht] at hf
  simp only [Option.map_some, fitO] at hf
  split at hf
  · simp at hf
  rename_i hm1
  obtain ⟨r, hr, rfl, hr2⟩ := fitL_mem _ _ _ hf
  obtain ⟨k, rfl⟩ := Int.eq_ofNat_of_zero_le (show 0 ≤ many by omega)
  obtain ⟨u, hu⟩ := take_chosen N _ t ht r hr k (by omega) (by omega)
  obtain ⟨g1, g2, _⟩ := takeAll_some _ N _ u (by simp) hu
  have hga : Pk.Good N ((r.1 : Int), (k : Int)) := g1 _ (by simp)
  rw [List.map_append, List.pairwise_append] at g2
  have hap : ∀ x ∈ ((0, 18) :: usedF l).map natR, Apart x (natR ((r.1 : Int), (k : Int))) := fun x hx => g2.2.2 x hx _ (by simp)
  have h18a : 18 ≤ r.1 := by
    have := hap (natR (0, 18)) (by simp)
    unfold Apart natR at this
    simp only at this
    omega
  obtain ⟨N', e, hN, hg, hp⟩ := h.runs
  obtain rfl : N = N' := by omega
  refine ⟨by have := h.aSeq; omega, by have := h.aNext; omega, by simp; omega, fun f hf => ?_, ?_, ?_, N, rfl, hN, fun x hx => ?_, ?_⟩
  · rcases List.mem_append.1 hf with hf | hf
    · have := h.each f hf; omega
    · simp only [List.mem_cons, List.not_mem_nil, or_false] at hf
      subst hf
      have := h.aNext
      simp only
      omega
  · rw [List.pairwise_append]
    refine ⟨h.up, by simp, fun f hf g hg => ?_⟩
    simp only [List.mem_cons, List.not_mem_nil, or_false] at hg
    subst hg
    exact (h.each f hf).2.1
  · rcases h.aCur with h0 | ⟨f, hf, h0⟩
    · exact .inl h0
    · exact .inr ⟨f, by simp [hf], h0⟩
  · rw [usedF_snoc] at hx
    rcases List.mem_append.1 hx with hx | hx
    · exact hg x hx
    · simp only [List.mem_cons, List.not_mem_nil, or_false] at hx
      subst hx; exact hga
  · rw [usedF_snoc, List.map_append, List.pairwise_append]
    refine ⟨hp, by simp, fun x hx y hy => ?_⟩
    simp only [List.map_cons, List.map_nil, List.mem_cons, List.not_mem_nil, or_false] at hy
    subst hy
    exact hap x (by rw [List.map_cons]; exact List.mem_cons_of_mem _ hx)
/-- Files dropped, but not the current one. -/
theorem right_drop {T s n c : Int} {l : List FileV} (h : RightP T s n c l) (hs : s < 9007199254740991) (P : FileV → Bool) (hc : ∀ f ∈ l, f.1 = c → P f = true) : RightP T (s + 1) n c (l.filter P) := by
  obtain ⟨N, e, hN, hg, hp⟩ := h.runs
  have hsub : (l.filter P).Sublist l := List.filter_sublist
  refine ⟨by have := h.aSeq; omega, h.aNext, Nat.le_trans (List.length_filter_le _ _) h.few, fun f hf => h.each f (List.mem_filter.1 hf).1, h.up.sublist hsub, ?_, N, e, hN, fun r hr => hg r ?_, ?_⟩
  · rcases h.aCur with h0 | ⟨f, hf, h0⟩
    · exact .inl h0
    · exact .inr ⟨f, List.mem_filter.2 ⟨hf, hc f hf h0⟩, h0⟩
  · unfold usedF at hr ⊢
    obtain ⟨f, hf, rfl⟩ := List.mem_map.1 hr
    exact List.mem_map_of_mem (List.mem_filter.1 hf).1
  · exact hp.sublist (by unfold usedF; exact (hsub.map _).map _)
/-- A file pointed at. -/
theorem right_point {T s n c i : Int} {l : List FileV} (h : RightP T s n c l) (hs : s < 9007199254740991) (hi : ∃ f ∈ l, f.1 = i) : RightP T (s + 1) n i l :=
  ⟨by have := h.aSeq; omega, h.aNext, h.few, h.each, h.up, .inr hi, h.runs⟩
/-- The root of a volume that is made. -/
theorem right_first {N : Nat} (h : N ≤ 4000) : RightP N 1 1 0 [] :=
  ⟨by omega, by omega, by simp, by simp, by simp, .inl rfl, N, rfl, h, by simp [usedF], by simp [usedF]⟩

end Go.Proofs.YtfbgagpihhbllaaGreatDoor
