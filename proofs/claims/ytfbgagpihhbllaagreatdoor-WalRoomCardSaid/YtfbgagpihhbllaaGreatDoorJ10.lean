/- CrM, VolM. -/
import Derived.Test.YtfbgagpihhbllaaGreatDoorJ04
import Derived.Test.YtfbgagpihhbllaaGreatDoorJ09

/- Mathematics of a crash: what it makes of the sectors, step by step. No program. -/
namespace Go.Proofs.Pk
set_option maxRecDepth 10000

theorem sec_in (L : List (List UInt8)) (d : List UInt8) {k : Nat} (h : k < L.length) : L.getD k d = L[k] := by simp [List.getD, h]
theorem crashL_append (ks : List Int) (t b : Int) : ∀ (A : List (Nat × List UInt8)) (L : List (List UInt8)) (i : Nat) (x : Nat × List UInt8), crashL ks t b L i (A ++ [x]) = crashOne ks t b (crashL ks t b L i A) (i + A.length) x
  | [], L, i, x => rfl
  | a :: A, L, i, x => by
    rw [List.cons_append, crashL, crashL_append ks t b A, crashL, List.length_cons, show i + 1 + A.length = i + (A.length + 1) from by omega]
theorem crashL_take (ks : List Int) (t b : Int) (L : List (List UInt8)) (C : List (Nat × List UInt8)) (j : Nat) (h : j < C.length) :
    crashL ks t b L 0 (C.take (j + 1)) = crashOne ks t b (crashL ks t b L 0 (C.take j)) j C[j] := by
  rw [List.take_succ_eq_append_getElem h, crashL_append, List.length_take, Nat.zero_add, Nat.min_eq_left (by omega)]
theorem crashOne_length (ks : List Int) (t b : Int) (L : List (List UInt8)) (i : Nat) (x : Nat × List UInt8) : (crashOne ks t b L i x).length = L.length := by
  unfold crashOne; repeat' split
  all_goals simp
theorem crashL_length (ks : List Int) (t b : Int) : ∀ (C : List (Nat × List UInt8)) (L : List (List UInt8)) (i : Nat), (crashL ks t b L i C).length = L.length
  | [], _, _ => rfl
  | x :: C, L, i => by rw [crashL, crashL_length ks t b C, crashOne_length]
theorem tear_length (x y : List UInt8) (b : Int) (hx : x.length = 64) (hy : y.length = 64) : (x.take (min (max b 0) 64).toNat ++ y.drop (min (max b 0) 64).toNat).length = 64 := by
  rw [List.length_append, List.length_take, List.length_drop]; omega
theorem crashOne_64 (ks : List Int) (t b : Int) {L : List (List UInt8)} (i : Nat) {x : Nat × List UInt8} (hL : ∀ s ∈ L, s.length = 64) (hx : x.1 < L.length ∧ x.2.length = 64) : ∀ s ∈ crashOne ks t b L i x, s.length = 64 := by
  intro s hs
  unfold crashOne at hs
  split at hs
  · rcases List.mem_or_eq_of_mem_set hs with h | rfl
    · exact hL s h
    · refine tear_length _ _ b hx.2 ?_
      rw [sec_in _ _ hx.1]; exact hL _ (List.getElem_mem _)
  · split at hs
    · rcases List.mem_or_eq_of_mem_set hs with h | rfl
      · exact hL s h
      · exact hx.2
    · exact hL s hs
theorem crashL_64 (ks : List Int) (t b : Int) : ∀ (C : List (Nat × List UInt8)) (L : List (List UInt8)) (i : Nat), (∀ s ∈ L, s.length = 64) → (∀ x ∈ C, x.1 < L.length ∧ x.2.length = 64) → ∀ s ∈ crashL ks t b L i C, s.length = 64
  | [], _, _, h, _ => h
  | x :: C, L, i, h, hc => by
    rw [crashL]
    exact crashL_64 ks t b C _ _ (crashOne_64 ks t b i h (hc x (by simp))) (fun y hy => by rw [crashOne_length]; exact hc y (by simp [hy]))

/-- What no write speaks of stays. -/
theorem syncL_other (k : Nat) : ∀ (C : List (Nat × List UInt8)) (L : List (List UInt8)), (∀ x ∈ C, x.1 ≠ k) → (syncL L C)[k]? = L[k]?
  | [], _, _ => rfl
  | x :: C, L, h => by
    show (syncL (L.set x.1 x.2) C)[k]? = _
    rw [syncL_other k C _ (fun y hy => h y (by simp [hy])), List.getElem?_set_ne (h x (by simp))]
theorem crashOne_other (ks : List Int) (t b : Int) (k : Nat) (L : List (List UInt8)) (i : Nat) (x : Nat × List UInt8) (h : x.1 ≠ k) : (crashOne ks t b L i x)[k]? = L[k]? := by
  unfold crashOne; repeat' split
  all_goals first | rw [List.getElem?_set_ne h] | rfl
theorem crashL_other (ks : List Int) (t b : Int) (k : Nat) : ∀ (C : List (Nat × List UInt8)) (L : List (List UInt8)) (i : Nat), (∀ x ∈ C, x.1 ≠ k) → (crashL ks t b L i C)[k]? = L[k]?
  | [], _, _, _ => rfl
  | x :: C, L, i, h => by rw [crashL, crashL_other ks t b k C _ _ (fun y hy => h y (by simp [hy])), crashOne_other ks t b k L i x (h x (by simp))]

/-- Each sector that a write speaks of is seen anew. -/
def seeL (D M : List (List UInt8)) (C : List (Nat × List UInt8)) : List (List UInt8) := C.foldl (fun M x => M.set x.1 (D.getD x.1 [])) M
theorem seeL_length (D : List (List UInt8)) : ∀ (C : List (Nat × List UInt8)) (M : List (List UInt8)), (seeL D M C).length = M.length
  | [], _ => rfl
  | x :: C, M => by show (seeL D (M.set x.1 (D.getD x.1 [])) C).length = _; rw [seeL_length D C]; simp
theorem seeL_take (D M : List (List UInt8)) (C : List (Nat × List UInt8)) (j : Nat) (h : j < C.length) : seeL D M (C.take (j + 1)) = (seeL D M (C.take j)).set (C[j]).1 (D.getD (C[j]).1 []) := by
  rw [List.take_succ_eq_append_getElem h]; unfold seeL; rw [List.foldl_append]; rfl
theorem seeL_64 {D : List (List UInt8)} (hD : ∀ x ∈ D, x.length = 64) : ∀ (C : List (Nat × List UInt8)) (M : List (List UInt8)), (∀ x ∈ C, x.1 < D.length) → (∀ x ∈ M, x.length = 64) → ∀ x ∈ seeL D M C, x.length = 64
  | [], _, _, h => h
  | y :: C, M, hc, h => by
    refine seeL_64 hD C (M.set y.1 (D.getD y.1 [])) (fun x hx => hc x (by simp [hx])) (fun x hx => ?_)
    rcases List.mem_or_eq_of_mem_set hx with hx | rfl
    · exact h x hx
    · rw [sec_in _ _ (hc y (by simp))]; exact hD _ (List.getElem_mem _)
theorem seeL_get (D : List (List UInt8)) (k : Nat) (hk : k < D.length) : ∀ (C : List (Nat × List UInt8)) (M : List (List UInt8)), M.length = D.length → ((∃ x ∈ C, x.1 = k) ∨ M[k]? = D[k]?) → (seeL D M C)[k]? = D[k]?
  | [], M, _, h => by
    rcases h with ⟨x, hx, _⟩ | h
    · cases hx
    · exact h
  | y :: C, M, hl, h => by
    refine seeL_get D k hk C (M.set y.1 (D.getD y.1 [])) (by simpa using hl) ?_
    by_cases e : y.1 = k
    · right; subst e; rw [List.getElem?_set_self (by omega), sec_in _ _ hk, List.getElem?_eq_getElem hk]
    · rw [List.getElem?_set_ne e]
      rcases h with ⟨x, hx, hxk⟩ | h
      · rcases List.mem_cons.1 hx with rfl | hx
        · exact absurd hxk e
        · exact .inl ⟨x, hx, hxk⟩
      · exact .inr h
/-- Behind a crash the sectors are seen as they last. -/
theorem seeL_crash (ks : List Int) (t b : Int) (L : List (List UInt8)) (C : List (Nat × List UInt8)) : seeL (crashL ks t b L 0 C) (syncL L C) C = crashL ks t b L 0 C := by
  apply List.ext_getElem?
  intro k
  have hD := crashL_length ks t b C L 0
  by_cases hk : k < L.length
  · refine seeL_get _ k (by rw [hD]; exact hk) C _ (by rw [syncL_length, hD]) ?_
    by_cases h : ∃ x ∈ C, x.1 = k
    · exact .inl h
    · have hne : ∀ x ∈ C, x.1 ≠ k := fun x hx e => h ⟨x, hx, e⟩
      exact .inr (by rw [syncL_other k C L hne, crashL_other ks t b k C L 0 hne])
  · rw [List.getElem?_eq_none (by rw [seeL_length, syncL_length]; omega), List.getElem?_eq_none (by rw [hD]; omega)]

/-- Numbers that a slice of int holds. -/
def Ints (w : World) (ad : Option Addr) (len : Nat) (l : List Int) : Prop :=
  l.length = len ∧ (l = [] ∨ ∃ b off, ad = some ⟨b, off, none⟩ ∧ b < w.heap.size ∧ ∀ i (h : i < l.length), w.cell? ⟨b, off + i, none⟩ = some (.int .i64 l[i]))
def IntsOff (X : Nat → Prop) (ad : Option Addr) : Prop := ∀ b off, ad = some ⟨b, off, none⟩ → ¬X b
theorem Ints.kept {w w' : World} {ad : Option Addr} {len : Nat} {l : List Int} {X : Nat → Prop} (h : Ints w ad len l) (hk : Kept X w w') (hx : l = [] ∨ IntsOff X ad) : Ints w' ad len l := by
  refine ⟨h.1, ?_⟩
  rcases h.2 with h | ⟨b, off, h1, h2, h3⟩
  · exact .inl h
  · rcases hx with hx | hx
    · exact .inl hx
    · exact .inr ⟨b, off, h1, Nat.lt_of_lt_of_le h2 hk.size, fun i hi => by rw [hk.cell (p := ⟨b, off + i, none⟩) h2 (hx b off h1)]; exact h3 i hi⟩
theorem odd_iff (x : Int) : (x.tmod 2 = 0) ↔ (x % 2 = 0) := by
  have := Int.tmod_eq_emod_of_nonneg (a := x) (b := 2)
  have h := Int.dvd_iff_tmod_eq_zero (a := 2) (b := x)
  have h2 := Int.dvd_iff_emod_eq_zero (a := 2) (b := x)
  exact h.symm.trans h2

theorem Dsk.sync_ok {S : Dsk} (h : S.Ok) : S.sync.1.Ok := by
  unfold Dsk.sync
  split
  · exact h
  · exact ⟨by simp only [syncL_length]; exact h.few, syncL_64 h.sect (fun x hx => (h.cach x hx).2), by simp, h.fus⟩
theorem Dsk.setFuse_ok {S : Dsk} (h : S.Ok) (n : Int) (hn : n ≤ 9223372036854775807) : (S.setFuse n).Ok :=
  ⟨h.few, h.sect, h.cach, by unfold Dsk.setFuse; simp only []; omega⟩
theorem Dsk.crash_ok {S : Dsk} (h : S.Ok) (ks : List Int) (t b : Int) : (S.crash ks t b).Ok :=
  ⟨by simp only [Dsk.crash, crashL_length]; exact h.few, crashL_64 ks t b _ _ _ h.sect h.cach, by simp [Dsk.crash], by simp [Dsk.crash]⟩
theorem Dsk.read_len {S : Dsk} (h : S.Ok) (k : Int) (hc : (S.read k).2 = 0) : (S.read k).1.length = 64 := by
  unfold Dsk.read at *
  split at hc
  · cases hc
  · rename_i ho
    split at hc
    · cases hc
    · rename_i hk
      rw [if_neg ho, if_neg hk]
      obtain ⟨n, rfl⟩ := Int.eq_ofNat_of_zero_le (show 0 ≤ k by omega)
      have hn : n < S.L.length := by omega
      have e := syncL_get S.L n hn S.C.length S.C rfl
      have h64 := syncL_64 h.sect (fun x hx => (h.cach x hx).2) ((syncL S.L S.C)[n]'(by rw [syncL_length]; exact hn)) (List.getElem_mem _)
      rw [List.getElem?_eq_getElem (by rw [syncL_length]; exact hn)] at e
      rw [Option.some.inj e] at h64
      simpa [List.getD, hn] using h64

end Go.Proofs.Pk

/- Mathematics of layer 7 (volume): a root laid, a volume opened, a crash between. -/
namespace Go.Proofs.YtfbgagpihhbllaaGreatDoor
open Go.RowKit Go.Proofs Go.Proofs.Pk
set_option maxRecDepth 10000

/-- A volume: its disk, its root, whether the power went. -/
structure Vol where
  D : Dsk
  R : RootN
  gone : Bool
def slotOf (s : Nat) : Nat := 9 * (s % 2)
def chunk (B : List UInt8) (i : Nat) : List UInt8 := (B.drop (64 * i)).take 64
def nch (z : Nat) : Nat := (z + 63) / 64
def rootBN (R : RootN) : List UInt8 := rootB R.1 R.2.1 R.2.2.1 R.2.2.2
def rightN (T : Int) (R : RootN) : Bool := rightV T R.1 R.2.1 R.2.2.1 (R.2.2.2.map fileI)
def chunksAt (a : Nat) (B : List UInt8) : List (Nat × List UInt8) := (List.range (nch B.length)).map fun i => (a + i, chunk B i)
/-- Writes one behind the other, up to the first error. -/
def writesL (S : Dsk) : List (Nat × List UInt8) → Dsk × Nat
  | [] => (S, 0)
  | x :: l => if (S.write x.1 x.2).2 ≠ 0 then S.write x.1 x.2 else writesL (S.write x.1 x.2).1 l
def failsV (V : Vol) (r : Dsk × Nat) : Vol × Nat := (if r.2 = 6 then ⟨r.1, rootZ, true⟩ else ⟨r.1, V.R, V.gone⟩, r.2)
/-- A root is stored: the volume, the error. -/
def layV (V : Vol) (R : RootN) : Vol × Nat :=
  let r1 := writesL V.D (chunksAt (slotOf R.1 + 1) (rootBN R))
  if r1.2 ≠ 0 then failsV V r1 else
  let r2 := r1.1.sync
  if r2.2 ≠ 0 then failsV V r2 else
  let r3 := r2.1.write (slotOf R.1 : Nat) (headB R.1 (rootBN R).length)
  if r3.2 ≠ 0 then failsV V r3 else
  let r4 := r3.1.sync
  if r4.2 ≠ 0 then failsV V r4 else (⟨r4.1, R, V.gone⟩, 0)
/-- The root of a slot, if it is valid. -/
def placeV (S : Dsk) (a : Nat) : Option RootN :=
  let x := rdHead (S.read a).1
  if x.2.2 ≠ 0 then none else
  let r := decV S.L.length (((List.range (nch x.2.1)).flatMap fun i => (S.read ((a + 1 + i : Nat) : Int)).1).take x.2.1)
  if r.2 = 0 ∧ r.1.1 = x.1 then some r.1 else none
def openV (S : Dsk) : Option RootN :=
  match placeV S 0, placeV S 9 with
  | none, none => none
  | some r, none => some r
  | none, some s => some s
  | some r, some s => if r.1 < s.1 then some s else some r

theorem slot_cases (s : Nat) : slotOf s = 0 ∧ slotOf (s + 1) = 9 ∨ slotOf s = 9 ∧ slotOf (s + 1) = 0 := by unfold slotOf; omega
theorem nch_le {z : Nat} (h : z ≤ 512) : nch z ≤ 8 := by unfold nch; omega
theorem chunk_le (B : List UInt8) (i : Nat) : (chunk B i).length ≤ 64 := by unfold chunk; rw [List.length_take]; omega
theorem chunk_succ (B : List UInt8) (i : Nat) : chunk B (i + 1) = chunk (B.drop 64) i := by unfold chunk; rw [List.drop_drop]; congr 2; omega
theorem chunks_join : ∀ (K : Nat) (B : List UInt8), B.length ≤ 64 * K → ((List.range K).flatMap fun i => padL (chunk B i)).take B.length = B
  | 0, B, h => by
    have : B = [] := List.length_eq_zero_iff.1 (by omega)
    subst this; rfl
  | K + 1, B, h => by
    rw [List.range_succ_eq_map, List.flatMap_cons, List.flatMap_map]
    have e : (fun i => padL (chunk B (Nat.succ i))) = fun i => padL (chunk (B.drop 64) i) := by funext i; rw [← chunk_succ]
    rw [e]
    by_cases hl : B.length ≤ 64
    · have h0 : chunk B 0 = B := by unfold chunk; rw [Nat.mul_zero, List.drop_zero, List.take_of_length_le hl]
      rw [h0, padL, List.append_assoc, List.take_left]
    · have h0 : chunk B 0 = B.take 64 := by unfold chunk; rw [Nat.mul_zero, List.drop_zero]
      have h64 : (B.take 64).length = 64 := by rw [List.length_take]; omega
      have hp : padL (B.take 64) = B.take 64 := by unfold padL; rw [h64]; simp
      have ih := chunks_join K (B.drop 64) (by rw [List.length_drop]; omega)
      rw [h0, hp, List.take_append, h64, List.take_of_length_le (by omega)]
      rw [List.length_drop] at ih
      rw [ih, List.take_append_drop]

theorem write_alive {S : Dsk} (h : S.off = false) (k : Nat) (hk : k < S.L.length) (s : List UInt8) (hs : s.length ≤ 64) :
    (S.fuse = 0 ∧ S.write k s = ({ S with off := true }, 6)) ∨ (S.fuse ≠ 0 ∧ S.write k s = ({ S with fuse := if 0 < S.fuse then S.fuse - 1 else S.fuse, n := S.n + 1, C := S.C ++ [(k, padL s)] }, 0)) := by
  unfold Dsk.write
  rw [if_neg (by simp [h]), if_neg (by omega), if_neg (by omega)]
  by_cases hf : S.fuse = 0
  · left; exact ⟨hf, by rw [if_pos hf]⟩
  · right; exact ⟨hf, by rw [if_neg hf]; rfl⟩
def padW (x : Nat × List UInt8) : Nat × List UInt8 := (x.1, padL x.2)
theorem writes_spec : ∀ (l : List (Nat × List UInt8)) (S : Dsk), S.Ok → S.off = false → (∀ x ∈ l, x.1 < S.L.length ∧ x.2.length ≤ 64) →
    (writesL S l).1.Ok ∧ (writesL S l).1.L = S.L ∧ (S.fuse < 0 → (writesL S l).2 = 0 ∧ (writesL S l).1.fuse < 0) ∧
    (((writesL S l).2 = 0 ∧ (writesL S l).1.off = false ∧ (writesL S l).1.C = S.C ++ l.map padW) ∨ ((writesL S l).2 = 6 ∧ (writesL S l).1.off = true ∧ ∃ j, (writesL S l).1.C = S.C ++ (l.take j).map padW))
  | [], S, hok, ho, _ => ⟨hok, rfl, fun h => ⟨rfl, h⟩, .inl ⟨rfl, ho, by simp [writesL]⟩⟩
  | x :: l, S, hok, ho, hl => by
    obtain ⟨hx1, hx2⟩ := hl x (by simp)
    have hw := Dsk.write_ok hok (x.1 : Int) x.2
    rcases write_alive ho x.1 hx1 x.2 hx2 with ⟨hf, e⟩ | ⟨hf, e⟩
    · rw [e] at hw
      have e2 : writesL S (x :: l) = ({ S with off := true }, 6) := by rw [writesL, e]; rfl
      rw [e2]
      exact ⟨hw, rfl, fun h => by omega, .inr ⟨rfl, rfl, 0, by simp⟩⟩
    · rw [e] at hw
      have e2 : writesL S (x :: l) = writesL { S with fuse := if 0 < S.fuse then S.fuse - 1 else S.fuse, n := S.n + 1, C := S.C ++ [(x.1, padL x.2)] } l := by rw [writesL, e]; rfl
      obtain ⟨a1, a2, a3, a4⟩ := writes_spec l _ hw ho (fun y hy => hl y (by simp [hy]))
      rw [e2]
      refine ⟨a1, a2, fun h => a3 (by simp only; omega), ?_⟩
      rcases a4 with ⟨b1, b2, b3⟩ | ⟨b1, b2, j, b3⟩
      · exact .inl ⟨b1, b2, by rw [b3]; simp [padW]⟩
      · exact .inr ⟨b1, b2, j + 1, by rw [b3]; simp [padW]⟩

/-- What lasts of a volume's root R, whatever becomes of the cache. -/
structure Safe (S : Dsk) (R : RootN) : Prop where
  ok : S.Ok
  room : 18 ≤ S.L.length
  right : rightN S.L.length R = true
  head : S.L[slotOf R.1]? = some (headB R.1 (rootBN R).length)
  text : ∀ i, i < nch (rootBN R).length → S.L[slotOf R.1 + 1 + i]? = some (padL (chunk (rootBN R) i))
  other : ∃ h, S.L[9 - slotOf R.1]? = some h ∧ ((rdHead h).2.2 = 0 → (rdHead h).1 < R.1)
  cache : ∀ x ∈ S.C, x.1 ≠ 9 - slotOf R.1 ∧ (x.1 < slotOf R.1 ∨ slotOf R.1 + 9 ≤ x.1)

theorem rootBN_len {T : Int} {R : RootN} (h : rightN T R = true) : (rootBN R).length ≤ 512 := root_len (T := T) h
/-- All sectors that count stay as they are. -/
theorem Safe.of_same {S S' : Dsk} {R : RootN} (h : Safe S R) (hok : S'.Ok) (hl : S'.L.length = S.L.length)
    (hs : ∀ k, (k = 9 - slotOf R.1 ∨ slotOf R.1 ≤ k ∧ k < slotOf R.1 + 9) → S'.L[k]? = S.L[k]?) (hc : ∀ x ∈ S'.C, x.1 ≠ 9 - slotOf R.1 ∧ (x.1 < slotOf R.1 ∨ slotOf R.1 + 9 ≤ x.1)) : Safe S' R := by
  have h8 := nch_le (rootBN_len h.right)
  refine ⟨hok, by rw [hl]; exact h.room, by rw [hl]; exact h.right, by rw [hs _ (.inr ⟨Nat.le_refl _, by omega⟩)]; exact h.head, fun i hi => by rw [hs _ (.inr ⟨by omega, by omega⟩)]; exact h.text i hi, ?_, hc⟩
  rw [hs _ (.inl rfl)]; exact h.other
theorem Safe.crash {S : Dsk} {R : RootN} (h : Safe S R) (ks : List Int) (t b : Int) : Safe (S.crash ks t b) R := by
  refine h.of_same (Dsk.crash_ok h.ok ks t b) (crashL_length ks t b _ _ _) (fun k hk => ?_) (fun x hx => by simp [Dsk.crash] at hx)
  exact crashL_other ks t b k _ _ _ (fun x hx e => by have := h.cache x hx; rcases hk with hk | hk <;> omega)
theorem Safe.sync {S : Dsk} {R : RootN} (h : Safe S R) (ho : S.off = false) : Safe S.sync.1 R := by
  have e : S.sync.1 = { S with L := syncL S.L S.C, C := [] } := by unfold Dsk.sync; rw [if_neg (by simp [ho])]
  have hk := Dsk.sync_ok h.ok
  rw [e] at hk ⊢
  refine h.of_same hk (syncL_length _ _) (fun k hk => ?_) (fun x hx => by simp at hx)
  exact syncL_other k _ _ (fun x hx e => by have := h.cache x hx; rcases hk with hk | hk <;> omega)

theorem read_calm {S : Dsk} (ho : S.off = false) (k : Nat) (v : List UInt8) (hv : S.L[k]? = some v) (hc : ∀ x ∈ S.C, x.1 ≠ k) : S.read k = (v, 0) := by
  obtain ⟨hk, rfl⟩ := List.getElem?_eq_some_iff.1 hv
  rw [Dsk.read_ok ho k hk]
  have : lastW S.C k = none := by
    unfold lastW
    rw [List.find?_eq_none.2 (fun x hx => by simpa using hc x (by simpa using hx))]; rfl
  rw [this]; rfl
theorem place_mine {S : Dsk} {R : RootN} (h : Safe S R) (ho : S.off = false) : placeV S (slotOf R.1) = some R := by
  have hB := rootBN_len h.right
  have h8 := nch_le hB
  obtain ⟨r1, r2, _⟩ := rightV_iff h.right
  have hhd := read_calm ho _ _ h.head (fun x hx e => by have := h.cache x hx; omega)
  have hrd : rdHead (headB R.1 (rootBN R).length) = (R.1, (rootBN R).length, 0) := head_read _ _ (by omega) (by unfold MaxN; omega) hB
  have hj : ((List.range (nch (rootBN R).length)).flatMap fun i => (S.read ((slotOf R.1 + 1 + i : Nat) : Int)).1) = (List.range (nch (rootBN R).length)).flatMap fun i => padL (chunk (rootBN R) i) := by
    rw [List.flatMap_def, List.flatMap_def]
    congr 1
    apply List.map_congr_left
    intro i hi
    have hi := List.mem_range.1 hi
    rw [read_calm ho _ _ (h.text i hi) (fun x hx e => by have := h.cache x hx; omega)]
  have hd : decV S.L.length (rootBN R) = (R, 0) := dec_root (T := (S.L.length : Int)) h.right
  unfold placeV
  simp only [hhd, hrd, hj]
  rw [chunks_join _ _ (by unfold nch; omega), hd]
  simp
theorem place_other {S : Dsk} {R : RootN} (h : Safe S R) (ho : S.off = false) : placeV S (9 - slotOf R.1) = none ∨ ∃ r, placeV S (9 - slotOf R.1) = some r ∧ r.1 < R.1 := by
  obtain ⟨hd, e1, e2⟩ := h.other
  have hr := read_calm ho _ _ e1 (fun x hx => (h.cache x hx).1)
  unfold placeV
  simp only [hr]
  by_cases hz : (rdHead hd).2.2 = 0
  · rw [if_neg (by simpa using hz)]
    split
    · rename_i h1
      exact .inr ⟨_, rfl, by rw [h1.2]; exact e2 hz⟩
    · exact .inl rfl
  · exact .inl (by rw [if_pos hz])
/-- A volume is opened with its root. -/
theorem open_safe {S : Dsk} {R : RootN} (h : Safe S R) (ho : S.off = false) : openV S = some R := by
  have h1 := place_mine h ho
  have h2 := place_other h ho
  unfold openV
  rcases slot_cases R.1 with ⟨e, _⟩ | ⟨e, _⟩
  · rw [e] at h1 h2
    rw [h1]
    rcases h2 with h2 | ⟨r, h2, h3⟩
    · rw [h2]
    · rw [h2]; simp only; rw [if_neg (by omega)]
  · rw [e] at h1 h2
    rw [h1]
    rcases h2 with h2 | ⟨r, h2, h3⟩
    · rw [show (9 - 9 : Nat) = 0 from rfl] at h2; rw [h2]
    · rw [show (9 - 9 : Nat) = 0 from rfl] at h2; rw [h2]; simp only; rw [if_pos h3]

theorem sync_row (a : Nat) (v : Nat → List UInt8) : ∀ (K : Nat) (L : List (List UInt8)), a + K ≤ L.length → ∀ i, i < K → (syncL L ((List.range K).map fun i => (a + i, v i)))[a + i]? = some (v i)
  | 0, _, _, i, hi => by omega
  | K + 1, L, hl, i, hi => by
    rw [List.range_succ, List.map_append, List.map_cons, List.map_nil, syncL_snoc, List.getElem?_set]
    by_cases h : i = K
    · subst h; rw [if_pos rfl, if_pos (by rw [syncL_length]; omega)]
    · rw [if_neg (by simp only; omega)]
      exact sync_row a v K L (by omega) i (by omega)
theorem syncL_append (L : List (List UInt8)) (C E : List (Nat × List UInt8)) : syncL L (C ++ E) = syncL (syncL L C) E := by simp [syncL]
theorem chunks_in {a : Nat} {B : List UInt8} (hB : B.length ≤ 512) : ∀ x ∈ chunksAt a B, a ≤ x.1 ∧ x.1 < a + 8 ∧ x.2.length ≤ 64 := by
  intro x hx
  unfold chunksAt at hx
  obtain ⟨i, hi, rfl⟩ := List.mem_map.1 hx
  have := List.mem_range.1 hi
  have := nch_le hB
  exact ⟨by simp only; omega, by simp only; omega, chunk_le _ _⟩
theorem chunks_pad (a : Nat) (B : List UInt8) : (chunksAt a B).map padW = (List.range (nch B.length)).map fun i => (a + i, padL (chunk B i)) := by
  unfold chunksAt; rw [List.map_map]; rfl
theorem sync_on {S : Dsk} (ho : S.off = false) : S.sync = ({ S with L := syncL S.L S.C, C := [] }, 0) := by unfold Dsk.sync; rw [if_neg (by simp [ho])]

/-- What a store leaves. -/
theorem lay_safe {V : Vol} {R' : RootN} (h : Safe V.D V.R) (ho : V.D.off = false) (hg : V.gone = false) (hr : rightN V.D.L.length R' = true) (hs : R'.1 = V.R.1 + 1) (hC : ∀ x ∈ V.D.C, 18 ≤ x.1) :
    ((layV V R').2 = 0 ∧ (layV V R').1.R = R' ∧ (layV V R').1.gone = false ∧ (layV V R').1.D.off = false ∧ Safe (layV V R').1.D R' ∧ (layV V R').1.D.C = [] ∧ (layV V R').1.D.L.length = V.D.L.length ∧ (V.D.fuse < 0 → (layV V R').1.D.fuse < 0)) ∨
    ((layV V R').2 = 6 ∧ (layV V R').1.R = rootZ ∧ (layV V R').1.gone = true ∧ (layV V R').1.D.off = true ∧ Safe (layV V R').1.D V.R ∧ (layV V R').1.D.L.length = V.D.L.length ∧ 0 ≤ V.D.fuse) := by
  have hB := rootBN_len hr
  have h8 := nch_le hB
  have hroom := h.room
  obtain ⟨q1, q2, _⟩ := rightV_iff h.right
  have hsl : slotOf V.R.1 = 9 - slotOf R'.1 ∧ (slotOf R'.1 = 0 ∨ slotOf R'.1 = 9) := by have := slot_cases V.R.1; rw [hs]; omega
  obtain ⟨hsl, h09⟩ := hsl
  have hin := chunks_in (a := slotOf R'.1 + 1) hB
  obtain ⟨ok1, l1, f1, c1⟩ := writes_spec (chunksAt (slotOf R'.1 + 1) (rootBN R')) V.D h.ok ho (fun x hx => by have := hin x hx; omega)
  have hcache : ∀ x, (x ∈ V.D.C ∨ ∃ y ∈ chunksAt (slotOf R'.1 + 1) (rootBN R'), x = padW y) → x.1 ≠ 9 - slotOf V.R.1 ∧ (x.1 < slotOf V.R.1 ∨ slotOf V.R.1 + 9 ≤ x.1) := by
    rintro x (hx | ⟨y, hy, rfl⟩)
    · have := hC x hx; omega
    · have := hin y hy; simp only [padW]; omega
  unfold layV
  generalize hW : writesL V.D (chunksAt (slotOf R'.1 + 1) (rootBN R')) = r1 at *
  rcases c1 with ⟨e1, o1, C1⟩ | ⟨e1, o1, j, C1⟩
  · have safe1 : Safe r1.1 V.R := h.of_same ok1 (by rw [l1]) (fun k _ => by rw [l1]) (fun x hx => by
      rw [C1] at hx
      rcases List.mem_append.1 hx with hx | hx
      · exact hcache x (.inl hx)
      · obtain ⟨y, hy, rfl⟩ := List.mem_map.1 hx; exact hcache _ (.inr ⟨y, hy, rfl⟩))
    have safe2 := safe1.sync o1
    have hsy := sync_on o1
    have ok2 := Dsk.sync_ok ok1
    simp only [e1, ne_eq, not_true_eq_false, if_false, hsy]
    rw [hsy] at safe2 ok2
    have hh64 : (headB R'.1 (rootBN R').length).length = 64 := headB_length _ _
    have hlen2 : (syncL r1.1.L r1.1.C).length = V.D.L.length := by rw [syncL_length, l1]
    rcases write_alive (S := { r1.1 with L := syncL r1.1.L r1.1.C, C := [] }) o1 (slotOf R'.1) (by simp only; rw [hlen2]; omega) (headB R'.1 (rootBN R').length) (by omega) with ⟨hf, e3⟩ | ⟨hf, e3⟩
    · right
      have hok := Dsk.write_ok ok2 (slotOf R'.1 : Int) (headB R'.1 (rootBN R').length)
      rw [e3] at hok
      rw [e3]
      rw [if_pos (by simp)]
      unfold failsV
      rw [if_pos rfl]
      refine ⟨rfl, rfl, rfl, rfl, safe2.of_same hok rfl (fun _ _ => rfl) (fun x hx => by simp at hx), hlen2, ?_⟩
      rcases Int.lt_or_le V.D.fuse 0 with hneg | hge
      · have := (f1 hneg).2; simp only at hf; omega
      · exact hge
    · left
      have hok := Dsk.write_ok ok2 (slotOf R'.1 : Int) (headB R'.1 (rootBN R').length)
      rw [e3] at hok
      have hok4 := Dsk.sync_ok hok
      rw [e3]
      have hs4 := sync_on (S := { r1.1 with L := syncL r1.1.L r1.1.C, C := [] ++ [(slotOf R'.1, padL (headB R'.1 (rootBN R').length))], fuse := if 0 < r1.1.fuse then r1.1.fuse - 1 else r1.1.fuse, n := r1.1.n + 1 }) o1
      simp only at hs4 hok4 ⊢
      rw [hs4] at hok4
      rw [hs4]
      simp only [ne_eq, not_true_eq_false, if_false]
      have hpad : padL (headB R'.1 (rootBN R').length) = headB R'.1 (rootBN R').length := by unfold padL; rw [hh64]; simp
      have hset : syncL (syncL r1.1.L r1.1.C) ([] ++ [(slotOf R'.1, padL (headB R'.1 (rootBN R').length))]) = (syncL r1.1.L r1.1.C).set (slotOf R'.1) (headB R'.1 (rootBN R').length) := by rw [hpad]; rfl
      have hl4 : ((syncL r1.1.L r1.1.C).set (slotOf R'.1) (headB R'.1 (rootBN R').length)).length = V.D.L.length := by rw [List.length_set, hlen2]
      rw [hset] at hok4
      rw [hset]
      refine ⟨by first | trivial | rfl, by first | trivial | rfl, hg, o1, ⟨hok4, by rw [hl4]; exact hroom, by rw [hl4]; exact hr, ?_, fun i hi => ?_, ⟨headB V.R.1 (rootBN V.R).length, ?_, fun _ => ?_⟩, fun x hx => by simp at hx⟩, by first | trivial | rfl, hl4, fun hneg => ?_⟩
      · rw [List.getElem?_set_self (by rw [hlen2]; omega)]
      · rw [List.getElem?_set_ne (by omega), C1, l1, syncL_append, chunks_pad]
        exact sync_row _ _ _ _ (by rw [syncL_length]; omega) i hi
      · rw [List.getElem?_set_ne (by omega), ← hsl]; exact safe2.head
      · rw [head_read _ _ (by omega) (by unfold MaxN; omega) (rootBN_len h.right)]; show V.R.1 < R'.1; omega
      · have := (f1 hneg).2
        rw [if_neg (by omega)]; exact this
  · right
    have safe1 : Safe r1.1 V.R := h.of_same ok1 (by rw [l1]) (fun k _ => by rw [l1]) (fun x hx => by
      rw [C1] at hx
      rcases List.mem_append.1 hx with hx | hx
      · exact hcache x (.inl hx)
      · obtain ⟨y, hy, rfl⟩ := List.mem_map.1 hx; exact hcache _ (.inr ⟨y, List.mem_of_mem_take hy, rfl⟩))
    rw [if_pos (by simp [e1])]
    unfold failsV
    rw [e1, if_pos rfl]
    refine ⟨rfl, rfl, rfl, o1, safe1, by simp [l1], ?_⟩
    rcases Int.lt_or_le V.D.fuse 0 with hneg | hge
    · have := (f1 hneg).1; omega
    · exact hge

end Go.Proofs.YtfbgagpihhbllaaGreatDoor
