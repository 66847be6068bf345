/- Deed7, VolF, VolG. -/
import Derived.Test.YtfbgagpihhbllaaGreatDoorJ10
import Derived.Test.YtfbgagpihhbllaaGreatDoorProg
import Derived.Test.YtfbgagpihhbllaaGreatDoorJ11

/- A deed of layer 7 among a law's arguments. -/
namespace Go.Proofs.YtfbgagpihhbllaaGreatDoor
open Go.RowKit Go.Proofs Go.Proofs.Pk
set_option maxRecDepth 10000

/-- A deed: what kind; numbers; a text; picks. -/
structure DeedW where
  kind : Int
  a : Int
  b : Int
  s : List UInt8
  kad : Option Addr
  klen : Nat
  kcap : Nat
  ks : List Int
def dcW (u : DeedW) : List Value := [.int .i64 u.kind, .int .i64 u.a, .int .i64 u.b, .string ⟨u.s.toArray⟩, .slice u.kad u.klen u.kcap]
def FitI (n : Int) : Prop := -9223372036854775808 ≤ n ∧ n ≤ 9223372036854775807
/-- A deed among the arguments. -/
structure DeedWAt (w : World) (b o : Nat) (u : DeedW) : Prop where
  row : w.rangeAt b o (dcW u)
  keeps : Ints w u.kad u.klen u.ks
  fit : FitI u.kind
  fita : FitI u.a
  fitb : FitI u.b
  long : (u.s.length : Int) ≤ 9223372036854775807
def DeedsW (w : World) (ad : Option Addr) (len : Nat) (l : List DeedW) : Prop :=
  l.length = len ∧ (l = [] ∨ ∃ b off, ad = some ⟨b, off, none⟩ ∧ b < w.heap.size ∧ ∀ i (h : i < l.length), DeedWAt w b (off + i * 5) l[i])

end Go.Proofs.YtfbgagpihhbllaaGreatDoor

/- Mathematics of layer 7 (volume): what each call does, and a deed of the laws'. -/
namespace Go.Proofs.YtfbgagpihhbllaaGreatDoor
open Go.RowKit Go.Proofs Go.Proofs.Pk
set_option maxRecDepth 10000

/-- Where there is room for a file. -/
def fitV (V : Vol) (many : Int) : Int × Int := fitO ((takenO V.D.L.length ((0, 18) :: usedF (V.R.2.2.2.map fileI))).map freeL) many
def laidV (r : Vol × Nat) : Vol × Nat × Bool := (r.1, r.2, decide (r.2 ≠ 0))
/-- Make: the volume, the ID, the error, whether it came from the disk. -/
def makeV (V : Vol) (many : Int) : Vol × Nat × Nat × Bool :=
  if V.gone = true then (V, 0, 6, false) else
  if many < 1 then (V, 0, 1, false) else
  if 24 ≤ V.R.2.2.2.length ∨ (fitV V many).2 ≠ 0 then (V, 0, 7, false) else
  if V.R.1 = MaxN ∨ V.R.2.1 = MaxN then (V, 0, 5, false) else
  let r := layV V (V.R.1 + 1, V.R.2.1 + 1, V.R.2.2.1, V.R.2.2.2 ++ [(V.R.2.1, (fitV V many).1.toNat, many.toNat)])
  if r.2 ≠ 0 then (r.1, 0, r.2, true) else (r.1, V.R.2.1, 0, false)
/-- Drop of one file: the volume, the error, whether it came from the disk. -/
def isFile (R : RootN) (id : Int) : Bool := R.2.2.2.any fun f => decide ((f.1 : Int) = id)
def dropV (V : Vol) (ids : List Int) : Vol × Nat × Bool :=
  if V.gone = true then (V, 6, false) else
  if ids.all (isFile V.R) = false ∨ ¬ids.Nodup then (V, 8, false) else
  if (V.R.2.2.1 : Int) ∈ ids then (V, 1, false) else
  if ids = [] then (V, 0, false) else
  if V.R.1 = MaxN then (V, 5, false) else
  laidV (layV V (V.R.1 + 1, V.R.2.1, V.R.2.2.1, V.R.2.2.2.filter fun f => decide ((f.1 : Int) ∉ ids)))
def pointV (V : Vol) (id : Int) : Vol × Nat × Bool :=
  if V.gone = true then (V, 6, false) else
  if isFile V.R id = false then (V, 8, false) else
  if V.R.1 = MaxN then (V, 5, false) else
  laidV (layV V (V.R.1 + 1, V.R.2.1, id.toNat, V.R.2.2.2))
/-- A file's sector: the disk's, the error. -/
def sectorV (V : Vol) (id k : Int) : Int × Nat :=
  if V.gone = true then (0, 6) else
  match V.R.2.2.2.find? fun f => decide ((f.1 : Int) = id) with
  | none => (0, 8)
  | some f => if k < 0 ∨ (f.2.2 : Int) ≤ k then (0, 1) else ((f.2.1 : Int) + k, 0)
/-- An error of the disk: behind a power cut the volume is dead. -/
def cameV (V : Vol) (r : Dsk × Nat) : Vol × Nat × Bool := ((if r.2 = 6 then ⟨r.1, rootZ, true⟩ else ⟨r.1, V.R, V.gone⟩), r.2, decide (r.2 ≠ 0))
def writeV (V : Vol) (id k : Int) (s : List UInt8) : Vol × Nat × Bool :=
  if (sectorV V id k).2 ≠ 0 then (V, (sectorV V id k).2, false) else cameV V (V.D.write (sectorV V id k).1 s)

/-- A volume that lives: what is on its disk is its root. -/
structure Alive (V : Vol) : Prop where
  gone : V.gone = false
  off : V.D.off = false
  safe : Safe V.D V.R
  cache : ∀ x ∈ V.D.C, 18 ≤ x.1
/-- What becomes of a living volume: it lives on, with this root; or the power is gone, and its disk has still its root. -/
structure Goes (V V' : Vol) (R' : RootN) : Prop where
  size : V'.D.L.length = V.D.L.length
  fate : (Alive V' ∧ V'.R = R' ∧ (V.D.fuse < 0 → V'.D.fuse < 0)) ∨ (V'.gone = true ∧ V'.D.off = true ∧ V'.R = rootZ ∧ Safe V'.D V.R ∧ 0 ≤ V.D.fuse)
theorem Goes.stay {V : Vol} (h : Alive V) : Goes V V V.R := ⟨rfl, .inl ⟨h, rfl, fun h => h⟩⟩
theorem lay_goes {V : Vol} {R' : RootN} (h : Alive V) (hr : rightN V.D.L.length R' = true) (hs : R'.1 = V.R.1 + 1) : Goes V (layV V R').1 R' ∧ ((layV V R').2 = 0 ↔ (layV V R').1.gone = false) ∧ ((layV V R').2 = 0 ∨ (layV V R').2 = 6) := by
  rcases lay_safe h.safe h.off h.gone hr hs h.cache with ⟨a1, a2, a3, a4, a5, a6, a7, a8⟩ | ⟨a1, a2, a3, a4, a5, a6, a7⟩
  · exact ⟨⟨a7, .inl ⟨⟨a3, a4, by rw [a2]; exact a5, fun x hx => by rw [a6] at hx; simp at hx⟩, a2, a8⟩⟩, by rw [a1, a3]; simp, .inl a1⟩
  · exact ⟨⟨a6, .inr ⟨a3, a4, a2, a5, a7⟩⟩, by rw [a1, a3]; simp, .inr a1⟩
theorem right_p {T : Int} {R : RootN} : rightN T R = true ↔ RightP T R.1 R.2.1 R.2.2.1 (R.2.2.2.map fileI) := right_prop ..

/-- The root that Make makes, if any. -/
def makeR (T : Nat) (R : RootN) (many : Int) : RootN :=
  if many < 1 ∨ 24 ≤ R.2.2.2.length ∨ (fitO ((takenO T ((0, 18) :: usedF (R.2.2.2.map fileI))).map freeL) many).2 ≠ 0 ∨ R.1 = MaxN ∨ R.2.1 = MaxN then R
  else (R.1 + 1, R.2.1 + 1, R.2.2.1, R.2.2.2 ++ [(R.2.1, (fitO ((takenO T ((0, 18) :: usedF (R.2.2.2.map fileI))).map freeL) many).1.toNat, many.toNat)])
theorem make_goes {V : Vol} (h : Alive V) (many : Int) : Goes V (makeV V many).1 (makeR V.D.L.length V.R many) := by
  unfold makeV makeR
  rw [if_neg (by simp [h.gone])]
  by_cases h1 : many < 1
  · rw [if_pos h1, if_pos (.inl h1)]; exact Goes.stay h
  rw [if_neg h1]
  by_cases h2 : 24 ≤ V.R.2.2.2.length ∨ (fitV V many).2 ≠ 0
  · rw [if_pos h2, if_pos (by unfold fitV at h2; rcases h2 with h2 | h2 <;> simp [h2])]; exact Goes.stay h
  rw [if_neg h2]
  by_cases h3 : V.R.1 = MaxN ∨ V.R.2.1 = MaxN
  · rw [if_pos h3, if_pos (by rcases h3 with h3 | h3 <;> simp [h3])]; exact Goes.stay h
  rw [if_neg h3]
  have h2a : ¬24 ≤ V.R.2.2.2.length := fun h => h2 (.inl h)
  have h2b : (fitV V many).2 = 0 := by
    rcases Decidable.em ((fitV V many).2 = 0) with h | h
    · exact h
    · exact absurd (.inr h) h2
  rw [if_neg (c := many < 1 ∨ 24 ≤ V.R.2.2.2.length ∨ (fitO ((takenO V.D.L.length ((0, 18) :: usedF (V.R.2.2.2.map fileI))).map freeL) many).2 ≠ 0 ∨ V.R.1 = MaxN ∨ V.R.2.1 = MaxN) (by unfold fitV at h2b; rw [not_or, not_or, not_or, not_or]; exact ⟨h1, h2a, fun h => h h2b, fun h => h3 (.inl h), fun h => h3 (.inr h)⟩)]
  have hp := right_p.1 h.safe.right
  have hm := hp.aSeq
  have hn := hp.aNext
  have h3' : V.R.1 < MaxN ∧ V.R.2.1 < MaxN := by unfold MaxN at *; omega
  unfold MaxN at h3'
  have hfit : fitO ((takenO V.D.L.length ((0, 18) :: usedF (V.R.2.2.2.map fileI))).map freeL) many = ((fitV V many).1, 0) := by
    show fitV V many = _
    rw [← h2b]
  have hmk := right_make hp (by omega) (by omega) (by rw [List.length_map]; omega) h.safe.room hfit
  have ha : (18 : Int) ≤ (fitV V many).1 := (hmk.each (V.R.2.1, (fitV V many).1, many) (by simp)).2.2
  have hr : rightN V.D.L.length (V.R.1 + 1, V.R.2.1 + 1, V.R.2.2.1, V.R.2.2.2 ++ [(V.R.2.1, (fitV V many).1.toNat, many.toNat)]) = true := by
    rw [right_p]
    have e1 : (((fitV V many).1.toNat : Nat) : Int) = (fitV V many).1 := by omega
    have e2 : ((many.toNat : Nat) : Int) = many := by omega
    simp only [List.map_append, List.map_cons, List.map_nil, fileI, e1, e2]
    have : ((V.R.1 + 1 : Nat) : Int) = (V.R.1 : Int) + 1 := by omega
    rw [this]
    have : ((V.R.2.1 + 1 : Nat) : Int) = (V.R.2.1 : Int) + 1 := by omega
    rw [this]
    exact hmk
  have hl := (lay_goes h hr rfl).1
  simp only
  split
  · exact hl
  · exact hl
theorem isFile_iff {R : RootN} {id : Int} : isFile R id = true ↔ ∃ f ∈ R.2.2.2, (f.1 : Int) = id := by unfold isFile; simp [List.any_eq_true]
def pointR (R : RootN) (id : Int) : RootN := if isFile R id = false ∨ R.1 = MaxN then R else (R.1 + 1, R.2.1, id.toNat, R.2.2.2)
theorem point_goes {V : Vol} (h : Alive V) (id : Int) : Goes V (pointV V id).1 (pointR V.R id) := by
  unfold pointV pointR
  rw [if_neg (by simp [h.gone])]
  by_cases h1 : isFile V.R id = false
  · rw [if_pos h1, if_pos (.inl h1)]; exact Goes.stay h
  rw [if_neg h1]
  by_cases h2 : V.R.1 = MaxN
  · rw [if_pos h2, if_pos (.inr h2)]; exact Goes.stay h
  rw [if_neg h2, if_neg (by simp [h1, h2])]
  obtain ⟨f, hf, he⟩ := isFile_iff.1 (by simpa using h1)
  have hp := right_p.1 h.safe.right
  have hm := hp.aSeq
  have h2' : V.R.1 < MaxN := by unfold MaxN at *; omega
  unfold MaxN at h2'
  have hk := right_point (i := id) hp (by omega) ⟨fileI f, List.mem_map_of_mem hf, he⟩
  refine (lay_goes h ?_ rfl).1
  rw [right_p]
  have : ((V.R.1 + 1 : Nat) : Int) = (V.R.1 : Int) + 1 := by omega
  simp only [this]
  rw [show ((id.toNat : Nat) : Int) = id from by omega]
  exact hk
def dropR (R : RootN) (ids : List Int) : RootN :=
  if ids.all (isFile R) = false ∨ ¬ids.Nodup ∨ (R.2.2.1 : Int) ∈ ids ∨ ids = [] ∨ R.1 = MaxN then R else (R.1 + 1, R.2.1, R.2.2.1, R.2.2.2.filter fun f => decide ((f.1 : Int) ∉ ids))
theorem drop_goes {V : Vol} (h : Alive V) (ids : List Int) : Goes V (dropV V ids).1 (dropR V.R ids) := by
  unfold dropV dropR
  rw [if_neg (by simp [h.gone])]
  by_cases h1 : ids.all (isFile V.R) = false ∨ ¬ids.Nodup
  · rw [if_pos h1, if_pos (by rcases h1 with h1 | h1 <;> simp [h1])]; exact Goes.stay h
  rw [if_neg h1]
  by_cases h2 : (V.R.2.2.1 : Int) ∈ ids
  · rw [if_pos h2, if_pos (by simp [h2])]; exact Goes.stay h
  rw [if_neg h2]
  by_cases h3 : ids = []
  · rw [if_pos h3, if_pos (by simp [h3])]; exact Goes.stay h
  rw [if_neg h3]
  by_cases h4 : V.R.1 = MaxN
  · rw [if_pos h4, if_pos (by simp [h4])]; exact Goes.stay h
  rw [if_neg h4, if_neg (by
    rintro (a | a | a | a | a)
    · exact h1 (.inl a)
    · exact h1 (.inr a)
    · exact h2 a
    · exact h3 a
    · exact h4 a)]
  have hp := right_p.1 h.safe.right
  have hm := hp.aSeq
  have h4' : V.R.1 < MaxN := by unfold MaxN at *; omega
  unfold MaxN at h4'
  have hk := right_drop hp (by omega) (fun f => decide (f.1 ∉ ids)) (fun f _ he => by rw [he]; simpa using h2)
  refine (lay_goes h ?_ rfl).1
  rw [right_p]
  have : ((V.R.1 + 1 : Nat) : Int) = (V.R.1 : Int) + 1 := by omega
  simp only [this]
  rw [List.filter_map] at hk
  exact hk
/-- A text written into a file. -/
theorem write_goes {V : Vol} (h : Alive V) (id k : Int) (s : List UInt8) (hs : s.length ≤ 64) : Goes V (writeV V id k s).1 V.R := by
  unfold writeV
  by_cases h1 : (sectorV V id k).2 ≠ 0
  · rw [if_pos h1]; exact Goes.stay h
  rw [if_neg h1]
  have hp := right_p.1 h.safe.right
  obtain ⟨N, e, hN, hg, _⟩ := hp.runs
  obtain ⟨j, hj, hj2⟩ : ∃ j : Nat, (sectorV V id k).1 = (j : Int) ∧ 18 ≤ j ∧ j < V.D.L.length := by
    unfold sectorV at h1 ⊢
    rw [if_neg (by simp [h.gone])] at h1 ⊢
    cases hfi : V.R.2.2.2.find? (fun f => decide ((f.1 : Int) = id)) with
    | none => rw [hfi] at h1; simp at h1
    | some f =>
      rw [hfi] at h1
      simp only at h1 ⊢
      split at h1
      · simp at h1
      rename_i hk
      rw [if_neg hk]
      have hf := List.mem_of_find?_eq_some hfi
      have ha := (hp.each (fileI f) (List.mem_map_of_mem hf)).2.2
      have hG := hg (fileI f).2 (by unfold usedF; exact List.mem_map_of_mem (List.mem_map_of_mem hf))
      unfold fileI at ha hG
      unfold Pk.Good at hG
      simp only at ha hG
      exact ⟨f.2.1 + k.toNat, by simp only; omega, by omega, by omega⟩
  rw [hj]
  rcases write_alive h.off j hj2.2 s hs with ⟨hf, e⟩ | ⟨hf, e⟩
  · have hok := Dsk.write_ok h.safe.ok (j : Int) s
    rw [e] at hok
    rw [e]
    simp only [cameV]
    refine ⟨rfl, .inr ⟨rfl, rfl, rfl, h.safe.of_same hok rfl (fun _ _ => rfl) h.safe.cache, by omega⟩⟩
  · have hok := Dsk.write_ok h.safe.ok (j : Int) s
    rw [e] at hok
    rw [e]
    simp only [cameV]
    have hsl : slotOf V.R.1 = 0 ∨ slotOf V.R.1 = 9 := by have := slot_cases V.R.1; omega
    refine ⟨rfl, .inl ⟨⟨h.gone, h.off, h.safe.of_same hok rfl (fun _ _ => rfl) (fun x hx => ?_), fun x hx => ?_⟩, rfl, fun hn => ?_⟩⟩
    · rcases List.mem_append.1 hx with hx | hx
      · exact h.safe.cache x hx
      · simp only [List.mem_cons, List.not_mem_nil, or_false] at hx
        subst hx; simp only; omega
    · rcases List.mem_append.1 hx with hx | hx
      · exact h.cache x hx
      · simp only [List.mem_cons, List.not_mem_nil, or_false] at hx
        subst hx; exact hj2.1
    · show (if 0 < V.D.fuse then V.D.fuse - 1 else V.D.fuse) < 0
      rw [if_neg (by omega)]; exact hn

end Go.Proofs.YtfbgagpihhbllaaGreatDoor

/- Mathematics of layer 7 (volume): a volume made on a disk of zero bytes; a deed of the laws'. -/
namespace Go.Proofs.YtfbgagpihhbllaaGreatDoor
open Go.RowKit Go.Proofs Go.Proofs.Pk
set_option maxRecDepth 10000

/-- A root stored where none need be, on a disk without a fuse. -/
theorem lay_first {V : Vol} {R' : RootN} (ok : V.D.Ok) (ho : V.D.off = false) (hg : V.gone = false) (hroom : 18 ≤ V.D.L.length) (hr : rightN V.D.L.length R' = true) (hC : ∀ x ∈ V.D.C, 18 ≤ x.1) (hf : V.D.fuse < 0)
    (hoth : ∃ h, V.D.L[9 - slotOf R'.1]? = some h ∧ ((rdHead h).2.2 = 0 → (rdHead h).1 < R'.1)) :
    (layV V R').2 = 0 ∧ (layV V R').1.R = R' ∧ Alive (layV V R').1 ∧ (layV V R').1.D.L.length = V.D.L.length ∧ (layV V R').1.D.fuse < 0 := by
  have hB := rootBN_len hr
  have h8 := nch_le hB
  have h09 : slotOf R'.1 = 0 ∨ slotOf R'.1 = 9 := by have := slot_cases R'.1; omega
  have hin := chunks_in (a := slotOf R'.1 + 1) hB
  obtain ⟨ok1, l1, f1, c1⟩ := writes_spec (chunksAt (slotOf R'.1 + 1) (rootBN R')) V.D ok ho (fun x hx => by have := hin x hx; omega)
  have f2 := f1 hf
  unfold layV
  generalize hW : writesL V.D (chunksAt (slotOf R'.1 + 1) (rootBN R')) = r1 at *
  rcases c1 with ⟨e1, o1, C1⟩ | ⟨e1, _⟩
  · have hsy := sync_on o1
    have ok2 := Dsk.sync_ok ok1
    simp only [e1, ne_eq, not_true_eq_false, if_false, hsy]
    rw [hsy] at ok2
    have hh64 : (headB R'.1 (rootBN R').length).length = 64 := headB_length _ _
    have hlen2 : (syncL r1.1.L r1.1.C).length = V.D.L.length := by rw [syncL_length, l1]
    rcases write_alive (S := { r1.1 with L := syncL r1.1.L r1.1.C, C := [] }) o1 (slotOf R'.1) (by simp only; rw [hlen2]; omega) (headB R'.1 (rootBN R').length) (by omega) with ⟨hf3, _⟩ | ⟨_, e3⟩
    · simp only at hf3; omega
    · have hok := Dsk.write_ok ok2 (slotOf R'.1 : Int) (headB R'.1 (rootBN R').length)
      rw [e3] at hok
      have hok4 := Dsk.sync_ok hok
      rw [e3]
      have hs4 := sync_on (S := { r1.1 with L := syncL r1.1.L r1.1.C, C := [] ++ [(slotOf R'.1, padL (headB R'.1 (rootBN R').length))], fuse := if 0 < r1.1.fuse then r1.1.fuse - 1 else r1.1.fuse, n := r1.1.n + 1 }) o1
      simp only at hs4 hok4 ⊢
      rw [hs4] at hok4
      rw [hs4]
      simp only [ne_eq, not_true_eq_false, if_false]
      have hpad : padL (headB R'.1 (rootBN R').length) = headB R'.1 (rootBN R').length := by unfold padL; rw [hh64]; simp
      have hset : syncL (syncL r1.1.L r1.1.C) ([] ++ [(slotOf R'.1, padL (headB R'.1 (rootBN R').length))]) = (syncL r1.1.L r1.1.C).set (slotOf R'.1) (headB R'.1 (rootBN R').length) := by rw [hpad]; rfl
      have hl4 : ((syncL r1.1.L r1.1.C).set (slotOf R'.1) (headB R'.1 (rootBN R').length)).length = V.D.L.length := by rw [List.length_set, hlen2]
      rw [hset] at hok4
      rw [hset]
      obtain ⟨hd, hd1, hd2⟩ := hoth
      refine ⟨by first | trivial | rfl, by first | trivial | rfl, ⟨hg, o1, ⟨hok4, by rw [hl4]; exact hroom, by rw [hl4]; exact hr, ?_, fun i hi => ?_, ⟨hd, ?_, hd2⟩, fun x hx => by simp at hx⟩, fun x hx => by simp at hx⟩, hl4, ?_⟩
      · rw [List.getElem?_set_self (by rw [hlen2]; omega)]
      · show ((syncL r1.1.L r1.1.C).set (slotOf R'.1) _)[slotOf R'.1 + 1 + i]? = _
        rw [List.getElem?_set_ne (by omega), C1, l1, syncL_append, chunks_pad]
        exact sync_row _ _ _ _ (by rw [syncL_length]; omega) i hi
      · show ((syncL r1.1.L r1.1.C).set (slotOf R'.1) _)[9 - slotOf R'.1]? = _
        rw [List.getElem?_set_ne (by omega), syncL_other _ _ _ (fun x hx => ?_), l1]
        · exact hd1
        · rw [C1] at hx
          rcases List.mem_append.1 hx with hx | hx
          · have := hC x hx; omega
          · obtain ⟨y, hy, rfl⟩ := List.mem_map.1 hx
            have := hin y hy
            simp only [padW]; omega
      · have := f2.2
        rw [if_neg (by omega)]; exact this
  · exact absurd f2.1 (by rw [e1]; decide)

/-- Format, as far as the disk answers nothing but that the power went. -/
def formatV (S : Dsk) : Vol × Nat :=
  let r0 := S.write 0 []
  if r0.2 ≠ 0 then (⟨r0.1, rootZ, false⟩, r0.2) else
  let r1 := r0.1.write 9 []
  if r1.2 ≠ 0 then (⟨r1.1, rootZ, false⟩, r1.2) else
  let r2 := r1.1.sync
  if r2.2 ≠ 0 then (⟨r2.1, rootZ, false⟩, r2.2) else layV ⟨r2.1, rootZ, false⟩ (1, 1, 0, [])
theorem rdHead_zero : (rdHead (padL [])).2.2 = 3 := by decide +kernel
theorem format_new {N : Nat} (h18 : 18 ≤ N) (hN : N ≤ 4000) : (formatV (Dsk.new N)).2 = 0 ∧ (formatV (Dsk.new N)).1.R = (1, 1, 0, []) ∧ Alive (formatV (Dsk.new N)).1 ∧ (formatV (Dsk.new N)).1.D.L.length = N ∧ (formatV (Dsk.new N)).1.D.fuse < 0 := by
  have ok0 := Dsk.new_ok N hN
  have hl0 : (Dsk.new N).L.length = N := by simp [Dsk.new]
  rcases write_alive (S := Dsk.new N) rfl 0 (by omega) [] (by simp) with ⟨hf, _⟩ | ⟨_, e0⟩
  · simp [Dsk.new] at hf
  have ok1 := Dsk.write_ok ok0 (0 : Int) []
  rw [show ((0 : Nat) : Int) = 0 from rfl] at e0
  unfold formatV
  rw [e0] at ok1
  simp only [e0, ne_eq, not_true_eq_false, if_false]
  rcases write_alive (S := { Dsk.new N with fuse := if 0 < (Dsk.new N).fuse then (Dsk.new N).fuse - 1 else (Dsk.new N).fuse, n := (Dsk.new N).n + 1, C := (Dsk.new N).C ++ [(0, padL [])] }) rfl 9 (by simp only; omega) [] (by simp) with ⟨hf, _⟩ | ⟨_, e1⟩
  · simp [Dsk.new] at hf
  have ok2 := Dsk.write_ok ok1 (9 : Int) []
  rw [show ((9 : Nat) : Int) = 9 from rfl] at e1
  simp only at ok2
  rw [e1] at ok2
  simp only [e1, not_true_eq_false, if_false]
  have ok3 := Dsk.sync_ok ok2
  rw [sync_on (by rfl)] at ok3
  rw [sync_on (by rfl)]
  simp only [ne_eq, not_true_eq_false, if_false]
  have hlen : (syncL (List.replicate N (List.replicate 64 0)) ([] ++ [(0, padL [])] ++ [(9, padL [])])).length = N := by rw [syncL_length]; simp
  have hs : slotOf ((1, 1, 0, []) : RootN).1 = 9 := rfl
  have hgoal := lay_first (V := ⟨{ L := syncL (List.replicate N (List.replicate 64 0)) ([] ++ [(0, padL [])] ++ [(9, padL [])]), C := [], fuse := -1, off := false, n := 2 }, rootZ, false⟩) (R' := (1, 1, 0, []))
    (by simpa [Dsk.new] using ok3) rfl rfl (by simp only; omega) (by simp only; rw [hlen, right_p]; exact right_first hN) (fun x hx => by simp at hx) (by simp) ⟨padL [], by
      rw [hs]
      show (syncL _ _)[0]? = _
      simp [syncL, List.getElem?_set]; omega, fun h => by rw [rdHead_zero] at h; simp at h⟩
  obtain ⟨a1, a2, a3, a4, a5⟩ := hgoal
  exact ⟨a1, a2, a3, a4.trans hlen, a5⟩

end Go.Proofs.YtfbgagpihhbllaaGreatDoor
