/- VolH, VolI, WalM. -/
import Derived.Test.YtfbgagpihhbllaaGreatDoorJ12

/- Mathematics of layer 7 (volume): a deed of the laws'; a crash; what a file holds. -/
namespace Go.Proofs.YtfbgagpihhbllaaGreatDoor
open Go.RowKit Go.Proofs Go.Proofs.Pk
set_option maxRecDepth 10000

/-- Which of n things a raw number speaks of. -/
def pickN (c : Int) (n : Nat) : Nat := (if c < 0 then -(c + 1) else c).toNat % n
theorem pickN_lt (c : Int) {n : Nat} (h : 0 < n) : pickN c n < n := Nat.mod_lt _ h
/-- A deed. -/
def actV (V : Vol) (u : DeedW) : Vol :=
  if pickN u.kind 4 = 0 then (makeV V (1 + (pickN u.a 9 : Nat))).1 else
  match V.R.2.2.2[pickN u.a V.R.2.2.2.length]? with
  | none => V
  | some f =>
    if pickN u.kind 4 = 1 then (dropV V [(f.1 : Int)]).1 else
    if pickN u.kind 4 = 2 then (pointV V (f.1 : Int)).1 else
    if f.2.2 < 1 then V else (writeV V (f.1 : Int) (pickN u.b f.2.2 : Nat) (u.s.take 64)).1
def actR (T : Nat) (R : RootN) (u : DeedW) : RootN :=
  if pickN u.kind 4 = 0 then makeR T R (1 + (pickN u.a 9 : Nat)) else
  match R.2.2.2[pickN u.a R.2.2.2.length]? with
  | none => R
  | some f =>
    if pickN u.kind 4 = 1 then dropR R [(f.1 : Int)] else
    if pickN u.kind 4 = 2 then pointR R (f.1 : Int) else R
theorem act_goes {V : Vol} (h : Alive V) (u : DeedW) : Goes V (actV V u) (actR V.D.L.length V.R u) := by
  unfold actV actR
  by_cases h0 : pickN u.kind 4 = 0
  · rw [if_pos h0, if_pos h0]; exact make_goes h _
  rw [if_neg h0, if_neg h0]
  cases hf : V.R.2.2.2[pickN u.a V.R.2.2.2.length]? with
  | none => exact Goes.stay h
  | some f =>
    simp only
    by_cases h1 : pickN u.kind 4 = 1
    · rw [if_pos h1, if_pos h1]; exact drop_goes h _
    rw [if_neg h1, if_neg h1]
    by_cases h2 : pickN u.kind 4 = 2
    · rw [if_pos h2, if_pos h2]; exact point_goes h _
    rw [if_neg h2, if_neg h2]
    by_cases h3 : f.2.2 < 1
    · rw [if_pos h3]; exact Goes.stay h
    rw [if_neg h3]
    exact write_goes h _ _ _ (by rw [List.length_take]; omega)
/-- Behind a crash the root is there. -/
theorem open_crash {S : Dsk} {R : RootN} (h : Safe S R) (ks : List Int) (t b : Int) : openV (S.crash ks t b) = some R := open_safe (h.crash ks t b) rfl

/-- What a sector reads as. -/
def seenAt (S : Dsk) (k : Nat) : Option (List UInt8) := (syncL S.L S.C)[k]?
theorem read_seen {S : Dsk} (ho : S.off = false) (k : Nat) (v : List UInt8) (h : seenAt S k = some v) : S.read k = (v, 0) := by
  unfold seenAt at h
  have hk : k < S.L.length := by have := (List.getElem?_eq_some_iff.1 h).1; rwa [syncL_length] at this
  rw [syncL_get S.L k hk _ S.C rfl] at h
  rw [Dsk.read_ok ho k hk]
  rw [Option.some.inj h]
theorem seen_sync {S : Dsk} (ho : S.off = false) (k : Nat) : seenAt S.sync.1 k = seenAt S k := by rw [sync_on ho]; rfl
theorem seen_more {S S' : Dsk} (l : List (Nat × List UInt8)) (hL : S'.L = S.L) (hC : S'.C = S.C ++ l) (k : Nat) (hl : ∀ x ∈ l, x.1 ≠ k) : seenAt S' k = seenAt S k := by
  unfold seenAt; rw [hL, hC, syncL_append]; exact syncL_other k l _ hl
theorem lay_seen {V : Vol} {R' : RootN} (h : Safe V.D V.R) (ho : V.D.off = false) (hr : rightN V.D.L.length R' = true) (k : Nat) (hk : 18 ≤ k) (hz : (layV V R').2 = 0) : seenAt (layV V R').1.D k = seenAt V.D k := by
  have hB := rootBN_len hr
  have hroom := h.room
  have h09 : slotOf R'.1 = 0 ∨ slotOf R'.1 = 9 := by have := slot_cases R'.1; omega
  have hin := chunks_in (a := slotOf R'.1 + 1) hB
  obtain ⟨ok1, l1, f1, c1⟩ := writes_spec (chunksAt (slotOf R'.1 + 1) (rootBN R')) V.D h.ok ho (fun x hx => by have := hin x hx; omega)
  unfold layV at hz ⊢
  generalize hW : writesL V.D (chunksAt (slotOf R'.1 + 1) (rootBN R')) = r1 at *
  rcases c1 with ⟨e1, o1, C1⟩ | ⟨e1, _⟩
  · have hs1 : seenAt r1.1 k = seenAt V.D k := seen_more _ l1 C1 k (fun x hx => by
      obtain ⟨y, hy, rfl⟩ := List.mem_map.1 hx
      have := hin y hy
      simp only [padW]; omega)
    have hs2 := seen_sync o1 k
    have hsy := sync_on o1
    rw [hsy] at hs2
    simp only [e1, ne_eq, not_true_eq_false, if_false, hsy] at hz ⊢
    have hlen2 : (syncL r1.1.L r1.1.C).length = V.D.L.length := by rw [syncL_length, l1]
    rcases write_alive (S := { r1.1 with L := syncL r1.1.L r1.1.C, C := [] }) o1 (slotOf R'.1) (by simp only; rw [hlen2]; omega) (headB R'.1 (rootBN R').length) (by rw [headB_length]; omega) with ⟨_, e3⟩ | ⟨_, e3⟩
    · rw [e3] at hz
      simp [failsV] at hz
    · rw [e3] at hz ⊢
      have hs4 := sync_on (S := { r1.1 with L := syncL r1.1.L r1.1.C, C := [] ++ [(slotOf R'.1, padL (headB R'.1 (rootBN R').length))], fuse := if 0 < r1.1.fuse then r1.1.fuse - 1 else r1.1.fuse, n := r1.1.n + 1 }) o1
      have hs5 := seen_sync (S := { r1.1 with L := syncL r1.1.L r1.1.C, C := [] ++ [(slotOf R'.1, padL (headB R'.1 (rootBN R').length))], fuse := if 0 < r1.1.fuse then r1.1.fuse - 1 else r1.1.fuse, n := r1.1.n + 1 }) o1 k
      have hs6 := seen_more (S := { r1.1 with L := syncL r1.1.L r1.1.C, C := [] }) (S' := { r1.1 with L := syncL r1.1.L r1.1.C, C := [] ++ [(slotOf R'.1, padL (headB R'.1 (rootBN R').length))], fuse := if 0 < r1.1.fuse then r1.1.fuse - 1 else r1.1.fuse, n := r1.1.n + 1 }) [(slotOf R'.1, padL (headB R'.1 (rootBN R').length))] rfl rfl k (fun x hx => by
        simp only [List.mem_cons, List.not_mem_nil, or_false] at hx
        subst hx; simp only; omega)
      simp only at hs4 ⊢
      rw [hs4] at hs5 ⊢
      simp only [ne_eq, not_true_eq_false, if_false]
      exact hs5.trans (hs6.trans (hs2.trans hs1))
  · simp only [e1, ne_eq] at hz
    simp [failsV, e1] at hz

end Go.Proofs.YtfbgagpihhbllaaGreatDoor

/- Mathematics of layer 7 (volume): a file keeps what it holds. -/
namespace Go.Proofs.YtfbgagpihhbllaaGreatDoor
open Go.RowKit Go.Proofs Go.Proofs.Pk
set_option maxRecDepth 10000

theorem files_apart {T s n c : Int} {fs : List FileN} (hp : RightP T s n c (fs.map fileI)) {f g : FileN} (hf : f ∈ fs) (hg : g ∈ fs) (hne : g.1 ≠ f.1) : f.2.1 + f.2.2 ≤ g.2.1 ∨ g.2.1 + g.2.2 ≤ f.2.1 := by
  obtain ⟨N, e, hN, hG, hA⟩ := hp.runs
  have e1 : (usedF (fs.map fileI)).map natR = fs.map fun f => (f.2.1, f.2.2) := by
    unfold usedF
    rw [List.map_map, List.map_map]
    apply List.map_congr_left
    intro f _
    simp [fileI, natR]
  rw [e1, List.pairwise_map, List.pairwise_iff_getElem] at hA
  obtain ⟨i, hi, rfl⟩ := List.getElem_of_mem hf
  obtain ⟨j, hj, rfl⟩ := List.getElem_of_mem hg
  have hij : i ≠ j := fun h => by subst h; exact hne rfl
  rcases Nat.lt_or_gt_of_ne hij with h | h
  · have := hA i j hi hj h; unfold Apart at this; simp only at this; omega
  · have := hA j i hj hi h; unfold Apart at this; simp only at this; omega
theorem lay_zero {V : Vol} {R' : RootN} (h : Alive V) (hr : rightN V.D.L.length R' = true) (hs : R'.1 = V.R.1 + 1) (hf : V.D.fuse < 0) : (layV V R').2 = 0 := by
  rcases lay_safe h.safe h.off h.gone hr hs h.cache with ⟨a1, _⟩ | ⟨_, _, _, _, _, _, a7⟩
  · exact a1
  · omega
/-- What a living volume without a fuse has behind a store: its sectors from 18 on. -/
theorem lay_keeps {V : Vol} {R' : RootN} (h : Alive V) (hr : rightN V.D.L.length R' = true) (hs : R'.1 = V.R.1 + 1) (hf : V.D.fuse < 0) (k : Nat) (hk : 18 ≤ k) : seenAt (layV V R').1.D k = seenAt V.D k :=
  lay_seen h.safe h.off hr k hk (lay_zero h hr hs hf)
/-- Each call's new root is a right one, one more in its number; else nothing is stored. -/
theorem make_seen {V : Vol} (h : Alive V) (hf : V.D.fuse < 0) (many : Int) (k : Nat) (hk : 18 ≤ k) : seenAt (makeV V many).1.D k = seenAt V.D k := by
  have hg := make_goes h many
  unfold makeV at hg ⊢
  split
  · rfl
  split
  · rfl
  split
  · rfl
  split
  · rfl
  rename_i h0 h1 h2 h3
  have hp := right_p.1 h.safe.right
  have hm := hp.aSeq
  have hn := hp.aNext
  have h3' : V.R.1 < MaxN ∧ V.R.2.1 < MaxN := by unfold MaxN at *; omega
  unfold MaxN at h3'
  have h2a : ¬24 ≤ V.R.2.2.2.length := fun h => h2 (.inl h)
  have h2b : (fitV V many).2 = 0 := by
    rcases Decidable.em ((fitV V many).2 = 0) with h | h
    · exact h
    · exact absurd (.inr h) h2
  have hfit : fitO ((takenO V.D.L.length ((0, 18) :: usedF (V.R.2.2.2.map fileI))).map freeL) many = ((fitV V many).1, 0) := by
    show fitV V many = _
    rw [← h2b]
  have hmk := right_make hp (by omega) (by omega) (by rw [List.length_map]; omega) h.safe.room hfit
  have ha : (18 : Int) ≤ (fitV V many).1 := (hmk.each (V.R.2.1, (fitV V many).1, many) (by simp)).2.2
  have hr : rightN V.D.L.length (V.R.1 + 1, V.R.2.1 + 1, V.R.2.2.1, V.R.2.2.2 ++ [(V.R.2.1, (fitV V many).1.toNat, many.toNat)]) = true := by
    rw [right_p]
    have e1 : (((fitV V many).1.toNat : Nat) : Int) = (fitV V many).1 := by omega
    have e2 : ((many.toNat : Nat) : Int) = many := by omega
    simp only [List.map_append, List.map_cons, List.map_nil, fileI, e1, e2]
    have : ((V.R.1 + 1 : Nat) : Int) = (V.R.1 : Int) + 1 := by omega
    rw [this]
    have : ((V.R.2.1 + 1 : Nat) : Int) = (V.R.2.1 : Int) + 1 := by omega
    rw [this]
    exact hmk
  have hl := lay_keeps h hr rfl hf k hk
  simp only
  split
  · exact hl
  · exact hl
theorem point_seen {V : Vol} (h : Alive V) (hf : V.D.fuse < 0) (id : Int) (k : Nat) (hk : 18 ≤ k) : seenAt (pointV V id).1.D k = seenAt V.D k := by
  unfold pointV
  split
  · rfl
  split
  · rfl
  split
  · rfl
  rename_i h0 h1 h2
  obtain ⟨f, hfm, he⟩ := isFile_iff.1 (by simpa using h1)
  have hp := right_p.1 h.safe.right
  have hm := hp.aSeq
  have h2' : V.R.1 < MaxN := by unfold MaxN at *; omega
  unfold MaxN at h2'
  have hk' := right_point (i := id) hp (by omega) ⟨fileI f, List.mem_map_of_mem hfm, he⟩
  refine lay_keeps h ?_ rfl hf k hk
  rw [right_p]
  have : ((V.R.1 + 1 : Nat) : Int) = (V.R.1 : Int) + 1 := by omega
  simp only [this]
  rw [show ((id.toNat : Nat) : Int) = id from by omega]
  exact hk'
theorem drop_seen {V : Vol} (h : Alive V) (hf : V.D.fuse < 0) (ids : List Int) (k : Nat) (hk : 18 ≤ k) : seenAt (dropV V ids).1.D k = seenAt V.D k := by
  unfold dropV
  split
  · rfl
  split
  · rfl
  split
  · rfl
  split
  · rfl
  split
  · rfl
  rename_i h0 h1 h2 h3 h4
  have hp := right_p.1 h.safe.right
  have hm := hp.aSeq
  have h4' : V.R.1 < MaxN := by unfold MaxN at *; omega
  unfold MaxN at h4'
  have hk' := right_drop hp (by omega) (fun f => decide (f.1 ∉ ids)) (fun f _ he => by rw [he]; simpa using h2)
  refine lay_keeps h ?_ rfl hf k hk
  rw [right_p]
  have : ((V.R.1 + 1 : Nat) : Int) = (V.R.1 : Int) + 1 := by omega
  simp only [this]
  rw [List.filter_map] at hk'
  exact hk'
/-- A text goes into its file's sector, and no other. -/
theorem write_seen {V : Vol} (h : Alive V) (hf : V.D.fuse < 0) (g : FileN) (hg : g ∈ V.R.2.2.2) (j : Nat) (hj : j < g.2.2) (s : List UInt8) (hs : s.length ≤ 64) :
    (∀ k, k ≠ g.2.1 + j → seenAt (writeV V (g.1 : Int) (j : Int) s).1.D k = seenAt V.D k) ∧ seenAt (writeV V (g.1 : Int) (j : Int) s).1.D (g.2.1 + j) = some (padL s) ∧ (writeV V (g.1 : Int) (j : Int) s).2.1 = 0 := by
  have hp := right_p.1 h.safe.right
  obtain ⟨N, e, hN, hG, _⟩ := hp.runs
  have hfind : V.R.2.2.2.find? (fun f => decide ((f.1 : Int) = (g.1 : Int))) = some g := by
    have hex : ∃ x, V.R.2.2.2.find? (fun f => decide ((f.1 : Int) = (g.1 : Int))) = some x := by
      cases hc : V.R.2.2.2.find? (fun f => decide ((f.1 : Int) = (g.1 : Int))) with
      | some x => exact ⟨x, rfl⟩
      | none => have := List.find?_eq_none.1 hc g hg; simp at this
    obtain ⟨x, hx⟩ := hex
    have h1 : (x.1 : Int) = (g.1 : Int) := by simpa using List.find?_some hx
    have h2 := List.mem_of_find?_eq_some hx
    obtain ⟨i, hi, rfl⟩ := List.getElem_of_mem h2
    obtain ⟨i', hi', rfl⟩ := List.getElem_of_mem hg
    have hup := hp.up
    rw [List.pairwise_map, List.pairwise_iff_getElem] at hup
    rcases Nat.lt_trichotomy i i' with h3 | h3 | h3
    · have := hup i i' hi hi' h3; unfold fileI at this; simp only at this; omega
    · subst h3; exact hx
    · have := hup i' i hi' hi h3; unfold fileI at this; simp only at this; omega
  have hGg := hG (fileI g).2 (by unfold usedF; exact List.mem_map_of_mem (List.mem_map_of_mem hg))
  unfold fileI Pk.Good at hGg
  simp only at hGg
  have hsec : sectorV V (g.1 : Int) (j : Int) = (((g.2.1 + j : Nat) : Int), 0) := by
    unfold sectorV
    rw [if_neg (by simp [h.gone]), hfind]
    simp only
    rw [if_neg (by omega)]
    congr 1
  unfold writeV
  rw [hsec, if_neg (by simp)]
  rcases write_alive h.off (g.2.1 + j) (by omega) s hs with ⟨hf0, _⟩ | ⟨_, e1⟩
  · omega
  · simp only
    rw [e1]
    unfold cameV
    rw [if_neg (by simp)]
    refine ⟨fun k hk => ?_, ?_, by first | trivial | rfl⟩
    · refine seen_more (S := V.D) [(g.2.1 + j, padL s)] ?_ ?_ k ?_
      · rfl
      · rfl
      · intro x hx
        simp only [List.mem_cons, List.not_mem_nil, or_false] at hx
        subst hx; simp only; omega
    · show (syncL V.D.L (V.D.C ++ [(g.2.1 + j, padL s)]))[g.2.1 + j]? = _
      rw [syncL_snoc, List.getElem?_set_self (by rw [syncL_length]; simp only; omega)]

/-- A deed leaves a file that it does not speak of as it is. -/
theorem act_file {V : Vol} (h : Alive V) (hf : V.D.fuse < 0) (f : FileN) (hm : f ∈ V.R.2.2.2) (u : DeedW) (hu : pickN u.kind 4 = 0 ∨ ∀ g, V.R.2.2.2[pickN u.a V.R.2.2.2.length]? = some g → g.1 ≠ f.1) (k : Nat) (h1 : f.2.1 ≤ k) (h2 : k < f.2.1 + f.2.2) :
    f ∈ (actV V u).R.2.2.2 ∧ seenAt (actV V u).D k = seenAt V.D k ∧ Alive (actV V u) ∧ (actV V u).D.fuse < 0 := by
  have hp := right_p.1 h.safe.right
  have h18 : 18 ≤ k := by
    have := (hp.each (fileI f) (List.mem_map_of_mem hm)).2.2
    unfold fileI at this; simp only at this; omega
  rcases (act_goes h u).fate with ⟨ha, hR, hfu⟩ | ⟨_, _, _, _, hge⟩
  · refine ⟨?_, ?_, ha, hfu hf⟩
    · rw [hR]
      unfold actR
      by_cases c0 : pickN u.kind 4 = 0
      · rw [if_pos c0]; unfold makeR
        split
        · exact hm
        · simp [hm]
      rw [if_neg c0]
      cases hg : V.R.2.2.2[pickN u.a V.R.2.2.2.length]? with
      | none => exact hm
      | some g =>
        have hne : g.1 ≠ f.1 := by
          rcases hu with hu | hu
          · exact absurd hu c0
          · exact hu g hg
        simp only
        split
        · unfold dropR
          split
          · exact hm
          · refine List.mem_filter.2 ⟨hm, ?_⟩
            simp only [List.mem_cons, List.not_mem_nil, or_false, decide_eq_true_eq]
            omega
        · split
          · unfold pointR
            split
            · exact hm
            · exact hm
          · exact hm
    · unfold actV
      by_cases c0 : pickN u.kind 4 = 0
      · rw [if_pos c0]; exact make_seen h hf _ k h18
      rw [if_neg c0]
      cases hg : V.R.2.2.2[pickN u.a V.R.2.2.2.length]? with
      | none => rfl
      | some g =>
        have hgm : g ∈ V.R.2.2.2 := List.mem_of_getElem? hg
        have hne : g.1 ≠ f.1 := by
          rcases hu with hu | hu
          · exact absurd hu c0
          · exact hu g hg
        simp only
        split
        · exact drop_seen h hf _ k h18
        · split
          · exact point_seen h hf _ k h18
          · split
            · rfl
            · rename_i c3
              have hj := pickN_lt u.b (n := g.2.2) (by omega)
              refine (write_seen h hf g hgm (pickN u.b g.2.2) hj _ (by rw [List.length_take]; omega)).1 k ?_
              have := files_apart hp hm hgm hne
              omega
  · omega

end Go.Proofs.YtfbgagpihhbllaaGreatDoor

/- Mathematics of layer 8 (wal): the mark, and what a log's records lie like. -/
namespace Go.Proofs.YtfbgagpihhbllaaGreatDoor
open Go.RowKit Go.Proofs Go.Proofs.Pk
set_option maxRecDepth 10000

def Max31 : Nat := 2147483647
def markN (id index size : Nat) : List UInt8 := [76, 71] ++ (big 7 id ++ (big 4 index ++ (big 4 size ++ (List.replicate 36 0 ++ (big 7 id ++ big 4 index)))))
/-- The numbers that a mark has. -/
def MarkOk (id index size : Nat) : Prop := 1 ≤ id ∧ id ≤ MaxN ∧ index ≤ Max31 ∧ size ≤ Max31
instance (id index size : Nat) : Decidable (MarkOk id index size) := inferInstanceAs (Decidable (_ ∧ _ ∧ _ ∧ _))
def sizeN (b : List UInt8) : Nat := val ((b.drop 13).take 4)
def rdMark (b : List UInt8) (id index : Nat) : Option Nat := if MarkOk id index (sizeN b) ∧ b = markN id index (sizeN b) then some (sizeN b) else none

theorem markN_length (id index size : Nat) : (markN id index size).length = 64 := by simp [markN, big_length]
theorem big_inj {k a b : Nat} (ha : a < 256 ^ k) (hb : b < 256 ^ k) (h : big k a = big k b) : a = b := by
  have := congrArg val h
  rw [val_big, val_big, Nat.mod_eq_of_lt ha, Nat.mod_eq_of_lt hb] at this
  exact this
theorem size_mark {id index size : Nat} (h : size ≤ Max31) : sizeN (markN id index size) = size := by
  have e : markN id index size = ([76, 71] ++ (big 7 id ++ big 4 index)) ++ (big 4 size ++ (List.replicate 36 0 ++ (big 7 id ++ big 4 index))) := by simp [markN]
  have h13 : ([76, 71] ++ (big 7 id ++ big 4 index)).length = 13 := by simp [big_length]
  unfold sizeN
  rw [e, List.drop_append_of_le_length (by omega), ← h13, List.drop_length, List.nil_append, List.take_append_of_le_length (by rw [big_length]; omega), List.take_of_length_le (by rw [big_length]; omega), val_big]
  exact Nat.mod_eq_of_lt (by unfold Max31 at h; omega)
theorem rd_mark {id index size : Nat} (h : MarkOk id index size) : rdMark (markN id index size) id index = some size := by
  have hs := size_mark (id := id) (index := index) h.2.2.2
  unfold rdMark
  rw [hs, if_pos ⟨h, rfl⟩]
theorem rd_some {b : List UInt8} {id index n : Nat} (h : rdMark b id index = some n) : MarkOk id index n ∧ b = markN id index n := by
  unfold rdMark at h
  split at h
  · rename_i h1; cases h; exact h1
  · cases h
/-- The mark's parts. -/
theorem mark_inj {id index size id' index' size' : Nat} (h : markN id index size = markN id' index' size') : big 7 id = big 7 id' ∧ big 4 index = big 4 index' ∧ big 4 size = big 4 size' := by
  unfold markN at h
  have h1 := List.append_cancel_left h
  obtain ⟨a1, h2⟩ := List.append_inj h1 (by rw [big_length, big_length])
  obtain ⟨a2, h3⟩ := List.append_inj h2 (by rw [big_length, big_length])
  obtain ⟨a3, _⟩ := List.append_inj h3 (by rw [big_length, big_length])
  exact ⟨a1, a2, a3⟩
/-- Another number's mark is none. -/
theorem rd_other {id index size id' index' : Nat} (h : MarkOk id index size) (hne : id' ≠ id ∨ index' ≠ index) : rdMark (markN id index size) id' index' = none := by
  cases hr : rdMark (markN id index size) id' index' with
  | none => rfl
  | some n =>
    obtain ⟨h1, h2⟩ := rd_some hr
    obtain ⟨a1, a2, _⟩ := mark_inj h2
    obtain ⟨b1, b2, b3, b4⟩ := h
    obtain ⟨c1, c2, c3, c4⟩ := h1
    unfold MaxN at b2 c2
    unfold Max31 at b3 c3
    have e1 := big_inj (by omega) (by omega) a1
    have e2 := big_inj (by omega) (by omega) a2
    omega
theorem rd_zero (id index : Nat) : rdMark (List.replicate 64 0) id index = none := by
  cases hr : rdMark (List.replicate 64 0) id index with
  | none => rfl
  | some n =>
    obtain ⟨_, h2⟩ := rd_some hr
    have := congrArg (fun l => l[0]?) h2
    simp [markN] at this
theorem big_zero : ∀ k, big k 0 = List.replicate k 0
  | 0 => rfl
  | k + 1 => by rw [big, Nat.zero_div, big_zero k, List.replicate_succ']; rfl
/-- A torn mark is none, or it. -/
theorem rd_torn {id index size : Nat} (h : MarkOk id index size) (c : Nat) (n : Nat) (hr : rdMark ((markN id index size).take c ++ List.replicate (64 - c) 0) id index = some n) :
    n = size ∧ (markN id index size).take c ++ List.replicate (64 - c) 0 = markN id index size := by
  obtain ⟨h1, h2⟩ := rd_some hr
  by_cases hc : c < 17
  · exfalso
    have hd := congrArg (fun l => (l.drop 53).take 7) h2
    have hl : ((markN id index size).take c).length = c := by rw [List.length_take, markN_length]; omega
    have e1 : (((markN id index size).take c ++ List.replicate (64 - c) 0).drop 53).take 7 = List.replicate 7 0 := by
      rw [List.drop_append, hl, List.drop_eq_nil_of_le (by omega), List.nil_append, List.drop_replicate, List.take_replicate]
      congr 1; omega
    have e : markN id index n = ([76, 71] ++ (big 7 id ++ (big 4 index ++ (big 4 n ++ List.replicate 36 0)))) ++ (big 7 id ++ big 4 index) := by simp [markN]
    have h53 : ([76, 71] ++ (big 7 id ++ (big 4 index ++ (big 4 n ++ List.replicate 36 0)))).length = 53 := by simp [big_length]
    have e2 : ((markN id index n).drop 53).take 7 = big 7 id := by
      rw [e, List.drop_append_of_le_length (by omega), ← h53, List.drop_length, List.nil_append, List.take_append_of_le_length (by rw [big_length]; omega), List.take_of_length_le (by rw [big_length]; omega)]
    rw [e1, e2, ← big_zero] at hd
    have := big_inj (by omega) (by have := h.2.1; unfold MaxN at this; omega) hd
    have := h.1
    omega
  · have e3 : sizeN ((markN id index size).take c ++ List.replicate (64 - c) 0) = sizeN (markN id index size) := by
      have hl : ((markN id index size).take c).length = min c 64 := by rw [List.length_take, markN_length]
      unfold sizeN
      rw [List.drop_append_of_le_length (by omega), List.take_append_of_le_length (by rw [List.length_drop]; omega), List.drop_take, List.take_take]
      congr 2; omega
    rw [h2, size_mark h1.2.2.2, size_mark h.2.2.2] at e3
    subst e3
    exact ⟨rfl, h2⟩

/-- The sectors of records, the first of this number. -/
def recS (id : Nat) : Nat → List (List UInt8) → List (List UInt8)
  | _, [] => []
  | i, r :: l => (markN id i r.length :: (List.range (nch r.length)).map fun j => padL (chunk r j)) ++ recS id (i + 1) l
def recN : List (List UInt8) → Nat
  | [] => 0
  | r :: l => 1 + nch r.length + recN l
theorem recS_length (id : Nat) : ∀ (l : List (List UInt8)) (i : Nat), (recS id i l).length = recN l
  | [], _ => rfl
  | r :: l, i => by simp only [recS, recN, List.length_append, List.length_cons, List.length_map, List.length_range, recS_length id l (i + 1)]; omega
theorem recS_append (id : Nat) : ∀ (l m : List (List UInt8)) (i : Nat), recS id i (l ++ m) = recS id i l ++ recS id (i + l.length) m
  | [], m, i => by simp [recS]
  | r :: l, m, i => by
    simp only [List.cons_append, recS, recS_append id l m (i + 1), List.length_cons, List.append_assoc]
    rw [show i + 1 + l.length = i + (l.length + 1) from by omega]
theorem recN_append : ∀ (l m : List (List UInt8)), recN (l ++ m) = recN l + recN m
  | [], m => by simp [recN]
  | r :: l, m => by simp only [List.cons_append, recN, recN_append l m]; omega
/-- Writes that follow each other. -/
def padsAt : Nat → List (List UInt8) → List (Nat × List UInt8)
  | _, [] => []
  | a, s :: l => (a, padL s) :: padsAt (a + 1) l
theorem pads_in : ∀ (l : List (List UInt8)) (a : Nat), ∀ x ∈ padsAt a l, a ≤ x.1 ∧ x.1 < a + l.length
  | [], _, x, hx => by simp [padsAt] at hx
  | s :: l, a, x, hx => by
    simp only [padsAt, List.mem_cons] at hx
    rcases hx with rfl | hx
    · simp
    · have := pads_in l (a + 1) x hx
      simp only [List.length_cons]; omega
theorem pads_off (l : List (List UInt8)) (a k : Nat) (L : List (List UInt8)) (h : k < a ∨ a + l.length ≤ k) : (syncL L (padsAt a l))[k]? = L[k]? :=
  syncL_other k _ _ fun x hx => by have := pads_in l a x hx; omega
theorem pads_at : ∀ (l : List (List UInt8)) (a : Nat) (L : List (List UInt8)), a + l.length ≤ L.length → ∀ i, i < l.length → (syncL L (padsAt a l))[a + i]? = l[i]?.map padL
  | [], _, _, _, i, hi => by simp at hi
  | s :: l, a, L, hL, i, hi => by
    simp only [List.length_cons] at hL hi
    show (syncL (L.set a (padL s)) (padsAt (a + 1) l))[a + i]? = _
    rcases Nat.eq_zero_or_pos i with rfl | h0
    · rw [pads_off _ _ _ _ (.inl (by omega)), Nat.add_zero, List.getElem?_set_self (by omega)]; rfl
    · obtain ⟨i', rfl⟩ : ∃ i', i = i' + 1 := ⟨i - 1, by omega⟩
      have := pads_at l (a + 1) (L.set a (padL s)) (by rw [List.length_set]; omega) i' (by omega)
      rw [show a + (i' + 1) = a + 1 + i' from by omega, this, List.getElem?_cons_succ]

/-- A write into a file's sector, in a volume that lives. -/
theorem file_sector {V : Vol} (h : Alive V) (g : FileN) (hg : g ∈ V.R.2.2.2) (j : Nat) (hj : j < g.2.2) :
    sectorV V (g.1 : Int) (j : Int) = (((g.2.1 + j : Nat) : Int), 0) ∧ 18 ≤ g.2.1 ∧ g.2.1 + g.2.2 ≤ V.D.L.length := by
  have hp := right_p.1 h.safe.right
  obtain ⟨N, e, hN, hG, _⟩ := hp.runs
  have hfind : V.R.2.2.2.find? (fun f => decide ((f.1 : Int) = (g.1 : Int))) = some g := by
    have hex : ∃ x, V.R.2.2.2.find? (fun f => decide ((f.1 : Int) = (g.1 : Int))) = some x := by
      cases hc : V.R.2.2.2.find? (fun f => decide ((f.1 : Int) = (g.1 : Int))) with
      | some x => exact ⟨x, rfl⟩
      | none => have := List.find?_eq_none.1 hc g hg; simp at this
    obtain ⟨x, hx⟩ := hex
    have h1 : (x.1 : Int) = (g.1 : Int) := by simpa using List.find?_some hx
    have h2 := List.mem_of_find?_eq_some hx
    obtain ⟨i, hi, rfl⟩ := List.getElem_of_mem h2
    obtain ⟨i', hi', rfl⟩ := List.getElem_of_mem hg
    have hup := hp.up
    rw [List.pairwise_map, List.pairwise_iff_getElem] at hup
    rcases Nat.lt_trichotomy i i' with h3 | h3 | h3
    · have := hup i i' hi hi' h3; unfold fileI at this; simp only at this; omega
    · subst h3; exact hx
    · have := hup i' i hi' hi h3; unfold fileI at this; simp only at this; omega
  have hGg := hG (fileI g).2 (by unfold usedF; exact List.mem_map_of_mem (List.mem_map_of_mem hg))
  have hE := (hp.each (fileI g) (List.mem_map_of_mem hg)).2.2
  unfold fileI Pk.Good at hGg
  unfold fileI at hE
  simp only at hGg hE
  refine ⟨?_, by omega, by omega⟩
  unfold sectorV
  rw [if_neg (by simp [h.gone]), hfind]
  simp only
  rw [if_neg (by omega)]
  congr 1
theorem file_write {V : Vol} (h : Alive V) (g : FileN) (hg : g ∈ V.R.2.2.2) (j : Nat) (hj : j < g.2.2) (s : List UInt8) (hs : s.length ≤ 64) :
    (writeV V (g.1 : Int) (j : Int) s = (⟨{ V.D with off := true }, rootZ, true⟩, 6, true) ∧ Safe { V.D with off := true } V.R ∧ 0 ≤ V.D.fuse) ∨
    (∃ D', writeV V (g.1 : Int) (j : Int) s = (⟨D', V.R, V.gone⟩, 0, false) ∧ Alive ⟨D', V.R, V.gone⟩ ∧ D'.L = V.D.L ∧ D'.C = V.D.C ++ [(g.2.1 + j, padL s)] ∧ (V.D.fuse < 0 → D'.fuse < 0) ∧ D'.n = V.D.n + 1) := by
  obtain ⟨hsec, h18, hlen⟩ := file_sector h g hg j hj
  have hgo := write_goes h (g.1 : Int) (j : Int) s hs
  unfold writeV at hgo ⊢
  rw [hsec, if_neg (by simp)] at hgo ⊢
  rcases write_alive h.off (g.2.1 + j) (by omega) s hs with ⟨hf0, e1⟩ | ⟨hf0, e1⟩
  · left
    simp only [e1, cameV] at hgo ⊢
    rcases hgo.fate with ⟨ha, _⟩ | ⟨_, _, _, hs, hf⟩
    · have := ha.gone; simp at this
    · exact ⟨rfl, hs, hf⟩
  · right
    simp only [e1, cameV] at hgo ⊢
    rcases hgo.fate with ⟨ha, _, hf⟩ | ⟨hgn, _⟩
    · exact ⟨_, rfl, ha, rfl, rfl, hf, rfl⟩
    · simp only [show ((0 : Nat) = 6) = False from by simp, if_false] at hgn
      rw [h.gone] at hgn; cases hgn

end Go.Proofs.YtfbgagpihhbllaaGreatDoor
