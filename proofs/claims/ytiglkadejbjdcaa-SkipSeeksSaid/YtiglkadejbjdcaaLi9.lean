/- One list of the program's in a law: its entries put by put; what a walk through its keys asks. -/
import Derived.Test.YtiglkadejbjdcaaEx9
import Derived.Test.YtiglkadejbjdcaaOpenP
import Derived.Test.YtiglkadejbjdcaaOrd
namespace Go.Proofs.Ytiglkadejbjdcaa
open Go.RowKit Go.Proofs Go.Proofs.Pk
set_option maxRecDepth 10000

structure Li9 (At : SkOf) (w1 wr : World) (l : Nat) (E : List Ent) (X : Nat → Prop) : Prop where
  sk : At wr w1.heap.size l E X
  below : Below w1.heap.size w1 wr
theorem Li9.kept {At : SkOf} (K : SkK At) {w1 wr w' : World} {l : Nat} {E : List Ent} {X Y : Nat → Prop} (h : Li9 At w1 wr l E X) (hk : Kept Y wr w') (hY : ∀ k, Y k → w1.heap.size ≤ k ∧ ¬X k) : Li9 At w1 w' l E X :=
  ⟨K.kept h.sk hk (fun k hx hy => (hY k hy).2 hx), h.below.trans (hk.below h.below.size (fun k hy => (hY k hy).1))⟩
theorem Li9.still {At : SkOf} (K : SkK At) {w1 wr w' : World} {l : Nat} {E : List Ent} {X : Nat → Prop} (h : Li9 At w1 wr l E X) (hk : Kept (fun _ => False) wr w') : Li9 At w1 w' l E X := h.kept K hk (fun _ hf => hf.elim)
theorem Li9.put {At : SkOf} (K : SkK At) {w1 wr : World} {l : Nat} {E : List Ent} {X : Nat → Prop} (h : Li9 At w1 wr l E X) (hl : E.length ≤ 1000) (k v : Txt) (ht : Int) (hf : FitH ht) :
    Calls Try.prog 9 #[.pointer (some ⟨l, 0, none⟩), .string ⟨k.toArray⟩, .string ⟨v.toArray⟩, .int .i64 ht] wr fun e w' => e = .returned (.bool (!hasE E k)) ∧ Kept X wr w' ∧ ∃ X', Li9 At w1 w' l (putE E k v ht) X' ∧ Grows wr X X' := by
  refine (K.put h.sk hl k v ht hf).mono ?_
  rintro e w' ⟨rfl, X', hs, hg, hk⟩
  exact ⟨rfl, hk, X', ⟨hs, h.below.trans (hk.below h.below.size (fun k hx => (K.lt h.sk k hx).1))⟩, hg⟩
theorem Li9.new {At : SkOf} (K : SkK At) (w1 : World) : Calls Try.prog 8 #[] w1 fun e w' => ∃ l X, e = .returned (.pointer (some ⟨l, 0, none⟩)) ∧ Li9 At w1 w' l [] X ∧ Kept (fun _ => False) w1 w' := by
  refine (K.new w1 w1.heap.size (Nat.le_refl _)).mono ?_
  rintro e w' ⟨l, X, rfl, h, _, hk⟩
  exact ⟨l, X, rfl, ⟨h, hk.below (Nat.le_refl _) (fun _ hf => hf.elim)⟩, hk⟩
theorem putE_len_le (E : List Ent) (k v : Txt) (h : Int) {j : Nat} (hl : E.length ≤ j) : (putE E k v h).length ≤ j + 1 := by
  rw [putE_length]; split <;> omega
/-- Keys within a reach. -/
def KeysIn (E : List Ent) : Prop := ∀ e ∈ E, e.1.length ≤ 140737488351232
theorem KeysIn.put {E : List Ent} (h : KeysIn E) {k : Txt} (v : Txt) (ht : Int) (hk : k.length ≤ 140737488351232) : KeysIn (putE E k v ht) := by
  intro e he
  unfold putE at he
  split at he
  · have hm : e.1 ∈ (setV E (atE E k) v).map (·.1) := List.mem_map_of_mem he
    rw [setV_keys] at hm
    obtain ⟨e', he', h1⟩ := List.mem_map.1 hm
    rw [← h1]; exact h e' he'
  · rcases List.mem_append.1 he with he | he
    · exact h e (List.mem_of_mem_take he)
    · rcases List.mem_cons.1 he with rfl | he
      · exact hk
      · exact h e (List.mem_of_mem_drop he)
theorem KeysIn.nil : KeysIn [] := fun e he => by simp at he
/-- From where the walk through the keys goes on. -/
def curE (E : List Ent) : Nat → Txt
  | 0 => []
  | m + 1 => match E[m]? with | some e => e.1 ++ [0] | none => []
theorem curE_succ {E : List Ent} {m : Nat} (h : m < E.length) : curE E (m + 1) = (E[m]).1 ++ [0] := by
  show (match E[m]? with | some e => e.1 ++ [0] | none => []) = _
  rw [List.getElem?_eq_getElem h]
theorem curE_at {E : List Ent} (h : SkOk E) : ∀ m, m ≤ E.length → atE E (curE E m) = m
  | 0, _ => atE_nil E
  | m + 1, hm => by rw [curE_succ (by omega)]; exact h.seek_next m (by omega)
theorem seek_cur {E : List Ent} (h : SkOk E) {m : Nat} (hm : m < E.length) : seekE E (curE E m) = ((E[m]).1, (E[m]).2.1, true) := by
  unfold seekE; rw [curE_at h m (by omega), List.getElem?_eq_getElem hm]
theorem seek_end {E : List Ent} (h : SkOk E) : seekE E (curE E E.length) = ([], [], false) := by
  unfold seekE; rw [curE_at h _ (Nat.le_refl _), List.getElem?_eq_none (Nat.le_refl _)]
theorem own_strsL {w : World} {B n : Nat} {v : Value} {T : List (List UInt8)} (h : w.ownsRow B 9 1 v n (T.map strV)) (hn : n = T.length) : ∃ ad cap, v = .slice ad n cap ∧ Strs w ad n T := by
  subst hn
  rcases h.2 with ⟨rfl, h0⟩ | ⟨g, cap, cur, rfl, _, h2, _⟩
  · have : T = [] := by simpa using h0
    subst this
    exact ⟨none, 0, rfl, ⟨rfl, .inl rfl⟩⟩
  · refine ⟨_, cap, rfl, ⟨rfl, .inr ⟨g, 0, rfl, (Array.getElem?_eq_some_iff.1 h2).1, fun i hi => ?_⟩⟩⟩
    have := h.cells rfl i (strV T[i]) (by simp [hi])
    rw [show ((⟨g, 0, none⟩ : Addr).add i) = ⟨g, 0 + i, none⟩ from by unfold Addr.add; split <;> simp_all] at this
    simpa [strV] using this
/-- A text of a slice in memory. -/
theorem strs_at {w : World} {ad : Option Addr} {n : Nat} {T : List (List UInt8)} (h : Strs w ad n T) (i : Nat) (hi : i < n) : ∃ b off, ad = some ⟨b, off, none⟩ ∧ ∃ h' : i < T.length, ∀ w', Kept (fun _ => False) w w' → w'.cell? ⟨b, off + i, none⟩ = some (.string ⟨(T[i]).toArray⟩) := by
  have hl := h.1
  rcases h.2 with h0 | ⟨b, off, h1, h2, h3⟩
  · rw [h0] at hl; simp at hl; omega
  · refine ⟨b, off, h1, by omega, fun w' hk => ?_⟩
    rw [hk.cell (p := ⟨b, off + i, none⟩) h2 (fun hf => hf)]
    exact h3 i (by omega)

/-- A put of a slice among the arguments, in each later world. -/
theorem putsW_all {w : World} {ad : Option Addr} {len : Nat} {l : List PutW} (h : PutsW w ad len l) (i : Nat) (hi : i < len) : ∃ b off, ad = some ⟨b, off, none⟩ ∧ ∃ h' : i < l.length, FitH (l[i]).h ∧ ∀ w', Below w.heap.size w w' →
    w'.cell? ⟨b, off + i * 3, none⟩ = some (.string ⟨(l[i]).key.toArray⟩) ∧ w'.cell? ⟨b, off + i * 3 + 1, none⟩ = some (.string ⟨(l[i]).value.toArray⟩) ∧ w'.cell? ⟨b, off + i * 3 + 2, none⟩ = some (.int .i64 (l[i]).h) := by
  have hl := h.1
  rcases h.2 with h0 | ⟨b, off, h1, h2, h3⟩
  · rw [h0] at hl; simp at hl; omega
  · have hp := h3 i (by omega)
    refine ⟨b, off, h1, by omega, hp.fit, fun w' hb => ?_⟩
    have c := fun (j : Nat) (v : Value) (hv : (pcW (l[i]'(by omega)))[j]? = some v) => (hb.cell (p := ⟨b, off + i * 3 + j, none⟩) h2).trans (hp.row j v hv)
    exact ⟨c 0 _ rfl, c 1 _ rfl, c 2 _ rfl⟩

end Go.Proofs.Ytiglkadejbjdcaa
