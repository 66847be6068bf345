/- Owned slices of runs, and what of the model's steps is asked besides (layer 5 and those above it). -/
import Derived.Test.YtbfdhonmmoikdaaAsc
import Derived.BigQuiet
import Derived.SliceStrings
namespace Go.Proofs.Ytbfdhonmmoikdaa
open Go.RowKit Go.Proofs Go.Proofs.Pk
set_option maxRecDepth 10000

theorem own_runs {w : World} {B : Nat} {v : Value} {n : Nat} {L : List (Int × Int)} (h : w.ownsRow B 68 2 v n (L.flatMap runV)) (hf : ∀ r ∈ L, Fit r.1 ∧ Fit r.2) :
    L.length = n ∧ ∃ ad cap, v = .slice ad n cap ∧ Flat ad ∧ n ≤ cap ∧ Runs w ad n L := by
  have hl : L.length = n := by have := h.1; rw [flatV_length] at this; omega
  refine ⟨hl, ?_⟩
  rcases h.2 with ⟨rfl, h0⟩ | ⟨g, cap, cur, rfl, _, h2, h3, _⟩
  · refine ⟨none, 0, by rw [h0], .inl rfl, by omega, hl, .inl (List.length_eq_zero_iff.1 (by omega))⟩
  · refine ⟨_, cap, rfl, .inr ⟨_, _, rfl⟩, h3, hl, .inr ⟨g, 0, rfl, (Array.getElem?_eq_some_iff.1 h2).1, fun i hi => ⟨fun t u hu => ?_, hf _ (List.getElem_mem hi)⟩⟩⟩
    have ht : t < 2 := by
      rcases Nat.lt_or_ge t 2 with h | h
      · exact h
      · rw [List.getElem?_eq_none (by simpa [runV] using h)] at hu; cases hu
    rw [show 0 + i * 2 + t = i * 2 + t from by omega, h.cellAt _ (by omega), flatV_get L i t hi ht]
    exact hu

theorem own_below {w w' : World} {B : Nat} {e : TypeId} {size : Nat} {v : Value} {n : Nat} {xs : List Value} (h : w.ownsRow B e size v n xs) (hb : Below w.heap.size w w') : w'.ownsRow B e size v n xs := by
  refine owns_of_block h fun g hg => hb.block g ?_
  rcases h.2 with ⟨rfl, _⟩ | ⟨g', cap, cur, rfl, _, h2, _⟩
  · cases hg
  · have := Option.some.inj hg
    simp only at this
    subst this
    exact (Array.getElem?_eq_some_iff.1 h2).1

theorem own_nil {w : World} {B : Nat} {e : TypeId} {ad : Option Addr} {n m cap size : Nat} {xs : List Value} (h : w.ownsRow B e size (.slice ad n cap) m xs) (h0 : ad = none) : cap = 0 := by
  subst h0
  rcases h.2 with ⟨h1, _⟩ | ⟨g, c, cur, h1, _⟩
  · injection h1
  · cases h1
theorem own_base {w : World} {B : Nat} {e : TypeId} {ad : Option Addr} {n m cap size : Nat} {xs : List Value} (h : w.ownsRow B e size (.slice ad n cap) m xs) (b off : Nat) (h0 : ad = some ⟨b, off, none⟩) : B ≤ b := by
  subst h0
  rcases h.2 with ⟨h1, _⟩ | ⟨g, c, cur, h1, h2, _⟩
  · cases h1
  · cases h1; exact h2
theorem Runs.kept {w w' : World} {ad : Option Addr} {len : Nat} {l : List (Int × Int)} {X : Nat → Prop} (h : Runs w ad len l) (hk : Kept X w w') (hx : ∀ b off, ad = some ⟨b, off, none⟩ → ¬X b) : Runs w' ad len l := by
  refine ⟨h.1, ?_⟩
  rcases h.2 with h0 | ⟨b, off, h1, h2, h3⟩
  · exact .inl h0
  · exact .inr ⟨b, off, h1, Nat.lt_of_lt_of_le h2 hk.size, fun i hi => ⟨fun j v hv => by rw [hk.cell (p := ⟨b, off + i * 2 + j, none⟩) h2 (hx b off h1)]; exact (h3 i hi).1 j v hv, (h3 i hi).2⟩⟩
/-- An operation whose guard is met. -/
theorem wpList_unguard {P : Program} {ops : Array Oper} {rest : List Oper} {o : Oper} {a : Act} {w : World} {Q : Exit → Act → World → Prop} (hw : Region.wanted o (yielded ops a.tmps) = true)
    (h : wpList P ops Q ({ o with guard := none } :: rest) a w) : wpList P ops Q (o :: rest) a w := by
  unfold wpList at h ⊢
  rw [if_pos hw]
  rw [if_pos (by simp [Region.wanted])] at h
  exact h

/-- append of runs that a slice holds to runs of one's own. -/
theorem wpList_append_runs (w : World) {ops : Array Oper} {rest : List Oper} {o : Oper} {a : Act} {Q : Exit → Act → World → Prop} (hgd : o.guard = none) (s x : Operand)
    (ho : o.op = .call { callee := .builtin .append, args := #[s, x], argTypes := #[66, 66] })
    (base : Nat) (v : Value) (n : Nat) (L l : List (Int × Int)) (hs : a.eval s = v) (hown : w.ownsRow base 68 2 v n (L.flatMap runV))
    (ad : Option Addr) (m c : Nat) (hx : a.eval x = .slice ad m c) (hr : Runs w ad m l) (hf : Flat ad) (hc : ad = none → c = 0)
    (h63 : n + m ≤ maxLen) (hbytes : (n + m) * 16 ≤ 140737488355328) (hbase : base ≤ w.heap.size)
    (h : ∀ v' w', w'.ownsRow base 68 2 v' (n + m) ((L ++ l).flatMap runV) → w.grownBy w' v.ownBlock → wpList Try.prog ops Q rest (a.put o.dst v') w') : wpList Try.prog ops Q (o :: rest) a w := by
  obtain ⟨iR, hiR, hzR, hsR, hbR⟩ := info_parts run_info
  have hl := hr.1
  rcases hf with rfl | ⟨b, off, rfl⟩
  · obtain rfl := hc rfl
    have hnil : l = [] := by
      rcases hr.2 with h0 | ⟨b, off, h0, _⟩
      · exact h0
      · cases h0
    subst hnil
    obtain rfl : m = 0 := by simpa using hl.symm
    refine wpList_plain hgd fun K hK => ?_
    have hrun := run_append_owned_none (P := Try.prog) w base 66 o.type 68 iR 2 Try.underlying66 hiR v n _ hown
    unfold Oper.wp execOp
    simp only [ho, resolve, invoke, builtin, Sem.run_bind, Sem.run_pure, Result.andThen_ok, List.map_toArray, List.map_cons, List.map_nil, hs, hx, hrun]
    exact hK _ _ (h v w (by simpa using hown) ⟨rfl, rfl, rfl, Nat.le_refl _, fun _ _ _ => rfl⟩)
  · refine wpList_append_own w hgd s x 66 ho base 68 iR _ 2 16 Try.underlying66 hiR hzR hsR hbR rfl (by omega) v n _ hs hown ⟨b, off, none⟩ m c (l.flatMap runV) hx (by rw [flatV_length, hl]) ?_ ?_ h63 hbytes hbase ?_
    · intro j u hj
      obtain ⟨i, t, hi, rfl, ht, hu⟩ := flatV_at l j u hj
      rcases hr.2 with h0 | ⟨b', off', h0, _, h3⟩
      · rw [h0] at hi; simp at hi
      · cases h0
        have := (h3 i hi).1 t u hu
        rw [Nat.add_assoc] at this
        rw [Addr.add_mid]; exact this
    · intro u hu
      obtain ⟨x, _, hx⟩ := List.mem_flatMap.1 hu
      simp only [runV, List.mem_cons, List.not_mem_nil, or_false] at hx
      rcases hx with rfl | rfl <;> rfl
    · intro v' w' h2 h3 _
      refine h v' w' ?_ h3
      rw [List.flatMap_append]; exact h2

theorem takenO_some {T : Int} {l : List (Int × Int)} {t : List Bool} (h : takenO T l = some t) : ∃ N : Nat, T = (N : Int) ∧ N ≤ 4000 ∧ l.length ≤ 200 ∧ takeAll N l (List.replicate N false) = some t ∧ t.length = N := by
  unfold takenO at h
  split at h
  · cases h
  · rename_i hb
    obtain ⟨N, rfl⟩ := Int.eq_ofNat_of_zero_le (show 0 ≤ T by omega)
    rw [Int.toNat_natCast] at h
    exact ⟨N, rfl, by omega, by omega, h, (takeAll_some _ _ _ _ (by simp) h).2.2.2.1⟩
theorem takenO_nat {N : Nat} {l : List (Int × Int)} (h1 : N ≤ 4000) (h2 : l.length ≤ 200) : takenO (N : Int) l = takeAll N l (List.replicate N false) := by
  unfold takenO
  rw [if_neg (by omega), Int.toNat_natCast]

end Go.Proofs.Ytbfdhonmmoikdaa
