/- Owned slices of files; append of files to files (the laws of layer 6). -/
import Derived.Test.YtbfdhonmmoikdaaRtM
import Derived.Test.YtbfdhonmmoikdaaSpcO
namespace Go.Proofs.Ytbfdhonmmoikdaa
open Go.RowKit Go.Proofs Go.Proofs.Pk
set_option maxRecDepth 10000

theorem flatF_length : ∀ l : List FileV, (l.flatMap fileV).length = l.length * 3
  | [] => rfl
  | x :: l => by have := flatF_length l; simp only [List.flatMap_cons, List.length_append, List.length_cons, fileV, List.length_nil] at *; omega
theorem flatF_at : ∀ (l : List FileV) (j : Nat) (u : Value), (l.flatMap fileV)[j]? = some u → ∃ (i t : Nat) (hi : i < l.length), j = i * 3 + t ∧ t < 3 ∧ (fileV l[i])[t]? = some u
  | [], j, u, h => by simp at h
  | x :: l, 0, u, h => ⟨0, 0, by simp, rfl, by omega, by simpa [fileV] using h⟩
  | x :: l, 1, u, h => ⟨0, 1, by simp, rfl, by omega, by simpa [fileV] using h⟩
  | x :: l, 2, u, h => ⟨0, 2, by simp, rfl, by omega, by simpa [fileV] using h⟩
  | x :: l, j + 3, u, h => by
    obtain ⟨i, t, hi, h1, h2, h3⟩ := flatF_at l j u (by simpa [fileV] using h)
    exact ⟨i + 1, t, by simpa using hi, by omega, h2, by simpa using h3⟩
theorem flatF_get : ∀ (l : List FileV) (i t : Nat) (hi : i < l.length), t < 3 → (l.flatMap fileV)[i * 3 + t]? = (fileV l[i])[t]?
  | x :: l, 0, 0, _, _ => rfl
  | x :: l, 0, 1, _, _ => rfl
  | x :: l, 0, 2, _, _ => rfl
  | x :: l, i + 1, t, hi, ht => by
    rw [show (i + 1) * 3 + t = (i * 3 + t) + 3 from by omega]
    have := flatF_get l i t (by simpa using hi) ht
    simpa [fileV] using this

theorem own_filesV {w : World} {B : Nat} {v : Value} {n : Nat} {L : List FileV} (h : w.ownsRow B 39 3 v n (L.flatMap fileV)) (hf : ∀ r ∈ L, FitF r) :
    L.length = n ∧ ∃ ad cap, v = .slice ad n cap ∧ Flat ad ∧ n ≤ cap ∧ Files w ad n L := by
  have hl : L.length = n := by have := h.1; rw [flatF_length] at this; omega
  refine ⟨hl, ?_⟩
  rcases h.2 with ⟨rfl, h0⟩ | ⟨g, cap, cur, rfl, _, h2, h3, _⟩
  · refine ⟨none, 0, by rw [h0], .inl rfl, by omega, hl, .inl (List.length_eq_zero_iff.1 (by omega))⟩
  · refine ⟨_, cap, rfl, .inr ⟨_, _, rfl⟩, h3, hl, .inr ⟨g, 0, rfl, (Array.getElem?_eq_some_iff.1 h2).1, fun i hi => ⟨fun t u hu => ?_, hf _ (List.getElem_mem hi)⟩⟩⟩
    have ht : t < 3 := by
      rcases Nat.lt_or_ge t 3 with h | h
      · exact h
      · rw [List.getElem?_eq_none (by simpa [fileV] using h)] at hu; cases hu
    rw [show 0 + i * 3 + t = i * 3 + t from by omega, h.cellAt _ (by omega), flatF_get L i t hi ht]
    exact hu
theorem Files.kept {w w' : World} {ad : Option Addr} {len : Nat} {l : List FileV} {X : Nat → Prop} (h : Files w ad len l) (hk : Kept X w w') (hx : ∀ b off, ad = some ⟨b, off, none⟩ → ¬X b) : Files w' ad len l := by
  refine ⟨h.1, ?_⟩
  rcases h.2 with h0 | ⟨b, off, h1, h2, h3⟩
  · exact .inl h0
  · exact .inr ⟨b, off, h1, Nat.lt_of_lt_of_le h2 hk.size, fun i hi => ⟨fun j v hv => by rw [hk.cell (p := ⟨b, off + i * 3 + j, none⟩) h2 (hx b off h1)]; exact (h3 i hi).1 j v hv, (h3 i hi).2⟩⟩

/-- append of files that a slice holds to files of one's own. -/
theorem wpList_append_files (w : World) {ops : Array Oper} {rest : List Oper} {o : Oper} {a : Act} {Q : Exit → Act → World → Prop} (hgd : o.guard = none) (s x : Operand)
    (ho : o.op = .call { callee := .builtin .append, args := #[s, x], argTypes := #[22, 22] })
    (base : Nat) (v : Value) (n : Nat) (L l : List FileV) (hs : a.eval s = v) (hown : w.ownsRow base 39 3 v n (L.flatMap fileV))
    (ad : Option Addr) (m c : Nat) (hx : a.eval x = .slice ad m c) (hr : Files w ad m l) (hf : Flat ad) (hc : ad = none → c = 0)
    (h63 : n + m ≤ maxLen) (hbytes : (n + m) * 24 ≤ 140737488355328) (hbase : base ≤ w.heap.size)
    (h : ∀ v' w', w'.ownsRow base 39 3 v' (n + m) ((L ++ l).flatMap fileV) → w.grownBy w' v.ownBlock → wpList Try.prog ops Q rest (a.put o.dst v') w') : wpList Try.prog ops Q (o :: rest) a w := by
  obtain ⟨iR, hiR, hzR, hsR, hbR⟩ := info_parts file_info
  have hl := hr.1
  rcases hf with rfl | ⟨b, off, rfl⟩
  · obtain rfl := hc rfl
    have hnil : l = [] := by
      rcases hr.2 with h0 | ⟨b, off, h0, _⟩
      · exact h0
      · cases h0
    subst hnil
    obtain rfl : m = 0 := by simpa using hl.symm
    refine wpList_plain hgd fun K hK => ?_
    have hrun := run_append_owned_none (P := Try.prog) w base 22 o.type 39 iR 3 Try.underlying22 hiR v n _ hown
    unfold Oper.wp execOp
    simp only [ho, resolve, invoke, builtin, Sem.run_bind, Sem.run_pure, Result.andThen_ok, List.map_toArray, List.map_cons, List.map_nil, hs, hx, hrun]
    exact hK _ _ (h v w (by simpa using hown) ⟨rfl, rfl, rfl, Nat.le_refl _, fun _ _ _ => rfl⟩)
  · refine wpList_append_own w hgd s x 22 ho base 39 iR _ 3 24 Try.underlying22 hiR hzR hsR hbR rfl (by omega) v n _ hs hown ⟨b, off, none⟩ m c (l.flatMap fileV) hx (by rw [flatF_length, hl]) ?_ ?_ h63 hbytes hbase ?_
    · intro j u hj
      obtain ⟨i, t, hi, rfl, ht, hu⟩ := flatF_at l j u hj
      rcases hr.2 with h0 | ⟨b', off', h0, _, h3⟩
      · rw [h0] at hi; simp at hi
      · cases h0
        have := (h3 i hi).1 t u hu
        rw [Nat.add_assoc] at this
        rw [Addr.add_mid]; exact this
    · intro u hu
      obtain ⟨x, _, hx⟩ := List.mem_flatMap.1 hu
      simp only [fileV, List.mem_cons, List.not_mem_nil, or_false] at hx
      rcases hx with rfl | rfl | rfl <;> rfl
    · intro v' w' h2 h3 _
      refine h v' w' ?_ h3
      rw [List.flatMap_append]; exact h2

/-- append of files that a slice holds to files of one's own: what the call does. -/
theorem run_append_files (w : World) (base : Nat) (v : Value) (n : Nat) (L l : List FileV) (hown : w.ownsRow base 39 3 v n (L.flatMap fileV))
    (ad : Option Addr) (m c : Nat) (hr : Files w ad m l) (hf : Flat ad) (hc : ad = none → c = 0) (h63 : n + m ≤ maxLen) (hbytes : (n + m) * 24 ≤ 140737488355328) (hbase : base ≤ w.heap.size) :
    ∃ v' w', (Builtin.append_ #[22, 22] 22 #[v, .slice ad m c]).run Try.prog w = .ok v' w' ∧ w'.ownsRow base 39 3 v' (n + m) ((L ++ l).flatMap fileV) ∧ w.grownBy w' v.ownBlock := by
  obtain ⟨iR, hiR, hzR, hsR, hbR⟩ := info_parts file_info
  have hl := hr.1
  rcases hf with rfl | ⟨b, off, rfl⟩
  · obtain rfl := hc rfl
    have hnil : l = [] := by
      rcases hr.2 with h0 | ⟨b, off, h0, _⟩
      · exact h0
      · cases h0
    subst hnil
    obtain rfl : m = 0 := by simpa using hl.symm
    have hrun := run_append_owned_none (P := Try.prog) w base 22 22 39 iR 3 Try.underlying22 hiR v n _ hown
    exact ⟨v, w, hrun, by simpa using hown, ⟨rfl, rfl, rfl, Nat.le_refl _, fun _ _ _ => rfl⟩⟩
  · obtain ⟨v', w', hrun, h2, h3, _⟩ := run_append_own (P := Try.prog) w base 22 22 39 iR _ 3 24 Try.underlying22 hiR hzR hsR hbR rfl (by omega) v n _ hown ⟨b, off, none⟩ m c (l.flatMap fileV) (by rw [flatF_length, hl]) (fun j u hj => by
      obtain ⟨i, t, hi, rfl, ht, hu⟩ := flatF_at l j u hj
      rcases hr.2 with h0 | ⟨b', off', h0, _, h3⟩
      · rw [h0] at hi; simp at hi
      · cases h0
        have := (h3 i hi).1 t u hu
        rw [Nat.add_assoc] at this
        rw [Addr.add_mid]; exact this) (fun u hu => by
      obtain ⟨x, _, hx⟩ := List.mem_flatMap.1 hu
      simp only [fileV, List.mem_cons, List.not_mem_nil, or_false] at hx
      rcases hx with rfl | rfl | rfl <;> rfl) h63 hbytes hbase
    exact ⟨v', w', hrun, by rw [List.flatMap_append]; exact h2, h3⟩

end Go.Proofs.Ytbfdhonmmoikdaa
