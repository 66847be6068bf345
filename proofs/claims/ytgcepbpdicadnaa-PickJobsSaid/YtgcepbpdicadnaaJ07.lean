/- Append, RMr, LsE. -/
import Derived.Test.YtgcepbpdicadnaaJ02
import Derived.Laws.AppendOwn
import Derived.Laws.OwnMore
import Derived.Test.YtgcepbpdicadnaaJ05
import Derived.Test.YtgcepbpdicadnaaJ03
import Derived.Sort.Walk0
import Derived.BigQuiet
import Derived.Laws.AppendOwnNone
import Derived.Deep.Cut

/- append to a slice of one's own: where what comes lies. No program. -/
namespace Go.Proofs.Pk
open Go.RowKit

theorem owns_base {w : World} {B B' : Nat} {e : TypeId} {size : Nat} {v : Value} {n : Nat} {xs : List Value} (h : w.ownsRow B' e size v n xs) (hB : B ≤ B') : w.ownsRow B e size v n xs := by
  refine ⟨h.1, ?_⟩
  rcases h.2 with h0 | ⟨g, cap, cur, hv, h1, h2⟩
  · exact .inl h0
  · exact .inr ⟨g, cap, cur, hv, Nat.le_trans hB h1, h2⟩

/-- Where the slice lies that append gives: where it lay, or in a new block. -/
theorem append_place {P : Program} (w : World) (base : Nat) (t ty e : TypeId) (i : TypeInfo) (z : Value) (size bytes : Nat) (ht : P.underlying t = some (.slice e)) (hi : P.info? e = some i) (hz : i.zero = some z)
    (hsize : i.size = size) (hby : i.bytes = bytes) (v : Value) (n : Nat) (xs : List Value) (hown : w.ownsRow base e size v n xs)
    (a : Addr) (m c : Nat) (news : List Value) (hl : news.length = m * size) (hnews : ∀ j u, news[j]? = some u → w.cell? (a.add j) = some u) (h1 : ∀ u ∈ news, u.oneCell' = true)
    (h63 : n + m ≤ maxLen) (hbytes : (n + m) * bytes ≤ 140737488355328) (hm : 0 < m) {v' : Value} {w' : World} (hr : (Builtin.append_ #[t, t] ty #[v, .slice (some a) m c]).run P w = .ok v' w') :
    v'.ownBlock = v.ownBlock ∨ v'.ownBlock = some w.heap.size := by
  subst hsize
  subst hby
  have hsmall : n + m ≤ 9223372036854775807 := by simp only [maxLen] at h63; omega
  rcases hown.2 with ⟨rfl, rfl⟩ | ⟨g, cap, cur, rfl, _, hg, hnc, hcm, hcs, htake⟩
  · have h := run_append_nil (P := P) w t ty e i z ht hi hz a m c news hl hnews (by omega) (by omega) (by have hb := hbytes; simp only [Nat.zero_add] at hb; omega)
    rw [h] at hr
    injection hr with hv _
    rw [← hv]; exact .inr rfl
  · by_cases hroom : n + m ≤ cap
    · have hfit : n * i.size + news.length ≤ cur.size := by rw [hl, hcs, ← Nat.add_mul]; exact Nat.mul_le_mul_right _ hroom
      have h := run_append_room (P := P) w t ty e i ht hi g n cap cur hg a m c news hl hnews h1 hroom hfit
      rw [h] at hr
      injection hr with hv _
      rw [← hv]; exact .inl rfl
    · have holds : ∀ j u, xs[j]? = some u → w.cell? ((⟨g, 0, none⟩ : Addr).add j) = some u := hown.cells (g := g) rfl
      have h := run_append_grow (P := P) w t ty e i z ht hi hz ⟨g, 0, none⟩ n cap xs hown.1 holds a m c news hl hnews (by omega) (by omega) (growslice_fits (by omega) hbytes)
      rw [h] at hr
      injection hr with hv _
      rw [← hv]; exact .inr rfl

/-- The walk's step for an append to an own slice; told where it lies behind it. -/
theorem wpList_append_at {P : Program} (w : World) {ops : Array Oper} {rest : List Oper} {o : Oper} {a : Act} {Q : Exit → Act → World → Prop} (hgd : o.guard = none) (s x : Operand) (t : TypeId)
    (ho : o.op = .call { callee := .builtin .append, args := #[s, x], argTypes := #[t, t] })
    (base : Nat) (e : TypeId) (i : TypeInfo) (z : Value) (size bytes : Nat) (ht : P.underlying t = some (.slice e)) (hi : P.info? e = some i) (hz : i.zero = some z)
    (hsize : i.size = size) (hby : i.bytes = bytes) (hzs : z.cells.size = size) (hsz : 0 < size)
    (v : Value) (n : Nat) (xs : List Value) (hs : a.eval s = v) (hown : w.ownsRow base e size v n xs)
    (ad : Addr) (m c : Nat) (news : List Value) (hx : a.eval x = .slice (some ad) m c) (hl : news.length = m * size) (hnews : ∀ j u, news[j]? = some u → w.cell? (ad.add j) = some u) (h1 : ∀ u ∈ news, u.oneCell' = true)
    (h63 : n + m ≤ maxLen) (hbytes : (n + m) * bytes ≤ 140737488355328) (hbase : base ≤ w.heap.size) (hm : 0 < m)
    (h : ∀ v' w', w'.ownsRow base e size v' (n + m) (xs ++ news) → w.grownBy w' v.ownBlock → (v'.ownBlock = v.ownBlock ∨ v'.ownBlock = some w.heap.size) → wpList P ops Q rest (a.put o.dst v') w') : wpList P ops Q (o :: rest) a w :=
  wpList_plain hgd fun K hK => by
    obtain ⟨v', w', hr, h2, h3, _⟩ := run_append_own (P := P) w base t o.type e i z size bytes ht hi hz hsize hby hzs hsz v n xs hown ad m c news hl hnews h1 h63 hbytes hbase
    have h4 := append_place (P := P) w base t o.type e i z size bytes ht hi hz hsize hby v n xs hown ad m c news hl hnews h1 h63 hbytes hm hr
    unfold Oper.wp execOp
    simp only [ho, resolve, invoke, builtin, Sem.run_bind, Sem.run_pure, Result.andThen_ok, List.map_toArray, List.map_cons, List.map_nil, hs, hx, hr]
    exact hK _ _ (h v' w' h2 h3 h4)

/-- append to an own slice, and where what comes lies. -/
theorem run_append_at {P : Program} (w : World) (base : Nat) (t ty e : TypeId) (i : TypeInfo) (z : Value) (size bytes : Nat) (ht : P.underlying t = some (.slice e)) (hi : P.info? e = some i) (hz : i.zero = some z)
    (hsize : i.size = size) (hby : i.bytes = bytes) (hzs : z.cells.size = size) (hsz : 0 < size) (v : Value) (n : Nat) (xs : List Value) (hown : w.ownsRow base e size v n xs)
    (a : Addr) (m c : Nat) (news : List Value) (hl : news.length = m * size) (hnews : ∀ j u, news[j]? = some u → w.cell? (a.add j) = some u) (h1 : ∀ u ∈ news, u.oneCell' = true)
    (h63 : n + m ≤ maxLen) (hbytes : (n + m) * bytes ≤ 140737488355328) (hbase : base ≤ w.heap.size) (hm : 0 < m) :
    ∃ v' w', (Builtin.append_ #[t, t] ty #[v, .slice (some a) m c]).run P w = .ok v' w' ∧ w'.ownsRow base e size v' (n + m) (xs ++ news) ∧ w.grownBy w' v.ownBlock ∧ (v'.ownBlock = v.ownBlock ∨ v'.ownBlock = some w.heap.size) := by
  obtain ⟨v', w', hr, h2, h3, _⟩ := run_append_own (P := P) w base t ty e i z size bytes ht hi hz hsize hby hzs hsz v n xs hown a m c news hl hnews h1 h63 hbytes hbase
  exact ⟨v', w', hr, h2, h3, append_place (P := P) w base t ty e i z size bytes ht hi hz hsize hby v n xs hown a m c news hl hnews h1 h63 hbytes hm hr⟩

/-- Where the slice lies that append gives; if in a new block, then all that was stays. -/
theorem append_kept {P : Program} (w : World) (base : Nat) (t ty e : TypeId) (i : TypeInfo) (z : Value) (size bytes : Nat) (ht : P.underlying t = some (.slice e)) (hi : P.info? e = some i) (hz : i.zero = some z)
    (hsize : i.size = size) (hby : i.bytes = bytes) (v : Value) (n : Nat) (xs : List Value) (hown : w.ownsRow base e size v n xs)
    (a : Addr) (m c : Nat) (news : List Value) (hl : news.length = m * size) (hnews : ∀ j u, news[j]? = some u → w.cell? (a.add j) = some u) (h1 : ∀ u ∈ news, u.oneCell' = true)
    (h63 : n + m ≤ maxLen) (hbytes : (n + m) * bytes ≤ 140737488355328) (hm : 0 < m) {v' : Value} {w' : World} (hr : (Builtin.append_ #[t, t] ty #[v, .slice (some a) m c]).run P w = .ok v' w') :
    v'.ownBlock = v.ownBlock ∨ ∀ k, k < w.heap.size → w'.heap[k]? = w.heap[k]? := by
  subst hsize
  subst hby
  have hsmall : n + m ≤ 9223372036854775807 := by simp only [maxLen] at h63; omega
  rcases hown.2 with ⟨rfl, rfl⟩ | ⟨g, cap, cur, rfl, _, hg, hnc, hcm, hcs, htake⟩
  · have h := run_append_nil (P := P) w t ty e i z ht hi hz a m c news hl hnews (by omega) (by omega) (by have hb := hbytes; simp only [Nat.zero_add] at hb; omega)
    rw [h] at hr
    injection hr with _ hw
    right
    intro k hk
    rw [← hw]
    simp only [World.alloc, World.drew]
    rw [Array.getElem?_push_lt hk, Array.getElem?_eq_getElem hk]
  · by_cases hroom : n + m ≤ cap
    · have hfit : n * i.size + news.length ≤ cur.size := by rw [hl, hcs, ← Nat.add_mul]; exact Nat.mul_le_mul_right _ hroom
      have h := run_append_room (P := P) w t ty e i ht hi g n cap cur hg a m c news hl hnews h1 hroom hfit
      rw [h] at hr
      injection hr with hv _
      rw [← hv]; exact .inl rfl
    · have holds : ∀ j u, xs[j]? = some u → w.cell? ((⟨g, 0, none⟩ : Addr).add j) = some u := hown.cells (g := g) rfl
      have h := run_append_grow (P := P) w t ty e i z ht hi hz ⟨g, 0, none⟩ n cap xs hown.1 holds a m c news hl hnews (by omega) (by omega) (growslice_fits (by omega) hbytes)
      rw [h] at hr
      injection hr with _ hw
      right
      intro k hk
      rw [← hw]
      simp only [World.alloc, World.drew]
      rw [Array.getElem?_push_lt hk, Array.getElem?_eq_getElem hk]
/-- What lay in the slice that append was given lies there still. -/
theorem append_cells {w w' : World} {B g n cap m size : Nat} {e : TypeId} {v' : Value} {xs news : List Value} (ho : w.ownsRow B e size (.slice (some ⟨g, 0, none⟩) n cap) n xs) (hn : 0 < n) (ho3 : w'.ownsRow B e size v' (n + m) (xs ++ news))
    (hk : v'.ownBlock = (Value.slice (some ⟨g, 0, none⟩) n cap).ownBlock ∨ ∀ k, k < w.heap.size → w'.heap[k]? = w.heap[k]?) (j : Nat) (hj : j < n * size) : w'.cell? ⟨g, j, none⟩ = w.cell? ⟨g, j, none⟩ := by
  rcases hk with hk | hk
  · rcases ho3.2 with ⟨_, h0⟩ | ⟨g', cap', cur, rfl, _⟩
    · omega
    · obtain rfl : g' = g := by injection hk
      rw [ho3.cellAt j (by rw [Nat.add_mul]; omega), ho.cellAt j hj, List.getElem?_append_left (by rw [ho.1]; exact hj)]
  · have hg : g < w.heap.size := by
      rcases ho.2 with ⟨h1, _⟩ | ⟨g', c', cur, h1, _, h2, _⟩
      · cases h1
      · cases h1; exact (Array.getElem?_eq_some_iff.1 h2).1
    exact World.cell?_of_block (w := w) (a := ⟨g, j, none⟩) (hk g hg)

theorem kept_grown {X : Nat → Prop} {a w w' : World} {row : Option Nat} (h : Kept X a w) (hg : w.grownBy w' row) (hr : ∀ b, row = some b → X b ∨ a.heap.size ≤ b) : Kept X a w' :=
  ⟨hg.os.trans h.os, hg.tape.trans h.tape, hg.output.trans h.output, Nat.le_trans h.size hg.size, fun n hn hx =>
    (hg.block n (Nat.lt_of_lt_of_le hn h.size) (fun e => (hr n e.symm).elim (fun hx' => hx hx') (fun hb => by omega))).trans (h.block n hn hx)⟩

end Go.Proofs.Pk

/- Rows of entries in memory. -/
namespace Go.Proofs.Ytgcepbpdicadnaa
open Go.RowKit Go.Proofs Go.Proofs.Pk
set_option maxRecDepth 10000

def cellsM (T : List MEnt) : List Value := T.flatMap entC
theorem cellsM_length : ∀ T : List MEnt, (cellsM T).length = T.length * 4
  | [] => rfl
  | e :: T => by
    show (entC e ++ cellsM T).length = _
    rw [List.length_append, cellsM_length T, List.length_cons]
    simp only [entC, List.length_cons, List.length_nil]; omega
theorem cellsM_get : ∀ (T : List MEnt) (i : Nat) (h : i < T.length) (t : Nat) (u : Value), (entC T[i])[t]? = some u → (cellsM T)[i * 4 + t]? = some u
  | e :: T, 0, _, t, u, hu => by
    show (entC e ++ cellsM T)[0 * 4 + t]? = _
    have ht := (List.getElem?_eq_some_iff.1 hu).1
    rw [Nat.zero_mul, Nat.zero_add, List.getElem?_append_left (by simpa using ht)]
    simpa using hu
  | e :: T, i + 1, h, t, u, hu => by
    have := cellsM_get T i (by simpa using h) t u (by simpa using hu)
    show (entC e ++ cellsM T)[(i + 1) * 4 + t]? = _
    have hl : (entC e).length = 4 := rfl
    rw [List.getElem?_append_right (by rw [hl]; omega), hl, show (i + 1) * 4 + t - 4 = i * 4 + t from by omega]
    exact this
theorem cellsM_append (E F : List MEnt) : cellsM (E ++ F) = cellsM E ++ cellsM F := by unfold cellsM; rw [List.flatMap_append]
theorem cellsM_take : ∀ (E : List MEnt) (i : Nat), cellsM (E.take i) = (cellsM E).take (i * 4)
  | [], i => by simp [cellsM]
  | e :: E, 0 => by simp [cellsM]
  | e :: E, i + 1 => by
    rw [List.take_succ_cons]
    show entC e ++ cellsM (E.take i) = (entC e ++ cellsM E).take _
    rw [cellsM_take E i, show (i + 1) * 4 = 4 + i * 4 from by omega, show 4 + i * 4 = (entC e).length + i * 4 from rfl, List.take_append, List.take_of_length_le (Nat.le_add_right _ _), Nat.add_sub_cancel_left]
theorem cellsM_drop : ∀ (E : List MEnt) (i : Nat), cellsM (E.drop i) = (cellsM E).drop (i * 4)
  | [], i => by simp [cellsM]
  | e :: E, 0 => by simp
  | e :: E, i + 1 => by
    rw [List.drop_succ_cons]
    show _ = (entC e ++ cellsM E).drop _
    rw [cellsM_drop E i, show (i + 1) * 4 = 4 + i * 4 from by omega, show 4 + i * 4 = (entC e).length + i * 4 from rfl, List.drop_append, List.drop_eq_nil_of_le (Nat.le_add_right _ _), List.nil_append, Nat.add_sub_cancel_left]
theorem entC_one (e : MEnt) : ∀ u ∈ entC e, u.oneCell' = true := by
  intro u hu
  simp only [entC, List.mem_cons, List.not_mem_nil, or_false] at hu
  rcases hu with rfl | rfl | rfl | rfl <;> rfl
theorem cellsM_one (E : List MEnt) : ∀ u ∈ cellsM E, u.oneCell' = true := by
  intro u hu
  obtain ⟨e, _, he⟩ := List.mem_flatMap.1 hu
  exact entC_one e u he
theorem ent_info : (Try.prog.info? 45).map (fun i => (i.zero, i.size, i.bytes)) = some (some (.agg (entC zeroM).toArray), 4, 48) := by kernel_rfl
theorem ent_size : (Try.prog.info? 45).map (·.size) = some 4 := by kernel_rfl

theorem range_kept {w w' : World} {g o : Nat} {cs : List Value} (h : w.rangeAt g o cs) (hk : Kept (fun _ => False) w w') (hg : g < w.heap.size) : w'.rangeAt g o cs := fun j v hv => (hk.cell (p := ⟨g, o + j, none⟩) hg (fun f => f)).trans (h j v hv)
/-- A row of entries in memory that reads as a list. -/
theorem rows_range {w : World} {B : Nat} {v : Value} {T : List MEnt} (h : w.ownsRow B 45 4 v T.length (cellsM T)) (i : Nat) (hi : i < T.length) : ∃ g cap, v = .slice (some ⟨g, 0, none⟩) T.length cap ∧ g < w.heap.size ∧ B ≤ g ∧ w.rangeAt g (i * 4) (entC T[i]) := by
  rcases h.2 with ⟨_, hn⟩ | ⟨g, cap, cur, hv, hB, h2, _⟩
  · omega
  · refine ⟨g, cap, hv, (Array.getElem?_eq_some_iff.1 h2).1, hB, fun j u hu => ?_⟩
    have := h.cells (by rw [hv]; rfl) (i * 4 + j) u (cellsM_get T i hi j u hu)
    rw [show ((⟨g, 0, none⟩ : Addr).add (i * 4 + j)) = ⟨g, 0 + (i * 4 + j), none⟩ from by unfold Addr.add; split <;> simp_all] at this
    rwa [Nat.zero_add] at this
theorem owns_ents {w : World} {B : Nat} {ad : Option Addr} {cap : Nat} {T : List MEnt} (h : w.ownsRow B 45 4 (.slice ad T.length cap) T.length (cellsM T)) (hf : ∀ e ∈ T, FitN e.2.1) : EntsW w ad T.length T := by
  refine ⟨rfl, ?_⟩
  by_cases h0 : T = []
  · exact .inl h0
  · have hpos : 0 < T.length := List.length_pos_iff.2 h0
    obtain ⟨g, cap', e, hg, _, _⟩ := rows_range h 0 hpos
    refine .inr ⟨g, 0, by injection e, hg, fun i hi => ⟨?_, hf _ (List.getElem_mem hi)⟩⟩
    obtain ⟨g', cap2, e2, _, _, hr⟩ := rows_range h i hi
    rw [e] at e2
    cases e2
    rw [Nat.zero_add]
    exact hr
theorem ents_keptK {w w' : World} {ad : Option Addr} {len : Nat} {l : List MEnt} (h : EntsW w ad len l) (hk : Kept (fun _ => False) w w') : EntsW w' ad len l := by
  refine ⟨h.1, h.2.imp_right ?_⟩
  rintro ⟨b, off, h1, h2, h3⟩
  exact ⟨b, off, h1, Nat.lt_of_lt_of_le h2 hk.size, fun i hi => ⟨fun j v hv => (hk.cell (p := ⟨b, off + i * 4 + j, none⟩) h2 (fun f => f)).trans ((h3 i hi).row j v hv), (h3 i hi).fit⟩⟩
theorem EntsW.atS {w : World} {ad : Option Addr} {len : Nat} {T : List MEnt} (h : EntsW w ad len T) (i : Nat) (hi : i < T.length) : ∃ b off, ad = some ⟨b, off, none⟩ ∧ b < w.heap.size ∧ w.cell? ⟨b, off + i * 4, none⟩ = some (.string ⟨T[i].1.toArray⟩) ∧
    w.cell? ⟨b, off + i * 4 + 1, none⟩ = some (.int .i64 T[i].2.1) ∧ w.cell? ⟨b, off + i * 4 + 2, none⟩ = some (.bool T[i].2.2.1) ∧ w.cell? ⟨b, off + i * 4 + 3, none⟩ = some (.string ⟨T[i].2.2.2.toArray⟩) := by
  rcases h.2 with h0 | ⟨b, off, h1, h2, h3⟩
  · rw [h0] at hi; simp at hi
  · have hr := (h3 i hi).row
    exact ⟨b, off, h1, h2, hr 0 _ rfl, hr 1 _ rfl, hr 2 _ rfl, hr 3 _ rfl⟩
/-- A part of a slice of entries. -/
theorem EntsW.part {w : World} {b off len : Nat} {l : List MEnt} (h : EntsW w (some ⟨b, off, none⟩) len l) (i n : Nat) (hi : i + n ≤ len) : EntsW w (some ⟨b, off + i * 4, none⟩) n ((l.drop i).take n) := by
  have hl := h.1
  refine ⟨by simp; omega, ?_⟩
  rcases h.2 with h0 | ⟨b', off', h1, h2, h3⟩
  · exact .inl (by rw [h0]; simp)
  · injection h1 with h1
    injection h1 with e1 e2
    subst e1; subst e2
    refine .inr ⟨_, _, rfl, h2, fun j hj => ?_⟩
    have hj2 : i + j < l.length := by simp at hj; omega
    have e : ((l.drop i).take n)[j] = l[i + j] := by simp
    rw [e, show off + i * 4 + j * 4 = off + (i + j) * 4 from by omega]
    exact h3 (i + j) hj2
theorem EntsW.head {w : World} {b off len : Nat} {l : List MEnt} (h : EntsW w (some ⟨b, off, none⟩) len l) (n : Nat) (hn : n ≤ len) : EntsW w (some ⟨b, off, none⟩) n (l.take n) := by
  have := h.part 0 n (by omega)
  rwa [Nat.zero_mul, Nat.add_zero, List.drop_zero] at this
theorem EntsW.tail {w : World} {b off len : Nat} {l : List MEnt} (h : EntsW w (some ⟨b, off, none⟩) len l) (n : Nat) (hn : n ≤ len) : EntsW w (some ⟨b, off + n * 4, none⟩) (len - n) (l.drop n) := by
  have := h.part n (len - n) (by omega)
  rwa [List.take_of_length_le (by simp; have := h.1; omega)] at this
theorem EntsW.empty {w : World} {ad : Option Addr} : EntsW w ad 0 [] := ⟨rfl, .inl rfl⟩
theorem owns_lenM {w : World} {B : Nat} {e : TypeId} {size n m : Nat} {v : Value} {xs ys : List Value} (h : w.ownsRow B e size v n xs) (hn : n = m) (hx : xs = ys) : w.ownsRow B e size v m ys := by subst hn hx; exact h
theorem own_anyM {w : World} {B n size : Nat} {e : TypeId} {v : Value} {xs : List Value} (h : w.ownsRow B e size v n xs) : ∃ ad m cap, v = .slice ad m cap := by
  rcases h.2 with ⟨rfl, rfl⟩ | ⟨g, cap, cur, rfl, _⟩
  · exact ⟨none, 0, 0, rfl⟩
  · exact ⟨_, n, cap, rfl⟩

end Go.Proofs.Ytgcepbpdicadnaa

/- Lists of lists of entries in memory. -/
namespace Go.Proofs.Ytgcepbpdicadnaa
open Go.RowKit Go.Proofs Go.Proofs.Pk
set_option maxRecDepth 10000

/-- A list of lists of entries in memory. -/
def LsE (w : World) (ad : Option Addr) (len : Nat) (ls : List (List MEnt)) : Prop :=
  ls.length = len ∧ (ls = [] ∨ ∃ b off, ad = some ⟨b, off, none⟩ ∧ b < w.heap.size ∧ ∀ i (h : i < ls.length), ∃ (ai : Option Addr) (ci : Nat), w.cell? ⟨b, off + i, none⟩ = some (.slice ai ls[i].length ci) ∧ EntsW w ai ls[i].length ls[i] ∧ ls[i].length ≤ ci)
theorem LsE.kept {w w' : World} {ad : Option Addr} {len : Nat} {ls : List (List MEnt)} (h : LsE w ad len ls) (hk : Kept (fun _ => False) w w') : LsE w' ad len ls := by
  refine ⟨h.1, h.2.imp_right ?_⟩
  rintro ⟨b, off, h1, h2, h3⟩
  refine ⟨b, off, h1, Nat.lt_of_lt_of_le h2 hk.size, fun i hi => ?_⟩
  obtain ⟨ai, ci, hc, he, hl⟩ := h3 i hi
  exact ⟨ai, ci, (hk.cell (p := ⟨b, off + i, none⟩) h2 (fun f => f)).trans hc, ents_keptK he hk, hl⟩
theorem LsE.at {w : World} {ad : Option Addr} {len : Nat} {ls : List (List MEnt)} (h : LsE w ad len ls) {i : Nat} (hi : i < ls.length) : ∃ b off ai ci, ad = some ⟨b, off, none⟩ ∧ (∀ W, Kept (fun _ => False) w W → W.cell? ⟨b, off + i, none⟩ = some (.slice ai ls[i].length ci) ∧ EntsW W ai ls[i].length ls[i]) := by
  rcases h.2 with h0 | ⟨b, off, h1, h2, h3⟩
  · rw [h0] at hi; simp at hi
  · obtain ⟨ai, ci, hc, he, _⟩ := h3 i hi
    exact ⟨b, off, ai, ci, h1, fun W hk => ⟨(hk.cell (p := ⟨b, off + i, none⟩) h2 (fun f => f)).trans hc, ents_keptK he hk⟩⟩
/-- .. and its room. -/
theorem LsE.atC {w : World} {ad : Option Addr} {len : Nat} {ls : List (List MEnt)} (h : LsE w ad len ls) {i : Nat} (hi : i < ls.length) : ∃ b off ai ci, ad = some ⟨b, off, none⟩ ∧ b < w.heap.size ∧ ls[i].length ≤ ci ∧ (∀ W, Kept (fun _ => False) w W → W.cell? ⟨b, off + i, none⟩ = some (.slice ai ls[i].length ci) ∧ EntsW W ai ls[i].length ls[i]) := by
  rcases h.2 with h0 | ⟨b, off, h1, h2, h3⟩
  · rw [h0] at hi; simp at hi
  · obtain ⟨ai, ci, hc, he, hl⟩ := h3 i hi
    exact ⟨b, off, ai, ci, h1, h2, hl, fun W hk => ⟨(hk.cell (p := ⟨b, off + i, none⟩) h2 (fun f => f)).trans hc, ents_keptK he hk⟩⟩

end Go.Proofs.Ytgcepbpdicadnaa
