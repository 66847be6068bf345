/- RMr, LsE, MgK, Is15. -/
import Derived.Test.YthkejfhcdodggaaJ02
import Derived.Test.YthkejfhcdodggaaJ04
import Derived.Sort.Walk0
import Derived.BigQuiet
import Derived.Laws.AppendOwnNone
import Derived.Deep.Cut
import Derived.Test.YthkejfhcdodggaaJ03
import Derived.Test.YthkejfhcdodggaaProg

/- Rows of entries in memory. -/
namespace Go.Proofs.Ythkejfhcdodggaa
open Go.RowKit Go.Proofs Go.Proofs.Pk
set_option maxRecDepth 10000

def cellsM (T : List MEnt) : List Value := T.flatMap entC
theorem cellsM_length : ∀ T : List MEnt, (cellsM T).length = T.length * 4
  | [] => rfl
  | e :: T => by
    show (entC e ++ cellsM T).length = _
    rw [List.length_append, cellsM_length T, List.length_cons]
    simp only [entC, List.length_cons, List.length_nil]; omega
theorem cellsM_get : ∀ (T : List MEnt) (i : Nat) (h : i < T.length) (t : Nat) (u : Value), (entC T[i])[t]? = some u → (cellsM T)[i * 4 + t]? = some u
  | e :: T, 0, _, t, u, hu => by
    show (entC e ++ cellsM T)[0 * 4 + t]? = _
    have ht := (List.getElem?_eq_some_iff.1 hu).1
    rw [Nat.zero_mul, Nat.zero_add, List.getElem?_append_left (by simpa using ht)]
    simpa using hu
  | e :: T, i + 1, h, t, u, hu => by
    have := cellsM_get T i (by simpa using h) t u (by simpa using hu)
    show (entC e ++ cellsM T)[(i + 1) * 4 + t]? = _
    have hl : (entC e).length = 4 := rfl
    rw [List.getElem?_append_right (by rw [hl]; omega), hl, show (i + 1) * 4 + t - 4 = i * 4 + t from by omega]
    exact this
theorem cellsM_append (E F : List MEnt) : cellsM (E ++ F) = cellsM E ++ cellsM F := by unfold cellsM; rw [List.flatMap_append]
theorem cellsM_take : ∀ (E : List MEnt) (i : Nat), cellsM (E.take i) = (cellsM E).take (i * 4)
  | [], i => by simp [cellsM]
  | e :: E, 0 => by simp [cellsM]
  | e :: E, i + 1 => by
    rw [List.take_succ_cons]
    show entC e ++ cellsM (E.take i) = (entC e ++ cellsM E).take _
    rw [cellsM_take E i, show (i + 1) * 4 = 4 + i * 4 from by omega, show 4 + i * 4 = (entC e).length + i * 4 from rfl, List.take_append, List.take_of_length_le (Nat.le_add_right _ _), Nat.add_sub_cancel_left]
theorem cellsM_drop : ∀ (E : List MEnt) (i : Nat), cellsM (E.drop i) = (cellsM E).drop (i * 4)
  | [], i => by simp [cellsM]
  | e :: E, 0 => by simp
  | e :: E, i + 1 => by
    rw [List.drop_succ_cons]
    show _ = (entC e ++ cellsM E).drop _
    rw [cellsM_drop E i, show (i + 1) * 4 = 4 + i * 4 from by omega, show 4 + i * 4 = (entC e).length + i * 4 from rfl, List.drop_append, List.drop_eq_nil_of_le (Nat.le_add_right _ _), List.nil_append, Nat.add_sub_cancel_left]
theorem entC_one (e : MEnt) : ∀ u ∈ entC e, u.oneCell' = true := by
  intro u hu
  simp only [entC, List.mem_cons, List.not_mem_nil, or_false] at hu
  rcases hu with rfl | rfl | rfl | rfl <;> rfl
theorem cellsM_one (E : List MEnt) : ∀ u ∈ cellsM E, u.oneCell' = true := by
  intro u hu
  obtain ⟨e, _, he⟩ := List.mem_flatMap.1 hu
  exact entC_one e u he
theorem ent_info : (Try.prog.info? 34).map (fun i => (i.zero, i.size, i.bytes)) = some (some (.agg (entC zeroM).toArray), 4, 48) := by kernel_rfl
theorem ent_size : (Try.prog.info? 34).map (·.size) = some 4 := by kernel_rfl

theorem range_kept {w w' : World} {g o : Nat} {cs : List Value} (h : w.rangeAt g o cs) (hk : Kept (fun _ => False) w w') (hg : g < w.heap.size) : w'.rangeAt g o cs := fun j v hv => (hk.cell (p := ⟨g, o + j, none⟩) hg (fun f => f)).trans (h j v hv)
/-- A row of entries in memory that reads as a list. -/
theorem rows_range {w : World} {B : Nat} {v : Value} {T : List MEnt} (h : w.ownsRow B 34 4 v T.length (cellsM T)) (i : Nat) (hi : i < T.length) : ∃ g cap, v = .slice (some ⟨g, 0, none⟩) T.length cap ∧ g < w.heap.size ∧ B ≤ g ∧ w.rangeAt g (i * 4) (entC T[i]) := by
  rcases h.2 with ⟨_, hn⟩ | ⟨g, cap, cur, hv, hB, h2, _⟩
  · omega
  · refine ⟨g, cap, hv, (Array.getElem?_eq_some_iff.1 h2).1, hB, fun j u hu => ?_⟩
    have := h.cells (by rw [hv]; rfl) (i * 4 + j) u (cellsM_get T i hi j u hu)
    rw [show ((⟨g, 0, none⟩ : Addr).add (i * 4 + j)) = ⟨g, 0 + (i * 4 + j), none⟩ from by unfold Addr.add; split <;> simp_all] at this
    rwa [Nat.zero_add] at this
theorem owns_ents {w : World} {B : Nat} {ad : Option Addr} {cap : Nat} {T : List MEnt} (h : w.ownsRow B 34 4 (.slice ad T.length cap) T.length (cellsM T)) (hf : ∀ e ∈ T, FitN e.2.1) : EntsW w ad T.length T := by
  refine ⟨rfl, ?_⟩
  by_cases h0 : T = []
  · exact .inl h0
  · have hpos : 0 < T.length := List.length_pos_iff.2 h0
    obtain ⟨g, cap', e, hg, _, _⟩ := rows_range h 0 hpos
    refine .inr ⟨g, 0, by injection e, hg, fun i hi => ⟨?_, hf _ (List.getElem_mem hi)⟩⟩
    obtain ⟨g', cap2, e2, _, _, hr⟩ := rows_range h i hi
    rw [e] at e2
    cases e2
    rw [Nat.zero_add]
    exact hr
theorem ents_keptK {w w' : World} {ad : Option Addr} {len : Nat} {l : List MEnt} (h : EntsW w ad len l) (hk : Kept (fun _ => False) w w') : EntsW w' ad len l := by
  refine ⟨h.1, h.2.imp_right ?_⟩
  rintro ⟨b, off, h1, h2, h3⟩
  exact ⟨b, off, h1, Nat.lt_of_lt_of_le h2 hk.size, fun i hi => ⟨fun j v hv => (hk.cell (p := ⟨b, off + i * 4 + j, none⟩) h2 (fun f => f)).trans ((h3 i hi).row j v hv), (h3 i hi).fit⟩⟩
theorem EntsW.atS {w : World} {ad : Option Addr} {len : Nat} {T : List MEnt} (h : EntsW w ad len T) (i : Nat) (hi : i < T.length) : ∃ b off, ad = some ⟨b, off, none⟩ ∧ b < w.heap.size ∧ w.cell? ⟨b, off + i * 4, none⟩ = some (.string ⟨T[i].1.toArray⟩) ∧
    w.cell? ⟨b, off + i * 4 + 1, none⟩ = some (.int .i64 T[i].2.1) ∧ w.cell? ⟨b, off + i * 4 + 2, none⟩ = some (.bool T[i].2.2.1) ∧ w.cell? ⟨b, off + i * 4 + 3, none⟩ = some (.string ⟨T[i].2.2.2.toArray⟩) := by
  rcases h.2 with h0 | ⟨b, off, h1, h2, h3⟩
  · rw [h0] at hi; simp at hi
  · have hr := (h3 i hi).row
    exact ⟨b, off, h1, h2, hr 0 _ rfl, hr 1 _ rfl, hr 2 _ rfl, hr 3 _ rfl⟩
/-- A part of a slice of entries. -/
theorem EntsW.part {w : World} {b off len : Nat} {l : List MEnt} (h : EntsW w (some ⟨b, off, none⟩) len l) (i n : Nat) (hi : i + n ≤ len) : EntsW w (some ⟨b, off + i * 4, none⟩) n ((l.drop i).take n) := by
  have hl := h.1
  refine ⟨by simp; omega, ?_⟩
  rcases h.2 with h0 | ⟨b', off', h1, h2, h3⟩
  · exact .inl (by rw [h0]; simp)
  · injection h1 with h1
    injection h1 with e1 e2
    subst e1; subst e2
    refine .inr ⟨_, _, rfl, h2, fun j hj => ?_⟩
    have hj2 : i + j < l.length := by simp at hj; omega
    have e : ((l.drop i).take n)[j] = l[i + j] := by simp
    rw [e, show off + i * 4 + j * 4 = off + (i + j) * 4 from by omega]
    exact h3 (i + j) hj2
theorem EntsW.head {w : World} {b off len : Nat} {l : List MEnt} (h : EntsW w (some ⟨b, off, none⟩) len l) (n : Nat) (hn : n ≤ len) : EntsW w (some ⟨b, off, none⟩) n (l.take n) := by
  have := h.part 0 n (by omega)
  rwa [Nat.zero_mul, Nat.add_zero, List.drop_zero] at this
theorem EntsW.tail {w : World} {b off len : Nat} {l : List MEnt} (h : EntsW w (some ⟨b, off, none⟩) len l) (n : Nat) (hn : n ≤ len) : EntsW w (some ⟨b, off + n * 4, none⟩) (len - n) (l.drop n) := by
  have := h.part n (len - n) (by omega)
  rwa [List.take_of_length_le (by simp; have := h.1; omega)] at this
theorem EntsW.empty {w : World} {ad : Option Addr} : EntsW w ad 0 [] := ⟨rfl, .inl rfl⟩
theorem owns_lenM {w : World} {B : Nat} {e : TypeId} {size n m : Nat} {v : Value} {xs ys : List Value} (h : w.ownsRow B e size v n xs) (hn : n = m) (hx : xs = ys) : w.ownsRow B e size v m ys := by subst hn hx; exact h
theorem own_anyM {w : World} {B n size : Nat} {e : TypeId} {v : Value} {xs : List Value} (h : w.ownsRow B e size v n xs) : ∃ ad m cap, v = .slice ad m cap := by
  rcases h.2 with ⟨rfl, rfl⟩ | ⟨g, cap, cur, rfl, _⟩
  · exact ⟨none, 0, 0, rfl⟩
  · exact ⟨_, n, cap, rfl⟩

end Go.Proofs.Ythkejfhcdodggaa

/- Lists of lists of entries in memory. -/
namespace Go.Proofs.Ythkejfhcdodggaa
open Go.RowKit Go.Proofs Go.Proofs.Pk
set_option maxRecDepth 10000

/-- A list of lists of entries in memory. -/
def LsE (w : World) (ad : Option Addr) (len : Nat) (ls : List (List MEnt)) : Prop :=
  ls.length = len ∧ (ls = [] ∨ ∃ b off, ad = some ⟨b, off, none⟩ ∧ b < w.heap.size ∧ ∀ i (h : i < ls.length), ∃ (ai : Option Addr) (ci : Nat), w.cell? ⟨b, off + i, none⟩ = some (.slice ai ls[i].length ci) ∧ EntsW w ai ls[i].length ls[i] ∧ ls[i].length ≤ ci)
theorem LsE.kept {w w' : World} {ad : Option Addr} {len : Nat} {ls : List (List MEnt)} (h : LsE w ad len ls) (hk : Kept (fun _ => False) w w') : LsE w' ad len ls := by
  refine ⟨h.1, h.2.imp_right ?_⟩
  rintro ⟨b, off, h1, h2, h3⟩
  refine ⟨b, off, h1, Nat.lt_of_lt_of_le h2 hk.size, fun i hi => ?_⟩
  obtain ⟨ai, ci, hc, he, hl⟩ := h3 i hi
  exact ⟨ai, ci, (hk.cell (p := ⟨b, off + i, none⟩) h2 (fun f => f)).trans hc, ents_keptK he hk, hl⟩
theorem LsE.at {w : World} {ad : Option Addr} {len : Nat} {ls : List (List MEnt)} (h : LsE w ad len ls) {i : Nat} (hi : i < ls.length) : ∃ b off ai ci, ad = some ⟨b, off, none⟩ ∧ (∀ W, Kept (fun _ => False) w W → W.cell? ⟨b, off + i, none⟩ = some (.slice ai ls[i].length ci) ∧ EntsW W ai ls[i].length ls[i]) := by
  rcases h.2 with h0 | ⟨b, off, h1, h2, h3⟩
  · rw [h0] at hi; simp at hi
  · obtain ⟨ai, ci, hc, he, _⟩ := h3 i hi
    exact ⟨b, off, ai, ci, h1, fun W hk => ⟨(hk.cell (p := ⟨b, off + i, none⟩) h2 (fun f => f)).trans hc, ents_keptK he hk⟩⟩
/-- .. and its room. -/
theorem LsE.atC {w : World} {ad : Option Addr} {len : Nat} {ls : List (List MEnt)} (h : LsE w ad len ls) {i : Nat} (hi : i < ls.length) : ∃ b off ai ci, ad = some ⟨b, off, none⟩ ∧ b < w.heap.size ∧ ls[i].length ≤ ci ∧ (∀ W, Kept (fun _ => False) w W → W.cell? ⟨b, off + i, none⟩ = some (.slice ai ls[i].length ci) ∧ EntsW W ai ls[i].length ls[i]) := by
  rcases h.2 with h0 | ⟨b, off, h1, h2, h3⟩
  · rw [h0] at hi; simp at hi
  · obtain ⟨ai, ci, hc, he, hl⟩ := h3 i hi
    exact ⟨b, off, ai, ci, h1, h2, hl, fun W hk => ⟨(hk.cell (p := ⟨b, off + i, none⟩) h2 (fun f => f)).trans hc, ents_keptK he hk⟩⟩

end Go.Proofs.Ythkejfhcdodggaa

/- The contract that the laws of layer 15 want of the program's merge, whatever it is made by. -/
namespace Go.Proofs.Ythkejfhcdodggaa
open Go.RowKit Go.Proofs Go.Proofs.Pk
set_option maxRecDepth 10000

/-- A list that is read, and the error's number. -/
def OutE (w : World) (r : List MEnt × Bool) (e : Ending) (w' : World) : Prop :=
  ∃ (ad : Option Addr) (cap : Nat), e = .returned (.tuple #[.slice ad r.1.length cap, errV 50 (if r.2 = true then 0 else 1)]) ∧ EntsW w' ad r.1.length r.1 ∧ Kept (fun _ => False) w w' ∧ r.1.length ≤ cap
/-- A list in a block of its own, and the error's number. -/
def NewE (w : World) (r : List MEnt × Bool) (e : Ending) (w' : World) : Prop :=
  ∃ (ad : Option Addr) (cap : Nat), e = .returned (.tuple #[.slice ad r.1.length cap, errV 50 (if r.2 = true then 0 else 1)]) ∧ w'.ownsRow w.heap.size 34 4 (.slice ad r.1.length cap) r.1.length (cellsM r.1) ∧ (∀ e ∈ r.1, FitN e.2.1) ∧ Kept (fun _ => False) w w'
theorem NewE.out {w w' : World} {r : List MEnt × Bool} {e : Ending} (h : NewE w r e w') : OutE w r e w' := by
  obtain ⟨ad, cap, h1, h2, h3, h4⟩ := h
  refine ⟨ad, cap, h1, owns_ents h2 h3, h4, ?_⟩
  rcases h2.2 with ⟨_, hn⟩ | ⟨g, c, cur, hv, _, _, hc, _⟩
  · omega
  · cases hv; exact hc
def foldR (l : List MEnt) (ks : List Int) (b : Bool) : List MEnt × Bool := if sortB l = true then (foldM l ks b, true) else ([], false)
def seeR (l : List MEnt) (s : Int) : List MEnt × Bool := if sortB l = true then (seeM l s, true) else ([], false)
structure MgK : Prop where
  merge : ∀ (w : World) (ad : Option Addr) (len cap : Nat) (ls : List (List MEnt)), LsE w ad len ls → len ≤ 16 → (∀ l ∈ ls, l.length ≤ 1000) →
    Calls Try.prog 12 #[.slice ad len cap] w (NewE w (mergeM ls))
  fold : ∀ (w : World) (ad : Option Addr) (len cap : Nat) (l : List MEnt) (kd : Option Addr) (kl kc : Nat) (ks : List Int) (b : Bool), EntsW w ad len l → len ≤ 1000 → len ≤ cap → Ints w kd kl ks → Fit64 ks → (kd = none → kl = 0 ∧ kc = 0) → (kl : Int) * 8 ≤ 140737488351232 →
    Calls Try.prog 15 #[.slice ad len cap, .slice kd kl kc, .bool b] w (OutE w (foldR l ks b))
  see : ∀ (w : World) (ad : Option Addr) (len cap : Nat) (l : List MEnt) (s : Int), EntsW w ad len l → len ≤ 1000 → len ≤ cap → FitN s →
    Calls Try.prog 17 #[.slice ad len cap, .int .i64 s] w (OutE w (seeR l s))

end Go.Proofs.Ythkejfhcdodggaa

/- The law's own question whether an error is a number of api (layer 15). -/
namespace Go.Proofs.Ythkejfhcdodggaa
open Go.RowKit Go.Proofs Go.Proofs.Pk
attribute [local simp] mk_get wrap64_u8 mk_extract ByteArray.mk_append_mk get_1k

theorem assert_nil (w : World) : (Instr.typeAssert .nilIface 28 50 true).run Try.prog w = .ok (.tuple #[.int .i64 0, .bool false]) w := by kernel_rfl

theorem assert_err (c : Int) (w : World) : (Instr.typeAssert (.iface 50 (.int .i64 c)) 28 50 true).run Try.prog w = .ok (.tuple #[.int .i64 c, .bool true]) w := by kernel_rfl

set_option maxHeartbeats 400000 in
theorem is_00 (w : World) : Calls Try.prog 14 #[errV 50 0, .int .i64 0] w fun e w' => e = .returned (.bool true) ∧ w = w' := by
  simp only [errV, if_pos]
  go_enter Try.func14, Try.ntmps14
  go_wp2
  go_ret
  exact ⟨rfl, rfl⟩

set_option maxHeartbeats 400000 in
theorem is_0k (k : Nat) (w : World) (hk : ((k : Int) == 0) = false) : Calls Try.prog 14 #[errV 50 0, .int .i64 k] w fun e w' => e = .returned (.bool false) ∧ w = w' := by
  simp only [errV, if_pos]
  have ha := assert_nil
  have hb := assert_err
  go_enter Try.func14, Try.ntmps14
  go_wp2
  go_ret
  exact ⟨rfl, rfl⟩

set_option maxHeartbeats 400000 in
theorem is_c0 (c : Nat) (w : World) (hc : c ≠ 0) : Calls Try.prog 14 #[errV 50 c, .int .i64 0] w fun e w' => e = .returned (.bool false) ∧ w = w' := by
  rw [errV, if_neg hc]
  clear hc
  have ha := assert_nil
  have hb := assert_err
  go_enter Try.func14, Try.ntmps14
  go_wp2
  go_ret
  exact ⟨rfl, rfl⟩

set_option maxHeartbeats 400000 in
theorem is_ck (c k : Nat) (w : World) (hc : c ≠ 0) (hk : ((k : Int) == 0) = false) : Calls Try.prog 14 #[errV 50 c, .int .i64 k] w fun e w' => e = .returned (.bool (c == k)) ∧ w = w' := by
  rw [errV, if_neg hc]
  clear hc
  have ha := assert_nil
  have hb := assert_err
  go_enter Try.func14, Try.ntmps14
  go_wp2
  go_ret
  exact ⟨ret_bool (int_beq c k), rfl⟩

/-- Is an error the one of this number? -/
theorem is_any (c k : Nat) (w : World) : Calls Try.prog 14 #[errV 50 c, .int .i64 k] w fun e w' => e = .returned (.bool (c == k)) ∧ w = w' := by
  by_cases hc : c = 0
  · subst hc
    by_cases hk : k = 0
    · subst hk; exact is_00 w
    · have e : ((0 : Nat) == k) = false := by simpa using fun h => hk h.symm
      rw [e]; exact is_0k k w (by simpa using hk)
  · by_cases hk : k = 0
    · subst hk
      have e : (c == 0) = false := by simpa using hc
      rw [e]; exact is_c0 c w hc
    · exact is_ck c k w hc (by simpa using hk)

end Go.Proofs.Ythkejfhcdodggaa
