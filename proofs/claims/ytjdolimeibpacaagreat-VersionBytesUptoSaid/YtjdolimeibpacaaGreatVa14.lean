/- Layer 14's landed program: sets of numbers (map[int]struct{}); apart. -/
import Derived.Test.YtjdolimeibpacaaGreatVpM
import Derived.Test.YtjdolimeibpacaaGreatVs14
import Derived.Maps.OwnSet
namespace Go.Proofs.YtjdolimeibpacaaGreat
open Go.RowKit Go.Proofs Go.Proofs.Pk
open Go.ChangeMaps Go.MapKept Go.WideShapes
set_option maxRecDepth 10000

/-- Block b is a set that has just the numbers of S. -/
def SetI (w : World) (b n : Nat) (S : List Int) : Prop :=
  ∃ D : DataW Unit, w.ownsMap Tryz.prog 3 unitElem b n D ∧ S.Nodup ∧ (∀ x : Int, Maps.has D (.int .i64 x) = decide (x ∈ S)) ∧ Maps.size D = S.length
theorem intKey : Maps.Keyed Tryz.prog 3 := Maps.int_keyed Tryz.underlying3
theorem unitZero (w : World) : (zeroValue 107).run Tryz.prog w = .ok (.agg #[]) w := by kernel_rfl
theorem wf_fit {x : Int} (h : FitV x) : (Lit.int .i64 x).wf = true := by simpa [FitV, Lit.wf, IntKind.min, IntKind.max, IntKind.signed, IntKind.bits] using h
theorem keyI {x : Int} (h : FitV x) : keyOf Tryz.prog 3 (.int .i64 x) = some (.int .i64 x) := Maps.keyOf_int_mk Tryz.underlying3 (wf_fit h)
theorem keyLit (x : Int) : WideAt.IsKeyLit (.int .i64 x) := trivial
theorem SetI.made (w : World) : SetI (w.alloc (.map #[] 0)) w.heap.size 0 [] :=
  ⟨.map [], World.ownsMap_made _ _ _ _, List.nodup_nil, fun x => by simp [Maps.has_eq], by simp [Maps.size_eq]⟩
theorem SetI.of_block {w w' : World} {b n : Nat} {S : List Int} (h : SetI w b n S) (hb : w'.heap[b]? = w.heap[b]?) : SetI w' b n S := by
  obtain ⟨D, ⟨es, clock, h1, h2⟩, h3⟩ := h
  exact ⟨D, ⟨es, clock, hb.trans h1, h2⟩, h3⟩
theorem SetI.lt {w : World} {b n : Nat} {S : List Int} (h : SetI w b n S) : b < w.heap.size := by
  obtain ⟨D, ⟨es, clock, h1, _⟩, _⟩ := h
  exact (Array.getElem?_eq_some_iff.1 h1).1
theorem SetI.kept {w w' : World} {b n : Nat} {S : List Int} {X : Nat → Prop} (h : SetI w b n S) (hk : Kept X w w') (hx : ¬X b) : SetI w' b n S := h.of_block (hk.block b h.lt hx)
theorem kept_turned {w w' : World} {b : Nat} (h : w.mapTurned w' b) : Kept (fun k => k = b) w w' := by
  have hg := h.grown
  exact ⟨hg.os, hg.tape, hg.output, hg.size, fun k hk hx => hg.block k hk (fun e => hx (by cases e; rfl))⟩
theorem SetI.put {w w' : World} {b n m : Nat} {S : List Int} {D : DataW Unit} {x : Int} (h1 : w.ownsMap Tryz.prog 3 unitElem b n D) (h2 : S.Nodup) (h3 : ∀ x : Int, Maps.has D (.int .i64 x) = decide (x ∈ S)) (h4 : Maps.size D = S.length)
    (h5 : w'.ownsMap Tryz.prog 3 unitElem b m (D.put (.int .i64 x) (.agg []))) : SetI w' b m (addI S x) := by
  refine ⟨_, h5, addI_nodup h2 x, fun y => ?_, ?_⟩
  · by_cases e : y = x
    · subst e
      rw [Maps.has_put_same h1.isMap (keyLit y)]
      exact (decide_eq_true (mem_addI.2 (.inr rfl))).symm
    · rw [Maps.has_put_other (fun h => e (by injection h)), h3]
      rw [Bool.eq_iff_iff, decide_eq_true_eq, decide_eq_true_eq, mem_addI]
      exact ⟨.inl, fun h => h.resolve_right e⟩
  · rw [Maps.size_put (h1.tidy intKey), h3, h4]
    unfold addI
    by_cases hx : x ∈ S <;> simp [hx]
theorem SetI.del {w w' : World} {b n m : Nat} {S : List Int} {D : DataW Unit} {x : Int} (h1 : w.ownsMap Tryz.prog 3 unitElem b n D) (h2 : S.Nodup) (h3 : ∀ x : Int, Maps.has D (.int .i64 x) = decide (x ∈ S)) (h4 : Maps.size D = S.length)
    (h5 : w'.ownsMap Tryz.prog 3 unitElem b m (D.del (.int .i64 x))) : SetI w' b m (S.erase x) := by
  refine ⟨_, h5, h2.erase x, fun y => ?_, ?_⟩
  · by_cases e : y = x
    · subst e
      rw [Maps.has_del_same]
      refine (decide_eq_false fun hc => ?_).symm
      exact (h2.mem_erase_iff.1 hc).1 rfl
    · rw [Maps.has_del_other (fun h => e (by injection h)), h3]
      rw [Bool.eq_iff_iff, decide_eq_true_eq, decide_eq_true_eq, h2.mem_erase_iff]
      exact ⟨fun h => ⟨e, h⟩, fun h => h.2⟩
  · have := Maps.size_del (k := .int .i64 x) (h1.tidy intKey)
    rw [h3, h4] at this
    rw [List.length_erase]
    by_cases hx : x ∈ S
    · simp [hx] at this ⊢; omega
    · simp [hx] at this ⊢; omega

section
variable {ops : Array Oper} {rest : List Oper} {o : Oper} {a : Act} {w : World} {Q : Exit → Act → World → Prop}
theorem wpList_set_put (hg : o.guard = none) (m x v : Operand) (hop : o.op = Op.mapUpdate 106 m x v) (b n : Nat) (S : List Int) (hm : a.eval m = .map (some b)) (h : SetI w b n S) (hn : n < maxLen) (y : Int) (hx : a.eval x = .int .i64 y) (hv : a.eval v = .agg #[]) (hy : FitV y)
    (hK : ∀ w', SetI w' b (n + 1) (addI S y) → Kept (fun k => k = b) w w' → wpList Tryz.prog ops Q rest (a.put o.dst undef) w') : wpList Tryz.prog ops Q (o :: rest) a w := by
  obtain ⟨D, h1, h2, h3, h4⟩ := h
  exact wpList_mapUpdate_in w hg m x v _ hop _ _ intKey Tryz.underlying106 unitElem b n D hm h1 hn _ _ _ hx hv (keyI hy) _ _ unitElem_mk (fun w' k1 k2 => hK w' (SetI.put h1 h2 h3 h4 k1) (kept_turned k2))
theorem wpList_set_del (hg : o.guard = none) (m x : Operand) (hop : o.op = Op.call { callee := Callee.builtin Builtin.delete, args := #[m, x], argTypes := #[106, 3] }) (b n : Nat) (S : List Int) (hm : a.eval m = .map (some b)) (h : SetI w b n S) (y : Int) (hx : a.eval x = .int .i64 y) (hy : FitV y)
    (hK : ∀ w', SetI w' b n (S.erase y) → Kept (fun k => k = b) w w' → wpList Tryz.prog ops Q rest (a.put o.dst (.tuple #[])) w') : wpList Tryz.prog ops Q (o :: rest) a w := by
  obtain ⟨D, h1, h2, h3, h4⟩ := h
  exact wpList_delete_own w hg m x _ _ hop _ intKey Tryz.underlying106 unitElem b n D hm h1 _ _ hx (keyI hy) (fun w' k1 k2 => hK w' (SetI.del h1 h2 h3 h4 k1) (kept_turned k2))
theorem wpList_set_has (hg : o.guard = none) (m x : Operand) (hop : o.op = Op.lookup 106 m x true) (b n : Nat) (S : List Int) (hm : a.eval m = .map (some b)) (h : SetI w b n S) (y : Int) (hx : a.eval x = .int .i64 y) (hy : FitV y)
    (hK : wpList Tryz.prog ops Q rest (a.put o.dst (.tuple #[.agg #[], .bool (decide (y ∈ S))])) w) : wpList Tryz.prog ops Q (o :: rest) a w := by
  obtain ⟨D, h1, h2, h3, h4⟩ := h
  exact wpList_lookup_own_unit w hg m x _ hop _ _ intKey Tryz.underlying106 (unitZero w) b n D hm h1 _ _ hx (keyI hy) (by rw [h3]; exact hK)
theorem wpList_set_len (hg : o.guard = none) (m : Operand) (hop : o.op = Op.call { callee := Callee.builtin Builtin.len, args := #[m], argTypes := #[106] }) (b n : Nat) (S : List Int) (hm : a.eval m = .map (some b)) (h : SetI w b n S)
    (hK : wpList Tryz.prog ops Q rest (a.put o.dst (.int .i64 (S.length : Int))) w) : wpList Tryz.prog ops Q (o :: rest) a w := by
  obtain ⟨D, h1, h2, h3, h4⟩ := h
  exact wpList_len_own w hg m _ hop _ _ Tryz.underlying106 unitElem b n D hm h1 (by rw [h4]; exact hK)
end

set_option maxHeartbeats 2000000 in
theorem apartP14 (ad : Option Addr) (len cap : Nat) (l : List Int) (w : World) (h : Ints w ad len l) (hf : ∀ x ∈ l, FitV x) (hlen : (len : Int) ≤ 140737488355328) :
    Calls Tryz.prog 36 #[.slice ad len cap] w fun e w' => e = .returned (.bool (decide l.Nodup)) ∧ Kept (fun _ => False) w w' := by
  have hmm := @run_makeMap Tryz.prog
  have hl := h.1
  have HW := Lib.hid h
  have HF := Lib.hid hf
  have HL := Lib.hid hl
  clear h hf hl
  go_enter Tryz.func36, Tryz.ntmps36
  go_wp2
  go_loopw [9] (fun i wr => ∃ k : Nat, i = .int .i64 (k : Int) ∧ k ≤ len ∧ Hid (SetI wr w.heap.size k (onceI (l.take k)) ∧ Kept (fun _ => False) w wr)) (fun i _ => len - (intOf i).toNat)
  case atStart => exact ⟨0, rfl, Nat.zero_le _, Lib.hid ⟨by simpa [onceI] using SetI.made w, (Kept.refl _ _).alloc _⟩⟩
  case round =>
    obtain ⟨k, rfl, hk, hI⟩ := hrel
    have k0 : (0 : Int) ≤ (k : Int) := by omega
    have hwk : IntKind.i64.wrap ((k : Int) + 1) = (k : Int) + 1 := IntWalk.i64_in _ (by omega)
    by_cases hlt : k < len
    · have kN : (k : Int) < (len : Int) := by omega
      have hkl : k < l.length := by rw [HL.out]; exact hlt
      obtain ⟨b, off, rfl, hbl, hc⟩ := ints_at (ints_keptV HW.out hI.out.2) k hkl
      have hx := HF.out l[k] (List.getElem_mem hkl)
      have hst : Hid (onceI (l.take (k + 1)) = addI (onceI (l.take k)) l[k]) := Lib.hid (by rw [List.take_succ_eq_append_getElem hkl, onceI_snoc])
      generalize l[k] = x at hc hx hst
      go_wp2_with (at_mapUpdate; refine wpList_set_put rfl _ _ _ rfl w.heap.size k _ rfl hI.out.1 (by unfold maxLen; omega) x rfl rfl hx ?_)
      intro w1 hs1 hk1
      have HN := Lib.hid (And.intro hs1 (hI.out.2.trans hk1 (fun j hj => .inr (Nat.le_of_eq hj.symm))))
      clear hs1 hk1
      go_wp2
      go_roundw
      case rel => exact ⟨k + 1, by first | rfl | go_num, by omega, Lib.hid ⟨by rw [hst.out]; exact HN.out.1, HN.out.2⟩⟩
      case measure => simp [intOf]; omega
    · have kN : ¬(k : Int) < (len : Int) := by omega
      have hkl : k = l.length := by rw [HL.out]; omega
      have HE : Hid ((((onceI l).length : Int) == (len : Int)) = decide l.Nodup) := Lib.hid (by
        rw [Bool.eq_iff_iff, beq_iff_eq, decide_eq_true_eq, ← onceI_len, ← HL.out]
        omega)
      go_wp2_with (at_len; refine wpList_set_len rfl _ rfl w.heap.size k _ rfl hI.out.1 ?_)
      go_ret
      exact ⟨ret_bool HE.out, hI.out.2⟩

end Go.Proofs.YtjdolimeibpacaaGreat
