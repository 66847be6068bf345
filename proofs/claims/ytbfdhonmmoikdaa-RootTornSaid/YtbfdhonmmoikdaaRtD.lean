/- The reference of layer 6: Decode. -/
import Derived.Test.YtbfdhonmmoikdaaRtE
import Derived.Laws.ResultCell
import Derived.Test.YtbfdhonmmoikdaaMid
namespace Go.Proofs.Ytbfdhonmmoikdaa
open Go.RowKit Go.Proofs Go.Proofs.Pk
set_option maxRecDepth 10000
attribute [local simp] mk_get wrap64_u8 mk_extract ByteArray.mk_append_mk get_1k

theorem exec_alloc {P : Program} {w : World} {o : Oper} {a : Act} {ty : TypeId} (i : TypeInfo) (C : List Value) (hi : P.info? ty = some i) (hz : i.zero = some (.agg C.toArray)) (ho : o.op = .alloc ty) :
    (execOp a.eval o).run P w = .ok (.value (.pointer (some ⟨w.heap.size, 0, none⟩))) (w.alloc (.cells C.toArray ty)) := by
  have hrun : (Instr.alloc ty true (.tuple #[])).run P w = .ok (.pointer (some ⟨w.heap.size, 0, none⟩)) (w.alloc (.cells C.toArray ty)) := by
    simp [Instr.alloc, zeroValue, typeInfo, hi, hz, newVar, newRow, Value.cells]
  unfold execOp
  simp only [ho, Sem.run_bind, hrun, Sem.run_pure, Result.andThen_ok]
theorem exec_store_mid {P : Program} {w : World} {op : Oper} {a : Act} (ty : TypeId) (x y : Operand) (ho : op.op = .store ty x y) (b o : Nat) (cells : Array Value) (hx : a.eval x = .pointer (some ⟨b, o, none⟩)) (hy : a.eval y = .agg cells)
    (ht : w.there b o cells.size) (hi : (P.info? ty).map (·.size) = some cells.size) (h1 : cells.all (·.oneCell') = true) : (execOp a.eval op).run P w = .ok .skip (w.setCells b o cells.toList) := by
  unfold execOp
  simp only [ho, hx, hy, Instr.storeAt, Instr.sureAddr, Sem.run_bind, Sem.run_pure, Result.andThen_ok, run_storeVar_mid w b o ty cells ht hi h1]

theorem own_ints {w : World} {B : Nat} {e : TypeId} {v : Value} {L : List Nat} (h : w.ownsRow B e 1 v L.length (intsN L)) :
    ∃ ad cap, v = .slice ad L.length cap ∧ ∀ k (hk : k < L.length), ∃ g, ad = some ⟨g, 0, none⟩ ∧ g < w.heap.size ∧ w.cell? ⟨g, k, none⟩ = some (.int .i64 (L[k] : Int)) := by
  by_cases h0 : 0 < L.length
  · obtain ⟨g, cap, rfl, _, hl⟩ := h.form h0
    refine ⟨_, _, rfl, fun k hk => ⟨g, rfl, ?_, ?_⟩⟩
    · rcases h.2 with ⟨h1, _⟩ | ⟨g', c', cur, h1, _, h2, _⟩
      · cases h1
      · cases h1; exact (Array.getElem?_eq_some_iff.1 h2).1
    · rw [h.cellAt _ (by omega)]
      unfold intsN
      rw [List.getElem?_map, List.getElem?_eq_getElem hk]; rfl
  · rcases h.2 with ⟨rfl, hz⟩ | ⟨g, cap, cur, rfl, _⟩
    · exact ⟨none, 0, by rw [hz], fun k hk => by omega⟩
    · exact ⟨_, _, rfl, fun k hk => by omega⟩

/-- Numbers by threes: files. -/
def group : List Nat → List FileN
  | a :: b :: c :: l => (a, b, c) :: group l
  | _ => []
theorem group_length : ∀ (n : Nat) (l : List Nat), l.length = 3 * n → (group l).length = n
  | 0, l, h => by have : l = [] := List.length_eq_zero_iff.1 (by omega); subst this; rfl
  | n + 1, l, h => by
    match l, h with
    | a :: b :: c :: l, h => simp only [group, List.length_cons]; rw [group_length n l (by simp at h; omega)]
theorem group_get : ∀ (n : Nat) (l : List Nat) (hl : l.length = 3 * n) (j : Nat) (hj : j < n), (group l)[j]'(by rw [group_length n l hl]; exact hj) = (l[3 * j]'(by omega), l[3 * j + 1]'(by omega), l[3 * j + 2]'(by omega))
  | 0, l, h, j, hj => by omega
  | n + 1, l, h, j, hj => by
    match l, h with
    | a :: b :: c :: l, h =>
      cases j with
      | zero => rfl
      | succ j =>
        have := group_get n l (by simp at h; omega) j (by omega)
        simp only [group, List.getElem_cons_succ]
        rw [this]
        simp only [show 3 * (j + 1) = 3 * j + 1 + 1 + 1 from by omega, show 3 * j + 1 + 1 + 1 + 1 = (3 * j + 1) + 1 + 1 + 1 from by omega, show 3 * j + 1 + 1 + 1 + 2 = (3 * j + 2) + 1 + 1 + 1 from by omega, List.getElem_cons_succ]
def cellsF (l : List FileN) : List Value := l.flatMap fun f => fileV (fileI f)
theorem fit_nat {n : Nat} (h : n ≤ MaxN) : Fit (n : Int) := ⟨by omega, by unfold MaxN at h; omega⟩
theorem group_fit : ∀ (l : List Nat), (∀ n ∈ l, n ≤ MaxN) → ∀ f ∈ group l, FitF (fileI f)
  | a :: b :: c :: l, h, f, hf => by
    rcases List.mem_cons.1 hf with rfl | hf
    · exact ⟨fit_nat (h a (by simp)), fit_nat (h b (by simp)), fit_nat (h c (by simp))⟩
    · exact group_fit l (fun n hn => h n (by simp [hn])) f hf
  | [], _, f, hf => by simp [group] at hf
  | [a], _, f, hf => by simp [group] at hf
  | [a, b], _, f, hf => by simp [group] at hf
theorem cellsF_get : ∀ (fs : List FileN) (k t : Nat) (hk : k < fs.length), t < 3 → (cellsF fs)[k * 3 + t]? = (fileV (fileI fs[k]))[t]?
  | f :: fs, 0, t, _, ht => by
    have : t = 0 ∨ t = 1 ∨ t = 2 := by omega
    rcases this with rfl | rfl | rfl <;> rfl
  | f :: fs, k + 1, t, hk, ht => by
    have := cellsF_get fs k t (by simpa using hk) ht
    rw [show (k + 1) * 3 + t = k * 3 + t + 1 + 1 + 1 from by omega]
    simpa [cellsF, fileV] using this
theorem own_files {w : World} {B : Nat} {v : Value} {n : Nat} {fs : List FileN} (h : w.ownsRow B 39 3 v n (cellsF fs)) (hn : fs.length = n) (hf : ∀ f ∈ fs, FitF (fileI f)) :
    ∃ ad cap, v = .slice ad n cap ∧ Files w ad n (fs.map fileI) := by
  rcases h.2 with ⟨rfl, h0⟩ | ⟨g, cap, cur, rfl, _, h2, _⟩
  · exact ⟨none, 0, by rw [h0], by simp [hn], .inl (by have : fs = [] := List.length_eq_zero_iff.1 (by omega); rw [this]; rfl)⟩
  · refine ⟨_, cap, rfl, by simp [hn], .inr ⟨g, 0, rfl, (Array.getElem?_eq_some_iff.1 h2).1, fun i hi => ?_⟩⟩
    have hi2 : i < fs.length := by simpa using hi
    have e : (fs.map fileI)[i]'hi = fileI fs[i] := by simp
    rw [e]
    refine ⟨fun t u hu => ?_, hf _ (List.getElem_mem hi2)⟩
    have ht : t < 3 := by
      rcases Nat.lt_or_ge t 3 with h | h
      · exact h
      · rw [List.getElem?_eq_none (by simpa [fileV] using h)] at hu; cases hu
    rw [show 0 + i * 3 + t = i * 3 + t from by omega, h.cellAt _ (by omega), cellsF_get fs i t hi2 ht]
    exact hu
/-- A root, and the error. -/
abbrev RootN := Nat × Nat × Nat × List FileN
def rootZ : RootN := (0, 0, 0, [])
def decV (T : Int) (b : List UInt8) : RootN × Nat :=
  if 512 < b.length then (rootZ, 5) else
  let r := rdNums 4 b
  if r.2.2 ≠ 0 then (rootZ, r.2.2) else
  if 24 < r.1.getD 3 0 then (rootZ, 5) else
  let m := rdNums (3 * r.1.getD 3 0) r.2.1
  if m.2.2 ≠ 0 then (rootZ, m.2.2) else
  if m.2.1 ≠ [] then (rootZ, 3) else
  if rightV T (r.1.getD 0 0 : Nat) (r.1.getD 1 0 : Nat) (r.1.getD 2 0 : Nat) ((group m.1).map fileI) then ((r.1.getD 0 0, r.1.getD 1 0, r.1.getD 2 0, group m.1), 0) else (rootZ, 1)
/-- What Decode answers. -/
def DV (w : World) (r : RootN × Nat) (e : Ending) (w' : World) : Prop :=
  Below w.heap.size w w' ∧ ∃ v, e = .returned (.tuple #[.agg #[.int .i64 (r.1.1 : Int), .int .i64 (r.1.2.1 : Int), .int .i64 (r.1.2.2.1 : Int), v], .int .i64 (r.2 : Int)]) ∧ w'.ownsRow w.heap.size 39 3 v r.1.2.2.2.length (cellsF r.1.2.2.2)
/-- A root's cell written over with nothing, and handed back. -/
theorem root_stored {w : World} {p : Nat} {a b c d a' b' c' d' : Value} (h : Holds w p [a, b, c, d] 24) :
    Holds ((((w.setCell ⟨p, 0, none⟩ a').setCell ⟨p, 1, none⟩ b').setCell ⟨p, 2, none⟩ c').setCell ⟨p, 3, none⟩ d') p [a', b', c', d'] 24 := by
  have := (((h.set 0 a').set 1 b').set 2 c').set 3 d'
  exact this
theorem below_stored {w w' : World} {B p : Nat} {a' b' c' d' : Value} (h : Below B w w') (hp : B ≤ p) :
    Below B w ((((w'.setCell ⟨p, 0, none⟩ a').setCell ⟨p, 1, none⟩ b').setCell ⟨p, 2, none⟩ c').setCell ⟨p, 3, none⟩ d') :=
  (((h.setCell (p := ⟨p, 0, none⟩) hp _).setCell (p := ⟨p, 1, none⟩) hp _).setCell (p := ⟨p, 2, none⟩) hp _).setCell (p := ⟨p, 3, none⟩) hp _
theorem DV.zero {w w' : World} (c : Nat) (h : Below w.heap.size w w') : DV w (rootZ, c) (.returned (.tuple #[.agg #[.int .i64 0, .int .i64 0, .int .i64 0, .slice none 0 0], .int .i64 (c : Int)])) w' :=
  ⟨h, _, rfl, World.ownsRow_nil _ _ _ _⟩

set_option maxHeartbeats 1000000 in
theorem r6Decode (T : Int) (b : List UInt8) (w : World) (ht : Fit T) (hbl : (b.length : Int) ≤ 140737488351232) :
    Calls Try.prog 12 #[.int .i64 T, .string ⟨b.toArray⟩] w (DV w (decV T b)) := by
  by_cases h512 : 512 < b.length
  · have HV : Hid (decV T b = (rootZ, 5)) := by show _ = _; unfold decV; rw [if_pos h512]
    rw [HV.out]
    have hi : (512 : Int) < (b.length : Int) := by omega
    clear HV ht
    go_enter Try.func12, Try.ntmps12
    go_wp2
    refine bodyPost_ret (v := .tuple #[.agg #[.int .i64 0, .int .i64 0, .int .i64 0, .slice none 0 0], .int .i64 5]) ?_ rfl ?_
    · rw [results_cell_tmp rfl]; go_simp
    · exact DV.zero 5 ((Below.refl _ _).alloc (Nat.le_refl _) _)
  · have hi : ¬(512 : Int) < (b.length : Int) := by omega
    have HN := fun (b : List UInt8) (K : Nat) (w : World) => rNumbers b K w
    have HX := Holds.new w [.int .i64 0, .int .i64 0, .int .i64 0, .slice none 0 0] 24
    have hb0 := (Below.refl w.heap.size w).alloc (Nat.le_refl _) (.cells #[.int .i64 0, .int .i64 0, .int .i64 0, .slice none 0 0] 24)
    go_enter Try.func12, Try.ntmps12
    go_wp2_with fail
    obtain ⟨p, hp⟩ : ∃ p, Hid (p = w.heap.size) := ⟨_, rfl⟩
    rw [← hp.out] at HX ⊢
    change Holds (w.alloc (.cells #[.int .i64 0, .int .i64 0, .int .i64 0, .slice none 0 0] 24)) p _ _ at HX
    generalize w.alloc (.cells #[.int .i64 0, .int .i64 0, .int .i64 0, .slice none 0 0] 24) = w1 at HX hb0 ⊢
    have HN1 := HN b 4 w1 (by omega) (by omega)
    have hle := rdNums_le 4 b
    have hll := rdNums_length 4 b
    have hcd := rdNums_code 4 b
    have hrs := rdNums_rest 4 b
    have hW : w.heap.size ≤ p := Nat.le_of_eq hp.out.symm
    by_cases hz : (rdNums 4 b).2.2 = 0
    · rw [hz] at HN1
      obtain ⟨a0, a1, a2, a3, hl4⟩ : ∃ a0 a1 a2 a3, (rdNums 4 b).1 = [a0, a1, a2, a3] := by
        have h4 := hll hz
        match h5 : (rdNums 4 b).1, h4 with
        | [x0, x1, x2, x3], _ => exact ⟨x0, x1, x2, x3, rfl⟩
      have hV0 : decV T b = (if 24 < a3 then (rootZ, 5) else if (rdNums (3 * a3) (rdNums 4 b).2.1).2.2 ≠ 0 then (rootZ, (rdNums (3 * a3) (rdNums 4 b).2.1).2.2) else if (rdNums (3 * a3) (rdNums 4 b).2.1).2.1 ≠ [] then (rootZ, 3) else
          if rightV T (a0 : Nat) (a1 : Nat) (a2 : Nat) ((group (rdNums (3 * a3) (rdNums 4 b).2.1).1).map fileI) then ((a0, a1, a2, group (rdNums (3 * a3) (rdNums 4 b).2.1).1), 0) else (rootZ, 1)) := by
        unfold decV
        rw [if_neg h512]
        simp only [hl4]
        rw [if_neg (by rw [hz]; decide)]
        rfl
      rw [hl4] at HN1 hle
      have hA : a0 ≤ MaxN ∧ a1 ≤ MaxN ∧ a2 ≤ MaxN ∧ a3 ≤ MaxN := ⟨hle _ (by simp), hle _ (by simp), hle _ (by simp), hle _ (by simp)⟩
      have HV0 := Lib.hid hV0
      generalize (rdNums 4 b).2.1 = rest at *
      clear hl4 hll hcd hle hz hV0
      refine HN1.mono ?_
      rintro e w2 ⟨hb2, v, rfl, ho2⟩
      have HX2 : Holds w2 p _ _ := HX.of_block (hb2.block p HX.lt)
      have hbw := hb0.trans (hb2.mono hb0.size)
      obtain ⟨g4, c4, rfl, hg4, hg5⟩ := ho2.form (by simp)
      clear hg5
      have e0 : w2.cell? ⟨g4, 0, none⟩ = some (.int .i64 (a0 : Int)) := by rw [ho2.cellAt _ (by simp)]; rfl
      have e1 : w2.cell? ⟨g4, 1, none⟩ = some (.int .i64 (a1 : Int)) := by rw [ho2.cellAt _ (by simp)]; rfl
      have e2 : w2.cell? ⟨g4, 2, none⟩ = some (.int .i64 (a2 : Int)) := by rw [ho2.cellAt _ (by simp)]; rfl
      have e3 : w2.cell? ⟨g4, 3, none⟩ = some (.int .i64 (a3 : Int)) := by rw [ho2.cellAt _ (by simp)]; rfl
      have hg4l : g4 < w2.heap.size := World.block_lt_of_cell? w2 _ e0
      by_cases h24 : 24 < a3
      · have HV : Hid (decV T b = (rootZ, 5)) := by show _ = _; rw [HV0.out, if_pos h24]
        have h24i : (24 : Int) < (a3 : Int) := by omega
        have x0 := HX2.cell 0 _ rfl
        have x1 := HX2.cell 1 _ rfl
        have x2 := HX2.cell 2 _ rfl
        have x3 := HX2.cell 3 _ rfl
        have f0 := HX2.free 0
        have f1 := HX2.free 1
        have f2 := HX2.free 2
        have f3 := HX2.free 3
        have HX3 := Lib.hid (root_stored (a' := .int .i64 0) (b' := .int .i64 0) (c' := .int .i64 0) (d' := .slice none 0 0) HX2)
        have HB3 := Lib.hid (below_stored (a' := .int .i64 0) (b' := .int .i64 0) (c' := .int .i64 0) (d' := .slice none 0 0) hbw hW)
        clear HN HX HN1 hrs ho2 HX2 hb0 hb2 HV0 e0 e1 e2
        go_wp2
        clear x0 x1 x2 x3 f0 f1 f2 f3
        generalize (((w2.setCell ⟨p, 0, none⟩ (.int .i64 0)).setCell ⟨p, 1, none⟩ (.int .i64 0)).setCell ⟨p, 2, none⟩ (.int .i64 0)).setCell ⟨p, 3, none⟩ (.slice none 0 0) = w9 at HX3 HB3 ⊢
        have x0 := HX3.out.cell 0 _ rfl
        have x1 := HX3.out.cell 1 _ rfl
        have x2 := HX3.out.cell 2 _ rfl
        have x3 := HX3.out.cell 3 _ rfl
        refine bodyPost_ret (v := .tuple #[.agg #[.int .i64 0, .int .i64 0, .int .i64 0, .slice none 0 0], .int .i64 5]) ?_ rfl ?_
        · rw [results_cell_tmp rfl]; go_simp
        · rw [HV.out]; exact DV.zero 5 HB3.out
      · have h24i : ¬(24 : Int) < (a3 : Int) := by omega
        have hw3 : IntKind.i64.wrap (3 * (a3 : Int)) = ((3 * a3 : Nat) : Int) := by rw [IntWalk.i64_in _ (by omega)]; omega
        have HVx : Hid (decV T b = (if (rdNums (3 * a3) rest).2.2 ≠ 0 then (rootZ, (rdNums (3 * a3) rest).2.2) else if (rdNums (3 * a3) rest).2.1 ≠ [] then (rootZ, 3) else
          if rightV T (a0 : Nat) (a1 : Nat) (a2 : Nat) ((group (rdNums (3 * a3) rest).1).map fileI) then ((a0, a1, a2, group (rdNums (3 * a3) rest).1), 0) else (rootZ, 1))) := by
          show _ = _; rw [HV0.out, if_neg h24]
        have hml := rdNums_length (3 * a3) rest
        have hmle := rdNums_le (3 * a3) rest
        obtain ⟨K, hK⟩ : ∃ K, Hid (K = 3 * a3) := ⟨_, rfl⟩
        have hK72 : K ≤ 72 := by have := hK.out; omega
        rw [← hK.out] at hw3 HVx hml hmle
        have HN2 := HN rest K w2 (by omega) (by omega)
        clear HN HN1 HV0 h24
        have HXh := Lib.hid HX2
        have HBW := Lib.hid hbw
        clear HX HX2 hbw hb0 hb2 ho2
        obtain ⟨ks, hks⟩ : ∃ ks, ks = [a0, a1, a2, a3].length := ⟨_, rfl⟩
        rw [← hks]
        have hksn : ¬ks = 0 := by rw [hks]; simp
        have hks3 : (3 : Int) < (ks : Int) := by rw [hks]; simp
        have hks2 : (2 : Int) < (ks : Int) := by rw [hks]; simp
        have hks1 : (1 : Int) < (ks : Int) := by rw [hks]; simp
        have hks0 : (0 : Int) < (ks : Int) := by rw [hks]; simp
        clear hks
        by_cases hz2 : (rdNums K rest).2.2 = 0
        · rw [hz2] at HN2
          by_cases hr2 : (rdNums K rest).2.1 = []
          · rw [hr2] at HN2
            have HVy : Hid (decV T b = (if rightV T (a0 : Nat) (a1 : Nat) (a2 : Nat) ((group (rdNums K rest).1).map fileI) then ((a0, a1, a2, group (rdNums K rest).1), 0) else (rootZ, 1))) := by
              show _ = _; rw [HVx.out, if_neg (by rw [hz2]; decide), if_neg (by rw [hr2]; simp)]
            have hml2 := hml hz2
            generalize (rdNums K rest).1 = ms at *
            clear hml hz2 hr2 HVx
            go_wp2_with fail
            refine HN2.mono ?_
            rintro e w5 ⟨hb5, v5, rfl, ho5⟩
            have HX5 := HXh.out.of_block (hb5.block p HXh.out.lt)
            have hb5w := HBW.out.trans (hb5.mono HBW.out.size)
            have e0' : w5.cell? ⟨g4, 0, none⟩ = some (.int .i64 (a0 : Int)) := by rw [hb5.cell (p := ⟨g4, 0, none⟩) hg4l]; exact e0
            have e1' : w5.cell? ⟨g4, 1, none⟩ = some (.int .i64 (a1 : Int)) := by rw [hb5.cell (p := ⟨g4, 1, none⟩) hg4l]; exact e1
            have e2' : w5.cell? ⟨g4, 2, none⟩ = some (.int .i64 (a2 : Int)) := by rw [hb5.cell (p := ⟨g4, 2, none⟩) hg4l]; exact e2
            have hS0 : w5.drew.cell? ⟨g4, 0, none⟩ = some (.int .i64 (a0 : Int)) ∧ w5.drew.cell? ⟨g4, 1, none⟩ = some (.int .i64 (a1 : Int)) ∧ w5.drew.cell? ⟨g4, 2, none⟩ = some (.int .i64 (a2 : Int)) := ⟨e0', e1', e2'⟩
            obtain ⟨iT, hiT, hzT, hsT, hbT⟩ := info_parts root_info
            clear e0 e1 e2 e3 e0' e1' e2'
            go_upto_region 13 with (fail)
            refine wp_region_until (fun w' => w'.cell? ⟨g4, 0, none⟩ = some (.int .i64 (a0 : Int)) ∧ w'.cell? ⟨g4, 1, none⟩ = some (.int .i64 (a1 : Int)) ∧ w'.cell? ⟨g4, 2, none⟩ = some (.int .i64 (a2 : Int))) 11 (by kernel_rfl) ?_
            refine wpAnyU_take (i := 0) (v := (.slice (some ⟨g4, 0, none⟩) ks c4)) (some 51) rfl rfl (by kernel_rfl) (by kernel_rfl) (by kernel_rfl) (by kernel_rfl) (fun _ _ _ h => h) hS0 (yields_of (by kernel_rfl) (fun w hw => by obtain ⟨y1, y2, y3⟩ := hw; go_simp)) ?_
            refine wpAnyU_take (i := 1) (v := (.pointer (some ⟨g4, 0, none⟩))) (some 52) rfl rfl (by kernel_rfl) (by kernel_rfl) (by kernel_rfl) (by kernel_rfl) (fun _ _ _ h => h) hS0 (yields_of (by kernel_rfl) (fun w hw => by obtain ⟨y1, y2, y3⟩ := hw; go_simp)) ?_
            refine wpAnyU_take (i := 2) (v := (.int .i64 (a0 : Int))) (some 53) rfl rfl (by kernel_rfl) (by kernel_rfl) (by kernel_rfl) (by kernel_rfl) (fun _ _ _ h => h) hS0 (yields_of (by kernel_rfl) (fun w hw => by obtain ⟨y1, y2, y3⟩ := hw; go_simp)) ?_
            refine wpAnyU_take (i := 3) (v := (.slice (some ⟨g4, 0, none⟩) ks c4)) (some 54) rfl rfl (by kernel_rfl) (by kernel_rfl) (by kernel_rfl) (by kernel_rfl) (fun _ _ _ h => h) hS0 (yields_of (by kernel_rfl) (fun w hw => by obtain ⟨y1, y2, y3⟩ := hw; go_simp)) ?_
            refine wpAnyU_take (i := 4) (v := (.pointer (some ⟨g4, 1, none⟩))) (some 55) rfl rfl (by kernel_rfl) (by kernel_rfl) (by kernel_rfl) (by kernel_rfl) (fun _ _ _ h => h) hS0 (yields_of (by kernel_rfl) (fun w hw => by obtain ⟨y1, y2, y3⟩ := hw; go_simp)) ?_
            refine wpAnyU_take (i := 5) (v := (.int .i64 (a1 : Int))) (some 56) rfl rfl (by kernel_rfl) (by kernel_rfl) (by kernel_rfl) (by kernel_rfl) (fun _ _ _ h => h) hS0 (yields_of (by kernel_rfl) (fun w hw => by obtain ⟨y1, y2, y3⟩ := hw; go_simp)) ?_
            refine wpAnyU_take (i := 6) (v := (.slice (some ⟨g4, 0, none⟩) ks c4)) (some 57) rfl rfl (by kernel_rfl) (by kernel_rfl) (by kernel_rfl) (by kernel_rfl) (fun _ _ _ h => h) hS0 (yields_of (by kernel_rfl) (fun w hw => by obtain ⟨y1, y2, y3⟩ := hw; go_simp)) ?_
            refine wpAnyU_take (i := 7) (v := (.pointer (some ⟨g4, 2, none⟩))) (some 58) rfl rfl (by kernel_rfl) (by kernel_rfl) (by kernel_rfl) (by kernel_rfl) (fun _ _ _ h => h) hS0 (yields_of (by kernel_rfl) (fun w hw => by obtain ⟨y1, y2, y3⟩ := hw; go_simp)) ?_
            refine wpAnyU_take (i := 8) (v := (.int .i64 (a2 : Int))) (some 59) rfl rfl (by kernel_rfl) (by kernel_rfl) (by kernel_rfl) (by kernel_rfl) (fun _ _ _ h => h) hS0 (yields_of (by kernel_rfl) (fun w hw => by obtain ⟨y1, y2, y3⟩ := hw; go_simp)) ?_
            refine wpAnyU_take (i := 9) (v := (.agg [.int .i64 (a0 : Int), .int .i64 (a1 : Int), .int .i64 (a2 : Int), .slice none 0 0].toArray)) (some 60) rfl rfl (by kernel_rfl) (by kernel_rfl) (by kernel_rfl) (by kernel_rfl) (fun _ _ _ h => h) hS0 (yields_of (by kernel_rfl) (fun w hw => by obtain ⟨y1, y2, y3⟩ := hw; go_simp)) ?_
            obtain ⟨q, hq⟩ : ∃ q, Hid (q = w5.drew.heap.size) := ⟨_, rfl⟩
            refine wpAnyU_run (i := 10) (v := .pointer (some ⟨w5.drew.heap.size, 0, none⟩)) (w' := w5.drew.alloc (.cells [.int .i64 0, .int .i64 0, .int .i64 0, .slice none 0 0].toArray 24)) (some 12) rfl rfl (by kernel_rfl) (by kernel_rfl) (exec_alloc iT _ hiT hzT rfl) (fun _ => ⟨Lib.cell?_alloc_some _ hS0.1, Lib.cell?_alloc_some _ hS0.2.1, Lib.cell?_alloc_some _ hS0.2.2⟩) ?_
            have HQ := Holds.new w5.drew [.int .i64 0, .int .i64 0, .int .i64 0, .slice none 0 0] 24
            have hbA := (belowN (Below.refl w5.heap.size w5) 1).alloc (Nat.le_refl _) (.cells [Value.int .i64 0, .int .i64 0, .int .i64 0, .slice none 0 0].toArray 24)
            change Below w5.heap.size w5 (w5.drew.alloc _) at hbA
            rw [← hq.out] at HQ ⊢
            generalize w5.drew.alloc (.cells [Value.int .i64 0, .int .i64 0, .int .i64 0, .slice none 0 0].toArray 24) = wa at HQ hbA ⊢
            refine wpAnyU_skip (i := 11) (w' := wa.setCells q 0 [.int .i64 (a0 : Int), .int .i64 (a1 : Int), .int .i64 (a2 : Int), .slice none 0 0]) none rfl rfl (by kernel_rfl) (by kernel_rfl) (exec_store_mid 24 (.tmp 12) (.tmp 60) rfl q 0 _ (by kernel_rfl) (by kernel_rfl) (HQ.there 0 _ (by simp)) (by kernel_rfl) (by simp [Value.oneCell'])) (fun h => by omega) ?_
            refine wpAnyU_done (by kernel_rfl) ?_ _
            have HQ2 := Holds.setCells [.int .i64 (a0 : Int), .int .i64 (a1 : Int), .int .i64 (a2 : Int), .slice none 0 0] 0 wa _ HQ (by simp)
            rw [lay_all _ _ (by simp)] at HQ2
            have hbA2 : Below w5.heap.size w5 (wa.setCells q 0 [.int .i64 (a0 : Int), .int .i64 (a1 : Int), .int .i64 (a2 : Int), .slice none 0 0]) := below_stored hbA (Nat.le_of_eq hq.out.symm)
            generalize wa.setCells q 0 [.int .i64 (a0 : Int), .int .i64 (a1 : Int), .int .i64 (a2 : Int), .slice none 0 0] = w6 at HQ2 hbA2 ⊢
            clear HQ hbA hS0
            simp only [put_lit, List.set_cons_succ, List.set_cons_zero]
            go_wp2
            have hms : ms.length = K := hml2
            rw [hms] at ho5
            obtain ⟨ad5, c5, rfl, hat5⟩ := own_ints (L := ms) (by rw [hms]; exact ho5)
            rw [hms]
            have HAT := Lib.hid hat5
            have HMS := Lib.hid hms
            have hgl : (group ms).length = a3 := group_length a3 ms (by have := hK.out; omega)
            have HGL := Lib.hid hgl
            have HB6 := Lib.hid hbA2
            have hqw : w5.heap.size ≤ q := Nat.le_of_eq hq.out.symm
            have HQW := Lib.hid hqw
            have hqB : q < w6.heap.size := HQ2.lt
            obtain ⟨B, hB⟩ : ∃ B, Hid (B = w6.heap.size) := ⟨_, rfl⟩
            rw [← hB.out] at hqB
            have HQB := Lib.hid hqB
            have HINV : Hid (∃ vf, Holds w6 q [.int .i64 (a0 : Int), .int .i64 (a1 : Int), .int .i64 (a2 : Int), vf] 24 ∧ w6.ownsRow B 39 3 vf 0 (cellsF ((group ms).take 0)) ∧ B ≤ w6.heap.size) := ⟨_, HQ2, World.ownsRow_nil _ _ _ _, Nat.le_of_eq hB.out⟩
            have HX5h := Lib.hid HX5
            have HB5h := Lib.hid hb5w
            clear hml2 hms ho5 hat5 hgl hbA2 hqw hqB HQ2 HX5 hb5w hb5 HN2 HXh HBW hg4l hrs
            obtain ⟨iF, hiF, hzF, hsF, hbF⟩ := info_parts file_info
            obtain ⟨wq, hwq⟩ : ∃ wq, wq = w6 := ⟨_, rfl⟩
            rw [← hwq] at HINV HB6 ⊢
            clear hB
            clear hwq
            clear w6
            go_loopw [13] (fun i wr => ∃ j : Nat, j ≤ a3 ∧ i = .int .i64 ((3 * j : Nat) : Int) ∧ Hid (∃ vf, Holds wr q [.int .i64 (a0 : Int), .int .i64 (a1 : Int), .int .i64 (a2 : Int), vf] 24 ∧ wr.ownsRow B 39 3 vf j (cellsF ((group ms).take j)) ∧ B ≤ wr.heap.size) ∧ Hid (Below w5.heap.size w5 wr)) (fun i _ => K - (intOf i).toNat)
            case atStart => exact ⟨0, Nat.zero_le _, rfl, HINV, HB6⟩
            case round =>
              obtain ⟨j, hj, rfl, hinv, hbw⟩ := hrel
              have hK3 := hK.out
              by_cases hlt : ((3 * j : Nat) : Int) < K
              · have hja : j < a3 := by omega
                obtain ⟨J, hJ⟩ : ∃ J, J = 3 * j := ⟨_, rfl⟩
                have hJK : J + 2 < K := by omega
                obtain ⟨J1, hE1⟩ : ∃ J1, J1 = J + 1 := ⟨_, rfl⟩
                obtain ⟨J2, hE2⟩ : ∃ J2, J2 = J + 2 := ⟨_, rfl⟩
                obtain ⟨vf, hH, hof, hBw⟩ := hinv.out
                obtain ⟨g5, rfl, hg5l, m0⟩ := HAT.out J (by have := HMS.out; omega)
                obtain ⟨_, he1, _, m1⟩ := HAT.out J1 (by have := HMS.out; omega)
                cases he1
                obtain ⟨_, he2, _, m2⟩ := HAT.out J2 (by have := HMS.out; omega)
                cases he2
                have hgg := group_get a3 ms (by have := HMS.out; omega) j hja
                simp only [← hJ, ← hE1, ← hE2] at hgg
                have htk : (group ms).take (j + 1) = (group ms).take j ++ [(group ms)[j]'(by have := HGL.out; omega)] := List.take_succ_eq_append_getElem (by have := HGL.out; omega)
                rw [hgg] at htk
                generalize ms[J]'(by have := HMS.out; omega) = y0 at m0 htk
                generalize ms[J1]'(by have := HMS.out; omega) = y1 at m1 htk
                generalize ms[J2]'(by have := HMS.out; omega) = y2 at m2 htk
                have HTK : Hid (cellsF ((group ms).take (j + 1)) = cellsF ((group ms).take j) ++ fileV (fileI (y0, y1, y2))) := by
                  show _ = _; rw [htk]; unfold cellsF; simp
                have c0 : wr.cell? ⟨g5, J, none⟩ = some (.int .i64 (y0 : Int)) := by rw [hbw.out.cell (p := ⟨g5, J, none⟩) hg5l]; exact m0
                have c1 : wr.cell? ⟨g5, J1, none⟩ = some (.int .i64 (y1 : Int)) := by rw [hbw.out.cell (p := ⟨g5, J1, none⟩) hg5l]; exact m1
                have c2 : wr.cell? ⟨g5, J2, none⟩ = some (.int .i64 (y2 : Int)) := by rw [hbw.out.cell (p := ⟨g5, J2, none⟩) hg5l]; exact m2
                rw [← hJ] at hlt ⊢
                have hJ0 : (0 : Int) ≤ (J : Int) := Int.natCast_nonneg _
                have hJ1 : (J1 : Int) < K := by omega
                have hJ2 : (J2 : Int) < K := by omega
                have hJ10 : (0 : Int) ≤ (J1 : Int) := Int.natCast_nonneg _
                have hJ20 : (0 : Int) ≤ (J2 : Int) := Int.natCast_nonneg _
                have hwJ1 : IntKind.i64.wrap ((J : Int) + 1) = (J1 : Int) := by rw [IntWalk.i64_in _ (by omega)]; omega
                have hwJ2 : IntKind.i64.wrap ((J : Int) + 2) = (J2 : Int) := by rw [IntWalk.i64_in _ (by omega)]; omega
                have hwJ3 : IntKind.i64.wrap ((J : Int) + 3) = ((3 * (j + 1) : Nat) : Int) := by rw [IntWalk.i64_in _ (by omega)]; omega
                have hS0 : wr.drew.cell? ⟨q, 3, none⟩ = some vf ∧ wr.drew.cell? ⟨g5, J, none⟩ = some (.int .i64 (y0 : Int)) ∧ wr.drew.cell? ⟨g5, J1, none⟩ = some (.int .i64 (y1 : Int)) ∧ wr.drew.cell? ⟨g5, J2, none⟩ = some (.int .i64 (y2 : Int)) := ⟨hH.cell 3 _ rfl, c0, c1, c2⟩
                have HJ := Lib.hid hJ
                clear m0 m1 m2 hgg htk c0 c1 c2 hinv hJ hK3 hE1 hE2
                go_upto_region 17 with (fail)
                refine wp_region_until (fun w' => w'.cell? ⟨q, 3, none⟩ = some vf ∧ w'.cell? ⟨g5, J, none⟩ = some (.int .i64 (y0 : Int)) ∧ w'.cell? ⟨g5, J1, none⟩ = some (.int .i64 (y1 : Int)) ∧ w'.cell? ⟨g5, J2, none⟩ = some (.int .i64 (y2 : Int))) 20 (by kernel_rfl) ?_
                refine wpAnyU_take (i := 0) (v := (.pointer (some ⟨q, 3, none⟩))) (some 67) rfl rfl (by kernel_rfl) (by kernel_rfl) (by kernel_rfl) (by kernel_rfl) (fun _ _ _ h => h) hS0 (yields_of (by kernel_rfl) (fun w hw => by obtain ⟨z0, z1, z2, z3⟩ := hw; go_simp)) ?_
                refine wpAnyU_take (i := 1) (v := vf) (some 68) rfl rfl (by kernel_rfl) (by kernel_rfl) (by kernel_rfl) (by kernel_rfl) (fun _ _ _ h => h) hS0 (yields_of (by kernel_rfl) (fun w hw => by obtain ⟨z0, z1, z2, z3⟩ := hw; go_simp)) ?_
                refine wpAnyU_take (i := 2) (v := (.slice (some ⟨g5, 0, none⟩) K c5)) (some 69) rfl rfl (by kernel_rfl) (by kernel_rfl) (by kernel_rfl) (by kernel_rfl) (fun _ _ _ h => h) hS0 (yields_of (by kernel_rfl) (fun w hw => by obtain ⟨z0, z1, z2, z3⟩ := hw; go_simp)) ?_
                refine wpAnyU_take (i := 3) (v := (.int .i64 (J : Int))) (some 70) rfl rfl (by kernel_rfl) (by kernel_rfl) (by kernel_rfl) (by kernel_rfl) (fun _ _ _ h => h) hS0 (yields_of (by kernel_rfl) (fun w hw => by obtain ⟨z0, z1, z2, z3⟩ := hw; go_simp)) ?_
                refine wpAnyU_take (i := 4) (v := (.pointer (some ⟨g5, J, none⟩))) (some 71) rfl rfl (by kernel_rfl) (by kernel_rfl) (by kernel_rfl) (by kernel_rfl) (fun _ _ _ h => h) hS0 (yields_of (by kernel_rfl) (fun w hw => by obtain ⟨z0, z1, z2, z3⟩ := hw; go_simp)) ?_
                refine wpAnyU_take (i := 5) (v := (.int .i64 (y0 : Int))) (some 72) rfl rfl (by kernel_rfl) (by kernel_rfl) (by kernel_rfl) (by kernel_rfl) (fun _ _ _ h => h) hS0 (yields_of (by kernel_rfl) (fun w hw => by obtain ⟨z0, z1, z2, z3⟩ := hw; go_simp)) ?_
                refine wpAnyU_take (i := 6) (v := (.slice (some ⟨g5, 0, none⟩) K c5)) (some 73) rfl rfl (by kernel_rfl) (by kernel_rfl) (by kernel_rfl) (by kernel_rfl) (fun _ _ _ h => h) hS0 (yields_of (by kernel_rfl) (fun w hw => by obtain ⟨z0, z1, z2, z3⟩ := hw; go_simp)) ?_
                refine wpAnyU_take (i := 7) (v := (.int .i64 (J : Int))) (some 74) rfl rfl (by kernel_rfl) (by kernel_rfl) (by kernel_rfl) (by kernel_rfl) (fun _ _ _ h => h) hS0 (yields_of (by kernel_rfl) (fun w hw => by obtain ⟨z0, z1, z2, z3⟩ := hw; go_simp)) ?_
                refine wpAnyU_take (i := 8) (v := (.int .i64 (J1 : Int))) (some 75) rfl rfl (by kernel_rfl) (by kernel_rfl) (by kernel_rfl) (by kernel_rfl) (fun _ _ _ h => h) hS0 (yields_of (by kernel_rfl) (fun w hw => by obtain ⟨z0, z1, z2, z3⟩ := hw; go_simp)) ?_
                refine wpAnyU_take (i := 9) (v := (.pointer (some ⟨g5, J1, none⟩))) (some 76) rfl rfl (by kernel_rfl) (by kernel_rfl) (by kernel_rfl) (by kernel_rfl) (fun _ _ _ h => h) hS0 (yields_of (by kernel_rfl) (fun w hw => by obtain ⟨z0, z1, z2, z3⟩ := hw; go_simp)) ?_
                refine wpAnyU_take (i := 10) (v := (.int .i64 (y1 : Int))) (some 77) rfl rfl (by kernel_rfl) (by kernel_rfl) (by kernel_rfl) (by kernel_rfl) (fun _ _ _ h => h) hS0 (yields_of (by kernel_rfl) (fun w hw => by obtain ⟨z0, z1, z2, z3⟩ := hw; go_simp)) ?_
                refine wpAnyU_take (i := 11) (v := (.slice (some ⟨g5, 0, none⟩) K c5)) (some 78) rfl rfl (by kernel_rfl) (by kernel_rfl) (by kernel_rfl) (by kernel_rfl) (fun _ _ _ h => h) hS0 (yields_of (by kernel_rfl) (fun w hw => by obtain ⟨z0, z1, z2, z3⟩ := hw; go_simp)) ?_
                refine wpAnyU_take (i := 12) (v := (.int .i64 (J : Int))) (some 79) rfl rfl (by kernel_rfl) (by kernel_rfl) (by kernel_rfl) (by kernel_rfl) (fun _ _ _ h => h) hS0 (yields_of (by kernel_rfl) (fun w hw => by obtain ⟨z0, z1, z2, z3⟩ := hw; go_simp)) ?_
                refine wpAnyU_take (i := 13) (v := (.int .i64 (J2 : Int))) (some 80) rfl rfl (by kernel_rfl) (by kernel_rfl) (by kernel_rfl) (by kernel_rfl) (fun _ _ _ h => h) hS0 (yields_of (by kernel_rfl) (fun w hw => by obtain ⟨z0, z1, z2, z3⟩ := hw; go_simp)) ?_
                refine wpAnyU_take (i := 14) (v := (.pointer (some ⟨g5, J2, none⟩))) (some 81) rfl rfl (by kernel_rfl) (by kernel_rfl) (by kernel_rfl) (by kernel_rfl) (fun _ _ _ h => h) hS0 (yields_of (by kernel_rfl) (fun w hw => by obtain ⟨z0, z1, z2, z3⟩ := hw; go_simp)) ?_
                refine wpAnyU_take (i := 15) (v := (.int .i64 (y2 : Int))) (some 82) rfl rfl (by kernel_rfl) (by kernel_rfl) (by kernel_rfl) (by kernel_rfl) (fun _ _ _ h => h) hS0 (yields_of (by kernel_rfl) (fun w hw => by obtain ⟨z0, z1, z2, z3⟩ := hw; go_simp)) ?_
                refine wpAnyU_take (i := 16) (v := (.agg (fileV (fileI (y0, y1, y2))).toArray)) (some 83) rfl rfl (by kernel_rfl) (by kernel_rfl) (by kernel_rfl) (by kernel_rfl) (fun _ _ _ h => h) hS0 (yields_of (by kernel_rfl) (fun w hw => by obtain ⟨z0, z1, z2, z3⟩ := hw; go_simp; simp [fileV, fileI])) ?_
                obtain ⟨qq, hqq⟩ : ∃ qq, Hid (qq = wr.drew.heap.size) := ⟨_, rfl⟩
                obtain ⟨FV, hFV⟩ : ∃ FV, Hid (FV = fileV (fileI (y0, y1, y2))) := ⟨_, rfl⟩
                have hFl : FV.length = 3 := by rw [hFV.out]; rfl
                have hF1 : ∀ u ∈ FV, u.oneCell' = true := by rw [hFV.out]; simp [fileV, Value.oneCell']
                have HQ := Holds.new wr.drew FV 39
                have HBd := (belowN hbw.out 1).alloc (Below.size (belowN hbw.out 1)) (.cells FV.toArray 39)
                change Below w5.heap.size w5 (wr.drew.alloc _) at HBd
                have HOw := (owns_drewN (n := 1) hof).alloc (.cells FV.toArray 39)
                change (wr.drew.alloc _).ownsRow _ _ _ _ _ _ at HOw
                have HHa := (Holds.drew hH).alloc (.cells FV.toArray 39)
                have hbs := run_buildSlice_one (P := Try.prog) wr.drew 22 39 iF _ FV Try.underlying22 hiF hzF (by rw [hsF, hFl]) (by omega) (by omega)
                rw [← hqq.out] at HQ hbs
                have hS1 : (wr.drew.alloc (.cells FV.toArray 39)).cell? ⟨q, 3, none⟩ = some vf ∧ (wr.drew.alloc (.cells FV.toArray 39)).cell? ⟨g5, J, none⟩ = some (.int .i64 (y0 : Int)) ∧ (wr.drew.alloc (.cells FV.toArray 39)).cell? ⟨g5, J1, none⟩ = some (.int .i64 (y1 : Int)) ∧ (wr.drew.alloc (.cells FV.toArray 39)).cell? ⟨g5, J2, none⟩ = some (.int .i64 (y2 : Int)) :=
                  ⟨Lib.cell?_alloc_some _ hS0.1, Lib.cell?_alloc_some _ hS0.2.1, Lib.cell?_alloc_some _ hS0.2.2.1, Lib.cell?_alloc_some _ hS0.2.2.2⟩
                have hBd : B ≤ (wr.drew.alloc (.cells FV.toArray 39)).heap.size := Nat.le_trans hBw ((belowN (Below.refl wr.heap.size wr) 1).alloc (Nat.le_refl _) (.cells FV.toArray 39)).size
                generalize wr.drew.alloc (.cells FV.toArray 39) = wd at HQ HBd HOw HHa hbs hS1 hBd
                rw [← hFV.out]
                refine wpAnyU_run (i := 17) (v := .slice (some ⟨qq, 0, none⟩) 1 1) (some 84) rfl rfl (by kernel_rfl) (by kernel_rfl) (exec_buildSlice (x := .tmp 83) hbs (by rfl) (by kernel_rfl)) (fun _ => hS1) ?_
                obtain ⟨v', we, happ, ho3, hgr, _⟩ := run_append_at (P := Try.prog) wd B 22 22 39 iF _ 3 24 Try.underlying22 hiF hzF hsF hbF (by rfl) (by omega) vf j _ HOw
                  ⟨qq, 0, none⟩ 1 1 FV (by rw [hFl]) (fun j u hj => by rw [add0]; exact HQ.cell j u hj) hF1 (by unfold maxLen; omega) (by omega) hBd (by omega)
                have hqne : some q ≠ vf.ownBlock := fun e => by have := own_low HOw q e.symm; have := HQB.out; omega
                have hgne : some g5 ≠ vf.ownBlock := fun e => by have := own_low HOw g5 e.symm; have := HQB.out; have := HQW.out; omega
                have HHe : Holds we q _ _ := HHa.of_block (hgr.block q HHa.lt hqne)
                have hg5d : g5 < wd.heap.size := World.block_lt_of_cell? wd _ hS1.2.1
                have hge := hgr.block g5 hg5d hgne
                have hS2 : we.cell? ⟨q, 3, none⟩ = some vf ∧ we.cell? ⟨g5, J, none⟩ = some (.int .i64 (y0 : Int)) ∧ we.cell? ⟨g5, J1, none⟩ = some (.int .i64 (y1 : Int)) ∧ we.cell? ⟨g5, J2, none⟩ = some (.int .i64 (y2 : Int)) :=
                  ⟨HHe.cell 3 _ rfl, by rw [World.cell?_of_block (w := wd) (a := ⟨g5, J, none⟩) hge]; exact hS1.2.1, by rw [World.cell?_of_block (w := wd) (a := ⟨g5, J1, none⟩) hge]; exact hS1.2.2.1, by rw [World.cell?_of_block (w := wd) (a := ⟨g5, J2, none⟩) hge]; exact hS1.2.2.2⟩
                refine wpAnyU_run (i := 18) (v := v') (some 85) rfl rfl (by kernel_rfl) (by kernel_rfl) (exec_append (s := .tmp 68) (x := .tmp 84) happ (by rfl) (by rfl) (by kernel_rfl) (by kernel_rfl)) (fun _ => hS2) ?_
                refine wpAnyU_run (i := 19) (v := (.pointer (some ⟨q, 3, none⟩))) (w' := we) (some 86) rfl rfl (by kernel_rfl) (by kernel_rfl) (by go_simp) (fun _ => hS2) ?_
                obtain ⟨gv, cv, rfl⟩ : ∃ gv cv, v' = .slice (some ⟨gv, 0, none⟩) (j + 1) cv := by
                  rcases ho3.2 with ⟨_, h0⟩ | ⟨g', cap, cur, hv, _⟩
                  · omega
                  · exact ⟨_, _, hv⟩
                have c3 := HHe.cell 3 _ rfl
                have f3 := HHe.free 3
                refine wpAnyU_skip (i := 20) (w' := we.setCell ⟨q, 3, none⟩ (.slice (some ⟨gv, 0, none⟩) (j + 1) cv)) none rfl rfl (by kernel_rfl) (by kernel_rfl) (by go_simp) (fun h => by omega) ?_
                refine wpAnyU_done (by kernel_rfl) ?_ _
                have hbe : Below w5.heap.size w5 we := HBd.grown hgr HBd.size (fun k hk => by have := own_low HOw k hk; have := HQB.out; have := HQW.out; omega)
                have HB7 : Hid (Below w5.heap.size w5 (we.setCell ⟨q, 3, none⟩ (.slice (some ⟨gv, 0, none⟩) (j + 1) cv))) := hbe.setCell (p := ⟨q, 3, none⟩) HQW.out _
                have HI7 : Hid (∃ vf, Holds (we.setCell ⟨q, 3, none⟩ (.slice (some ⟨gv, 0, none⟩) (j + 1) cv)) q [.int .i64 (a0 : Int), .int .i64 (a1 : Int), .int .i64 (a2 : Int), vf] 24 ∧ (we.setCell ⟨q, 3, none⟩ (.slice (some ⟨gv, 0, none⟩) (j + 1) cv)).ownsRow B 39 3 vf (j + 1) (cellsF ((group ms).take (j + 1))) ∧ B ≤ (we.setCell ⟨q, 3, none⟩ (.slice (some ⟨gv, 0, none⟩) (j + 1) cv)).heap.size) := by
                  refine ⟨_, HHe.set 3 _, ?_, by simpa using Nat.le_trans hBd hgr.size⟩
                  rw [HTK.out, ← hFV.out]
                  refine owns_setCell ho3 fun e => ?_
                  have := own_low ho3 q e
                  have := HQB.out
                  omega
                have HJ3 := HJ.out
                clear hbs happ ho3 hgr hbe HOw HQ hS0 hS1 hS2 HBd HHa HHe hH hof hge c3 f3 hF1 hFl hqne hgne
                simp only [put_lit, List.set_cons_succ, List.set_cons_zero]
                clear HJ3
                go_wp2
                go_roundw
                case rel => exact ⟨j + 1, by omega, by go_num, HI7, HB7⟩
                case measure => have := HJ.out; have := hK.out; simp [intOf]; omega
              · have hj3 : j = a3 := by omega
                subst hj3
                obtain ⟨vf, hH, hof, _⟩ := hinv.out
                rw [List.take_of_length_le (by have := HGL.out; omega)] at hof
                have hgf : ∀ f ∈ group ms, FitF (fileI f) := group_fit ms hmle
                obtain ⟨adf, capf, rfl, hFl⟩ := own_files hof HGL.out hgf
                have x0 := hH.cell 0 _ rfl
                have x1 := hH.cell 1 _ rfl
                have x2 := hH.cell 2 _ rfl
                have x3 := hH.cell 3 _ rfl
                clear hinv hgf
                go_wp2_with fail
                have HRI := r6Right T (a0 : Int) (a1 : Int) (a2 : Int) adf j capf ((group ms).map fileI) wr ht hFl
                have hpq : p < w5.heap.size := HX5h.out.lt
                have HHq := Lib.hid hH
                have HOF := Lib.hid hof
                have HHp := Lib.hid (HX5h.out.of_block (hbw.out.block p hpq))
                have HW5 := Lib.hid (HB5h.out.trans (hbw.out.mono HB5h.out.size))
                have HBB : Hid (w.heap.size ≤ B ∧ p < B ∧ q ≠ p) := by
                  have := HQB.out; have := HQW.out; have := HB5h.out.size
                  exact ⟨by omega, by omega, by omega⟩
                clear x0 x1 x2 x3 hFl hH hof hbw hpq
                refine HRI.mono ?_
                rintro e w7 ⟨rfl, hb7⟩
                have hH7 := HHq.out.of_block (hb7.block q HHq.out.lt)
                have HX7 := HHp.out.of_block (hb7.block p HHp.out.lt)
                have hbw7 := HW5.out.trans (hb7.mono HW5.out.size)
                have HO7 := Lib.hid (own_below HOF.out hb7)
                have y0 := hH7.cell 0 _ rfl
                have y1 := hH7.cell 1 _ rfl
                have y2 := hH7.cell 2 _ rfl
                have y3 := hH7.cell 3 _ rfl
                cases hv : rightV T (a0 : Int) (a1 : Int) (a2 : Int) ((group ms).map fileI) with
                | false =>
                  have HV : Hid (decV T b = (rootZ, 1)) := by show _ = _; rw [HVy.out, hv]; rfl
                  have x0 := HX7.cell 0 _ rfl
                  have x1 := HX7.cell 1 _ rfl
                  have x2 := HX7.cell 2 _ rfl
                  have x3 := HX7.cell 3 _ rfl
                  have f0 := HX7.free 0
                  have f1 := HX7.free 1
                  have f2 := HX7.free 2
                  have f3 := HX7.free 3
                  have HX3 := Lib.hid (root_stored (a' := .int .i64 0) (b' := .int .i64 0) (c' := .int .i64 0) (d' := .slice none 0 0) HX7)
                  have HB3 := Lib.hid (below_stored (a' := .int .i64 0) (b' := .int .i64 0) (c' := .int .i64 0) (d' := .slice none 0 0) hbw7 hW)
                  clear HRI HX7 hbw7 hb7 hH7 hv HVy y0 y1 y2 y3
                  go_wp2
                  clear x0 x1 x2 x3 f0 f1 f2 f3
                  generalize (((w7.setCell ⟨p, 0, none⟩ (.int .i64 0)).setCell ⟨p, 1, none⟩ (.int .i64 0)).setCell ⟨p, 2, none⟩ (.int .i64 0)).setCell ⟨p, 3, none⟩ (.slice none 0 0) = w9 at HX3 HB3 ⊢
                  have x0 := HX3.out.cell 0 _ rfl
                  have x1 := HX3.out.cell 1 _ rfl
                  have x2 := HX3.out.cell 2 _ rfl
                  have x3 := HX3.out.cell 3 _ rfl
                  refine bodyPost_ret (v := .tuple #[.agg #[.int .i64 0, .int .i64 0, .int .i64 0, .slice none 0 0], .int .i64 1]) ?_ rfl ?_
                  · rw [results_cell_tmp rfl]; go_simp
                  · rw [HV.out]; exact DV.zero 1 HB3.out
                | true =>
                  have HV : Hid (decV T b = ((a0, a1, a2, group ms), 0)) := by show _ = _; rw [HVy.out, hv]; rfl
                  have x0 := HX7.cell 0 _ rfl
                  have x1 := HX7.cell 1 _ rfl
                  have x2 := HX7.cell 2 _ rfl
                  have x3 := HX7.cell 3 _ rfl
                  have f0 := HX7.free 0
                  have f1 := HX7.free 1
                  have f2 := HX7.free 2
                  have f3 := HX7.free 3
                  have HX3 := Lib.hid (root_stored (a' := .int .i64 (a0 : Int)) (b' := .int .i64 (a1 : Int)) (c' := .int .i64 (a2 : Int)) (d' := .slice adf j capf) HX7)
                  have HB3 := Lib.hid (below_stored (a' := .int .i64 (a0 : Int)) (b' := .int .i64 (a1 : Int)) (c' := .int .i64 (a2 : Int)) (d' := .slice adf j capf) hbw7 hW)
                  have hne : (Value.slice adf j capf).ownBlock ≠ some p := fun e => by
                    have := own_low HO7.out p e
                    have := HBB.out
                    omega
                  have HO8 := Lib.hid (owns_setCell (p := p) (k := 3) (u := .slice adf j capf) (owns_setCell (p := p) (k := 2) (u := .int .i64 (a2 : Int)) (owns_setCell (p := p) (k := 1) (u := .int .i64 (a1 : Int)) (owns_setCell (p := p) (k := 0) (u := .int .i64 (a0 : Int)) HO7.out hne) hne) hne) hne)
                  clear HRI HX7 hbw7 hb7 hH7 hv HVy
                  go_wp2
                  clear x0 x1 x2 x3 f0 f1 f2 f3 y0 y1 y2 y3
                  generalize (((w7.setCell ⟨p, 0, none⟩ (.int .i64 (a0 : Int))).setCell ⟨p, 1, none⟩ (.int .i64 (a1 : Int))).setCell ⟨p, 2, none⟩ (.int .i64 (a2 : Int))).setCell ⟨p, 3, none⟩ (.slice adf j capf) = w9 at HX3 HB3 HO8 ⊢
                  have x0 := HX3.out.cell 0 _ rfl
                  have x1 := HX3.out.cell 1 _ rfl
                  have x2 := HX3.out.cell 2 _ rfl
                  have x3 := HX3.out.cell 3 _ rfl
                  refine bodyPost_ret (v := .tuple #[.agg #[.int .i64 (a0 : Int), .int .i64 (a1 : Int), .int .i64 (a2 : Int), .slice adf j capf], .int .i64 0]) ?_ rfl ?_
                  · rw [results_cell_tmp rfl]; go_simp
                  · rw [HV.out]
                    exact ⟨HB3.out, _, rfl, owns_base (owns_len HO8.out HGL.out.symm rfl) HBB.out.1⟩
          · obtain ⟨c1, t1, hct⟩ : ∃ c1 t1, (rdNums K rest).2.1 = c1 :: t1 := by
              cases h : (rdNums K rest).2.1 with
              | nil => exact absurd h hr2
              | cons c1 t1 => exact ⟨c1, t1, rfl⟩
            rw [hct] at HN2
            have HV : Hid (decV T b = (rootZ, 3)) := by show _ = _; rw [HVx.out, if_neg (by rw [hz2]; decide), if_pos hr2]
            generalize (rdNums K rest).1 = ms at *
            clear hml hmle hz2 hr2 HVx hct
            go_wp2_with fail
            refine HN2.mono ?_
            rintro e w5 ⟨hb5, v5, rfl, _⟩
            have HX5 := HXh.out.of_block (hb5.block p HXh.out.lt)
            have hb5w := HBW.out.trans (hb5.mono HBW.out.size)
            have x0 := HX5.cell 0 _ rfl
            have x1 := HX5.cell 1 _ rfl
            have x2 := HX5.cell 2 _ rfl
            have x3 := HX5.cell 3 _ rfl
            have f0 := HX5.free 0
            have f1 := HX5.free 1
            have f2 := HX5.free 2
            have f3 := HX5.free 3
            have HX3 := Lib.hid (root_stored (a' := .int .i64 0) (b' := .int .i64 0) (c' := .int .i64 0) (d' := .slice none 0 0) HX5)
            have HB3 := Lib.hid (below_stored (a' := .int .i64 0) (b' := .int .i64 0) (c' := .int .i64 0) (d' := .slice none 0 0) hb5w hW)
            clear HN2 HX5 hb5 hb5w
            go_wp2
            clear x0 x1 x2 x3 f0 f1 f2 f3
            generalize (((w5.setCell ⟨p, 0, none⟩ (.int .i64 0)).setCell ⟨p, 1, none⟩ (.int .i64 0)).setCell ⟨p, 2, none⟩ (.int .i64 0)).setCell ⟨p, 3, none⟩ (.slice none 0 0) = w9 at HX3 HB3 ⊢
            have x0 := HX3.out.cell 0 _ rfl
            have x1 := HX3.out.cell 1 _ rfl
            have x2 := HX3.out.cell 2 _ rfl
            have x3 := HX3.out.cell 3 _ rfl
            refine bodyPost_ret (v := .tuple #[.agg #[.int .i64 0, .int .i64 0, .int .i64 0, .slice none 0 0], .int .i64 3]) ?_ rfl ?_
            · rw [results_cell_tmp rfl]; go_simp
            · rw [HV.out]; exact DV.zero 3 HB3.out
        · have HV : Hid (decV T b = (rootZ, (rdNums K rest).2.2)) := by show _ = _; rw [HVx.out, if_pos hz2]
          have hzb2 : (((rdNums K rest).2.2 : Int) == 0) = false := by simpa using hz2
          generalize (rdNums K rest).2.2 = z2 at *
          generalize (rdNums K rest).2.1 = r2 at *
          generalize (rdNums K rest).1 = ms at *
          clear hml hmle HVx
          go_wp2_with fail
          refine HN2.mono ?_
          rintro e w5 ⟨hb5, v5, rfl, _⟩
          have HX5 := HXh.out.of_block (hb5.block p HXh.out.lt)
          have hb5w := HBW.out.trans (hb5.mono HBW.out.size)
          have x0 := HX5.cell 0 _ rfl
          have x1 := HX5.cell 1 _ rfl
          have x2 := HX5.cell 2 _ rfl
          have x3 := HX5.cell 3 _ rfl
          have f0 := HX5.free 0
          have f1 := HX5.free 1
          have f2 := HX5.free 2
          have f3 := HX5.free 3
          have HX3 := Lib.hid (root_stored (a' := .int .i64 0) (b' := .int .i64 0) (c' := .int .i64 0) (d' := .slice none 0 0) HX5)
          have HB3 := Lib.hid (below_stored (a' := .int .i64 0) (b' := .int .i64 0) (c' := .int .i64 0) (d' := .slice none 0 0) hb5w hW)
          clear HN2 HX5 hb5 hb5w
          go_wp2
          clear x0 x1 x2 x3 f0 f1 f2 f3
          generalize (((w5.setCell ⟨p, 0, none⟩ (.int .i64 0)).setCell ⟨p, 1, none⟩ (.int .i64 0)).setCell ⟨p, 2, none⟩ (.int .i64 0)).setCell ⟨p, 3, none⟩ (.slice none 0 0) = w9 at HX3 HB3 ⊢
          have x0 := HX3.out.cell 0 _ rfl
          have x1 := HX3.out.cell 1 _ rfl
          have x2 := HX3.out.cell 2 _ rfl
          have x3 := HX3.out.cell 3 _ rfl
          refine bodyPost_ret (v := .tuple #[.agg #[.int .i64 0, .int .i64 0, .int .i64 0, .slice none 0 0], .int .i64 (z2 : Int)]) ?_ rfl ?_
          · rw [results_cell_tmp rfl]; go_simp
          · rw [HV.out]; exact DV.zero z2 HB3.out
    · have HV : Hid (decV T b = (rootZ, (rdNums 4 b).2.2)) := by show _ = _; unfold decV; rw [if_neg h512]; simp only; rw [if_pos hz]
      have hzb : (((rdNums 4 b).2.2 : Int) == 0) = false := by simpa using hz
      generalize (rdNums 4 b).2.2 = z at *
      generalize (rdNums 4 b).2.1 = rest at *
      generalize (rdNums 4 b).1 = l4 at *
      refine HN1.mono ?_
      rintro e w2 ⟨hb2, v, rfl, ho2⟩
      have HX2 : Holds w2 p _ _ := HX.of_block (hb2.block p HX.lt)
      have x0 := HX2.cell 0 _ rfl
      have x1 := HX2.cell 1 _ rfl
      have x2 := HX2.cell 2 _ rfl
      have x3 := HX2.cell 3 _ rfl
      have f0 := HX2.free 0
      have f1 := HX2.free 1
      have f2 := HX2.free 2
      have f3 := HX2.free 3
      have hbw := hb0.trans (hb2.mono hb0.size)
      have HX3 := Lib.hid (root_stored (a' := .int .i64 0) (b' := .int .i64 0) (c' := .int .i64 0) (d' := .slice none 0 0) HX2)
      have HB3 := Lib.hid (below_stored (a' := .int .i64 0) (b' := .int .i64 0) (c' := .int .i64 0) (d' := .slice none 0 0) hbw hW)
      clear HN HX HN1 hle hll hcd hrs ho2 HX2 hb0 hb2
      go_wp2
      clear x0 x1 x2 x3 f0 f1 f2 f3
      generalize (((w2.setCell ⟨p, 0, none⟩ (.int .i64 0)).setCell ⟨p, 1, none⟩ (.int .i64 0)).setCell ⟨p, 2, none⟩ (.int .i64 0)).setCell ⟨p, 3, none⟩ (.slice none 0 0) = w9 at HX3 HB3 ⊢
      have x0 := HX3.out.cell 0 _ rfl
      have x1 := HX3.out.cell 1 _ rfl
      have x2 := HX3.out.cell 2 _ rfl
      have x3 := HX3.out.cell 3 _ rfl
      refine bodyPost_ret (v := .tuple #[.agg #[.int .i64 0, .int .i64 0, .int .i64 0, .slice none 0 0], .int .i64 (z : Int)]) ?_ rfl ?_
      · rw [results_cell_tmp rfl]; go_simp
      · rw [HV.out]; exact DV.zero z HB3.out

end Go.Proofs.Ytbfdhonmmoikdaa
