/- The reference of layer 6: Encode. -/
import Derived.Test.YtbfdhonmmoikdaaRtR
import Derived.Test.YtbfdhonmmoikdaaRtN
import Derived.Test.YtbfdhonmmoikdaaRefN
import Derived.Test.YtbfdhonmmoikdaaOrd
namespace Go.Proofs.Ytbfdhonmmoikdaa
open Go.RowKit Go.Proofs Go.Proofs.Pk
set_option maxRecDepth 10000
attribute [local simp] mk_get wrap64_u8 mk_extract ByteArray.mk_append_mk get_1k

/-- A file in natural numbers. -/
abbrev FileN := Nat × Nat × Nat
def fileI (f : FileN) : FileV := ((f.1 : Int), (f.2.1 : Int), (f.2.2 : Int))
theorem okF_bounds (next : Int) : ∀ (l : List FileV) (last : Int), okF next last l = true → ∀ f ∈ l, last < f.1 ∧ f.1 < next ∧ 18 ≤ f.2.1
  | [], _, _, f, hf => by simp at hf
  | x :: l, last, h, f, hf => by
    simp only [okF, Bool.and_eq_true, Bool.not_eq_true', Bool.or_eq_false_iff, decide_eq_false_iff_not] at h
    obtain ⟨⟨⟨h1, h2⟩, h3⟩, h4⟩ := h
    rcases List.mem_cons.1 hf with rfl | hf
    · omega
    · have := okF_bounds next l x.1 h4 f hf; omega
theorem rightV_iff {T seq next cur : Int} {l : List FileV} (h : rightV T seq next cur l = true) : (1 ≤ seq ∧ seq ≤ 9007199254740991) ∧ (1 ≤ next ∧ next ≤ 9007199254740991) ∧ l.length ≤ 24 ∧ okF next 0 l = true ∧ curF cur l = true ∧ (takenO T (usedF l)).isSome = true := by
  unfold rightV headF at h
  simp only [Bool.and_eq_true, decide_eq_true_eq] at h
  obtain ⟨⟨⟨⟨⟨⟨⟨h1, h2⟩, h3⟩, h4⟩, h5⟩, h6⟩, h7⟩, h8⟩ := h
  exact ⟨⟨h1, h2⟩, ⟨h3, h4⟩, h5, h6, h7, h8⟩
theorem right_files {T seq next cur : Int} {l : List FileV} (h : rightV T seq next cur l = true) : ∀ f ∈ l, (0 < f.1 ∧ f.1 < next) ∧ (18 ≤ f.2.1 ∧ f.2.1 ≤ 4000) ∧ (1 ≤ f.2.2 ∧ f.2.2 ≤ 4000) := by
  obtain ⟨_, _, _, h4, _, h6⟩ := rightV_iff h
  obtain ⟨t, ht⟩ := Option.isSome_iff_exists.1 h6
  obtain ⟨N, rfl, hN, _, htk, _⟩ := takenO_some ht
  have hg := (takeAll_some _ _ _ _ (by simp) htk).1
  intro f hf
  have h1 := okF_bounds next l 0 h4 f hf
  have h2 := hg f.2 (by unfold usedF; exact List.mem_map.2 ⟨f, hf, rfl⟩)
  unfold Go.Proofs.Pk.Good at h2
  omega
theorem right_cur {T seq next cur : Int} {l : List FileV} (h : rightV T seq next cur l = true) : 0 ≤ cur ∧ cur < next := by
  obtain ⟨_, h2, _, _, h5, _⟩ := rightV_iff h
  unfold curF at h5
  rcases Bool.or_eq_true _ _ ▸ h5 with h | h'
  · have : cur = 0 := by simpa using h
    omega
  · obtain ⟨f, hf, he⟩ := List.any_eq_true.1 h'
    have := (right_files h f hf).1
    have : f.1 = cur := by simpa using he
    omega
theorem right_nat {T seq next cur : Int} {l : List FileV} (h : rightV T seq next cur l = true) : ∃ (s n c : Nat) (fs : List FileN), seq = (s : Int) ∧ next = (n : Int) ∧ cur = (c : Int) ∧ l = fs.map fileI ∧ s ≤ MaxN ∧ n ≤ MaxN ∧ c ≤ MaxN ∧ fs.length ≤ 24 ∧ ∀ f ∈ fs, f.1 ≤ MaxN ∧ f.2.1 ≤ MaxN ∧ f.2.2 ≤ MaxN := by
  obtain ⟨h1, h2, h3, _⟩ := rightV_iff h
  have h4 := right_files h
  have h5 := right_cur h
  refine ⟨seq.toNat, next.toNat, cur.toNat, l.map (fun f => (f.1.toNat, f.2.1.toNat, f.2.2.toNat)), by omega, by omega, by omega, ?_, by unfold MaxN; omega, by unfold MaxN; omega, by unfold MaxN; omega, by simpa using h3, ?_⟩
  · rw [List.map_map]
    conv => lhs; rw [← List.map_id l]
    refine List.map_congr_left fun f hf => ?_
    have := h4 f hf
    obtain ⟨a, b, c⟩ := f
    simp only [id, Function.comp, fileI] at *
    ext <;> simp <;> omega
  · intro f hf
    obtain ⟨x, hx, rfl⟩ := List.mem_map.1 hf
    have := h4 x hx
    unfold MaxN
    simp only
    omega
def filesN (l : List FileN) : List Nat := l.flatMap fun f => [f.1, f.2.1, f.2.2]
def rootN (s n c : Nat) (l : List FileN) : List Nat := [s, n, c, l.length] ++ filesN l
/-- A root's bytes. -/
def rootB (s n c : Nat) (l : List FileN) : List UInt8 := (rootN s n c l).flatMap numL
theorem filesN_length : ∀ l : List FileN, (filesN l).length = l.length * 3
  | [] => rfl
  | f :: l => by have := filesN_length l; simp only [filesN, List.flatMap_cons, List.length_append, List.length_cons, List.length_nil] at *; omega
theorem filesN_snoc (l : List FileN) (f : FileN) : filesN (l ++ [f]) = filesN l ++ [f.1, f.2.1, f.2.2] := by unfold filesN; simp
theorem intsN_append (a b : List Nat) : intsN (a ++ b) = intsN a ++ intsN b := by unfold intsN; simp
theorem flatNum_len (l : List Nat) : (l.flatMap numL).length ≤ l.length * 8 := by
  induction l with
  | nil => simp
  | cons n l ih => have := numL_len_le n; simp only [List.flatMap_cons, List.length_append, List.length_cons]; omega

theorem exec_buildSlice3 {P : Program} {w w' : World} {o : Oper} {a : Act} {t : TypeId} {x y z : Operand} {u v u' r : Value} (hr : (Instr.buildSlice t 3 #[(0, u), (1, v), (2, u')]).run P w = .ok r w') (ho : o.op = .buildSlice t 3 #[(0, x), (1, y), (2, z)]) (hx : a.eval x = u) (hy : a.eval y = v) (hz : a.eval z = u') :
    (execOp a.eval o).run P w = .ok (.value r) w' := by
  subst hx hy hz
  unfold execOp
  simp only [ho, List.map_toArray, List.map_cons, List.map_nil, Sem.run_bind, hr, Result.andThen_ok, Sem.run_pure]

set_option maxHeartbeats 1000000 in
theorem r6Encode (T seq next cur : Int) (ad : Option Addr) (len cap : Nat) (l : List FileV) (w : World) (ht : Fit T) (h : Files w ad len l) :
    (rightV T seq next cur l = false → Calls Try.prog 11 #[.int .i64 T, .agg #[.int .i64 seq, .int .i64 next, .int .i64 cur, .slice ad len cap]] w fun e w' => e = .returned (.tuple #[.string ⟨#[]⟩, .bool false]) ∧ Below w.heap.size w w') ∧
    (∀ (s n c : Nat) (fs : List FileN), rightV T seq next cur l = true → seq = (s : Int) → next = (n : Int) → cur = (c : Int) → l = fs.map fileI → s ≤ MaxN → n ≤ MaxN → c ≤ MaxN → fs.length ≤ 24 → (∀ f ∈ fs, f.1 ≤ MaxN ∧ f.2.1 ≤ MaxN ∧ f.2.2 ≤ MaxN) →
      Calls Try.prog 11 #[.int .i64 T, .agg #[.int .i64 seq, .int .i64 next, .int .i64 cur, .slice ad len cap]] w fun e w' => e = .returned (.tuple #[.string ⟨(rootB s n c fs).toArray⟩, .bool true]) ∧ Below w.heap.size w w') := by
  constructor
  · intro hr
    have HRI : Hid (∀ w1, Below w.heap.size w w1 → Calls Try.prog 17 #[.int .i64 T, .agg #[.int .i64 seq, .int .i64 next, .int .i64 cur, .slice ad len cap]] w1 fun e w' => e = .returned (.bool false) ∧ Below w1.heap.size w1 w') := fun w1 hb => by
      rw [← hr]; exact r6Right T seq next cur ad len cap l w1 ht (h.below hb)
    clear hr h ht
    go_enter Try.func11, Try.ntmps11
    go_wp2_with fail
    have hb0 := (Below.refl w.heap.size w).alloc (Nat.le_refl _) (.cells #[.int .i64 seq, .int .i64 next, .int .i64 cur, .slice ad len cap] 24)
    refine (HRI.out _ hb0).mono ?_
    rintro e w2 ⟨rfl, hb2⟩
    go_wp2
    go_ret2
    exact ⟨rfl, hb0.trans (hb2.mono hb0.size)⟩
  · intro s n c fs hr es en ec el hs hn hc hfl hff
    subst es en ec
    have HRI : Hid (∀ w1, Below w.heap.size w w1 → Calls Try.prog 17 #[.int .i64 T, .agg #[.int .i64 (s : Int), .int .i64 (n : Int), .int .i64 (c : Int), .slice ad len cap]] w1 fun e w' => e = .returned (.bool true) ∧ Below w1.heap.size w1 w') := fun w1 hb => by
      rw [← hr]; exact r6Right T s n c ad len cap l w1 ht (h.below hb)
    have HF := Lib.hid h
    have HL : Hid (len = fs.length) := by show _ = _; rw [← h.1, el, List.length_map]
    have HE := Lib.hid el
    have hlen : (len : Int) ≤ 24 := by have := HL.out; omega
    obtain ⟨iI, hiI, hzI, hsI, hbI⟩ := info_parts int_infoN
    have HBX := Holds.new w [.int .i64 (s : Int), .int .i64 (n : Int), .int .i64 (c : Int), .slice ad len cap] 24
    have hb0 := (Below.refl w.heap.size w).alloc (Nat.le_refl _) (.cells #[.int .i64 (s : Int), .int .i64 (n : Int), .int .i64 (c : Int), .slice ad len cap] 24)
    clear hr h ht el
    go_enter Try.func11, Try.ntmps11
    go_wp2_with fail
    obtain ⟨p, hp⟩ : ∃ p, Hid (p = w.heap.size) := ⟨_, rfl⟩
    rw [← hp.out] at HBX ⊢
    change Holds (w.alloc (.cells #[.int .i64 (s : Int), .int .i64 (n : Int), .int .i64 (c : Int), .slice ad len cap] 24)) p _ _ at HBX
    generalize w.alloc (.cells #[.int .i64 (s : Int), .int .i64 (n : Int), .int .i64 (c : Int), .slice ad len cap] 24) = w1 at HBX hb0 ⊢
    refine (HRI.out _ hb0).mono ?_
    rintro e w2 ⟨rfl, hb2⟩
    have HX : Holds w2 p _ _ := HBX.of_block (hb2.block p HBX.lt)
    have hb1 := hb0.trans (hb2.mono hb0.size)
    have x0 := HX.cell 0 _ rfl
    have x1 := HX.cell 1 _ rfl
    have x2 := HX.cell 2 _ rfl
    have x3 := HX.cell 3 _ rfl
    clear HBX hb0 hb2 HRI
    go_wp2
    have HPW : Hid (p < w2.heap.size) := HX.lt
    have HXX := Lib.hid HX
    have HB1 := Lib.hid hb1
    have HO0 := World.ownsRow_lit (e := 3) (base := w2.heap.size) (size := 1) w2 #[.int .i64 (s : Int), .int .i64 (n : Int), .int .i64 (c : Int), .int .i64 (len : Int)] 4 (Nat.le_refl _) (by unfold maxLen; omega) rfl
    have hb3 := (Below.refl w2.heap.size w2).alloc (Nat.le_refl _) (.cells #[.int .i64 (s : Int), .int .i64 (n : Int), .int .i64 (c : Int), .int .i64 (len : Int)] 3)
    obtain ⟨g, hg⟩ : ∃ g, Hid (g = w2.heap.size) := ⟨_, rfl⟩
    obtain ⟨B, hB⟩ : ∃ B, Hid (B = w2.heap.size) := ⟨_, rfl⟩
    generalize w2.alloc (.cells #[.int .i64 (s : Int), .int .i64 (n : Int), .int .i64 (c : Int), .int .i64 (len : Int)] 3) = w3 at HO0 hb3 ⊢
    have HO1 : Hid (w3.ownsRow B 3 1 (.slice (some ⟨g, 0, none⟩) 4 4) (4 + 0 * 3) (intsN ([s, n, c, fs.length] ++ filesN (fs.take 0)))) := by
      show World.ownsRow _ _ _ _ _ _ _
      rw [hB.out, hg.out]
      refine owns_len HO0 rfl ?_
      rw [← HL.out]; rfl
    have HB3 : Hid (Below B w2 w3) := by show Below _ _ _; rw [hB.out]; exact hb3
    rw [← hg.out]
    clear HO0 hb3 x0 x1 x2 x3 HX hb1
    clear hg
    obtain ⟨wq, hwq⟩ : ∃ wq, wq = w3 := ⟨_, rfl⟩
    rw [← hwq] at HO1 HB3 ⊢
    clear hwq
    go_loopw [7, 8] (fun v i wr => ∃ j : Nat, j ≤ len ∧ i = .int .i64 j ∧ Hid (wr.ownsRow B 3 1 v (4 + j * 3) (intsN ([s, n, c, fs.length] ++ filesN (fs.take j)))) ∧ Hid (Below B w2 wr)) (fun _ i _ => len - (intOf i).toNat)
    case atStart => exact ⟨0, Nat.zero_le _, rfl, HO1, HB3⟩
    case round =>
      obtain ⟨j, hj, rfl, ho, hb⟩ := hrel
      have hpB : p < B := by rw [hB.out]; exact HPW.out
      have x3 : wr.cell? ⟨p, 3, none⟩ = some (.slice ad len cap) := by rw [hb.out.cell (p := ⟨p, 3, none⟩) hpB]; exact HXX.out.cell 3 _ rfl
      clear hpB
      by_cases hlt : (j : Int) < len
      · have hjl : j < len := by omega
        have hbw : Below w.heap.size w wr := by
          refine HB1.out.trans (hb.out.mono ?_)
          rw [hB.out]; exact HB1.out.size
        have hbB0 : ∀ b off, ad = some ⟨b, off, none⟩ → b < B := by
          intro b off he
          obtain ⟨b', off', he', hlt', _⟩ := files_at HF.out j hjl
          rw [he] at he'
          cases he'
          rw [hB.out]
          exact Nat.lt_of_lt_of_le hlt' HB1.out.size
        obtain ⟨b, off, rfl, hbl, hrow, hfx⟩ := files_at (HF.out.below hbw) j hjl
        have hbB := hbB0 b off rfl
        clear hfx hbB0
        have hjf : j < fs.length := by have := HL.out; omega
        have hlj : l[j]'(by have := HF.out.1; omega) = fileI fs[j] := by
          have := HE.out
          simp only [this, List.getElem_map]
        rw [hlj] at hrow
        have htk : fs.take (j + 1) = fs.take j ++ [fs[j]] := List.take_succ_eq_append_getElem hjf
        have HTK : Hid (filesN (fs.take (j + 1)) = filesN (fs.take j) ++ [fs[j].1, fs[j].2.1, fs[j].2.2]) := by show _ = _; rw [htk, filesN_snoc]
        generalize fs[j] = f at hrow HTK
        obtain ⟨f0, f1, f2⟩ := f
        simp only at HTK
        have d0 : wr.cell? ⟨b, off + j * 3, none⟩ = some (.int .i64 (f0 : Int)) := hrow 0 _ rfl
        have d1 : wr.cell? ⟨b, off + j * 3 + 1, none⟩ = some (.int .i64 (f1 : Int)) := hrow 1 _ rfl
        have d2 : wr.cell? ⟨b, off + j * 3 + 2, none⟩ = some (.int .i64 (f2 : Int)) := hrow 2 _ rfl
        have hj0 : (0 : Int) ≤ (j : Int) := Int.natCast_nonneg _
        have hwj : IntKind.i64.wrap ((j : Int) + 1) = ((j + 1 : Nat) : Int) := by rw [IntWalk.i64_in _ (by omega)]; omega
        clear hbw hrow hlj htk hbl hjf
        go_upto_region 8 with (fail)
        refine wp_region_until (fun w' => w'.cell? ⟨p, 3, none⟩ = some (.slice (some ⟨b, off, none⟩) len cap) ∧ w'.cell? ⟨b, off + j * 3, none⟩ = some (.int .i64 (f0 : Int)) ∧ w'.cell? ⟨b, off + j * 3 + 1, none⟩ = some (.int .i64 (f1 : Int)) ∧ w'.cell? ⟨b, off + j * 3 + 2, none⟩ = some (.int .i64 (f2 : Int))) 21 (by kernel_rfl) ?_
        have hS0 : wr.drew.cell? ⟨p, 3, none⟩ = some (.slice (some ⟨b, off, none⟩) len cap) ∧ wr.drew.cell? ⟨b, off + j * 3, none⟩ = some (.int .i64 (f0 : Int)) ∧ wr.drew.cell? ⟨b, off + j * 3 + 1, none⟩ = some (.int .i64 (f1 : Int)) ∧ wr.drew.cell? ⟨b, off + j * 3 + 2, none⟩ = some (.int .i64 (f2 : Int)) := ⟨x3, d0, d1, d2⟩
        clear x3 d0 d1 d2
        refine wpAnyU_take (i := 0) (v := u7) (some 35) rfl rfl (by kernel_rfl) (by kernel_rfl) (by kernel_rfl) (by kernel_rfl) (fun _ _ _ h => h) hS0 (yields_of (by kernel_rfl) (fun w hw => by obtain ⟨y1, y2, y3, y4⟩ := hw; go_simp)) ?_
        refine wpAnyU_take (i := 1) (v := (.pointer (some ⟨p, 3, none⟩))) (some 36) rfl rfl (by kernel_rfl) (by kernel_rfl) (by kernel_rfl) (by kernel_rfl) (fun _ _ _ h => h) hS0 (yields_of (by kernel_rfl) (fun w hw => by obtain ⟨y1, y2, y3, y4⟩ := hw; go_simp)) ?_
        refine wpAnyU_take (i := 2) (v := (.slice (some ⟨b, off, none⟩) len cap)) (some 37) rfl rfl (by kernel_rfl) (by kernel_rfl) (by kernel_rfl) (by kernel_rfl) (fun _ _ _ h => h) hS0 (yields_of (by kernel_rfl) (fun w hw => by obtain ⟨y1, y2, y3, y4⟩ := hw; go_simp)) ?_
        refine wpAnyU_take (i := 3) (v := (.int .i64 (j : Int))) (some 38) rfl rfl (by kernel_rfl) (by kernel_rfl) (by kernel_rfl) (by kernel_rfl) (fun _ _ _ h => h) hS0 (yields_of (by kernel_rfl) (fun w hw => by obtain ⟨y1, y2, y3, y4⟩ := hw; go_simp)) ?_
        refine wpAnyU_take (i := 4) (v := (.pointer (some ⟨b, off + j * 3, none⟩))) (some 39) rfl rfl (by kernel_rfl) (by kernel_rfl) (by kernel_rfl) (by kernel_rfl) (fun _ _ _ h => h) hS0 (yields_of (by kernel_rfl) (fun w hw => by obtain ⟨y1, y2, y3, y4⟩ := hw; go_simp)) ?_
        refine wpAnyU_take (i := 5) (v := (.pointer (some ⟨b, off + j * 3, none⟩))) (some 40) rfl rfl (by kernel_rfl) (by kernel_rfl) (by kernel_rfl) (by kernel_rfl) (fun _ _ _ h => h) hS0 (yields_of (by kernel_rfl) (fun w hw => by obtain ⟨y1, y2, y3, y4⟩ := hw; go_simp)) ?_
        refine wpAnyU_take (i := 6) (v := (.int .i64 (f0 : Int))) (some 41) rfl rfl (by kernel_rfl) (by kernel_rfl) (by kernel_rfl) (by kernel_rfl) (fun _ _ _ h => h) hS0 (yields_of (by kernel_rfl) (fun w hw => by obtain ⟨y1, y2, y3, y4⟩ := hw; go_simp)) ?_
        refine wpAnyU_take (i := 7) (v := (.pointer (some ⟨p, 3, none⟩))) (some 42) rfl rfl (by kernel_rfl) (by kernel_rfl) (by kernel_rfl) (by kernel_rfl) (fun _ _ _ h => h) hS0 (yields_of (by kernel_rfl) (fun w hw => by obtain ⟨y1, y2, y3, y4⟩ := hw; go_simp)) ?_
        refine wpAnyU_take (i := 8) (v := (.slice (some ⟨b, off, none⟩) len cap)) (some 43) rfl rfl (by kernel_rfl) (by kernel_rfl) (by kernel_rfl) (by kernel_rfl) (fun _ _ _ h => h) hS0 (yields_of (by kernel_rfl) (fun w hw => by obtain ⟨y1, y2, y3, y4⟩ := hw; go_simp)) ?_
        refine wpAnyU_take (i := 9) (v := (.int .i64 (j : Int))) (some 44) rfl rfl (by kernel_rfl) (by kernel_rfl) (by kernel_rfl) (by kernel_rfl) (fun _ _ _ h => h) hS0 (yields_of (by kernel_rfl) (fun w hw => by obtain ⟨y1, y2, y3, y4⟩ := hw; go_simp)) ?_
        refine wpAnyU_take (i := 10) (v := (.pointer (some ⟨b, off + j * 3, none⟩))) (some 45) rfl rfl (by kernel_rfl) (by kernel_rfl) (by kernel_rfl) (by kernel_rfl) (fun _ _ _ h => h) hS0 (yields_of (by kernel_rfl) (fun w hw => by obtain ⟨y1, y2, y3, y4⟩ := hw; go_simp)) ?_
        refine wpAnyU_take (i := 11) (v := (.pointer (some ⟨b, off + j * 3 + 1, none⟩))) (some 46) rfl rfl (by kernel_rfl) (by kernel_rfl) (by kernel_rfl) (by kernel_rfl) (fun _ _ _ h => h) hS0 (yields_of (by kernel_rfl) (fun w hw => by obtain ⟨y1, y2, y3, y4⟩ := hw; go_simp)) ?_
        refine wpAnyU_take (i := 12) (v := (.int .i64 (f1 : Int))) (some 47) rfl rfl (by kernel_rfl) (by kernel_rfl) (by kernel_rfl) (by kernel_rfl) (fun _ _ _ h => h) hS0 (yields_of (by kernel_rfl) (fun w hw => by obtain ⟨y1, y2, y3, y4⟩ := hw; go_simp)) ?_
        refine wpAnyU_take (i := 13) (v := (.pointer (some ⟨p, 3, none⟩))) (some 48) rfl rfl (by kernel_rfl) (by kernel_rfl) (by kernel_rfl) (by kernel_rfl) (fun _ _ _ h => h) hS0 (yields_of (by kernel_rfl) (fun w hw => by obtain ⟨y1, y2, y3, y4⟩ := hw; go_simp)) ?_
        refine wpAnyU_take (i := 14) (v := (.slice (some ⟨b, off, none⟩) len cap)) (some 49) rfl rfl (by kernel_rfl) (by kernel_rfl) (by kernel_rfl) (by kernel_rfl) (fun _ _ _ h => h) hS0 (yields_of (by kernel_rfl) (fun w hw => by obtain ⟨y1, y2, y3, y4⟩ := hw; go_simp)) ?_
        refine wpAnyU_take (i := 15) (v := (.int .i64 (j : Int))) (some 50) rfl rfl (by kernel_rfl) (by kernel_rfl) (by kernel_rfl) (by kernel_rfl) (fun _ _ _ h => h) hS0 (yields_of (by kernel_rfl) (fun w hw => by obtain ⟨y1, y2, y3, y4⟩ := hw; go_simp)) ?_
        refine wpAnyU_take (i := 16) (v := (.pointer (some ⟨b, off + j * 3, none⟩))) (some 51) rfl rfl (by kernel_rfl) (by kernel_rfl) (by kernel_rfl) (by kernel_rfl) (fun _ _ _ h => h) hS0 (yields_of (by kernel_rfl) (fun w hw => by obtain ⟨y1, y2, y3, y4⟩ := hw; go_simp)) ?_
        refine wpAnyU_take (i := 17) (v := (.pointer (some ⟨b, off + j * 3 + 2, none⟩))) (some 52) rfl rfl (by kernel_rfl) (by kernel_rfl) (by kernel_rfl) (by kernel_rfl) (fun _ _ _ h => h) hS0 (yields_of (by kernel_rfl) (fun w hw => by obtain ⟨y1, y2, y3, y4⟩ := hw; go_simp)) ?_
        refine wpAnyU_take (i := 18) (v := (.int .i64 (f2 : Int))) (some 53) rfl rfl (by kernel_rfl) (by kernel_rfl) (by kernel_rfl) (by kernel_rfl) (fun _ _ _ h => h) hS0 (yields_of (by kernel_rfl) (fun w hw => by obtain ⟨y1, y2, y3, y4⟩ := hw; go_simp)) ?_
        have hBs : B ≤ wr.heap.size := by have := hb.out.size; rw [← hB.out] at this; exact this
        obtain ⟨q, hq⟩ : ∃ q, Hid (q = wr.drew.heap.size) := ⟨_, rfl⟩
        have HQ := Holds.new wr.drew [.int .i64 (f0 : Int), .int .i64 (f1 : Int), .int .i64 (f2 : Int)] 3
        have HBd : Below B w2 (wr.drew.alloc (.cells [Value.int .i64 (f0 : Int), .int .i64 (f1 : Int), .int .i64 (f2 : Int)].toArray 3)) := (belowN hb.out 1).alloc hBs _
        have HOw : (wr.drew.alloc (.cells [Value.int .i64 (f0 : Int), .int .i64 (f1 : Int), .int .i64 (f2 : Int)].toArray 3)).ownsRow B 3 1 u7 (4 + j * 3) (intsN ([s, n, c, fs.length] ++ filesN (fs.take j))) := (owns_drewN (n := 1) ho.out).alloc _
        have hbs : (Instr.buildSlice 56 3 #[(0, .int .i64 (f0 : Int)), (1, .int .i64 (f1 : Int)), (2, .int .i64 (f2 : Int))]).run Try.prog wr.drew = .ok (.slice (some ⟨wr.drew.heap.size, 0, none⟩) 3 3) (wr.drew.alloc (.cells [Value.int .i64 (f0 : Int), .int .i64 (f1 : Int), .int .i64 (f2 : Int)].toArray 3)) := by go_simp
        rw [← hq.out] at HQ hbs
        have hpB : p < B := by rw [hB.out]; exact HPW.out
        have hS1 : ∀ w', Below B w2 w' → w'.cell? ⟨p, 3, none⟩ = some (.slice (some ⟨b, off, none⟩) len cap) ∧ w'.cell? ⟨b, off + j * 3, none⟩ = some (.int .i64 (f0 : Int)) ∧ w'.cell? ⟨b, off + j * 3 + 1, none⟩ = some (.int .i64 (f1 : Int)) ∧ w'.cell? ⟨b, off + j * 3 + 2, none⟩ = some (.int .i64 (f2 : Int)) := by
          intro w' h
          obtain ⟨z0, z1, z2, z3⟩ := hS0
          have q0 : ∀ x : Addr, x.block < B → w'.cell? x = wr.drew.cell? x := fun x hx => by
            rw [h.cell (p := x) hx]; exact ((belowN hb.out 1).cell (p := x) hx).symm
          exact ⟨by rw [q0 _ hpB]; exact z0, by rw [q0 _ hbB]; exact z1, by rw [q0 _ hbB]; exact z2, by rw [q0 _ hbB]; exact z3⟩
        generalize wr.drew.alloc (.cells [Value.int .i64 (f0 : Int), .int .i64 (f1 : Int), .int .i64 (f2 : Int)].toArray 3) = wd at HQ HBd HOw hbs
        refine wpAnyU_run (i := 19) (v := .slice (some ⟨q, 0, none⟩) 3 3) (some 54) rfl rfl (by kernel_rfl) (by kernel_rfl) (exec_buildSlice3 (x := .tmp 41) (y := .tmp 47) (z := .tmp 53) hbs (by rfl) (by kernel_rfl) (by kernel_rfl) (by kernel_rfl)) (fun _ => hS1 _ HBd) ?_
        have hBd : B ≤ wd.heap.size := by have := HBd.size; rw [← hB.out] at this; exact this
        obtain ⟨v', we, happ, ho3, hgr, _⟩ := run_append_at (P := Try.prog) wd B 56 56 3 iI _ 1 8 Try.underlying56 hiI hzI hsI hbI (by rfl) (by omega) u7 (4 + j * 3) _ HOw
          ⟨q, 0, none⟩ 3 3 [.int .i64 (f0 : Int), .int .i64 (f1 : Int), .int .i64 (f2 : Int)] (by rfl) (fun j u hj => by rw [add0]; exact HQ.cell j u hj) (by simp [Value.oneCell']) (by unfold maxLen; omega) (by omega) hBd (by omega)
        have hbe : Below B w2 we := HBd.grown hgr hBd (own_low HOw)
        refine wpAnyU_run (i := 20) (v := v') (some 55) rfl rfl (by kernel_rfl) (by kernel_rfl) (exec_append (s := .tmp 35) (x := .tmp 54) happ (by rfl) (by rfl) (by kernel_rfl) (by kernel_rfl)) (fun _ => hS1 _ hbe) ?_
        refine wpAnyU_run (i := 21) (v := v') (w' := we) (some 7) rfl rfl (by kernel_rfl) (by kernel_rfl) (by go_simp) (fun h => by omega) ?_
        refine wpAnyU_done (by kernel_rfl) ?_ _
        have HB5 := Lib.hid hbe
        have HO5 : Hid (we.ownsRow B 3 1 v' (4 + (j + 1) * 3) (intsN ([s, n, c, fs.length] ++ filesN (fs.take (j + 1))))) := by
          show World.ownsRow _ _ _ _ _ _ _
          rw [HTK.out]
          refine owns_len ho3 (by omega) ?_
          rw [← List.append_assoc, intsN_append _ [f0, f1, f2]]; rfl
        clear hbs happ ho3 hgr hbe HBd HOw HQ hS0 hS1 hb ho
        simp only [put_lit, List.set_cons_succ, List.set_cons_zero]
        go_wp2
        go_roundw
        case rel => exact ⟨j + 1, by omega, by go_num, HO5, HB5⟩
        case measure => simp [intOf]; omega
      · have hjl : j = len := by omega
        subst hjl
        have hall : filesN (fs.take j) = filesN fs := by rw [List.take_of_length_le (by have := HL.out; omega)]
        have ho2 := ho.out
        rw [hall] at ho2
        obtain ⟨K, hK⟩ : ∃ K, K = 4 + j * 3 := ⟨_, rfl⟩
        have hKl : (rootN s n c fs).length = K := by unfold rootN; rw [List.length_append, filesN_length]; have := HL.out; simp; omega
        obtain ⟨ns, hns⟩ : ∃ ns, Hid (ns = rootN s n c fs) := ⟨_, rfl⟩
        have hnl : ns.length = K := by rw [hns.out]; exact hKl
        have hnm : ∀ m ∈ ns, m ≤ MaxN := by
          intro m hm
          rw [hns.out] at hm
          unfold rootN filesN at hm
          rcases List.mem_append.1 hm with hm | hm
          · have : fs.length ≤ MaxN := by unfold MaxN; omega
            simp only [List.mem_cons, List.not_mem_nil, or_false] at hm
            rcases hm with rfl | rfl | rfl | rfl <;> assumption
          · obtain ⟨f, hf, hm⟩ := List.mem_flatMap.1 hm
            have := hff f hf
            simp only [List.mem_cons, List.not_mem_nil, or_false] at hm
            rcases hm with rfl | rfl | rfl <;> omega
        have ho3 : wr.ownsRow B 3 1 u7 K (intsN ns) := by rw [hK, hns.out]; exact ho2
        obtain ⟨g7, c7, rfl, hfa, hfb⟩ := ho3.form (by omega)
        clear hfa hfb
        have hg7 : g7 < wr.heap.size := by
          rcases ho3.2 with ⟨h1, _⟩ | ⟨g', c', cur, h1, _, h2, _⟩
          · cases h1
          · cases h1; exact (Array.getElem?_eq_some_iff.1 h2).1
        have HCL : Hid (∀ k (hk : k < ns.length), wr.cell? ⟨g7, k, none⟩ = some (.int .i64 (ns[k] : Int))) := by
          intro k hk
          rw [ho3.cellAt _ (by omega)]
          unfold intsN
          rw [List.getElem?_map, List.getElem?_eq_getElem hk]; rfl
        have HNM := Lib.hid hnm
        have HNL := Lib.hid hnl
        have HBW : Hid (Below w.heap.size w wr) := by
          refine HB1.out.trans (hb.out.mono ?_)
          rw [hB.out]; exact HB1.out.size
        have HG7 := Lib.hid hg7
        have hK76 : K ≤ 76 := by omega
        clear hall ho ho2 hKl hnm ho3 hg7 hb hnl
        clear hK
        go_wp2
        clear x3
        obtain ⟨wx, hwx⟩ : ∃ wx, wx = wr := ⟨_, rfl⟩
        have HS : Hid (Below wr.heap.size wr wx) := by rw [hwx]; exact Below.refl _ _
        rw [← hwx]
        clear hwx
        obtain ⟨wo, hwo⟩ : ∃ wo, wo = wr := ⟨_, rfl⟩
        rw [← hwo] at HCL HG7 HBW HS
        clear hwo
        clear wr
        go_loopw [9, 10] (fun o i wr => ∃ k : Nat, k ≤ K ∧ i = .int .i64 k ∧ o = .string ⟨((ns.take k).flatMap numL).toArray⟩ ∧ Hid (Below wo.heap.size wo wr)) (fun _ i _ => K - (intOf i).toNat)
        case atStart => exact ⟨0, Nat.zero_le _, rfl, rfl, HS⟩
        case round =>
          obtain ⟨k, hk, rfl, rfl, hbk⟩ := hrel
          by_cases hkK : (k : Int) < K
          · have hkn : k < ns.length := by have := HNL.out; omega
            have d0 : wr.cell? ⟨g7, k, none⟩ = some (.int .i64 (ns[k] : Int)) := by rw [hbk.out.cell (p := ⟨g7, k, none⟩) HG7.out]; exact HCL.out k hkn
            have hm := HNM.out ns[k] (List.getElem_mem hkn)
            have hfl := flatNum_len (ns.take k)
            have hfn := numL_len_le ns[k]
            have HTK2 : Hid ((ns.take (k + 1)).flatMap numL = (ns.take k).flatMap numL ++ numL ns[k]) := by show _ = _; rw [List.take_succ_eq_append_getElem hkn]; simp only [List.flatMap_append, List.flatMap_cons, List.flatMap_nil, List.append_nil]
            have hk0 : (0 : Int) ≤ (k : Int) := Int.natCast_nonneg _
            have hwk : IntKind.i64.wrap ((k : Int) + 1) = ((k + 1 : Nat) : Int) := by rw [IntWalk.i64_in _ (by omega)]; omega
            rw [List.length_take] at hfl
            have HN := Lib.hid (rNum_ok ns[k] wr hm)
            generalize ns[k] = m at *
            generalize (ns.take k).flatMap numL = A at *
            generalize numL m = C at *
            have hfit : ¬9223372036854775807 < A.length + C.length := by omega
            clear hm hfl hfn hkn
            go_wp2_with fail
            refine HN.out.mono ?_
            rintro e w9 ⟨rfl, hb9⟩
            have HB9 := Lib.hid (hbk.out.trans (hb9.mono hbk.out.size))
            clear HN hb9
            go_wp2
            go_roundw
            case rel => exact ⟨k + 1, by omega, by go_num, by rw [HTK2.out], HB9⟩
            case measure => simp [intOf]; omega
          · have hkK2 : k = K := by omega
            have HE2 : Hid ((ns.take k).flatMap numL = rootB s n c fs) := by
              show _ = _
              rw [List.take_of_length_le (by have := HNL.out; omega), hns.out]; rfl
            generalize (ns.take k).flatMap numL = A at *
            go_wp2
            go_ret2
            rw [← HE2.out]
            exact ⟨rfl, HBW.out.trans (hbk.out.mono HBW.out.size)⟩

end Go.Proofs.Ytbfdhonmmoikdaa
