/- The reader of a block: a sorted list. -/
import Derived.Test.YtbiifeahdinjjaaEn12
import Derived.Test.YtbiifeahdinjjaaRbP
import Derived.Laws.MakeOwn
namespace Go.Proofs.Ytbiifeahdinjjaa
open Go.RowKit Go.Proofs Go.Proofs.Pk
set_option maxRecDepth 10000
attribute [local simp] mk_get wrap64_u8 mk_extract ByteArray.mk_append_mk get_1k

/-- A row of n entries, of which the first ones are there already. -/
def fillL (T : List MEnt) (n : Nat) : List MEnt := T ++ List.replicate (n - T.length) zeroM
def lastM (T : List MEnt) : MEnt := T.getLast?.getD zeroM
theorem lastM_snoc (T : List MEnt) (u : MEnt) : lastM (T ++ [u]) = u := by simp [lastM]
theorem fill_put (T : List MEnt) (n : Nat) (u : MEnt) (h : T.length < n) : lay (cellsM (fillL T n)) (T.length * 4) (entC u) = cellsM (fillL (T ++ [u]) n) := by
  have e1 : fillL T n = T ++ zeroM :: List.replicate (n - (T.length + 1)) zeroM := by
    unfold fillL
    rw [show n - T.length = (n - (T.length + 1)) + 1 from by omega, List.replicate_succ]
  have e2 : fillL (T ++ [u]) n = T ++ u :: List.replicate (n - (T.length + 1)) zeroM := by
    unfold fillL
    rw [List.length_append, List.length_singleton, List.append_assoc]; rfl
  rw [e1, e2, cellsM_append, cellsM_append]
  have hl := cellsM_length T
  unfold lay
  rw [List.take_append_of_le_length (by omega), List.take_of_length_le (by omega)]
  congr 1
  show entC u ++ List.drop (T.length * 4 + 4) (cellsM T ++ (entC zeroM ++ cellsM (List.replicate (n - (T.length + 1)) zeroM))) = entC u ++ cellsM (List.replicate (n - (T.length + 1)) zeroM)
  congr 1
  rw [← List.append_assoc, List.drop_append, List.drop_eq_nil_of_le (by rw [List.length_append, hl]; show T.length * 4 + 4 ≤ _; omega), List.nil_append, List.length_append, hl]
  show List.drop (T.length * 4 + 4 - (T.length * 4 + 4)) _ = _
  rw [Nat.sub_self, List.drop_zero]
theorem fill_length (T : List MEnt) (n : Nat) (h : T.length ≤ n) : (fillL T n).length = n := by unfold fillL; rw [List.length_append, List.length_replicate]; omega
theorem made_get (z : Array Value) (N i : Nat) (h : i < (madeCells z N).size) : (madeCells z N)[i]'h = z[i % z.size]! := by simp [madeCells]
theorem made_ents (n : Nat) : madeCells (entC zeroM).toArray (n * 4) = (cellsM (fillL [] n)).toArray := by
  have hl : (cellsM (fillL [] n)).length = n * 4 := by rw [cellsM_length, fill_length [] n (Nat.zero_le _)]
  apply Array.ext
  · rw [size_madeCells, List.size_toArray, hl]
  · intro i h1 h2
    rw [size_madeCells] at h1
    have hr : (fillL [] n).length = n := fill_length [] n (Nat.zero_le _)
    have hi : i / 4 < (fillL [] n).length := by rw [hr]; omega
    have hz : (fillL [] n)[i / 4] = zeroM := by simp [fillL]
    have hm : i % 4 < 4 := Nat.mod_lt _ (by decide)
    have hg := cellsM_get (fillL [] n) (i / 4) hi (i % 4) ((entC zeroM)[i % 4]'hm) (by rw [hz]; exact List.getElem?_eq_getElem hm)
    rw [show i / 4 * 4 + i % 4 = i from by omega] at hg
    have hgi : (cellsM (fillL [] n))[i]'(by rw [hl]; exact h1) = (entC zeroM)[i % 4]'hm := by
      have := List.getElem?_eq_getElem (l := cellsM (fillL [] n)) (i := i) (by rw [hl]; exact h1)
      rw [this] at hg
      exact Option.some.inj hg
    refine Eq.trans ?_ (show (entC zeroM)[i % 4]'hm = (cellsM (fillL [] n)).toArray[i]'h2 from hgi.symm)
    refine (made_get _ _ i (by rw [size_madeCells]; exact h1)).trans ?_
    show (entC zeroM).toArray[i % 4]! = _
    rw [getElem!_pos (entC zeroM).toArray (i % 4) (show i % 4 < 4 from hm)]
    rfl
theorem run_make_ents (n : Nat) (hn : n ≤ 200) (w : World) : (Instr.makeSlice 22 (.int .i64 (n : Int)) (.int .i64 (n : Int))).run Try.prog w =
    .ok (.slice (some ⟨w.heap.size, 0, none⟩) n n) (w.alloc (.cells (cellsM (fillL [] n)).toArray 37)) := by
  obtain ⟨i, hi, hz, hs, hb⟩ := info_parts ent_info
  have := run_make (P := Try.prog) w 22 37 i _ Try.underlying22 hi hz .i64 .i64 n n (by omega) (Int.le_refl _) (by rw [hb]; omega) (by omega)
  rw [this, hs]
  simp only [Int.toNat_natCast, Value.cells]
  rw [show (n * 4) = n * 4 from rfl]
  exact congrArg (fun c => Result.ok _ (w.alloc (.cells c 37))) (made_ents n)

/-- On the way through a list: the reader, the row that is filled, the last entry's box. -/
structure LsS (w wx : World) (p gl pl n : Nat) (rest : Txt) (T : List MEnt) : Prop where
  rd : Rdr wx p rest
  kept : Kept (fun k => k = p) w wx
  row : Holds wx gl (cellsM (fillL T n)) 37
  box : Holds wx pl (entC (lastM T)) 37
  leg : w.heap.size ≤ gl
  lep : w.heap.size ≤ pl
  ne : gl ≠ pl
  lt : p < w.heap.size
theorem LsS.step {w wx w' : World} {p gl pl n : Nat} {rest rest' : Txt} {T : List MEnt} (h : LsS w wx p gl pl n rest T) (hr : Rdr w' p rest') (hk : Kept (fun k => k = p) wx w') : LsS w w' p gl pl n rest' T :=
  ⟨hr, h.kept.trans hk (fun k hk => .inl hk), h.row.of_block (hk.block gl h.row.lt (fun e => by have := h.leg; have := h.lt; omega)), h.box.of_block (hk.block pl h.box.lt (fun e => by have := h.lep; have := h.lt; omega)), h.leg, h.lep, h.ne, h.lt⟩
theorem LsS.still {w wx w' : World} {p gl pl n : Nat} {rest : Txt} {T : List MEnt} (h : LsS w wx p gl pl n rest T) (hk : Kept (fun _ => False) wx w') : LsS w w' p gl pl n rest T :=
  ⟨h.rd.kept hk (fun f => f), h.kept.trans hk (fun k hk => hk.elim), h.row.of_block (hk.block gl h.row.lt (fun e => e)), h.box.of_block (hk.block pl h.box.lt (fun e => e)), h.leg, h.lep, h.ne, h.lt⟩
/-- An entry more. -/
theorem LsS.put {w wx : World} {p gl pl n : Nat} {rest : Txt} {T : List MEnt} (h : LsS w wx p gl pl n rest T) (u : MEnt) (hn : T.length < n) : LsS w ((wx.setCells gl (T.length * 4) (entC u)).setCells pl 0 (entC u)) p gl pl n rest (T ++ [u]) := by
  have hlg : T.length * 4 + (entC u).length ≤ (cellsM (fillL T n)).length := by rw [cellsM_length, fill_length T n (by omega)]; show T.length * 4 + 4 ≤ _; omega
  have hr := (h.row.setCells (entC u) (T.length * 4) wx _ hlg)
  rw [fill_put T n u hn] at hr
  have hb : Holds (wx.setCells gl (T.length * 4) (entC u)) pl (entC (lastM T)) 37 := h.box.setOther (fun e => h.ne e.symm)
  have hb2 := hb.setCells (entC u) 0 _ (entC (lastM T)) (Nat.le_refl _)
  rw [lay_all (entC (lastM T)) (entC u) rfl] at hb2
  have hk1 : Kept (fun k => k = gl ∨ k = pl) wx ((wx.setCells gl (T.length * 4) (entC u)).setCells pl 0 (entC u)) :=
    Kept.setCells (X := fun k => k = gl ∨ k = pl) (.inr rfl) _ 0 _ (Kept.setCells (X := fun k => k = gl ∨ k = pl) (.inl rfl) _ _ wx (Kept.refl _ _))
  refine ⟨h.rd.kept hk1 (fun e => ?_), ?_, hr.setOther h.ne, ?_, h.leg, h.lep, h.ne, h.lt⟩
  · have := h.leg; have := h.lep; have := h.lt; omega
  · exact Kept.setCellsN h.lep _ 0 _ (Kept.setCellsN h.leg _ _ wx h.kept)
  · rw [lastM_snoc]; exact hb2
theorem holds_owns {w : World} {g base n : Nat} {T : List MEnt} (h : Holds w g (cellsM T) 37) (hT : T.length = n) (hb : base ≤ g) (hn : n ≤ 200) : w.ownsRow base 37 4 (.slice (some ⟨g, 0, none⟩) n n) n (cellsM T) := by
  have hl := cellsM_length T
  refine ⟨by rw [hl, hT], .inr ⟨g, n, (cellsM T).toArray, rfl, hb, h, Nat.le_refl _, by unfold maxLen; omega, by rw [List.size_toArray, hl, hT], ?_⟩⟩
  rw [List.take_of_length_le (by rw [hl, hT]; exact Nat.le_refl _)]

/-- What the reader's list ends in. -/
def ReadL (p : Nat) (w : World) (m : Option (List MEnt × Txt)) (e : Ending) (w' : World) : Prop :=
  (∃ T t ad, m = some (T, t) ∧ e = .returned (.slice ad T.length T.length) ∧ Rdr w' p t ∧ w'.ownsRow w.heap.size 37 4 (.slice ad T.length T.length) T.length (cellsM T) ∧ (∀ e ∈ T, FitN e.2.1) ∧ Kept (fun k => k = p) w w') ∨
  (m = none ∧ e = .panicked invP ∧ Kept (fun k => k = p) w w')
def listC (b : Txt) : Option (List MEnt × Txt) := if (rdNum b).2.2 ≠ 0 ∨ 200 < (rdNum b).1 then none else rdManyC (rdNum b).1 0 (rdNum b).2.1 zeroM

set_option maxHeartbeats 8000000 in
theorem listP (p : Nat) (b : Txt) (w : World) (hb : (b.length : Int) ≤ 140737489000000) (h : Rdr w p b) :
    Calls Try.prog 31 #[.pointer (some ⟨p, 0, none⟩)] w (ReadL p w (listC b)) := by
  obtain ⟨i0, hi0, hz0, hz1, hz2⟩ := info_parts ent_info
  have H1 := Lib.hid (fun (W : World) (h : Rdr W p b) => rdNumP p b W hb h)
  have l1 := rdNum_len b
  obtain ⟨n, hn⟩ : ∃ n, n = (rdNum b).1 := ⟨_, rfl⟩
  obtain ⟨r0, hr0⟩ : ∃ r0, r0 = (rdNum b).2.1 := ⟨_, rfl⟩
  obtain ⟨e1, he1⟩ : ∃ e1, e1 = (rdNum b).2.2 := ⟨_, rfl⟩
  obtain ⟨m, hm⟩ : ∃ m, m = listC b := ⟨_, rfl⟩
  have hM : Hid (m = if e1 ≠ 0 ∨ 200 < n then none else rdManyC n 0 r0 zeroM) := by show _ = _; rw [hm]; unfold listC; rw [← hn, ← hr0, ← he1]
  rw [← hn, ← hr0, ← he1] at H1
  rw [← hr0] at l1
  rw [← hm]
  have hr0l : Hid ((r0.length : Int) ≤ 140737489000000) := by show _ ≤ _; omega
  have HR := Lib.hid h
  have hlt := h.lt
  clear hn hr0 he1 hm l1 h hb
  go_enter Try.func31, Try.ntmps31
  go_wp2_with fail
  refine (H1.out _ HR.out).mono ?_
  rintro e wa (⟨g1, rfl, hr1, hk1⟩ | ⟨g1, rfl, hk1⟩)
  rotate_left
  · have HK := Lib.hid hk1
    have hbad : m = none := by rw [hM.out, if_pos (.inl g1)]
    clear hk1
    go_wp2
    exact ⟨rfl, .inr ⟨rfl, rfl, HK.out⟩⟩
  have HA := Lib.hid (And.intro hr1 hk1)
  clear hr1 hk1 HR H1
  by_cases c2 : 200 < n
  · have hbad : m = none := by rw [hM.out, if_pos (.inr c2)]
    go_wp2_with fail
    rw [show decide ((n : Int) ≤ 200) = false from decide_eq_false (by omega)]
    refine (check_no wa).mono ?_
    rintro e w2 ⟨rfl, hk2⟩
    have HK : Hid (Kept (fun k => k = p) w w2) := HA.out.2.trans hk2 (fun _ f => f.elim)
    clear hk2
    go_wp2
    exact ⟨rfl, .inr ⟨rfl, rfl, HK.out⟩⟩
  have hM2 : Hid (m = rdManyC n 0 r0 zeroM) := by show _ = _; rw [hM.out, if_neg (by omega)]
  clear hM g1
  go_wp2_with fail
  rw [show decide ((n : Int) ≤ 200) = true from decide_eq_true (by omega)]
  refine (check_yes wa).mono ?_
  rintro e w2 ⟨rfl, hk2⟩
  have HB := Lib.hid (And.intro (HA.out.1.kept hk2 (fun f => f)) (HA.out.2.trans hk2 (fun _ f => f.elim)))
  clear hk2 HA
  have hmk := run_make_ents n (by omega)
  have HC : Hid ((Value.agg (entC zeroM).toArray) = .agg (entC zeroM).toArray) := rfl
  obtain ⟨C, hC⟩ : ∃ C, C = (cellsM (fillL [] n)).toArray := ⟨_, rfl⟩
  have HI : Hid (LsS w ((w2.alloc (.cells C 37)).alloc (.cells (entC zeroM).toArray 37)) p w2.heap.size (w2.heap.size + 1) n r0 []) := by
    rw [hC]
    have h1 := Holds.new w2 (cellsM (fillL [] n)) 37
    have h2 := Holds.new (w2.alloc (.cells (cellsM (fillL [] n)).toArray 37)) (entC zeroM) 37
    have s1 : (w2.alloc (.cells (cellsM (fillL [] n)).toArray 37)).heap.size = w2.heap.size + 1 := by simp
    rw [s1] at h2
    have hk : Kept (fun _ => False) w2 ((w2.alloc (.cells (cellsM (fillL [] n)).toArray 37)).alloc (.cells (entC zeroM).toArray 37)) := ((Kept.refl _ w2).alloc _).alloc _
    have hs := HB.out.2.size
    exact ⟨HB.out.1.kept hk (fun f => f), HB.out.2.trans hk (fun _ f => f.elim), h1.alloc _, h2, hs, by omega, by omega, hlt⟩
  rw [← hC] at hmk
  clear hC HB
  obtain ⟨pz, hpz⟩ : ∃ pz, pz = w2.heap.size + 1 := ⟨_, rfl⟩
  obtain ⟨gz, hgz⟩ : ∃ gz, gz = w2.heap.size := ⟨_, rfl⟩
  rw [← hpz, ← hgz] at HI
  go_wp2
  rw [← hpz, ← hgz]
  obtain ⟨wq, hwq⟩ : ∃ wq, wq = (w2.alloc (.cells C 37)).alloc (.cells (entC zeroM).toArray 37) := ⟨_, rfl⟩
  rw [← hwq] at HI
  change Code.wp _ _ _ _ ((w2.alloc (.cells C 37)).alloc (.cells (entC zeroM).toArray 37))
  rw [← hwq]
  clear hwq hpz hgz hmk HC
  have HI0 : Hid (LsS w wq p gz pz n r0 [] ∧ m = joinO [] (rdManyC (n - 0) 0 r0 (lastM [])) ∧ (r0.length : Int) ≤ 140737489000000 ∧ ∀ e ∈ ([] : List MEnt), FitN e.2.1 ∧ e.1.length ≤ 80) :=
    ⟨HI.out, by rw [hM2.out, Nat.sub_zero]; unfold joinO; show rdManyC n 0 r0 zeroM = Option.map _ (rdManyC n 0 r0 zeroM); generalize rdManyC n 0 r0 zeroM = o; cases o <;> simp, hr0l.out, fun _ h => (by cases h)⟩
  clear HI hr0l hM2
  go_loopw [17] (fun i wr => ∃ (j : Nat) (T : List MEnt) (rest : Txt), (j ≤ n ∧ T.length = j) ∧ i = .int .i64 (j : Int) ∧ Hid (LsS w wr p gz pz n rest T ∧ m = joinO T (rdManyC (n - j) j rest (lastM T)) ∧ (rest.length : Int) ≤ 140737489000000 ∧ ∀ e ∈ T, FitN e.2.1 ∧ e.1.length ≤ 80)) (fun i _ => n - (intOf i).toNat)
  case atStart => exact ⟨0, [], r0, ⟨Nat.zero_le _, rfl⟩, rfl, HI0⟩
  case round =>
    obtain ⟨j, T, rest, ⟨hj, hTl⟩, rfl, hI⟩ := hrel
    clear HI0
    have j0 : (0 : Int) ≤ (j : Int) := by omega
    by_cases hlt : j < n
    · have jn : (j : Int) < (n : Int) := by omega
      have hwj : IntKind.i64.wrap ((j : Int) + 1) = (j : Int) + 1 := IntWalk.i64_in _ (by omega)
      obtain ⟨la, hla⟩ : ∃ la, la = lastM T := ⟨_, rfl⟩
      have hlal : la.1.length ≤ 80 := by
        rw [hla]; unfold lastM
        cases hg : T.getLast? with
        | none => simp [zeroM]
        | some x => exact (hI.out.2.2.2 x (List.mem_of_getLast? hg)).2
      have HL := Lib.hid hI.out.1
      have c0 : wr.cell? ⟨pz, 0, none⟩ = some (.string ⟨la.1.toArray⟩) := by rw [hla]; exact HL.out.box.cell 0 _ rfl
      have CO := Lib.hid (fun (W : World) (h : Rdr W p rest) => entP p rest la.1 j W hI.out.2.2.1 (by omega) (by omega) h)
      have HM : Hid (m = joinO T (rdManyC ((n - (j + 1)) + 1) j rest la)) := by show _ = _; rw [hla, show (n - (j + 1)) + 1 = n - j from by omega]; exact hI.out.2.1
      have HT := Lib.hid hI.out.2.2
      obtain ⟨u, hu⟩ : ∃ u, Hid (u = (rdOne rest la.1).1) := ⟨_, rfl⟩
      obtain ⟨t, ht⟩ : ∃ t, Hid (t = (rdOne rest la.1).2.1) := ⟨_, rfl⟩
      obtain ⟨k1, hk1⟩ : ∃ k1, Hid (k1 = entC1 rest la.1 j) := ⟨_, rfl⟩
      rw [← hu.out, ← ht.out, ← hk1.out] at CO
      have HLA := Lib.hid hla
      clear hI hla
      go_wp2_with fail
      refine (CO.out _ HL.out.rd).mono ?_
      clear CO
      rintro e wx (⟨g1, rfl, hr1, hkx⟩ | ⟨g1, rfl, hkx⟩)
      rotate_left
      · have HK : Hid (Kept (fun k => k = p) w wx) := HL.out.kept.trans hkx (fun k hk => .inl hk)
        have hbad : m = none := by rw [HM.out]; exact joinC_no (by unfold stepC; rw [← hk1.out]; simp only [Bool.not_eq_true] at g1; rw [g1]; rfl)
        clear hkx
        go_wp2
        exact ⟨rfl, .inr ⟨hbad, rfl, HK.out⟩⟩
      have HLx := Lib.hid (HL.out.step hr1 hkx)
      clear hr1 hkx HL c0
      unfold entC
      go_upto_region 9 with fail
      change Code.wp _ _ _ _ (wx.alloc (.cells (entC u).toArray 37))
      have HLa := Lib.hid (HLx.out.still ((Kept.refl (fun _ => False) wx).alloc (.cells (entC u).toArray 37)))
      have HBa := Lib.hid (Holds.new wx (entC u) 37)
      have hgx := HLx.out.row.lt
      have hpx := HLx.out.box.lt
      obtain ⟨g, hg⟩ : ∃ g, g = wx.heap.size := ⟨_, rfl⟩
      rw [← hg] at HBa hgx hpx ⊢
      clear hg HLx
      generalize wx.alloc (.cells (entC u).toArray 37) = wb at HLa HBa ⊢
      have d0 := HBa.out.cell 0 _ rfl
      have d1 := HBa.out.cell 1 _ rfl
      have d2 := HBa.out.cell 2 _ rfl
      have d3 := HBa.out.cell 3 _ rfl
      obtain ⟨rb, hrb⟩ : ∃ rb, Hid (rb = rightM u) := ⟨_, rfl⟩
      have CR := rightP u wb
      rw [← hrb.out] at CR
      have HCR := Lib.hid CR
      have hs1 : k1 = true := g1
      have HST : Hid (rb = false ∨ befM la u = false → m = none) := fun h => by
        rw [HM.out]
        refine joinC_no ?_
        unfold stepC
        rw [← hu.out, ← hrb.out]
        rcases h with h | h <;> rw [h] <;> simp
      have HSY : Hid (rb = true → befM la u = true → m = joinO (T ++ [u]) (rdManyC (n - (j + 1)) (j + 1) t u)) := fun h1 h2 => by
        rw [HM.out, joinC_step (by unfold stepC; rw [← hk1.out, ← hu.out, ← hrb.out, h1, h2, hs1]; rfl), ← hu.out, ← ht.out]
      clear CR hs1 HM g1
      cases rb with
      | false =>
        have HBAD : Hid (m = none) := HST.out (.inl rfl)
        go_wp2_with fail
        refine HCR.out.mono ?_
        rintro e wc ⟨rfl, hkc⟩
        have HLc := Lib.hid (HLa.out.still hkc)
        clear hkc HLa HBa d0 d1 d2 d3
        go_wp2_with fail
        refine (check_no _).mono ?_
        rintro e wd ⟨rfl, hkd⟩
        have HK : Hid (Kept (fun k => k = p) w wd) := HLc.out.kept.trans hkd (fun _ f => f.elim)
        clear hkd
        go_wp2
        exact ⟨rfl, .inr ⟨HBAD.out, rfl, HK.out⟩⟩
      | true =>
        obtain ⟨bb, hbb⟩ : ∃ bb, Hid (bb = befM la u) := ⟨_, rfl⟩
        have HCB : Hid (∀ W, Calls Try.prog 34 #[.agg (entC la).toArray, .agg (entC u).toArray] W fun r w' => r = .returned (.bool bb) ∧ Kept (fun _ => False) W w') := fun W => by
          rw [hbb.out]; exact beforeM la u W
        rw [← hbb.out] at HST HSY
        go_wp2_with fail
        refine HCR.out.mono ?_
        rintro e wc ⟨rfl, hkc⟩
        have HLc := Lib.hid (HLa.out.still hkc)
        have HBc := Lib.hid (HBa.out.of_block (hkc.block g HBa.out.lt (fun f => f)))
        clear hkc HLa HBa d0 d1 d2 d3
        have d0 := HBc.out.cell 0 _ rfl
        have d1 := HBc.out.cell 1 _ rfl
        have d2 := HBc.out.cell 2 _ rfl
        have d3 := HBc.out.cell 3 _ rfl
        have HE : Hid (Holds wc pz (entC la) 37) := by show Holds _ _ _ _; rw [HLA.out]; exact HLc.out.box
        have e0 := HE.out.cell 0 _ rfl
        have e1 := HE.out.cell 1 _ rfl
        have e2 := HE.out.cell 2 _ rfl
        have e3 := HE.out.cell 3 _ rfl
        go_wp2_with fail
        refine (HCB.out wc).mono ?_
        rintro e wd ⟨rfl, hkd⟩
        have HLd := Lib.hid (HLc.out.still hkd)
        have HBd := Lib.hid (HBc.out.of_block (hkd.block g HBc.out.lt (fun f => f)))
        clear hkd HLc HBc HE d0 d1 d2 d3 e0 e1 e2 e3 HCB HCR
        cases bb with
        | false =>
          have HBAD : Hid (m = none) := HST.out (.inr rfl)
          go_wp2_with fail
          refine (check_no _).mono ?_
          rintro e we ⟨rfl, hke⟩
          have HK : Hid (Kept (fun k => k = p) w we) := HLd.out.kept.trans hke (fun _ f => f.elim)
          clear hke
          go_wp2
          exact ⟨rfl, .inr ⟨HBAD.out, rfl, HK.out⟩⟩
        | true =>
          have HMN : Hid (m = joinO (T ++ [u]) (rdManyC (n - (j + 1)) (j + 1) t u)) := HSY.out (by simp) (by simp)
          go_wp2_with fail
          refine (check_yes _).mono ?_
          rintro e we ⟨rfl, hke⟩
          have HLe := Lib.hid (HLd.out.still hke)
          have HBe := Lib.hid (HBd.out.of_block (hke.block g HBd.out.lt (fun f => f)))
          clear hke HLd HBd HST HSY
          go_upto_region 10 with fail
          have HD : Hid (LsS w we.drew p gz pz n t T ∧ Holds we.drew g (entC u) 37) := ⟨HLe.out.still ((Kept.refl (fun _ => False) we).drewN 1), HBe.out⟩
          clear HLe HBe
          subst hTl
          have hS := HD.out.2.range 0 (entC u) (fun i v h => by rw [Nat.zero_add]; exact h)
          refine wp_region_until (fun W => W.rangeAt g 0 (entC u)) 6 (by kernel_rfl) ?_
          refine wpAnyU_take (i := 0) (v := (.slice (some ⟨gz, 0, none⟩) n n)) (some 33) rfl rfl (by kernel_rfl) (by kernel_rfl) (by kernel_rfl) (by kernel_rfl) (fun _ _ _ h => h) hS (yields_of (by kernel_rfl) (fun w hw => by go_simp)) ?_
          refine wpAnyU_take (i := 1) (v := (.int .i64 (T.length : Int))) (some 34) rfl rfl (by kernel_rfl) (by kernel_rfl) (by kernel_rfl) (by kernel_rfl) (fun _ _ _ h => h) hS (yields_of (by kernel_rfl) (fun w hw => by go_simp)) ?_
          refine wpAnyU_take (i := 2) (v := (.agg (entC u).toArray)) (some 35) rfl rfl (by kernel_rfl) (by kernel_rfl) (by kernel_rfl) (by kernel_rfl) (fun _ _ _ h => h) hS (yieldsIf_load_mid (by kernel_rfl) 37 (.tmp 7) rfl g 0 (by kernel_rfl) (entC u) _ (fun w hw => hw) Try.underlying37 rfl (by rw [ent_size]; rfl)) ?_
          refine wpAnyU_take (i := 3) (v := (.agg (entC u).toArray)) (some 36) rfl rfl (by kernel_rfl) (by kernel_rfl) (by kernel_rfl) (by kernel_rfl) (fun _ _ _ h => h) hS (yieldsIf_load_mid (by kernel_rfl) 37 (.tmp 7) rfl g 0 (by kernel_rfl) (entC u) _ (fun w hw => hw) Try.underlying37 rfl (by rw [ent_size]; rfl)) ?_
          refine wpAnyU_take (i := 4) (v := (.pointer (some ⟨gz, T.length * 4, none⟩))) (some 37) rfl rfl (by kernel_rfl) (by kernel_rfl) (by kernel_rfl) (by kernel_rfl) (fun _ _ _ h => h) hS (yields_of (by kernel_rfl) (fun w hw => by go_simp)) ?_
          have hS2 : Holds (we.drew.setCells gz (T.length * 4) (entC u)) g (entC u) 37 := HD.out.2.setOther (by omega)
          refine wpAnyU_skip (i := 5) (w' := we.drew.setCells gz (T.length * 4) (entC u)) none rfl rfl (by kernel_rfl) (by kernel_rfl) (exec_store_mid 37 (.tmp 37) (.tmp 35) rfl gz (T.length * 4) (entC u).toArray (by kernel_rfl) (by kernel_rfl) (HD.out.1.row.there (T.length * 4) 4 (by rw [cellsM_length, fill_length T n (by omega)]; omega)) (by rw [ent_size]; rfl) (all_oneCell_toArray (entC_one _))) (fun _ => hS2.range 0 (entC u) (fun i v h => by rw [Nat.zero_add]; exact h)) ?_
          have hB2 : Holds (we.drew.setCells gz (T.length * 4) (entC u)) pz (entC (lastM T)) 37 := HD.out.1.box.setOther (fun e => HD.out.1.ne e.symm)
          refine wpAnyU_skip (i := 6) (w' := (we.drew.setCells gz (T.length * 4) (entC u)).setCells pz 0 (entC u)) none rfl rfl (by kernel_rfl) (by kernel_rfl) (exec_store_mid 37 (.tmp 5) (.tmp 36) rfl pz 0 (entC u).toArray (by kernel_rfl) (by kernel_rfl) (hB2.there 0 4 (Nat.le_refl _)) (by rw [ent_size]; rfl) (all_oneCell_toArray (entC_one _))) (fun h => absurd h (by decide)) ?_
          refine wpAnyU_done (by kernel_rfl) ?_ _
          simp only [put_none, put_lit, List.set_cons_succ, List.set_cons_zero]
          have HN := Lib.hid (HD.out.1.put u hlt)
          have HX : Hid ((t.length : Int) ≤ 140737489000000 ∧ ∀ e ∈ T ++ [u], FitN e.2.1 ∧ e.1.length ≤ 80) := by
            have ur : rightM u = true := hrb.out.symm
            refine ⟨by have := rdOne_len rest la.1; rw [← ht.out] at this; have := HT.out.1; omega, fun e he => ?_⟩
            rcases List.mem_append.1 he with h | h
            · exact HT.out.2 e h
            · rw [List.mem_singleton] at h
              subst h
              obtain ⟨_, q1, _, q2, q3, _⟩ := right_of ur
              exact ⟨⟨by omega, by omega⟩, q1⟩
          clear hS hS2 hB2 HD HT hrb hbb HLA hu ht hk1
          go_wp2
          go_roundw
          case rel => exact ⟨T.length + 1, T ++ [u], t, ⟨by omega, by simp⟩, by first | rfl | go_num, HN.out, by rw [HMN.out, lastM_snoc], HX.out.1, HX.out.2⟩
          case measure => simp [intOf]; omega
    · obtain rfl : j = n := by omega
      have jn : ¬(j : Int) < (j : Int) := by omega
      have HV : Hid (m = some (T, rest)) := by
        have h1 := hI.out.2.1
        rw [Nat.sub_self] at h1
        show _ = _
        rw [h1]; unfold rdManyC joinO; simp
      have HL := Lib.hid (And.intro hI.out.1 (fun e he => (hI.out.2.2.2 e he).1))
      clear hI
      subst hTl
      go_wp2
      go_ret
      refine .inl ⟨T, rest, some ⟨gz, 0, none⟩, HV.out, rfl, HL.out.1.rd, ?_, HL.out.2, HL.out.1.kept⟩
      have hrow := HL.out.1.row
      rw [show fillL T T.length = T from by unfold fillL; rw [Nat.sub_self]; simp] at hrow
      exact holds_owns hrow rfl HL.out.1.leg (by omega)

end Go.Proofs.Ytbiifeahdinjjaa
