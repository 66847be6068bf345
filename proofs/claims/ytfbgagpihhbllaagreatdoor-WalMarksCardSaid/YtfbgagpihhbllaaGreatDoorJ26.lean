/- RtC. -/
import Derived.Test.YtfbgagpihhbllaaGreatDoorJ21
import Derived.Test.YtfbgagpihhbllaaGreatDoorJ09
import Derived.Test.YtfbgagpihhbllaaGreatDoorJ23
import Derived.Test.YtfbgagpihhbllaaGreatDoorJ24

/- Package root: numbers and Encode. -/
namespace Go.Proofs.YtfbgagpihhbllaaGreatDoor
open Go.RowKit Go.Proofs Go.Proofs.Pk
set_option maxRecDepth 10000
attribute [local simp] mk_get wrap64_u8 mk_extract ByteArray.mk_append_mk get_1k

set_option maxHeartbeats 1000000 in
theorem pNumbers (s n c : Nat) (fs : List FileN) (ad : Option Addr) (len cap : Nat) (w : World) (h : Files w ad len (fs.map fileI)) (hfl : fs.length ≤ 24) :
    Calls Tryz.prog 86 #[.agg #[.int .i64 (s : Int), .int .i64 (n : Int), .int .i64 (c : Int), .slice ad len cap]] w fun e w' => ∃ v, e = .returned v ∧ w'.ownsRow w.heap.size 3 1 v (rootN s n c fs).length (intsN (rootN s n c fs)) ∧ Below w.heap.size w w' := by
  have HF := Lib.hid h
  have HL : Hid (len = fs.length) := by show _ = _; rw [← h.1, List.length_map]
  have hlen : (len : Int) ≤ 24 := by have := HL.out; omega
  have HLEN : Hid ((rootN s n c fs).length = 4 + len * 3) := by show _ = _; unfold rootN; rw [List.length_append, filesN_length, HL.out]; simp
  obtain ⟨iI, hiI, hzI, hsI, hbI⟩ := info_parts int_infoN
  have HBX := Holds.new w [.int .i64 (s : Int), .int .i64 (n : Int), .int .i64 (c : Int), .slice ad len cap] 78
  have hb0 := (Below.refl w.heap.size w).alloc (Nat.le_refl _) (.cells #[.int .i64 (s : Int), .int .i64 (n : Int), .int .i64 (c : Int), .slice ad len cap] 78)
  clear h hfl
  go_enter Tryz.func86, Tryz.ntmps86
  go_upto_region 1 with (fail)
  obtain ⟨p, hp⟩ : ∃ p, Hid (p = w.heap.size) := ⟨_, rfl⟩
  rw [← hp.out] at HBX ⊢
  change Holds (w.alloc (.cells #[.int .i64 (s : Int), .int .i64 (n : Int), .int .i64 (c : Int), .slice ad len cap] 78)) p _ _ at HBX
  generalize w.alloc (.cells #[.int .i64 (s : Int), .int .i64 (n : Int), .int .i64 (c : Int), .slice ad len cap] 78) = w2 at HBX hb0 ⊢
  have HX := HBX
  have x0 := HX.cell 0 _ rfl
  have x1 := HX.cell 1 _ rfl
  have x2 := HX.cell 2 _ rfl
  have x3 := HX.cell 3 _ rfl
  have y3 : ∀ o, (w2.alloc o).cell? ⟨p, 3, none⟩ = some (.slice ad len cap) := fun o => Lib.cell?_alloc_some o x3
  go_wp2
  have HPW : Hid (p < w2.heap.size) := HX.lt
  have HXX := Lib.hid HX
  have HB1 := Lib.hid hb0
  have HO0 := World.ownsRow_lit (e := 3) (base := w2.heap.size) (size := 1) w2 #[.int .i64 (s : Int), .int .i64 (n : Int), .int .i64 (c : Int), .int .i64 (len : Int)] 4 (Nat.le_refl _) (by unfold maxLen; omega) rfl
  have hb3 := (Below.refl w2.heap.size w2).alloc (Nat.le_refl _) (.cells #[.int .i64 (s : Int), .int .i64 (n : Int), .int .i64 (c : Int), .int .i64 (len : Int)] 3)
  obtain ⟨g, hg⟩ : ∃ g, Hid (g = w2.heap.size) := ⟨_, rfl⟩
  obtain ⟨B, hB⟩ : ∃ B, Hid (B = w2.heap.size) := ⟨_, rfl⟩
  generalize w2.alloc (.cells #[.int .i64 (s : Int), .int .i64 (n : Int), .int .i64 (c : Int), .int .i64 (len : Int)] 3) = w3 at HO0 hb3 ⊢
  have HO1 : Hid (w3.ownsRow B 3 1 (.slice (some ⟨g, 0, none⟩) 4 4) (4 + 0 * 3) (intsN ([s, n, c, fs.length] ++ filesN (fs.take 0)))) := by
    show World.ownsRow _ _ _ _ _ _ _
    rw [hB.out, hg.out]
    refine owns_len HO0 rfl ?_
    rw [← HL.out]; rfl
  have HB3 : Hid (Below B w2 w3) := by show Below _ _ _; rw [hB.out]; exact hb3
  rw [← hg.out]
  clear HO0 hb3 x0 x1 x2 x3 y3 HX hb0 HBX
  clear hg
  obtain ⟨wq, hwq⟩ : ∃ wq, wq = w3 := ⟨_, rfl⟩
  rw [← hwq] at HO1 HB3 ⊢
  clear hwq
  go_loopw [3, 19] (fun v i wr => ∃ j : Nat, j ≤ len ∧ i = .int .i64 j ∧ Hid (wr.ownsRow B 3 1 v (4 + j * 3) (intsN ([s, n, c, fs.length] ++ filesN (fs.take j)))) ∧ Hid (Below B w2 wr)) (fun _ i _ => len - (intOf i).toNat)
  case atStart => exact ⟨0, Nat.zero_le _, rfl, HO1, HB3⟩
  case round =>
    obtain ⟨j, hj, rfl, ho, hb⟩ := hrel
    by_cases hlt : (j : Int) < len
    · have hjl : j < len := by omega
      have hBs : B ≤ wr.heap.size := by have := hb.out.size; rw [← hB.out] at this; exact this
      have hbw : Below w.heap.size w wr := by
        refine HB1.out.trans (hb.out.mono ?_)
        rw [hB.out]; exact HB1.out.size
      obtain ⟨b, off, rfl, hbl, hrow, hfx⟩ := files_at (HF.out.below hbw) j hjl
      clear hfx
      have hjf : j < fs.length := by have := HL.out; omega
      have hlj : (fs.map fileI)[j]'(by rw [List.length_map]; exact hjf) = fileI fs[j] := by simp only [List.getElem_map]
      rw [hlj] at hrow
      have htk : fs.take (j + 1) = fs.take j ++ [fs[j]] := List.take_succ_eq_append_getElem hjf
      have HTK : Hid (filesN (fs.take (j + 1)) = filesN (fs.take j) ++ [fs[j].1, fs[j].2.1, fs[j].2.2]) := by show _ = _; rw [htk, filesN_snoc]
      generalize fs[j] = f at hrow HTK
      obtain ⟨f0, f1, f2⟩ := f
      simp only at HTK
      have d0 : wr.cell? ⟨b, off + j * 3, none⟩ = some (.int .i64 (f0 : Int)) := hrow 0 _ rfl
      have d1 : wr.cell? ⟨b, off + j * 3 + 1, none⟩ = some (.int .i64 (f1 : Int)) := hrow 1 _ rfl
      have d2 : wr.cell? ⟨b, off + j * 3 + 2, none⟩ = some (.int .i64 (f2 : Int)) := hrow 2 _ rfl
      have hj0 : (0 : Int) ≤ (j : Int) := Int.natCast_nonneg _
      have hwj : IntKind.i64.wrap ((j : Int) + 1) = ((j + 1 : Nat) : Int) := by rw [IntWalk.i64_in _ (by omega)]; omega
      clear hbw hrow hlj htk hbl hjf
      obtain ⟨F, hF⟩ : ∃ F, Hid (F = intsN ([s, n, c, fs.length] ++ filesN (fs.take j))) := ⟨_, rfl⟩
      rw [← hF.out] at ho
      have hBd0 := hb.out.alloc hBs (.cells #[.int .i64 (f0 : Int), .int .i64 (f1 : Int), .int .i64 (f2 : Int)] 102)
      have hoD := ho.out.alloc (.cells #[.int .i64 (f0 : Int), .int .i64 (f1 : Int), .int .i64 (f2 : Int)] 102)
      have HNF := Holds.new wr [.int .i64 (f0 : Int), .int .i64 (f1 : Int), .int .i64 (f2 : Int)] 102
      obtain ⟨gq, hgq⟩ : ∃ gq, Hid (gq = wr.heap.size) := ⟨_, rfl⟩
      go_upto_region 5 with (fail)
      rw [← hgq.out] at HNF ⊢
      change Holds (wr.alloc (.cells #[.int .i64 (f0 : Int), .int .i64 (f1 : Int), .int .i64 (f2 : Int)] 102)) _ _ _ at HNF
      generalize wr.alloc (.cells #[.int .i64 (f0 : Int), .int .i64 (f1 : Int), .int .i64 (f2 : Int)] 102) = wf at hBd0 hoD HNF ⊢
      have n0 := HNF.cell 0 _ rfl
      have n1 := HNF.cell 1 _ rfl
      have n2 := HNF.cell 2 _ rfl
      have hBf : B ≤ wf.heap.size := by have := hBd0.size; rw [← hB.out] at this; exact this
      refine wp_region_lit ?_
      iterate 7
        refine wpList_plain rfl fun K hK => ?_
        go_simp
        refine hK _ _ ?_
        clear hK K
      have HQ := Holds.new wf [.int .i64 (f0 : Int), .int .i64 (f1 : Int), .int .i64 (f2 : Int)] 3
      have HBd := hBd0.alloc hBf (.cells #[.int .i64 (f0 : Int), .int .i64 (f1 : Int), .int .i64 (f2 : Int)] 3)
      have HOw := hoD.alloc (.cells #[.int .i64 (f0 : Int), .int .i64 (f1 : Int), .int .i64 (f2 : Int)] 3)
      obtain ⟨q, hq⟩ : ∃ q, Hid (q = wf.heap.size) := ⟨_, rfl⟩
      refine wpList_plain rfl fun K hK => ?_
      go_simp
      refine hK _ _ ?_
      clear hK K
      rw [← hq.out] at HQ ⊢
      change Holds (wf.alloc (.cells #[.int .i64 (f0 : Int), .int .i64 (f1 : Int), .int .i64 (f2 : Int)] 3)) _ _ _ at HQ
      generalize wf.alloc (.cells #[.int .i64 (f0 : Int), .int .i64 (f1 : Int), .int .i64 (f2 : Int)] 3) = wd at HQ HBd HOw ⊢
      have hBd : B ≤ wd.heap.size := by have := HBd.size; rw [← hB.out] at this; exact this
      refine wpList_append_at wd rfl (.tmp 23) (.tmp 30) 37 rfl B 3 iI _ 1 8 Tryz.underlying37 hiI hzI hsI hbI (by rfl) (by omega) _ (4 + j * 3) F (by rfl) HOw
        ⟨q, 0, none⟩ 3 3 [.int .i64 (f0 : Int), .int .i64 (f1 : Int), .int .i64 (f2 : Int)] (by rfl) (by simp) (fun j u hj => by rw [add0]; exact HQ.cell j u hj) (by simp [Value.oneCell']) (by unfold maxLen; omega) (by omega) hBd (by omega) ?_
      intro v' we ho3 hgr _
      have HB5 : Hid (Below B w2 we) := HBd.grown hgr hBd (own_low HOw)
      have HO5 : Hid (we.ownsRow B 3 1 v' (4 + (j + 1) * 3) (intsN ([s, n, c, fs.length] ++ filesN (fs.take (j + 1))))) := by
        show World.ownsRow _ _ _ _ _ _ _
        rw [HTK.out]
        refine owns_len ho3 (by omega) ?_
        rw [← List.append_assoc, intsN_append _ [f0, f1, f2], hF.out]; rfl
      clear ho3 hgr HQ HBd HOw hBd0 hoD HNF n0 n1 n2 hBd hBf hBs hb ho
      go_wp2
      go_roundw
      case rel => exact ⟨j + 1, by omega, by go_num, HO5, HB5⟩
      case measure => simp [intOf]; omega
    · have hjl : j = len := by omega
      subst hjl
      have hall : filesN (fs.take j) = filesN fs := by rw [List.take_of_length_le (by have := HL.out; omega)]
      have ho2 := ho.out
      rw [hall, ← HLEN.out] at ho2
      have HO2 : Hid (wr.ownsRow w.heap.size 3 1 u3 (rootN s n c fs).length (intsN (rootN s n c fs))) := owns_base ho2 (by rw [hB.out]; exact HB1.out.size)
      have HBW : Hid (Below w.heap.size w wr) := by
        refine HB1.out.trans (hb.out.mono ?_)
        rw [hB.out]; exact HB1.out.size
      clear hall ho2 ho hb
      go_wp2
      go_ret
      exact ⟨_, rfl, HO2.out, HBW.out⟩

theorem pEncode_no (T seq next cur : Int) (ad : Option Addr) (len cap : Nat) (l : List FileV) (w : World) (ht : Fit T) (h : Files w ad len l) (hr : rightV T seq next cur l = false) :
    Calls Tryz.prog 73 #[.int .i64 T, .agg #[.int .i64 seq, .int .i64 next, .int .i64 cur, .slice ad len cap]] w fun e w' => e = .returned (.tuple #[.string ⟨#[]⟩, errV 33 1]) ∧ Below w.heap.size w w' := by
  have HRI : Hid (∀ w1, Below w.heap.size w w1 → Calls Tryz.prog 79 #[.int .i64 T, .agg #[.int .i64 seq, .int .i64 next, .int .i64 cur, .slice ad len cap]] w1 fun e w' => e = .returned (.bool false) ∧ Below w1.heap.size w1 w') := fun w1 hb => by
    rw [← hr]; exact pRightR T seq next cur ad len cap l w1 ht (h.below hb)
  clear hr h ht
  go_enter Tryz.func73, Tryz.ntmps73
  go_wp2_with fail
  have hb0 := (Below.refl w.heap.size w).alloc (Nat.le_refl _) (.cells #[.int .i64 seq, .int .i64 next, .int .i64 cur, .slice ad len cap] 78)
  refine (HRI.out _ hb0).mono ?_
  rintro e w2 ⟨rfl, hb2⟩
  go_wp2
  go_ret2
  exact ⟨rfl, hb0.trans (hb2.mono hb0.size)⟩

theorem root_small {T : Int} {s n c : Nat} {fs : List FileN} (hr : rightV T s n c (fs.map fileI) = true) : fs.length ≤ 24 ∧ ∀ m ∈ rootN s n c fs, m ≤ MaxN := by
  obtain ⟨h1, h2, h3, h4, h5⟩ := right_small hr
  refine ⟨h4, fun m hm => ?_⟩
  unfold rootN filesN at hm
  rcases List.mem_append.1 hm with hm | hm
  · have : fs.length ≤ MaxN := by unfold MaxN; omega
    simp only [List.mem_cons, List.not_mem_nil, or_false] at hm
    rcases hm with rfl | rfl | rfl | rfl <;> assumption
  · obtain ⟨f, hf, hm⟩ := List.mem_flatMap.1 hm
    have := h5 f hf
    simp only [List.mem_cons, List.not_mem_nil, or_false] at hm
    unfold MaxN at *
    rcases hm with rfl | rfl | rfl <;> omega
theorem take_mono (l : List Nat) (k : Nat) : ((l.take k).flatMap numL).length ≤ (l.flatMap numL).length := by
  conv => rhs; rw [← List.take_append_drop k l, List.flatMap_append, List.length_append]
  omega

theorem zeros_info : (Tryz.prog.info? 167).map (fun i => (i.zero, i.size)) = some (some (.agg (Lib.byteCells (List.replicate 512 0)).toArray), 512) := by kernel_rfl
theorem zeros_zero : ∃ i, Tryz.prog.info? 167 = some i ∧ i.zero = some (.agg (Lib.byteCells (List.replicate 512 0)).toArray) := by
  have h := zeros_info
  cases hi : Tryz.prog.info? 167 with
  | none => rw [hi] at h; simp at h
  | some i => rw [hi] at h; simp only [Option.map_some, Option.some.injEq, Prod.mk.injEq] at h; exact ⟨i, rfl, h.1⟩
theorem byte_size2 : (Tryz.prog.info? 5).map (·.size) = some 1 := by kernel_rfl
theorem layB_at (D A C : List UInt8) (h : A.length + C.length ≤ D.length) : layB (layB D 0 A) A.length C = layB D 0 (A ++ C) := by
  unfold layB
  simp only [List.take_zero, List.nil_append, Nat.zero_add, List.take_left, List.length_append, List.append_assoc]
  rw [List.drop_append, List.drop_eq_nil_of_le (by omega), List.nil_append, List.drop_drop, show A.length + (A.length + C.length - A.length) = A.length + C.length from by omega]
theorem layB_head (D A : List UInt8) : (layB D 0 A).take A.length = A := by unfold layB; simp

set_option maxHeartbeats 1000000 in
theorem pEncode_ok (T : Int) (s n c : Nat) (fs : List FileN) (ad : Option Addr) (len cap : Nat) (w : World) (ht : Fit T) (h : Files w ad len (fs.map fileI)) (hr : rightV T s n c (fs.map fileI) = true) :
    Calls Tryz.prog 73 #[.int .i64 T, .agg #[.int .i64 (s : Int), .int .i64 (n : Int), .int .i64 (c : Int), .slice ad len cap]] w fun e w' => e = .returned (.tuple #[.string ⟨(rootB s n c fs).toArray⟩, errV 33 0]) ∧ Below w.heap.size w w' := by
  obtain ⟨iz, hiz, hzz⟩ := zeros_zero
  have HRI : Hid (∀ w1, Below w.heap.size w w1 → Calls Tryz.prog 79 #[.int .i64 T, .agg #[.int .i64 (s : Int), .int .i64 (n : Int), .int .i64 (c : Int), .slice ad len cap]] w1 fun e w' => e = .returned (.bool true) ∧ Below w1.heap.size w1 w') := fun w1 hb => by
    rw [← hr]; exact pRightR T s n c ad len cap _ w1 ht (h.below hb)
  have hsm := root_small hr
  have hroot := root_len hr
  have HNI : Hid (∀ w1, Below w.heap.size w w1 → Calls Tryz.prog 86 #[.agg #[.int .i64 (s : Int), .int .i64 (n : Int), .int .i64 (c : Int), .slice ad len cap]] w1 fun e w' => ∃ v, e = .returned v ∧ w'.ownsRow w1.heap.size 3 1 v (rootN s n c fs).length (intsN (rootN s n c fs)) ∧ Below w1.heap.size w1 w') := fun w1 hb => pNumbers s n c fs ad len cap w1 (h.below hb) hsm.1
  obtain ⟨ns, hns⟩ : ∃ ns, Hid (ns = rootN s n c fs) := ⟨_, rfl⟩
  have HRB : Hid (rootB s n c fs = ns.flatMap numL) := by show _ = _; rw [hns.out]; rfl
  have hnl : 0 < ns.length := by rw [hns.out]; unfold rootN; simp
  have hnl2 : ns.length ≤ 76 := by rw [hns.out]; unfold rootN; rw [List.length_append, filesN_length]; have := hsm.1; simp; omega
  rw [HRB.out] at hroot
  rw [← hns.out] at HNI
  have HLE : Hid (∀ m ∈ ns, m ≤ MaxN) := by show ∀ _ _, _; rw [hns.out]; exact hsm.2
  have HSZ : Hid ((ns.flatMap numL).length ≤ 512) := hroot
  have HBX := Holds.new w [.int .i64 (s : Int), .int .i64 (n : Int), .int .i64 (c : Int), .slice ad len cap] 78
  have hb0 := (Below.refl w.heap.size w).alloc (Nat.le_refl _) (.cells #[.int .i64 (s : Int), .int .i64 (n : Int), .int .i64 (c : Int), .slice ad len cap] 78)
  clear hr h ht hsm hroot hns
  go_enter Tryz.func73, Tryz.ntmps73
  go_wp2_with fail
  obtain ⟨p, hp⟩ : ∃ p, Hid (p = w.heap.size) := ⟨_, rfl⟩
  rw [← hp.out] at HBX ⊢
  change Holds (w.alloc (.cells #[.int .i64 (s : Int), .int .i64 (n : Int), .int .i64 (c : Int), .slice ad len cap] 78)) p _ _ at HBX
  generalize w.alloc (.cells #[.int .i64 (s : Int), .int .i64 (n : Int), .int .i64 (c : Int), .slice ad len cap] 78) = w1 at HBX hb0 ⊢
  refine (HRI.out _ hb0).mono ?_
  rintro e w2 ⟨rfl, hb2⟩
  have HX : Holds w2 p _ _ := HBX.of_block (hb2.block p HBX.lt)
  have hb1 := hb0.trans (hb2.mono hb0.size)
  clear HBX hb0 hb2 HRI
  go_upto_region 3 with (fail)
  obtain ⟨g, hg⟩ : ∃ g, Hid (g = w2.heap.size) := ⟨_, rfl⟩
  have HA := Holds.new w2 (Lib.byteCells (List.replicate 512 0)) 167
  have HX2 := HX.alloc (.cells (Lib.byteCells (List.replicate 512 0)).toArray 167)
  have hbA := hb1.alloc hb1.size (.cells (Lib.byteCells (List.replicate 512 0)).toArray 167)
  have hgw : w.heap.size ≤ g := by rw [hg.out]; exact hb1.size
  refine wp_region_lit ?_
  refine wpList_alloc_row rfl 167 rfl iz _ hiz hzz ?_
  rw [← hg.out] at HA ⊢
  generalize w2.alloc (.cells (Lib.byteCells (List.replicate 512 0)).toArray 167) = w3 at HA HX2 hbA ⊢
  refine wpList_nil ?_
  change Exit.then _ _ _ _ w3
  have hlen0 : (List.replicate 512 (0 : UInt8)).length = 512 := by simp
  obtain ⟨D0, hD0⟩ : ∃ D, Hid (D = List.replicate 512 (0 : UInt8)) := ⟨_, rfl⟩
  rw [← hD0.out] at HA hlen0
  have x0 := HX2.cell 0 _ rfl
  have x1 := HX2.cell 1 _ rfl
  have x2 := HX2.cell 2 _ rfl
  have x3 := HX2.cell 3 _ rfl
  go_wp2_with fail
  refine (HNI.out _ hbA).mono ?_
  rintro e w4 ⟨v, rfl, ho, hb4⟩
  have HA4 : Holds w4 g _ _ := HA.of_block (hb4.block g HA.lt)
  have hgl := HA.lt
  have hB4 := hbA.trans (hb4.mono hbA.size)
  clear HA HX HX2 x0 x1 x2 x3 hbA hb1 HNI
  obtain ⟨K, hK⟩ : ∃ K, K = ns.length := ⟨_, rfl⟩
  rw [← hK] at ho hnl hnl2
  obtain ⟨g7, c7, rfl, hfa, hfb⟩ := ho.form hnl
  have hg7 : w3.heap.size ≤ g7 ∧ g7 < w4.heap.size := by
    rcases ho.2 with ⟨h1, _⟩ | ⟨g', c', cur, h1, h0, h2, _⟩
    · cases h1
    · cases h1; exact ⟨h0, (Array.getElem?_eq_some_iff.1 h2).1⟩
  have HCL : Hid (∀ k (hk : k < ns.length), w4.cell? ⟨g7, k, none⟩ = some (.int .i64 (ns[k] : Int))) := by
    intro k hk
    rw [ho.cellAt _ (by omega)]
    unfold intsN
    rw [List.getElem?_map, List.getElem?_eq_getElem hk]; rfl
  have HNE : Hid (¬ g7 = g ∧ g7 < w4.heap.size ∧ w.heap.size ≤ g ∧ w.heap.size ≤ w4.heap.size) := ⟨by omega, hg7.2, hgw, hB4.size⟩
  have HBW := Lib.hid hB4
  have H0 : Hid (Holds w4 g (Lib.byteCells (layB D0 0 ((ns.take 0).flatMap numL))) 167) := by show Holds _ _ _ _; rw [List.take_zero, List.flatMap_nil, layB_nil]; exact HA4
  have HKn := Lib.hid hK
  have HD := Lib.hid hlen0
  clear hg7 hgl hgw hB4 HA4 hb4 ho hfa hfb hK hlen0 hD0 hg hp
  go_wp2
  obtain ⟨wx, hwx⟩ : ∃ wx, wx = w4 := ⟨_, rfl⟩
  have HS : Hid (Kept (fun k => k = g) w4 wx) := by rw [hwx]; exact Kept.refl _ _
  rw [← hwx] at H0 ⊢
  clear hwx
  go_loopw [7, 20] (fun z i wr => ∃ k : Nat, k ≤ K ∧ i = .int .i64 k ∧ z = .int .i64 (((ns.take k).flatMap numL).length : Nat) ∧ Hid (Holds wr g (Lib.byteCells (layB D0 0 ((ns.take k).flatMap numL))) 167) ∧ Hid (Kept (fun k => k = g) w4 wr)) (fun _ i _ => K - (intOf i).toNat)
  case atStart => exact ⟨0, Nat.zero_le _, rfl, rfl, H0, HS⟩
  case round =>
    obtain ⟨k, hk, rfl, rfl, hh, hkp⟩ := hrel
    by_cases hkK : (k : Int) < K
    · have hkn : k < ns.length := by have := HKn.out; omega
      have d0 : wr.cell? ⟨g7, k, none⟩ = some (.int .i64 (ns[k] : Int)) := by rw [hkp.out.cell (p := ⟨g7, k, none⟩) HNE.out.2.1 HNE.out.1]; exact HCL.out k hkn
      have hm := HLE.out ns[k] (List.getElem_mem hkn)
      have hfl := take_mono ns (k + 1)
      have hHS := HSZ.out
      have HTK2 : Hid ((ns.take (k + 1)).flatMap numL = (ns.take k).flatMap numL ++ numL ns[k]) := by show _ = _; rw [List.take_succ_eq_append_getElem hkn]; simp only [List.flatMap_append, List.flatMap_cons, List.flatMap_nil, List.append_nil]
      have hk0 : (0 : Int) ≤ (k : Int) := Int.natCast_nonneg _
      have hwk : IntKind.i64.wrap ((k : Int) + 1) = ((k + 1 : Nat) : Int) := by rw [IntWalk.i64_in _ (by omega)]; omega
      rw [HTK2.out, List.length_append] at hfl
      have HN := Lib.hid (pNum_ok ns[k] wr hm)
      generalize ns[k] = m at *
      obtain ⟨A, hA⟩ : ∃ A, Hid (A = (ns.take k).flatMap numL) := ⟨_, rfl⟩
      rw [← hA.out] at HTK2 hh hfl ⊢
      obtain ⟨C, hC⟩ : ∃ C, C = numL m := ⟨_, rfl⟩
      rw [← hC] at HTK2 HN hfl
      obtain ⟨S, hS⟩ : ∃ S, Hid (S = A.length) := ⟨_, rfl⟩
      have hS512 : S + C.length ≤ 512 := by have := hS.out; omega
      have hC1 : 1 ≤ C.length := by rw [hC, numL_length]; omega
      have h512 : ¬512 = S := by omega
      rw [← hS.out]
      clear hm hfl hkn hC hA hHS
      go_wp2_with fail
      refine HN.out.mono ?_
      rintro e w9 ⟨rfl, hb9⟩
      have hh9 : Holds w9 g _ _ := hh.out.of_block (hb9.block g hh.out.lt)
      have hk9 : Kept (fun k => k = g) w4 w9 := hkp.out.trans (Kept.of_below (fun _ => False) hb9) (fun _ hf => hf.elim)
      simp only [errV, if_pos]
      have hS0 : (0 : Int) ≤ (S : Int) := Int.natCast_nonneg _
      have hS5 : (S : Int) ≤ 512 := by omega
      clear HN hb9 hh hkp d0
      go_upto_region 11 with (fail)
      refine wp_region_lit ?_
      iterate 4
        refine wpList_plain rfl fun K hK => ?_
        go_simp
        refine hK _ _ ?_
        clear hK K
      have hlD : (layB D0 0 A).length = 512 := by rw [layB_length _ _ _ (by have := HD.out; have := hS.out; omega), HD.out]
      have HB := Holds.setCells (Lib.byteCells C) S w9 _ hh9 (by rw [bc_length, bc_length]; omega)
      have KB := Kept.setCells (X := fun k => k = g) (g := g) rfl (Lib.byteCells C) S w9 hk9
      rw [lay_bytes] at HB
      rw [hS.out, layB_at D0 A C (by have := HD.out; have := hS.out; omega), ← HTK2.out, ← hS.out] at HB
      refine wpList_copy_text rfl (.tmp 34) (.tmp 35) _ _ rfl 5 Tryz.underlying60 byte_size2 g S (512 - S) (512 - S) C (by rfl) (by rfl) (by omega) (hh9.there _ _ (by rw [bc_length]; omega)) ?_
      have hSC : S + C.length = ((ns.take (k + 1)).flatMap numL).length := by rw [HTK2.out, List.length_append]; have := hS.out; omega
      have hwS : IntKind.i64.wrap ((S : Int) + (C.length : Int)) = ((((ns.take (k + 1)).flatMap numL).length : Nat) : Int) := by rw [IntWalk.i64_in _ (by omega), ← hSC]; omega
      generalize w9.setCells g S (Lib.byteCells C) = w10 at HB KB ⊢
      have HB2 := Lib.hid HB
      have KB2 := Lib.hid KB
      clear hh9 hk9 hlD HB KB hS5 hS0 hSC HTK2
      obtain ⟨Z, hZ⟩ : ∃ Z, Hid (Z = ((ns.take (k + 1)).flatMap numL).length) := ⟨_, rfl⟩
      rw [← hZ.out] at hwS
      iterate 2
        refine wpList_plain rfl fun K hK => ?_
        go_simp
        refine hK _ _ ?_
        clear hK K
      refine wpList_nil ?_
      change Exit.inBlock _ _ _ _ w10
      go_wp2
      go_roundw
      case rel => exact ⟨k + 1, by omega, by go_num, by rw [hZ.out], HB2, KB2⟩
      case measure => simp [intOf]; omega
    · have hkK2 : k = K := by omega
      have HE2 : Hid ((ns.take k).flatMap numL = rootB s n c fs) := by
        show _ = _
        rw [List.take_of_length_le (by have := HKn.out; omega), HRB.out]
      have hh2 := hh.out
      rw [HE2.out] at hh2 ⊢
      obtain ⟨A, hA⟩ : ∃ A, Hid (A = rootB s n c fs) := ⟨_, rfl⟩
      have hA512 : A.length ≤ 512 := by rw [hA.out, HRB.out]; exact HSZ.out
      rw [← hA.out] at hh2 ⊢
      have hcv := conv_held wr g 512 A.length _ _ hh2 (by rw [layB_length _ _ _ (by rw [HD.out]; omega), HD.out]; exact hA512)
      rw [layB_head] at hcv
      have HF : Hid (Below w.heap.size w wr) := HBW.out.trans (hkp.out.below HNE.out.2.2.2 (fun n h => by rw [h]; exact HNE.out.2.2.1))
      obtain ⟨S, hS⟩ : ∃ S, Hid (S = A.length) := ⟨_, rfl⟩
      rw [← hS.out] at hcv hA512 ⊢
      have hS0 : (0 : Int) ≤ (S : Int) := Int.natCast_nonneg _
      have hS5 : (S : Int) ≤ 512 := by omega
      clear hh hh2 hkp HE2 hA512
      go_wp2
      go_ret2
      rw [← hA.out]
      exact ⟨rfl, HF.out⟩

end Go.Proofs.YtfbgagpihhbllaaGreatDoor
