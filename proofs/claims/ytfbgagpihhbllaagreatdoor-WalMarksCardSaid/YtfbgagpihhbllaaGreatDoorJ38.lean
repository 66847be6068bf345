/- VolU, Made8. -/
import Derived.Test.YtfbgagpihhbllaaGreatDoorJ30
import Derived.Test.YtfbgagpihhbllaaGreatDoorJ37
import Derived.Test.YtfbgagpihhbllaaGreatDoorJ29
import Derived.Test.YtfbgagpihhbllaaGreatDoorJ33

/- Package volume: used, Make. -/
namespace Go.Proofs.YtfbgagpihhbllaaGreatDoor
open Go.RowKit Go.Proofs Go.Proofs.Pk
set_option maxRecDepth 10000
attribute [local simp] mk_get wrap64_u8 mk_extract ByteArray.mk_append_mk get_1k

set_option maxHeartbeats 1000000 in
/-- used: the first sectors and all files' runs. -/
theorem usedP (w : World) (B p pd : Nat) (V : Vol) (vF : Value) (X : Nat → Prop) (h : VlP w B p pd V vF X) :
    Calls Tryz.prog 47 #[.pointer (some ⟨p, 0, none⟩)] w fun e w' => Below w.heap.size w w' ∧ ∃ v, e = .returned v ∧ w'.ownsRow w.heap.size 132 2 v (V.R.2.2.2.length + 1) (((0, 18) :: usedF (V.R.2.2.2.map fileI)).flatMap runV) := by
  obtain ⟨iR, hiR, hzR, hsR, hbR⟩ := info_parts run_info
  obtain ⟨ad, cap, rfl, hFs⟩ := h.files
  have hn := h.few.1
  have c4 := h.obj.cell 4 _ rfl
  have hpl := h.obj.lt
  obtain ⟨D, ⟨s, n, c, fs⟩, gone⟩ := V
  simp only at hn hFs c4 ⊢
  clear h
  obtain ⟨l, hl⟩ : ∃ l, l = fs.map fileI := ⟨_, rfl⟩
  obtain ⟨len, hlen⟩ : ∃ len, len = fs.length := ⟨_, rfl⟩
  rw [← hlen] at c4 hn
  rw [← hl, ← hlen] at hFs
  rw [← hl, ← hlen]
  clear hl hlen
  have HR := Lib.hid hFs
  clear hFs
  have HB1 := Holds.new w (runV (0, 18)) 132
  have hb0 : Below w.heap.size w (w.alloc (.cells #[.int .i64 0, .int .i64 18] 132)) := (Below.refl _ _).alloc (Nat.le_refl _) _
  change Holds (w.alloc (.cells #[.int .i64 0, .int .i64 18] 132)) _ _ _ at HB1
  go_enter Tryz.func47, Tryz.ntmps47
  go_wp2
  have hown : (w.alloc (.cells #[.int .i64 0, .int .i64 18] 132)).ownsRow w.heap.size 132 2 (.slice (some ⟨w.heap.size, 0, none⟩) 1 1) 1 (((0, 18) :: usedF (l.take 0)).flatMap runV) :=
    ⟨by simp [usedF, runV], .inr ⟨w.heap.size, 1, _, rfl, Nat.le_refl _, HB1, Nat.le_refl _, by unfold maxLen; omega, rfl, rfl⟩⟩
  obtain ⟨q, hq⟩ : ∃ q, Hid (q = w.heap.size) := ⟨_, rfl⟩
  have HS : Hid (Below w.heap.size w (w.alloc (.cells #[.int .i64 0, .int .i64 18] 132))) := hb0
  have HO := Lib.hid hown
  clear HB1 hb0 hown c4
  generalize w.alloc (.cells #[.int .i64 0, .int .i64 18] 132) = wq at HS HO ⊢
  go_loopw [3, 14] (fun v i wr => ∃ (j : Nat), j ≤ len ∧ i = .int .i64 j ∧ Hid (wr.ownsRow w.heap.size 132 2 v (j + 1) (((0, 18) :: usedF (l.take j)).flatMap runV)) ∧ Hid (Below w.heap.size w wr)) (fun _ i _ => len - (intOf i).toNat)
  case atStart => exact ⟨0, Nat.zero_le _, rfl, HO, HS⟩
  case round =>
    obtain ⟨j, hj, rfl, ho, hb⟩ := hrel
    by_cases hlt : (j : Int) < len
    · have hjl : j < len := by omega
      have hjL : j < l.length := by have := HR.out.1; omega
      obtain ⟨b, off, rfl, hbl, hrow, hfit⟩ := files_at (HR.out.below hb.out) j hjl
      have htake : l.take (j + 1) = l.take j ++ [l[j]] := List.take_succ_eq_append_getElem hjL
      have hus : usedF (l.take (j + 1)) = usedF (l.take j) ++ [l[j].2] := by rw [htake, usedF_snoc]
      generalize l[j] = f at hrow hfit hus
      obtain ⟨f0, f1, f2⟩ := f
      simp only at hus
      have d0 : wr.cell? ⟨b, off + j * 3, none⟩ = some (.int .i64 f0) := hrow 0 _ rfl
      have d1 : wr.cell? ⟨b, off + j * 3 + 1, none⟩ = some (.int .i64 f1) := hrow 1 _ rfl
      have d2 : wr.cell? ⟨b, off + j * 3 + 2, none⟩ = some (.int .i64 f2) := hrow 2 _ rfl
      have hj0 : (0 : Int) ≤ (j : Int) := Int.natCast_nonneg _
      have hwj : IntKind.i64.wrap ((j : Int) + 1) = ((j + 1 : Nat) : Int) := by rw [IntWalk.i64_in _ (by omega)]; omega
      have HUS := Lib.hid hus
      clear hrow htake hus hfit
      obtain ⟨F, hF⟩ : ∃ F, Hid (F = (0, 18) :: usedF (l.take j)) := ⟨_, rfl⟩
      have ho' := ho.out
      rw [← hF.out] at ho'
      have hd := hb.out.alloc hb.out.size (.cells #[.int .i64 f0, .int .i64 f1, .int .i64 f2] 102)
      have hoD := ho'.alloc (.cells #[.int .i64 f0, .int .i64 f1, .int .i64 f2] 102)
      have HNF := Holds.new wr [.int .i64 f0, .int .i64 f1, .int .i64 f2] 102
      obtain ⟨gq, hgq⟩ : ∃ gq, Hid (gq = wr.heap.size) := ⟨_, rfl⟩
      clear ho ho'
      go_upto_region 5 with (fail)
      rw [← hgq.out] at HNF ⊢
      change Holds (wr.alloc (.cells #[.int .i64 f0, .int .i64 f1, .int .i64 f2] 102)) _ _ _ at HNF
      generalize wr.alloc (.cells #[.int .i64 f0, .int .i64 f1, .int .i64 f2] 102) = wf at hd hoD HNF ⊢
      have n1 := HNF.cell 1 _ rfl
      have n2 := HNF.cell 2 _ rfl
      refine wp_region_lit ?_
      iterate 6
        refine wpList_plain rfl fun K hK => ?_
        go_simp
        refine hK _ _ ?_
        clear hK K
      have HQ := Holds.new wf (runV (f1, f2)) 132
      have HBd := hd.alloc hd.size (.cells (runV (f1, f2)).toArray 132)
      have HOw := hoD.alloc (.cells (runV (f1, f2)).toArray 132)
      obtain ⟨q, hq⟩ : ∃ q, Hid (q = wf.heap.size) := ⟨_, rfl⟩
      refine wpList_buildSlice_row rfl 106 132 (.tmp 23) rfl iR _ (runV (f1, f2)) Tryz.underlying106 hiR hzR (by rw [hsR]; rfl) (by simp [runV]) (by simp [runV]) (by rfl) ?_
      rw [← hq.out] at HQ ⊢
      generalize wf.alloc (.cells (runV (f1, f2)).toArray 132) = wd at HQ HBd HOw ⊢
      refine wpList_append_at wd rfl (.tmp 18) (.tmp 24) 106 rfl w.heap.size 132 iR _ 2 16 Tryz.underlying106 hiR hzR hsR hbR (by rfl) (by omega) _ (j + 1) (F.flatMap runV) (by rfl) HOw
        ⟨q, 0, none⟩ 1 1 (runV (f1, f2)) (by rfl) (by simp [runV]) (fun j u hj => by rw [add0]; exact HQ.cell j u hj) (by simp [runV, Value.oneCell']) (by unfold maxLen; omega) (by omega) HBd.size (by omega) ?_
      intro v' we ho2 hgr _
      have HB2 : Hid (Below w.heap.size w we) := HBd.grown hgr HBd.size (own_low HOw)
      have HO2 : Hid (we.ownsRow w.heap.size 132 2 v' (j + 1 + 1) (((0, 18) :: usedF (l.take (j + 1))).flatMap runV)) := by
        show World.ownsRow _ _ _ _ _ _ _
        rw [HUS.out]
        refine owns_len ho2 rfl ?_
        rw [hF.out]; simp
      clear ho2 hgr HQ HBd HOw hd hoD n1 n2 HNF
      go_wp2
      go_roundw
      case rel => exact ⟨j + 1, by omega, by go_num, HO2, HB2⟩
      case measure => simp [intOf]; omega
    · have hjl : j = len := by omega
      subst hjl
      have hLL := HR.out.1
      have ho2 := ho.out
      rw [List.take_of_length_le (by omega)] at ho2
      have HO2 := Lib.hid ho2
      clear ho ho2
      go_wp2
      go_ret
      exact ⟨hb.out, _, rfl, HO2.out⟩

theorem fit_code (o : Option (List (Nat × Nat))) (m : Int) : 0 ≤ (fitO o m).2 ∧ (fitO o m).2 ≤ 100 := by
  unfold fitO
  cases o with
  | none => simp
  | some F =>
    simp only
    split
    · simp
    · induction F with
      | nil => simp [fitL]
      | cons r F ih => rw [fitL]; split
                       · simp
                       · exact ih

theorem fit_nonneg (o : Option (List (Nat × Nat))) (m a : Int) (h : fitO o m = (a, 0)) : 0 ≤ a := by
  unfold fitO at h
  cases o with
  | none => simp at h
  | some F =>
    simp only at h
    split at h
    · simp at h
    · obtain ⟨r, _, rfl, _⟩ := fitL_mem _ _ _ h
      omega
theorem cellsF_snoc (fs : List FileN) (f : FileN) : cellsF (fs ++ [f]) = cellsF fs ++ fileV (fileI f) := by simp [cellsF]

set_option maxHeartbeats 2000000 in
/-- Make does what the chapter says. -/
theorem makeP (w : World) (B p pd : Nat) (V : Vol) (vF : Value) (X : Nat → Prop) (h : VlP w B p pd V vF X) (hg : ErrTy w) (hB : 0 < B) (hC : V.D.C.length ≤ 900000) (hN : V.D.n ≤ 900000) (hrt0 : V.gone = false → rightN V.D.L.length V.R = true) (many : Int) (hm : Fit many) :
    Calls Tryz.prog 27 #[.pointer (some ⟨p, 0, none⟩), .int .i64 many] w fun e w' => ∃ v, e = .returned (.tuple #[.int .i64 ((makeV V many).2.1 : Nat), v]) ∧ ErF w' v (makeV V many).2.2.1 (makeV V many).2.2.2 ∧ VlLeft w B p pd (makeV V many).1 vF X w' := by
  have c5 := h.obj.cell 5 _ rfl
  cases hgn : V.gone with
  | true =>
    rw [hgn] at c5
    have hp : Hid (makeV V many = (V, 0, 6, false)) := by show _ = _; unfold makeV; rw [if_pos hgn]
    have HF := Lib.hid (faultP 6 (by decide) w)
    have H := Lib.hid h
    rw [hp.out]
    clear h hg hgn
    go_enter Tryz.func27, Tryz.ntmps27
    go_wp2_with fail
    refine HF.out.mono ?_
    clear HF
    rintro e w2 ⟨v, rfl, he, hk2⟩
    go_wp2
    go_ret2
    exact ⟨_, rfl, he, VlLeft.same H.out hk2⟩
  | false =>
    rw [hgn] at c5
    have H := Lib.hid h
    have HG := Lib.hid hg
    by_cases hm1 : many < 1
    · have hp : Hid (makeV V many = (V, 0, 1, false)) := by show _ = _; unfold makeV; rw [if_neg (by rw [hgn]; simp), if_pos hm1]
      have HF := Lib.hid (faultP 1 (by decide) w)
      rw [hp.out]
      clear h hg hgn
      go_enter Tryz.func27, Tryz.ntmps27
      go_wp2_with fail
      refine HF.out.mono ?_
      clear HF
      rintro e w2 ⟨v, rfl, he, hk2⟩
      go_wp2
      go_ret2
      exact ⟨_, rfl, he, VlLeft.same H.out hk2⟩
    have hm1' : decide (many < 1) = false := by rw [decide_eq_false_iff_not]; exact hm1
    have hfw := h.few
    have hrt := hrt0 hgn
    clear hrt0
    have hok := h.ok
    have hroom := h.room
    have hlt := h.lt
    obtain ⟨ad, cap, rfl, _⟩ := h.files
    obtain ⟨Xd, hA, hX⟩ := h
    have c0 := hA.obj.cell 0 _ rfl
    have HSZ := Lib.hid (pSize w B pd V.D Xd hA.dsk)
    clear hA hX hg
    go_enter Tryz.func27, Tryz.ntmps27
    go_wp2_with fail
    refine HSZ.out.mono ?_
    clear HSZ
    rintro e w1 ⟨rfl, m0, rfl⟩
    have hk1 : Kept (fun _ => False) w (w.drewN m0) := (Kept.refl _ _).drewN m0
    have HU := Lib.hid (usedP (w.drewN m0) B p pd V _ X (H.out.still hk1))
    go_wp2_with fail
    refine HU.out.mono ?_
    clear HU
    rintro e w2 ⟨hb2, vU, rfl, hoU⟩
    have hfit : ∀ r ∈ (0, 18) :: usedF (V.R.2.2.2.map fileI), Fit r.1 ∧ Fit r.2 := by
      intro r hr
      rcases List.mem_cons.1 hr with rfl | hr
      · unfold Fit; simp only; omega
      · unfold usedF at hr
        obtain ⟨f, hf, rfl⟩ := List.mem_map.1 hr
        obtain ⟨g, hg, rfl⟩ := List.mem_map.1 hf
        exact (hfw.2.2.2.2 g hg).1.2
    obtain ⟨hlU, adU, capU, rfl, hflU, _, hRu⟩ := own_runs hoU hfit
    have hT : Fit (V.D.L.length : Int) := by have := hok.few; unfold Fit; omega
    have hfP := fitP (V.D.L.length : Int) adU (V.R.2.2.2.length + 1) capU _ many w2 hT hRu hflU
    have hfv : fitO ((takenO (V.D.L.length : Int) ((0, 18) :: usedF (V.R.2.2.2.map fileI))).map freeL) many = fitV V many := rfl
    rw [hfv] at hfP
    have HT := Lib.hid hfP
    have hcode : 0 ≤ (fitV V many).2 ∧ (fitV V many).2 ≤ 100 := by rw [← hfv]; exact fit_code _ _
    have hk2 : Kept (fun _ => False) w w2 := hk1.trans (Kept.of_below (fun _ => False) hb2) (fun _ hf => hf.elim)
    have HK2 := Lib.hid hk2
    clear hb2 hoU hlU hflU hRu hfP hk1 hk2 hfit hT
    go_wp2_with fail
    refine HT.out.mono ?_
    clear HT
    rintro e w3 ⟨hb3, rfl⟩
    have hk3 : Kept (fun _ => False) w w3 := HK2.out.trans (Kept.of_below (fun _ => False) hb3) (fun _ hf => hf.elim)
    by_cases hfc : (fitV V many).2 ≠ 0
    · have hp : Hid (makeV V many = (V, 0, 7, false)) := by show _ = _; unfold makeV; rw [if_neg (by rw [hgn]; simp), if_neg (by omega), if_pos (.inr hfc)]
      have HF := Lib.hid (faultP 7 (by decide) w3)
      have HK3 := Lib.hid hk3
      rw [show errV 33 (fitV V many).2.toNat = .iface 33 (.int .i64 ((fitV V many).2.toNat : Int)) from by unfold errV; rw [if_neg (by omega)]]
      clear hfc hk3 hb3 hfv hcode hrt hfw hok
      go_wp2_with fail
      refine HF.out.mono ?_
      clear HF
      rintro e w4 ⟨v, rfl, he, hk4⟩
      go_wp2
      go_ret2
      rw [hp.out]
      exact ⟨_, rfl, he, VlLeft.same H.out (HK3.out.trans hk4 (fun _ hf => hf.elim))⟩
    have hfc : (fitV V many).2 = 0 := by omega
    rw [show errV 33 (fitV V many).2.toNat = .nilIface from by rw [hfc]; rfl]
    have ho3 := H.out.obj.of_block (hk3.block p H.out.obj.lt (fun hf => hf))
    have c4 := ho3.cell 4 _ rfl
    by_cases h24 : 24 ≤ V.R.2.2.2.length
    · have hp : Hid (makeV V many = (V, 0, 7, false)) := by show _ = _; unfold makeV; rw [if_neg (by rw [hgn]; simp), if_neg (by omega), if_pos (.inl h24)]
      have HF := Lib.hid (faultP 7 (by decide) w3)
      have HK3 := Lib.hid hk3
      have h24' : (24 : Int) ≤ (V.R.2.2.2.length : Int) := by omega
      clear hfc hk3 hb3 hfv hcode hrt hfw hok ho3
      go_wp2_with fail
      refine HF.out.mono ?_
      clear HF
      rintro e w4 ⟨v, rfl, he, hk4⟩
      go_wp2
      go_ret2
      rw [hp.out]
      exact ⟨_, rfl, he, VlLeft.same H.out (HK3.out.trans hk4 (fun _ hf => hf.elim))⟩
    have h24' : ¬(24 : Int) ≤ (V.R.2.2.2.length : Int) := by omega
    have HRo := Lib.hid (rootP w3 B p pd V _ X (H.out.still hk3))
    have HK3 := Lib.hid hk3
    clear ho3 hk3 hb3
    go_wp2_with fail
    clear c4
    refine HRo.out.mono ?_
    clear HRo
    rintro e w4 ⟨hk34, vR, rfl, ho⟩
    have hk4 := HK3.out.trans hk34 (fun _ hf => hf.elim)
    have hk34s := hk34.size
    have hBw : B ≤ w.heap.size := by have := (hlt p (.inl H.out.mine)); omega
    obtain ⟨D, ⟨s, n, c, fs⟩, gone⟩ := V
    simp only at hgn hfw hrt ho h24 h24' hroom hok ⊢
    subst hgn
    obtain ⟨ad4, cap4, rfl, _⟩ := own_files ho rfl (fun f hf => (hfw.2.2.2.2 f hf).1)
    obtain ⟨nf, hnf⟩ : ∃ nf, Hid (nf = fs.length) := ⟨_, rfl⟩
    rw [← hnf.out] at ho ⊢
    by_cases hnM : n = MaxN
    · have hp : Hid (makeV ⟨D, (s, n, c, fs), false⟩ many = (⟨D, (s, n, c, fs), false⟩, 0, 5, false)) := by
        show _ = _
        unfold makeV
        rw [if_neg (by simp), if_neg (by omega), if_neg (by rintro (h | h); exact h24 h; exact h hfc), if_pos (.inr hnM)]
      have hk5 : Kept (fun _ => False) w (w4.alloc (.cells #[.int .i64 (s : Int), .int .i64 (n : Int), .int .i64 (c : Int), .slice ad4 nf cap4] 78)) := hk4.alloc _
      have HF := Lib.hid (faultP 5 (by decide) (w4.alloc (.cells #[.int .i64 (s : Int), .int .i64 (n : Int), .int .i64 (c : Int), .slice ad4 nf cap4] 78)))
      have HK5 := Lib.hid hk5
      have hge : (9007199254740991 : Int) ≤ (n : Int) := by unfold MaxN at hnM; omega
      clear hfc hfv hcode hrt hfw hok ho hk5 hnM hk4 hk34
      go_wp2_with fail
      refine HF.out.mono ?_
      clear HF
      rintro e w5 ⟨v, rfl, he, hk6⟩
      go_wp2
      go_ret2
      rw [hp.out]
      exact ⟨_, rfl, he, VlLeft.same H.out (HK5.out.trans hk6 (fun _ hf => hf.elim))⟩
    have hnlt : n < MaxN := by have : n ≤ MaxN := hfw.2.2.1; omega
    obtain ⟨fa, hfa⟩ : ∃ fa, Hid (fa = (fitV ⟨D, (s, n, c, fs), false⟩ many).1) := ⟨_, rfl⟩
    obtain ⟨R', hR'⟩ : ∃ R' : RootN, Hid (R' = (s, n + 1, c, fs ++ [(n, fa.toNat, many.toNat)])) := ⟨_, rfl⟩
    have hmk : Hid (makeV ⟨D, (s, n, c, fs), false⟩ many = if (chgV ⟨D, (s, n, c, fs), false⟩ R').2.1 ≠ 0 then ((chgV ⟨D, (s, n, c, fs), false⟩ R').1, 0, (chgV ⟨D, (s, n, c, fs), false⟩ R').2.1, (chgV ⟨D, (s, n, c, fs), false⟩ R').2.2) else ((chgV ⟨D, (s, n, c, fs), false⟩ R').1, n, 0, false)) := by
      show _ = _
      rw [hR'.out]
      unfold makeV chgV
      rw [if_neg (by simp), if_neg (by omega), if_neg (by rintro (h | h); exact h24 h; exact h hfc)]
      by_cases hs : s = MaxN
      · rw [if_pos (.inl hs), if_pos hs]; rfl
      · rw [if_neg (by rintro (h | h); exact hs h; exact hnM h), if_neg hs, hfa.out]
        simp only [laidV]
        generalize layV _ _ = r
        by_cases hz : r.2 = 0 <;> simp [hz]
    have hfa0 : fitV ⟨D, (s, n, c, fs), false⟩ many = (fa, 0) := by rw [hfa.out, ← hfc]
    have hrp : R'.1 < MaxN → rightN D.L.length (R'.1 + 1, R'.2.1, R'.2.2.1, R'.2.2.2) = true := fun hs => by
      rw [hR'.out] at hs ⊢
      simp only at hs ⊢
      have hmk := right_make (right_p.1 hrt) (by unfold MaxN at hs; simp only; omega) (by unfold MaxN at hnlt; simp only; omega) (by rw [List.length_map]; simp only; omega) hroom (show fitV ⟨D, (s, n, c, fs), false⟩ many = (fa, 0) from hfa0)
      simp only at hmk
      have ha : (18 : Int) ≤ fa := (hmk.each ((n : Int), fa, many) (by simp)).2.2
      rw [right_p]
      have e1 : ((fa.toNat : Nat) : Int) = fa := by omega
      have e2 : ((many.toNat : Nat) : Int) = many := by omega
      simp only [List.map_append, List.map_cons, List.map_nil, fileI, e1, e2]
      have : ((s + 1 : Nat) : Int) = (s : Int) + 1 := by omega
      rw [this]
      have : ((n + 1 : Nat) : Int) = (n : Int) + 1 := by omega
      rw [this]
      exact hmk
    have hfn : 0 ≤ fa := fit_nonneg _ _ _ (show fitV ⟨D, (s, n, c, fs), false⟩ many = (fa, 0) from hfa0)
    obtain ⟨iF, hiF, hzF, hsF, hbF⟩ := info_parts file_info
    have hge : ¬(9007199254740991 : Int) ≤ (n : Int) := by unfold MaxN at hnlt; omega
    have hwn : IntKind.i64.wrap ((n : Int) + 1) = (n : Int) + 1 := IntWalk.i64_in _ (by unfold MaxN at hnlt; omega)
    have hN5 := Holds.new w4 [.int .i64 (s : Int), .int .i64 ((n : Int) + 1), .int .i64 (c : Int), .slice ad4 nf cap4] 78
    change Holds (w4.alloc (.cells #[.int .i64 (s : Int), .int .i64 ((n : Int) + 1), .int .i64 (c : Int), .slice ad4 nf cap4] 78)) _ _ _ at hN5
    have hk5 : Kept (fun _ => False) w (w4.alloc (.cells #[.int .i64 (s : Int), .int .i64 ((n : Int) + 1), .int .i64 (c : Int), .slice ad4 nf cap4] 78)) := hk4.alloc _
    have ho5 := ho.alloc (.cells #[.int .i64 (s : Int), .int .i64 ((n : Int) + 1), .int .i64 (c : Int), .slice ad4 nf cap4] 78)
    have hlt4 := ho.lt
    obtain ⟨q, hq⟩ : ∃ q, Hid (q = w4.heap.size) := ⟨_, rfl⟩
    have HFA := Lib.hid hfa.out
    rw [← hfa.out]
    have HFW := Lib.hid hfw
    have H3w : Hid (w.heap.size ≤ w3.heap.size) := HK3.out.size
    have HRP := Lib.hid hrp
    have h24n : nf ≤ 24 := by have := hnf.out; have : fs.length ≤ 24 := HFW.out.1; omega
    have HBW := Lib.hid hBw
    have hwq : w.heap.size ≤ q := by have := hq.out; have := H3w.out; omega
    clear hfa0 hrp hfc hfv hcode hrt hfw hok ho hk4 hk34 hnM hnlt hfa hroom h24 hBw hm hlt
    go_upto_region 13 with (fail)
    rw [← hq.out] at hN5 ⊢
    generalize w4.alloc (.cells #[.int .i64 (s : Int), .int .i64 ((n : Int) + 1), .int .i64 (c : Int), .slice ad4 nf cap4] 78) = w5 at hN5 hk5 ho5 ⊢
    have b3 := hN5.cell 3 _ rfl
    refine wp_region_lit ?_
    iterate 6
      refine wpList_plain rfl fun K hK => ?_
      go_simp
      refine hK _ _ ?_
      clear hK K
    have HQ := Holds.new w5 (fileV ((n : Int), fa, many)) 102
    have hk6 : Kept (fun _ => False) w (w5.alloc (.cells (fileV ((n : Int), fa, many)).toArray 102)) := hk5.alloc _
    have ho6 := ho5.alloc (.cells (fileV ((n : Int), fa, many)).toArray 102)
    have hN6 := hN5.alloc (.cells (fileV ((n : Int), fa, many)).toArray 102)
    obtain ⟨g6, hg6⟩ : ∃ g, Hid (g = w5.heap.size) := ⟨_, rfl⟩
    have h5s : w3.heap.size ≤ w5.heap.size ∧ q < w5.heap.size := ⟨by have := hN5.lt; have := hq.out; omega, hN5.lt⟩
    refine wpList_buildSlice_row rfl 76 102 (.tmp 60) rfl iF _ (fileV ((n : Int), fa, many)) Tryz.underlying76 hiF hzF (by rw [hsF]; rfl) (by simp [fileV]) (by simp [fileV]) (by rfl) ?_
    rw [← hg6.out] at HQ ⊢
    have h6s : w3.heap.size ≤ (w5.alloc (.cells (fileV ((n : Int), fa, many)).toArray 102)).heap.size ∧ q < (w5.alloc (.cells (fileV ((n : Int), fa, many)).toArray 102)).heap.size := by simp; omega
    generalize w5.alloc (.cells (fileV ((n : Int), fa, many)).toArray 102) = w6 at HQ hk6 ho6 hN6 h6s ⊢
    refine wpList_append_at w6 rfl (.tmp 56) (.tmp 61) 76 rfl w3.heap.size 102 iF _ 3 24 Tryz.underlying76 hiF hzF hsF hbF (by rfl) (by omega) _ nf (cellsF fs) (by rfl) ho6
      ⟨g6, 0, none⟩ 1 1 (fileV ((n : Int), fa, many)) (by rfl) (by simp [fileV]) (fun j u hj => by rw [add0]; exact HQ.cell j u hj) (by simp [fileV, Value.oneCell']) (by unfold maxLen; omega) (by omega) h6s.1 (by omega) ?_
    intro v' w7 ho7 hgr hpl
    have hkk : Kept (fun k => (Value.slice ad4 nf cap4).ownBlock = some k) w6 w7 := kept_grown (Kept.refl _ _) hgr (fun b hb => .inl hb)
    have hN7 := hN6.of_block (hkk.block q h6s.2 (fun hx => by have := (hlt4 q hx).2; have := hq.out; omega))
    have hk7 : Kept (fun _ => False) w w7 := hk6.trans hkk (fun k hx => .inr (by have := (hlt4 k hx).1; have := H3w.out; omega))
    have hnq : v'.ownBlock ≠ some q := fun hx => by
      rcases hpl with h | h
      · rw [h] at hx; have := (hlt4 q hx).2; have := hq.out; omega
      · rw [h] at hx; injection hx with hx; have := h6s.2; omega
    obtain ⟨ad7, cap7, rfl⟩ : ∃ ad7 cap7, v' = .slice ad7 (nf + 1) cap7 := by
      rcases ho7.2 with ⟨_, h0⟩ | ⟨g, c', cur, h1, _⟩
      · omega
      · exact ⟨_, c', h1⟩
    have hlow := own_low ho7
    have c0 := hN7.cell 0 _ rfl
    have c1 := hN7.cell 1 _ rfl
    have c2 := hN7.cell 2 _ rfl
    have c3 := hN7.cell 3 _ rfl
    have f3 := hN7.free 3
    have hk8 : Kept (fun _ => False) w (w7.setCell ⟨q, 3, none⟩ (.slice ad7 (nf + 1) cap7)) := hk7.setNew (p := ⟨q, 3, none⟩) hwq _
    have ho8 : (w7.setCell ⟨q, 3, none⟩ (.slice ad7 (nf + 1) cap7)).ownsRow B 102 3 (.slice ad7 (nf + 1) cap7) R'.2.2.2.length (cellsF R'.2.2.2) := by
      refine owns_setCell (owns_base (owns_len ho7 ?_ ?_) (by have := H3w.out; have := HBW.out; omega)) hnq
      · rw [hR'.out]; simp [hnf.out]
      · rw [hR'.out]
        simp only
        rw [cellsF_snoc]
        have e1 : ((fa.toNat : Nat) : Int) = fa := by omega
        have e2 : ((many.toNat : Nat) : Int) = many := by omega
        simp only [fileI, e1, e2]
    have hCh := changeP (w7.setCell ⟨q, 3, none⟩ (.slice ad7 (nf + 1) cap7)) B p pd ⟨D, (s, n, c, fs), false⟩ _ X (H.out.still hk8) (HG.out.kept hk8 (fun hf => hf)) hB rfl R' (.slice ad7 (nf + 1) cap7) ho8
      (fun b hb hx => by have := hlow b hb; have := (H.out.lt b (.inl hx)).2; have := H3w.out; omega) (by rw [hR'.out]; exact HFW.out.2.1) HRP.out hC hN
    have e0 : ((R'.1 : Nat) : Int) = (s : Int) := by rw [hR'.out]
    have e1 : ((R'.2.1 : Nat) : Int) = (n : Int) + 1 := by rw [hR'.out]; simp
    have e2 : ((R'.2.2.1 : Nat) : Int) = (c : Int) := by rw [hR'.out]
    rw [e0, e1, e2] at hCh
    have HCh := Lib.hid hCh
    have HK8 := Lib.hid (And.intro hk8 hlow)
    clear hCh hk8 ho8 hk7 hN7 hkk hgr ho7 hN6 ho6 hk6 HQ hN5 ho5 hk5 hpl hnq hlow e0 e1 e2 b3
    go_wp2_with fail
    clear c0 c1 c2 c3 f3
    refine HCh.out.mono ?_
    clear HCh
    rintro e w9 ⟨v, rfl, he, hv⟩
    have hleft := VlLeftR.behind HK8.out.1 (fun b hb => Nat.le_trans H3w.out (HK8.out.2 b hb)) hv
    rcases he with ⟨hz, rfl⟩ | ⟨hnz, bb, hbb, rfl, hff⟩
    · have hmk2 : Hid (makeV ⟨D, (s, n, c, fs), false⟩ many = ((chgV ⟨D, (s, n, c, fs), false⟩ R').1, n, 0, false)) := by show _ = _; rw [hmk.out, if_neg (by omega)]
      have HL := Lib.hid hleft
      clear hleft hv hz
      go_wp2
      go_ret2
      rw [hmk2.out]
      exact ⟨_, rfl, ErF.none _ _, HL.out⟩
    · have hmk2 : Hid (makeV ⟨D, (s, n, c, fs), false⟩ many = ((chgV ⟨D, (s, n, c, fs), false⟩ R').1, 0, (chgV ⟨D, (s, n, c, fs), false⟩ R').2.1, (chgV ⟨D, (s, n, c, fs), false⟩ R').2.2)) := by show _ = _; rw [hmk.out, if_pos hnz]
      have HL := Lib.hid (And.intro hleft (show ErF w9 _ _ _ from .inr ⟨hnz, bb, hbb, rfl, hff⟩))
      clear hleft hv hnz hbb hff
      go_wp2
      go_ret2
      rw [hmk2.out]
      exact ⟨_, rfl, HL.out.2, HL.out.1⟩

set_option maxHeartbeats 2000000 in
/-- Make where there is no room. -/
theorem makeFullP (w : World) (B p pd : Nat) (V : Vol) (vF : Value) (X : Nat → Prop) (h : VlP w B p pd V vF X) (hg : ErrTy w) (hgn : V.gone = false) (many : Int) (hm : Fit many) (hm1 : ¬many < 1) (hfc : (fitV V many).2 ≠ 0) :
    Calls Tryz.prog 27 #[.pointer (some ⟨p, 0, none⟩), .int .i64 many] w fun e w' => ∃ v, e = .returned (.tuple #[.int .i64 0, v]) ∧ ErF w' v 7 false ∧ FreshV w v ∧ Kept (fun _ => False) w w' := by
  have c5 := h.obj.cell 5 _ rfl
  rw [hgn] at c5
  have H := Lib.hid h
  have HG := Lib.hid hg
  have hm1' : decide (many < 1) = false := by rw [decide_eq_false_iff_not]; exact hm1
  have hfw := h.few
  have hok := h.ok
  have hroom := h.room
  have hlt := h.lt
  obtain ⟨ad, cap, rfl, _⟩ := h.files
  obtain ⟨Xd, hA, hX⟩ := h
  have c0 := hA.obj.cell 0 _ rfl
  have HSZ := Lib.hid (pSize w B pd V.D Xd hA.dsk)
  clear hA hX hg
  go_enter Tryz.func27, Tryz.ntmps27
  go_wp2_with fail
  refine HSZ.out.mono ?_
  clear HSZ
  rintro e w1 ⟨rfl, m0, rfl⟩
  have hk1 : Kept (fun _ => False) w (w.drewN m0) := (Kept.refl _ _).drewN m0
  have HU := Lib.hid (usedP (w.drewN m0) B p pd V _ X (H.out.still hk1))
  go_wp2_with fail
  refine HU.out.mono ?_
  clear HU
  rintro e w2 ⟨hb2, vU, rfl, hoU⟩
  have hfit : ∀ r ∈ (0, 18) :: usedF (V.R.2.2.2.map fileI), Fit r.1 ∧ Fit r.2 := by
    intro r hr
    rcases List.mem_cons.1 hr with rfl | hr
    · unfold Fit; simp only; omega
    · unfold usedF at hr
      obtain ⟨f, hf, rfl⟩ := List.mem_map.1 hr
      obtain ⟨g, hg, rfl⟩ := List.mem_map.1 hf
      exact (hfw.2.2.2.2 g hg).1.2
  obtain ⟨hlU, adU, capU, rfl, hflU, _, hRu⟩ := own_runs hoU hfit
  have hT : Fit (V.D.L.length : Int) := by have := hok.few; unfold Fit; omega
  have hfP := fitP (V.D.L.length : Int) adU (V.R.2.2.2.length + 1) capU _ many w2 hT hRu hflU
  have hfv : fitO ((takenO (V.D.L.length : Int) ((0, 18) :: usedF (V.R.2.2.2.map fileI))).map freeL) many = fitV V many := rfl
  rw [hfv] at hfP
  have HT := Lib.hid hfP
  have hcode : 0 ≤ (fitV V many).2 ∧ (fitV V many).2 ≤ 100 := by rw [← hfv]; exact fit_code _ _
  have hk2 : Kept (fun _ => False) w w2 := hk1.trans (Kept.of_below (fun _ => False) hb2) (fun _ hf => hf.elim)
  have HK2 := Lib.hid hk2
  clear hb2 hoU hlU hflU hRu hfP hk1 hk2 hfit hT
  go_wp2_with fail
  refine HT.out.mono ?_
  clear HT
  rintro e w3 ⟨hb3, rfl⟩
  have hk3 : Kept (fun _ => False) w w3 := HK2.out.trans (Kept.of_below (fun _ => False) hb3) (fun _ hf => hf.elim)
  have hp : Hid (makeV V many = (V, 0, 7, false)) := by show _ = _; unfold makeV; rw [if_neg (by rw [hgn]; simp), if_neg (by omega), if_pos (.inr hfc)]
  have HF := Lib.hid (faultPN 7 (by decide) w3)
  have HK3 := Lib.hid hk3
  rw [show errV 33 (fitV V many).2.toNat = .iface 33 (.int .i64 ((fitV V many).2.toNat : Int)) from by unfold errV; rw [if_neg (by omega)]]
  clear hfc hk3 hb3 hfv hcode hfw hok
  go_wp2_with fail
  refine HF.out.mono ?_
  clear HF
  rintro e w4 ⟨v, rfl, he, hfr, hk4⟩
  go_wp2
  go_ret2
  exact ⟨_, rfl, he, fun b hb => Nat.le_trans HK3.out.size (hfr b hb), HK3.out.trans hk4 (fun _ hf => hf.elim)⟩

end Go.Proofs.YtfbgagpihhbllaaGreatDoor

/- The volume that the laws of layer 8 stand on, made. -/
namespace Go.Proofs.YtfbgagpihhbllaaGreatDoor
open Go.RowKit Go.Proofs Go.Proofs.Pk
set_option maxRecDepth 10000
attribute [local simp] mk_get wrap64_u8 mk_extract ByteArray.mk_append_mk get_1k

/-- A new volume with one file of all sectors behind the first 18. -/
structure New8 (V : Vol) (m : Nat) : Prop where
  alive : Alive V
  root : V.R = oneR 2 1 m
  calm : V.D.C = []
  size : V.D.L.length = 18 + m
  fuse : V.D.fuse < 0
  n : V.D.n ≤ 60
set_option maxHeartbeats 1000000 in
theorem madeP (m : Nat) (hm : 1 ≤ m ∧ m ≤ 60) (w : World) (hg : ErrTy w) :
    Calls Tryz.prog 13 #[.int .i64 (m : Int)] w fun e w' => ∃ p pd V vF X, e = .returned (.tuple #[.pointer (some ⟨pd, 0, none⟩), .pointer (some ⟨p, 0, none⟩), .int .i64 1]) ∧ On w w' p pd V vF X ∧ New8 V m := by
  have hN := pNw_ok (18 + m) (by omega) (by omega) w
  have hw18 : IntKind.i64.wrap (18 + (m : Int)) = ((18 + m : Nat) : Int) := by rw [show (18 : Int) + (m : Int) = ((18 + m : Nat) : Int) from by omega]; exact IntWalk.i64_in _ (by omega)
  obtain ⟨V1, e1, a1, a2, a3, a4, a5⟩ := made_vol m hm
  obtain ⟨hn0, hc0⟩ := format_bound (N := 18 + m) (by omega)
  obtain ⟨b1, b2, _⟩ := make_bound (formatV (Dsk.new (18 + m))).1 (m : Int)
  rw [e1] at b1 b2
  simp only at b1 b2
  have HNew := Lib.hid (show New8 V1 m from ⟨a1, a2, a3, a4, a5, by omega⟩)
  have hsafe := (format_new (N := 18 + m) (by omega) (by omega)).2.2.1.safe.right
  have HSf := Lib.hid hsafe
  have HM := Lib.hid e1
  have HB := Lib.hid (And.intro hn0 hc0)
  have hm18 := hm.2
  have HN := Lib.hid hN
  have HG := Lib.hid hg
  obtain ⟨k, hk⟩ : ∃ k, Hid (k = 18 + m) := ⟨_, rfl⟩
  rw [← hk.out] at hw18 HN HSf HM HB
  have h18 : 18 ≤ k ∧ k ≤ 78 := by have := hk.out; omega
  clear a1 a2 a3 a4 a5 b1 b2 hn0 hc0 hN hg e1 hsafe
  go_enter Tryz.func13, Tryz.ntmps13
  go_wp2_with fail
  refine HN.out.mono ?_
  clear HN
  rintro e w1 ⟨pd, Xd, rfl, hd1, hb1⟩
  have HF := Lib.hid (format_on w w1 pd k Xd hd1 hb1 HG.out (by omega) (by omega))
  clear hd1 hb1
  go_wp2_with fail
  refine HF.out.mono ?_
  clear HF
  rintro e w2 ⟨p, vF2, X2, rfl, hOn2, -, -⟩
  have hMk := makeP w2 w.heap.size p pd _ vF2 X2 hOn2.vol hOn2.err hOn2.lt (by have := HB.out.2; omega) (by have := HB.out.1; omega) (fun _ => HSf.out) (m : Int) (by unfold Fit; omega)
  rw [HM.out] at hMk
  have HMk := Lib.hid hMk
  have HOn := Lib.hid hOn2
  clear hMk hOn2
  go_wp2_with fail
  refine HMk.out.mono ?_
  clear HMk
  rintro e w3 ⟨v, rfl, he, hl⟩
  rcases he with ⟨_, rfl⟩ | ⟨h0, _⟩
  rotate_left
  · exact absurd rfl h0
  obtain ⟨vF3, X3, hOn3, -, -, -⟩ := HOn.out.step hl
  clear hl HOn
  go_wp2
  go_ret3
  exact ⟨p, pd, V1, vF3, X3, rfl, hOn3, HNew.out⟩

end Go.Proofs.YtfbgagpihhbllaaGreatDoor
