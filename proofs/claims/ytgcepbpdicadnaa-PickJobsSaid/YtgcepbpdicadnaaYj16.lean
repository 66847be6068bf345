/- The program of layer 16: slices.Clone of entries; Cut. -/
import Derived.Test.YtgcepbpdicadnaaJ25
import Derived.Test.YtgcepbpdicadnaaJ12
import Derived.Test.YtgcepbpdicadnaaShelfV
import Derived.Test.YtgcepbpdicadnaaJ16
import Derived.BigQuiet
import Derived.Deep.Cut
import Derived.Deep.CutRange
namespace Go.Proofs.Ytgcepbpdicadnaa
open Go.RowKit Go.Proofs Go.Proofs.Pk
set_option maxRecDepth 10000
attribute [local simp] mk_get wrap64_u8 mk_extract ByteArray.mk_append_mk get_1k

def lenS6 : Value → Nat
  | .slice _ n _ => n
  | _ => 0
theorem sliceE_3 (g o n c j : Nat) (hj : j ≤ n) (hc : n ≤ c) (w : World) : (Instr.slice 34 (.slice (some ⟨g, o, none⟩) n c) none (some (.int .i64 (j : Int))) (some (.int .i64 (j : Int)))).run Try.prog w = .ok (.slice (some ⟨g, o, none⟩) j j) w := by
  have hu : Try.prog.underlying 34 = some (.slice 45) := by kernel_rfl
  have hz : (Go.sizeOf 45).run Try.prog w = .ok 4 w := by kernel_rfl
  have h1 : j ≤ c := by omega
  simp only [Instr.slice, Instr.sliceBounds, Instr.sliceBound, asIntOf, run_underlying hu, go_sem]
  simp [hz, Result.andThen, h1, addM]
theorem sliceE_from (g o n c j : Nat) (hj : j ≤ n) (hc : n ≤ c) (w : World) : (Instr.slice 34 (.slice (some ⟨g, o, none⟩) n c) (some (.int .i64 (j : Int))) none none).run Try.prog w = .ok (.slice (if c = j then some ⟨g, o, none⟩ else some ⟨g, o + j * 4, none⟩) (n - j) (c - j)) w := by
  have hu : Try.prog.underlying 34 = some (.slice 45) := by kernel_rfl
  have hz : (Go.sizeOf 45).run Try.prog w = .ok 4 w := by kernel_rfl
  simp only [Instr.slice, Instr.sliceBounds, Instr.sliceBound, asIntOf, run_underlying hu, go_sem]
  simp [hz, Result.andThen, hj, addM]

set_option maxHeartbeats 2000000 in
theorem cloneZero (ad : Option Addr) (cap : Nat) (w : World) : Calls Try.prog 31 #[.slice ad 0 cap] w fun e w' => ∃ a c, e = .returned (.slice a 0 c) ∧ Kept (fun _ => False) w w' := by
  cases ad with
  | none =>
    refine Calls.mono (AnyE.slices_Clone_nil Try.cloneEnt 0 cap w) ?_
    rintro e w' ⟨rfl, rfl⟩
    exact ⟨none, 0, rfl, Kept.refl _ _⟩
  | some a =>
    have hrun : ∀ W b, (Builtin.append_ #[34, 34] 34 #[.slice (some b) 0 0, .slice (some a) 0 cap]).run Try.prog W = .ok (.slice (some b) 0 0) W := fun W b => by
      have hs : (Go.sizeOf 45).run Try.prog W = .ok 4 W := by kernel_rfl
      have hu : Try.prog.underlying 34 = some (.slice 45) := by kernel_rfl
      simp [Builtin.append_, run_underlying hu, hs, Builtin.lenOf, Builtin.firstCells, loadCells, storeCells, Result.andThen, go_sem]
    have hq : ∀ (w : World) (a : Option Addr) (n c n' c' : Nat), (binOp .eql 34 (.slice a n c) (.slice none n' c')).run Try.prog w = .ok (.bool a.isNone) w := fun w a n c n' c' => Lib.run_eql_slice_nil w _ _ a n c n' c' Try.underlying34
    go_enter Try.func31, Try.ntmps31
    go_wp2_with (at_builtin; refine wpList_run_appendM rfl (.tmp 5) (.tmp 6) 34 34 rfl rfl rfl rfl (hrun _ _) ?_)
    go_ret
    exact ⟨some ⟨w.heap.size, 0, none⟩, 0, rfl, (Kept.refl _ _).alloc _⟩

theorem cloneEnts (b off len cap : Nat) (l : List MEnt) (w : World) (h : EntsW w (some ⟨b, off, none⟩) len l) (hl : len ≤ 1000) :
    Calls Try.prog 31 #[.slice (some ⟨b, off, none⟩) len cap] w fun e w' => ∃ v, e = .returned v ∧ w'.ownsRow w.heap.size 45 4 v len (cellsM l) ∧ Below w.heap.size w w' := by
  obtain ⟨iM, hiM, hzM, hsM, hbM⟩ := info_parts ent_info
  refine Calls.mono (AnyE.slices_Clone Try.cloneEnt iM _ 4 48 hiM hzM hsM hbM rfl (by omega) Try.sizeOf45 b off len cap (cellsM l) w (by rw [cellsM_length, h.1]) (by unfold maxLen; omega) (by omega) (fun j u hu => ents_cells h j u hu) (cellsM_one _)) ?_
  rintro e w' ⟨v, rfl, ho, _, hb⟩
  exact ⟨v, rfl, ho, hb⟩

/-- What Cut has done when p entries stand in pieces. -/
structure CtI (w W : World) (gc : Nat) (l : List MEnt) (k : Nat) (R : List (List MEnt)) (ap : Option Addr) (cp : Nat) (P : List (List MEnt)) (p : Nat) : Prop where
  s : CtS w W gc l ap cp P
  flat : P.flatten = l.take p
  rest : P ++ cutS k (l.drop p) [] = R
  few : P.length ≤ p
theorem CtI.quiet {w W W' : World} {gc : Nat} {l : List MEnt} {k : Nat} {R : List (List MEnt)} {ap : Option Addr} {cp : Nat} {P : List (List MEnt)} {p : Nat} (h : CtI w W gc l k R ap cp P p) (hk : Kept (fun _ => False) W W') : CtI w W' gc l k R ap cp P p := ⟨h.s.quiet hk, h.flat, h.rest, h.few⟩
theorem minI (many : Int) (n : Nat) : many ≤ (n : Int) ∨ (n : Int) < many := by omega

set_option maxHeartbeats 16000000 in
theorem pCut (w : World) (ad : Option Addr) (len cap : Nat) (l : List MEnt) (many : Int) (h : EntsW w ad len l) (hl : len ≤ 1000) (hcl : len ≤ cap) (hm : FitN many) :
    Calls Try.prog 15 #[.slice ad len cap, .int .i64 many] w (CutE w (cutR l many)) := by
  by_cases h1 : 1 ≤ many
  case neg =>
    have h2 : many < 1 := by omega
    have hR : cutR l many = ([], false) := by unfold cutR; rw [if_neg h1]
    rw [hR]
    clear h1 hR
    go_enter Try.func15, Try.ntmps15
    go_wp2
    go_ret2
    exact ⟨none, 0, rfl, ⟨rfl, .inl rfl⟩, Kept.refl _ _⟩
  have h2 : ¬many < 1 := by omega
  have hR : cutR l many = (cutP many.toNat l, true) := by unfold cutR; rw [if_pos h1]
  rw [hR]
  clear hR
  have hlen := h.1
  by_cases h0 : len = 0
  · subst h0
    have hl0 : l = [] := List.length_eq_zero_iff.1 hlen
    subst hl0
    have HZ := Lib.hid (cloneZero ad cap w)
    have hP : cutP many.toNat [] = [] := rfl
    rw [hP]
    clear h hlen hP h1
    go_enter Try.func15, Try.ntmps15
    go_wp2_with fail
    refine HZ.out.mono ?_
    rintro e w1 ⟨a1, c1, rfl, hk⟩
    clear HZ
    go_wp2
    go_loopw [6, 7, 8] (fun s6 s7 _ wr => s6 = .slice none 0 0 ∧ s7 = .slice a1 0 c1 ∧ wr = w1) (fun _ _ _ _ => 0)
    case atStart => exact ⟨rfl, rfl, rfl⟩
    case round =>
      obtain ⟨rfl, rfl, rfl⟩ := hrel
      go_wp2
      go_ret2
      exact ⟨none, 0, rfl, ⟨rfl, .inl rfl⟩, hk⟩
  obtain ⟨b, off, rfl, hbl, -, hfit⟩ : ∃ b off, ad = some ⟨b, off, none⟩ ∧ b < w.heap.size ∧ True ∧ ∀ e ∈ l, FitN e.2.1 := by
    rcases h.2 with h3 | ⟨b, off, h3, h4, h5⟩
    · rw [h3] at hlen; simp at hlen; omega
    · refine ⟨b, off, h3, h4, trivial, fun e he => ?_⟩
      obtain ⟨i, hi, rfl⟩ := List.mem_iff_getElem.1 he
      exact (h5 i hi).fit
  have HCl := Lib.hid (cloneEnts b off len cap l w h hl)
  obtain ⟨R, hRd⟩ : ∃ R, Hid (R = cutP many.toNat l) := ⟨cutP many.toNat l, rfl⟩
  rw [← hRd.out]
  have HF := Lib.hid hfit
  have HM1 := Lib.hid h1
  clear h hfit h1
  go_enter Try.func15, Try.ntmps15
  go_wp2_with fail
  refine HCl.out.mono ?_
  rintro e w1 ⟨v, rfl, hown, hbe⟩
  clear HCl
  obtain ⟨gc, cc, rfl, hgc, hlc⟩ : ∃ gc cc, v = .slice (some ⟨gc, 0, none⟩) len cc ∧ w.heap.size ≤ gc ∧ len ≤ cc := by
    rcases hown.2 with ⟨_, h⟩ | ⟨g, c, cur, h, h3, _, h5, _⟩
    · omega
    · exact ⟨g, c, h, h3, h5⟩
  have HI : Hid (CtI w w1 gc l many.toNat R none 0 [] 0) := by
    refine ⟨⟨Kept.of_below _ hbe, hgc, (hown.lt gc rfl).2, fun j v hv => ?_, fun o => ?_, World.ownsRow_nil _ _ _ _, HF.out⟩, rfl, hRd.out.symm, Nat.le_refl _⟩
    · have h9 := World.ownsRow.cells hown (g := gc) rfl j v hv
      rwa [Addr.add_mid] at h9
    · have := hown.frozenAt o; simpa using this
  clear hown hbe
  go_wp2
  go_loopw [6, 7, 8] (fun s6 s7 _ wr => ∃ (p n c m : Nat) (ar ap : Option Addr) (cp : Nat) (P : List (List MEnt)), s6 = .slice ap m cp ∧ s7 = .slice ar n c ∧ p + n = len ∧ n ≤ c ∧ Hid (m = P.length) ∧ Hid (0 < n → ar = some ⟨gc, p * 4, none⟩) ∧ Hid (CtI w wr gc l many.toNat R ap cp P p)) (fun _ r _ _ => lenS6 r)
  case atStart => exact ⟨0, len, cc, 0, _, none, 0, [], rfl, rfl, by omega, hlc, rfl, fun _ => by rw [Nat.zero_mul], HI⟩
  case round =>
    clear HI hlc h0
    rename World => wo
    obtain ⟨p, n, c, m, ar, ap, cp, P, rfl, rfl, hpn, hnc, hmP, har, hI⟩ := hrel
    by_cases hn : n = 0
    case pos =>
      subst hn
      have HE : Hid (CutE w (R, true) (.returned (.tuple #[.slice ap m cp, .nilIface])) wo) := by
        have h5 := hI.out.rest
        rw [List.drop_eq_nil_of_le (by omega)] at h5
        have h6 := hI.out.flat
        rw [List.take_of_length_le (by omega)] at h6
        have h7 : P = R := by rw [← h5]; simp [cutS]
        refine ⟨ap, cp, ?_, ?_, hI.out.s.kept⟩
        · rw [hmP.out, h7]; rfl
        · rw [← h7]; exact hI.out.s.pcs h6
      clear hI hmP har
      go_wp2
      go_ret2
      exact HE.out
    obtain rfl := har.out (by omega)
    have hnp : (0 : Int) < (n : Int) := by omega
    have n0 : 0 < n := by omega
    clear har
    go_upto_region 6 with fail
    go_cut [8] from 17 to 20 (fun x8 wx => ∃ j : Nat, x8 = .int .i64 (j : Int) ∧ 1 ≤ j ∧ j ≤ n ∧ wx = wo ∧ Hid ((j : Int) ≤ many ∧ (j < n → many ≤ (j : Int))))
    case first =>
      have HM1b := HM1.out
      rcases minI many n with hmn | hmn
      · obtain ⟨q, rfl⟩ : ∃ q : Nat, many = (q : Int) := ⟨many.toNat, by omega⟩
        have hlt : ¬(n : Int) < (q : Int) := by omega
        go_wp2
        go_meet
        case rel => exact ⟨q, by first | rfl | (go_num; done) | (simp; omega), by omega, by omega, rfl, by show _ ∧ _; omega⟩
      · have hlt : ¬many < (n : Int) := by omega
        go_wp2
        go_meet
        case rel => exact ⟨n, by first | rfl | (go_num; done) | (simp; omega), by omega, by omega, rfl, by show _ ∧ _; omega⟩
    case rest =>
    obtain ⟨j0, rfl, hj1, hj2, hwx, HJ⟩ := hcut
    rw [hwx]
    clear hwx wc
    have HN0 : Hid (∀ i, i + 1 < j0 → ¬endAt many.toNat (l.drop p) i) := not_end_early (by have := HJ.out.1; omega) (by rw [List.length_drop]; omega)
    go_wp2
    go_loopw [8] (fun s8 wr => ∃ j : Nat, s8 = .int .i64 (j : Int) ∧ j0 ≤ j ∧ j ≤ n ∧ Hid (CtI w wr gc l many.toNat R ap cp P p) ∧ Hid (∀ i, i + 1 < j → ¬endAt many.toNat (l.drop p) i)) (fun s _ => n - (intOf s).toNat)
    case atStart => exact ⟨j0, rfl, Nat.le_refl _, hj2, hI, HN0⟩
    case round =>
      clear HN0 hI
      obtain ⟨j, rfl, hj0, hjn, hI, hN⟩ := hrel
      have j1 : 1 ≤ j := by omega
      have jp : (0 : Int) ≤ (j : Int) := by omega
      by_cases hlt : j < n
      case neg =>
        have jN : ¬(j : Int) < (n : Int) := by omega
        have HE : Hid (endAt many.toNat (l.drop p) (j - 1)) := by
          have h5 := end_all (k := many.toNat) (l := l.drop p) (by rw [List.length_drop]; omega)
          rw [List.length_drop] at h5
          rwa [show l.length - p - 1 = j - 1 from by omega] at h5
        go_upto_region 7 with fail
        go_quiet (fail)
        go_upto_region 9 with fail
        obtain ⟨w2, hw2⟩ : ∃ w2, w2 = wr.drewN nq := ⟨_, rfl⟩
        have hk2 : Kept (fun _ => False) wr w2 := by rw [hw2]; exact (Kept.refl _ _).drewN nq
        rw [← hw2]
        clear hw2
        obtain ⟨wd, hwd⟩ : ∃ wd, wd = w2.drew := ⟨_, rfl⟩
        have hkd : Kept (fun _ => False) wr wd := by rw [hwd]; exact hk2.drewN 1
        have hSd := Lib.hid (hI.out.s.quiet hkd)
        have HFl := Lib.hid (And.intro hI.out.flat (And.intro hI.out.rest hI.out.few))
        have HNE := Lib.hid (And.intro hN.out HE.out)
        have hs3 := fun W => sliceE_3 gc (p * 4) n c j hjn hnc W
        obtain ⟨ar2, har2⟩ : ∃ ar2 : Option Addr, Hid (ar2 = if c = j then some ⟨gc, p * 4, none⟩ else some ⟨gc, p * 4 + j * 4, none⟩) := ⟨_, Lib.hid rfl⟩
        have hsf := fun W => sliceE_from gc (p * 4) n c j hjn hnc W
        rw [← har2.out] at hsf
        obtain ⟨iL, hiL, hlz, hl1, hl2⟩ := info_parts lst_info
        clear hI hN HE hk2 hkd
        refine wp_region_until (fun _ : World => True) 11 (by kernel_rfl) ?_
        rw [← hwd]
        clear hwd
        refine wpAnyU_take (i := 0) (v := (.slice ap m cp)) (some 41) rfl rfl (by kernel_rfl) (by kernel_rfl) (by kernel_rfl) (by kernel_rfl) (fun _ _ _ h => h) trivial (yields_of (by kernel_rfl) (fun w _ => by go_simp)) ?_
        refine wpAnyU_take (i := 1) (v := (.slice (some ⟨gc, p * 4, none⟩) n c)) (some 42) rfl rfl (by kernel_rfl) (by kernel_rfl) (by kernel_rfl) (by kernel_rfl) (fun _ _ _ h => h) trivial (yields_of (by kernel_rfl) (fun w _ => by go_simp)) ?_
        refine wpAnyU_take (i := 2) (v := (.int .i64 (j : Int))) (some 43) rfl rfl (by kernel_rfl) (by kernel_rfl) (by kernel_rfl) (by kernel_rfl) (fun _ _ _ h => h) trivial (yields_of (by kernel_rfl) (fun w _ => by go_simp)) ?_
        refine wpAnyU_take (i := 3) (v := (.int .i64 (j : Int))) (some 44) rfl rfl (by kernel_rfl) (by kernel_rfl) (by kernel_rfl) (by kernel_rfl) (fun _ _ _ h => h) trivial (yields_of (by kernel_rfl) (fun w _ => by go_simp)) ?_
        refine wpAnyU_take (i := 4) (v := (.slice (some ⟨gc, p * 4, none⟩) j j)) (some 45) rfl rfl (by kernel_rfl) (by kernel_rfl) (by kernel_rfl) (by kernel_rfl) (fun _ _ _ h => h) trivial (yields_of (by kernel_rfl) (fun w _ => by go_simp)) ?_
        refine wpAnyU_take (i := 7) (v := (.slice (some ⟨gc, p * 4, none⟩) n c)) (some 48) rfl rfl (by kernel_rfl) (by kernel_rfl) (by kernel_rfl) (by kernel_rfl) (fun _ _ _ h => h) trivial (yields_of (by kernel_rfl) (fun w _ => by go_simp)) ?_
        refine wpAnyU_take (i := 8) (v := (.int .i64 (j : Int))) (some 49) rfl rfl (by kernel_rfl) (by kernel_rfl) (by kernel_rfl) (by kernel_rfl) (fun _ _ _ h => h) trivial (yields_of (by kernel_rfl) (fun w _ => by go_simp)) ?_
        refine wpAnyU_take (i := 9) (v := (.slice ar2 (n - j) (c - j))) (some 50) rfl rfl (by kernel_rfl) (by kernel_rfl) (by kernel_rfl) (by kernel_rfl) (fun _ _ _ h => h) trivial (yields_of (by kernel_rfl) (fun w _ => by go_simp)) ?_
        have hbs := run_bsL wd (some ⟨gc, p * 4, none⟩) j j
        have HQ := Holds.new wd [.slice (some ⟨gc, p * 4, none⟩) j j] 34
        have HKd : Kept (fun _ => False) wd (wd.alloc (.cells [Value.slice (some ⟨gc, p * 4, none⟩) j j].toArray 34)) := (Kept.refl _ _).alloc _
        obtain ⟨q, hq⟩ : ∃ q, Hid (q = wd.heap.size) := ⟨wd.heap.size, rfl⟩
        rw [← hq.out] at hbs HQ
        have hSe := Lib.hid (hSd.out.quiet HKd)
        change (Instr.buildSlice 35 1 #[(0, .slice (some ⟨gc, p * 4, none⟩) j j)]).run Try.prog wd = .ok (.slice (some ⟨q, 0, none⟩) 1 1) (wd.alloc (.cells [Value.slice (some ⟨gc, p * 4, none⟩) j j].toArray 34)) at hbs
        generalize wd.alloc (.cells [Value.slice (some ⟨gc, p * 4, none⟩) j j].toArray 34) = we at hbs HQ HKd hSe
        refine wpAnyU_run (i := 5) (v := .slice (some ⟨q, 0, none⟩) 1 1) (some 46) rfl rfl (by kernel_rfl) (by kernel_rfl) (exec_buildSlice (x := .tmp 45) hbs (by rfl) (by kernel_rfl)) (fun _ => trivial) ?_
        have hownm : we.ownsRow (gc + 1) 34 1 (.slice ap m cp) m (pcsC gc 0 P) := by rw [hmP.out]; exact hSe.out.own
        have hmb : m ≤ 1000 := by have := HFl.out.2.2; have := hmP.out; omega
        obtain ⟨v', wf, happ, ho, hgr, hpl⟩ := run_append_at (P := Try.prog) we (gc + 1) 35 35 34 iL _ 1 24 Try.underlying35 hiL hlz hl1 hl2 (by rfl) (by decide) _ _ (pcsC gc 0 P) hownm
          ⟨q, 0, none⟩ 1 1 [.slice (some ⟨gc, p * 4, none⟩) j j] (by rfl) (fun k u hu => by rw [add0]; exact HQ.cell k u hu) (by simp [Value.oneCell']) (by unfold maxLen; omega) (by omega) hSe.out.lt (by omega)
        have hxl : ((l.drop p).take j).length = j := by rw [List.length_take, List.length_drop]; omega
        have hfl : P.flatten.length = p := by rw [HFl.out.1, List.length_take]; omega
        have hgr2 : we.grownBy wf (Value.slice ap P.length cp).ownBlock := by rw [← hmP.out]; exact hgr
        have ho2 : wf.ownsRow (gc + 1) 34 1 v' (P.length + 1) (pcsC gc 0 P ++ [.slice (some ⟨gc, P.flatten.length * 4, none⟩) ((l.drop p).take j).length ((l.drop p).take j).length]) := by
          rw [hxl, hfl, ← hmP.out]; exact ho
        obtain ⟨ap2, cp2, rfl, hG⟩ := hSe.out.grown (Kept.refl _ we) hgr2 ho2
        rw [← hmP.out] at happ
        have HNX : Hid (CtI w wf gc l many.toNat R ap2 cp2 (P ++ [(l.drop p).take j]) (p + j)) := by
          refine ⟨hG, ?_, ?_, ?_⟩
          · rw [List.flatten_append, HFl.out.1, List.take_add]; simp
          · have h5 := HFl.out.2.1
            rw [cutS_first (fun i hi => HNE.out.1 i (by omega)) HNE.out.2, show j - 1 + 1 = j from by omega, List.drop_drop] at h5
            rw [← h5]
            simp
          · rw [List.length_append, List.length_singleton]; have := HFl.out.2.2; omega
        have HMX : Hid (m + 1 = (P ++ [(l.drop p).take j]).length) := by show _ = _; rw [List.length_append, List.length_singleton, ← hmP.out]
        have HAR : Hid (0 < n - j → ar2 = some ⟨gc, (p + j) * 4, none⟩) := fun h => by rw [har2.out, if_neg (by omega), show p * 4 + j * 4 = (p + j) * 4 from by omega]
        refine wpAnyU_run (i := 6) (v := .slice ap2 (m + 1) cp2) (w' := wf) (some 47) rfl rfl (by kernel_rfl) (by kernel_rfl) (exec_append (s := .tmp 41) (x := .tmp 46) happ (by rfl) (by rfl) (by kernel_rfl) (by kernel_rfl)) (fun _ => trivial) ?_
        refine wpAnyU_run (i := 10) (v := .slice ap2 (m + 1) cp2) (w' := wf) (some 6) rfl rfl (by kernel_rfl) (by kernel_rfl) (by go_simp) (fun _ => trivial) ?_
        refine wpAnyU_run (i := 11) (v := .slice ar2 (n - j) (c - j)) (w' := wf) (some 7) rfl rfl (by kernel_rfl) (by kernel_rfl) (by go_simp) (fun _ => trivial) ?_
        refine wpAnyU_done (by kernel_rfl) ?_ _
        simp only [put_lit, List.set_cons_succ, List.set_cons_zero]
        clear hG happ ho ho2 hgr hgr2 hpl hownm hmb hxl hfl hSe hSd HQ HKd hbs HFl HNE hs3 hsf har2 hq hiL hlz hl1 hl2 hmP
        go_wp2
        go_roundw
        case rel => exact ⟨p + j, n - j, c - j, m + 1, ar2, ap2, cp2, _, rfl, rfl, by omega, by omega, HMX, HAR, HNX⟩
        case measure => simp [lenS6]; omega
      have jN : (j : Int) < (n : Int) := by omega
      have hjl : j < (l.drop p).length := by rw [List.length_drop]; omega
      have hjl2 : j - 1 < (l.drop p).length := by omega
      obtain ⟨jm, hjm⟩ : ∃ jm, Hid (j = jm + 1) := ⟨j - 1, by show _ = _; omega⟩
      have hjm' := hjm.out
      have jm0 : (0 : Int) ≤ (jm : Int) := by omega
      have jmN : (jm : Int) < (n : Int) := by omega
      have hwm : IntKind.i64.wrap ((j : Int) - 1) = (jm : Int) := by rw [IntWalk.i64_in _ (by omega)]; omega
      have hi1 : p + j < l.length := by omega
      have hi2 : p + jm < l.length := by omega
      have d1 := hI.out.s.key (p + j) hi1
      have d2 := hI.out.s.key (p + jm) hi2
      rw [show (p + j) * 4 = p * 4 + j * 4 from by omega] at d1
      rw [show (p + jm) * 4 = p * 4 + jm * 4 from by omega] at d2
      have e1 : ((l.drop p)[j]'hjl).1 = l[p + j].1 := by rw [List.getElem_drop]
      have e2 : ((l.drop p)[j - 1]'hjl2).1 = l[p + jm].1 := by
        rw [List.getElem_drop]
        have : p + (j - 1) = p + jm := by omega
        simp only [this]
      clear hjm'
      by_cases he : l[p + j].1 = l[p + jm].1
      · have HX : Hid (∀ i, i + 1 < j + 1 → ¬endAt many.toNat (l.drop p) i) := fun i hi => by
          by_cases hij : i + 1 < j
          · exact hN.out i hij
          · obtain rfl : i = j - 1 := by omega
            exact not_end_same j1 hjl (e1.trans (he.trans e2.symm))
        rw [he] at d1
        generalize l[p + jm].1 = ky at d1 d2
        have hky : (ky == ky) = true := by simp
        have hwj : IntKind.i64.wrap ((j : Int) + 1) = (j : Int) + 1 := IntWalk.i64_in _ (by omega)
        clear hN he e1 e2 hjl hjl2 hi1 hi2 hjm
        go_upto_region 7 with fail
        go_quiet (fail)
        go_wp2
        have HIq : Hid (CtI w (wr.drewN nq) gc l many.toNat R ap cp P p) := hI.out.quiet ((Kept.refl _ _).drewN nq)
        exact ⟨⟨j + 1, by first | rfl | go_num, by omega, by omega, HIq, HX⟩, by simp [intOf]; omega⟩
      · have HE : Hid (endAt many.toNat (l.drop p) (j - 1)) := end_here j1 hjl (by have := HJ.out.2; omega) (fun h => he (e1.symm.trans (h.trans e2)))
        have hky : (l[p + j].1 == l[p + jm].1) = false := by simpa using he
        generalize l[p + j].1 = kx at d1 hky
        generalize l[p + jm].1 = ky at d2 hky
        clear he e1 e2 hjl hjl2 hi1 hi2 hjm
        go_upto_region 7 with fail
        go_quiet (fail)
        go_upto_region 9 with fail
        obtain ⟨w2, hw2⟩ : ∃ w2, w2 = wr.drewN nq := ⟨_, rfl⟩
        have hk2 : Kept (fun _ => False) wr w2 := by rw [hw2]; exact (Kept.refl _ _).drewN nq
        rw [← hw2]
        clear hw2
        obtain ⟨wd, hwd⟩ : ∃ wd, wd = w2.drew := ⟨_, rfl⟩
        have hkd : Kept (fun _ => False) wr wd := by rw [hwd]; exact hk2.drewN 1
        have hSd := Lib.hid (hI.out.s.quiet hkd)
        have HFl := Lib.hid (And.intro hI.out.flat (And.intro hI.out.rest hI.out.few))
        have HNE := Lib.hid (And.intro hN.out HE.out)
        have hs3 := fun W => sliceE_3 gc (p * 4) n c j hjn hnc W
        obtain ⟨ar2, har2⟩ : ∃ ar2 : Option Addr, Hid (ar2 = if c = j then some ⟨gc, p * 4, none⟩ else some ⟨gc, p * 4 + j * 4, none⟩) := ⟨_, Lib.hid rfl⟩
        have hsf := fun W => sliceE_from gc (p * 4) n c j hjn hnc W
        rw [← har2.out] at hsf
        obtain ⟨iL, hiL, hlz, hl1, hl2⟩ := info_parts lst_info
        clear hI hN HE hk2 hkd d1 d2 hky
        refine wp_region_until (fun _ : World => True) 11 (by kernel_rfl) ?_
        rw [← hwd]
        clear hwd
        refine wpAnyU_take (i := 0) (v := (.slice ap m cp)) (some 41) rfl rfl (by kernel_rfl) (by kernel_rfl) (by kernel_rfl) (by kernel_rfl) (fun _ _ _ h => h) trivial (yields_of (by kernel_rfl) (fun w _ => by go_simp)) ?_
        refine wpAnyU_take (i := 1) (v := (.slice (some ⟨gc, p * 4, none⟩) n c)) (some 42) rfl rfl (by kernel_rfl) (by kernel_rfl) (by kernel_rfl) (by kernel_rfl) (fun _ _ _ h => h) trivial (yields_of (by kernel_rfl) (fun w _ => by go_simp)) ?_
        refine wpAnyU_take (i := 2) (v := (.int .i64 (j : Int))) (some 43) rfl rfl (by kernel_rfl) (by kernel_rfl) (by kernel_rfl) (by kernel_rfl) (fun _ _ _ h => h) trivial (yields_of (by kernel_rfl) (fun w _ => by go_simp)) ?_
        refine wpAnyU_take (i := 3) (v := (.int .i64 (j : Int))) (some 44) rfl rfl (by kernel_rfl) (by kernel_rfl) (by kernel_rfl) (by kernel_rfl) (fun _ _ _ h => h) trivial (yields_of (by kernel_rfl) (fun w _ => by go_simp)) ?_
        refine wpAnyU_take (i := 4) (v := (.slice (some ⟨gc, p * 4, none⟩) j j)) (some 45) rfl rfl (by kernel_rfl) (by kernel_rfl) (by kernel_rfl) (by kernel_rfl) (fun _ _ _ h => h) trivial (yields_of (by kernel_rfl) (fun w _ => by go_simp)) ?_
        refine wpAnyU_take (i := 7) (v := (.slice (some ⟨gc, p * 4, none⟩) n c)) (some 48) rfl rfl (by kernel_rfl) (by kernel_rfl) (by kernel_rfl) (by kernel_rfl) (fun _ _ _ h => h) trivial (yields_of (by kernel_rfl) (fun w _ => by go_simp)) ?_
        refine wpAnyU_take (i := 8) (v := (.int .i64 (j : Int))) (some 49) rfl rfl (by kernel_rfl) (by kernel_rfl) (by kernel_rfl) (by kernel_rfl) (fun _ _ _ h => h) trivial (yields_of (by kernel_rfl) (fun w _ => by go_simp)) ?_
        refine wpAnyU_take (i := 9) (v := (.slice ar2 (n - j) (c - j))) (some 50) rfl rfl (by kernel_rfl) (by kernel_rfl) (by kernel_rfl) (by kernel_rfl) (fun _ _ _ h => h) trivial (yields_of (by kernel_rfl) (fun w _ => by go_simp)) ?_
        have hbs := run_bsL wd (some ⟨gc, p * 4, none⟩) j j
        have HQ := Holds.new wd [.slice (some ⟨gc, p * 4, none⟩) j j] 34
        have HKd : Kept (fun _ => False) wd (wd.alloc (.cells [Value.slice (some ⟨gc, p * 4, none⟩) j j].toArray 34)) := (Kept.refl _ _).alloc _
        obtain ⟨q, hq⟩ : ∃ q, Hid (q = wd.heap.size) := ⟨wd.heap.size, rfl⟩
        rw [← hq.out] at hbs HQ
        have hSe := Lib.hid (hSd.out.quiet HKd)
        change (Instr.buildSlice 35 1 #[(0, .slice (some ⟨gc, p * 4, none⟩) j j)]).run Try.prog wd = .ok (.slice (some ⟨q, 0, none⟩) 1 1) (wd.alloc (.cells [Value.slice (some ⟨gc, p * 4, none⟩) j j].toArray 34)) at hbs
        generalize wd.alloc (.cells [Value.slice (some ⟨gc, p * 4, none⟩) j j].toArray 34) = we at hbs HQ HKd hSe
        refine wpAnyU_run (i := 5) (v := .slice (some ⟨q, 0, none⟩) 1 1) (some 46) rfl rfl (by kernel_rfl) (by kernel_rfl) (exec_buildSlice (x := .tmp 45) hbs (by rfl) (by kernel_rfl)) (fun _ => trivial) ?_
        have hownm : we.ownsRow (gc + 1) 34 1 (.slice ap m cp) m (pcsC gc 0 P) := by rw [hmP.out]; exact hSe.out.own
        have hmb : m ≤ 1000 := by have := HFl.out.2.2; have := hmP.out; omega
        obtain ⟨v', wf, happ, ho, hgr, hpl⟩ := run_append_at (P := Try.prog) we (gc + 1) 35 35 34 iL _ 1 24 Try.underlying35 hiL hlz hl1 hl2 (by rfl) (by decide) _ _ (pcsC gc 0 P) hownm
          ⟨q, 0, none⟩ 1 1 [.slice (some ⟨gc, p * 4, none⟩) j j] (by rfl) (fun k u hu => by rw [add0]; exact HQ.cell k u hu) (by simp [Value.oneCell']) (by unfold maxLen; omega) (by omega) hSe.out.lt (by omega)
        have hxl : ((l.drop p).take j).length = j := by rw [List.length_take, List.length_drop]; omega
        have hfl : P.flatten.length = p := by rw [HFl.out.1, List.length_take]; omega
        have hgr2 : we.grownBy wf (Value.slice ap P.length cp).ownBlock := by rw [← hmP.out]; exact hgr
        have ho2 : wf.ownsRow (gc + 1) 34 1 v' (P.length + 1) (pcsC gc 0 P ++ [.slice (some ⟨gc, P.flatten.length * 4, none⟩) ((l.drop p).take j).length ((l.drop p).take j).length]) := by
          rw [hxl, hfl, ← hmP.out]; exact ho
        obtain ⟨ap2, cp2, rfl, hG⟩ := hSe.out.grown (Kept.refl _ we) hgr2 ho2
        rw [← hmP.out] at happ
        have HNX : Hid (CtI w wf gc l many.toNat R ap2 cp2 (P ++ [(l.drop p).take j]) (p + j)) := by
          refine ⟨hG, ?_, ?_, ?_⟩
          · rw [List.flatten_append, HFl.out.1, List.take_add]; simp
          · have h5 := HFl.out.2.1
            rw [cutS_first (fun i hi => HNE.out.1 i (by omega)) HNE.out.2, show j - 1 + 1 = j from by omega, List.drop_drop] at h5
            rw [← h5]
            simp
          · rw [List.length_append, List.length_singleton]; have := HFl.out.2.2; omega
        have HMX : Hid (m + 1 = (P ++ [(l.drop p).take j]).length) := by show _ = _; rw [List.length_append, List.length_singleton, ← hmP.out]
        have HAR : Hid (0 < n - j → ar2 = some ⟨gc, (p + j) * 4, none⟩) := fun h => by rw [har2.out, if_neg (by omega), show p * 4 + j * 4 = (p + j) * 4 from by omega]
        refine wpAnyU_run (i := 6) (v := .slice ap2 (m + 1) cp2) (w' := wf) (some 47) rfl rfl (by kernel_rfl) (by kernel_rfl) (exec_append (s := .tmp 41) (x := .tmp 46) happ (by rfl) (by rfl) (by kernel_rfl) (by kernel_rfl)) (fun _ => trivial) ?_
        refine wpAnyU_run (i := 10) (v := .slice ap2 (m + 1) cp2) (w' := wf) (some 6) rfl rfl (by kernel_rfl) (by kernel_rfl) (by go_simp) (fun _ => trivial) ?_
        refine wpAnyU_run (i := 11) (v := .slice ar2 (n - j) (c - j)) (w' := wf) (some 7) rfl rfl (by kernel_rfl) (by kernel_rfl) (by go_simp) (fun _ => trivial) ?_
        refine wpAnyU_done (by kernel_rfl) ?_ _
        simp only [put_lit, List.set_cons_succ, List.set_cons_zero]
        clear hG happ ho ho2 hgr hgr2 hpl hownm hmb hxl hfl hSe hSd HQ HKd hbs HFl HNE hs3 hsf har2 hq hiL hlz hl1 hl2 hmP
        go_wp2
        go_roundw
        case rel => exact ⟨p + j, n - j, c - j, m + 1, ar2, ap2, cp2, _, rfl, rfl, by omega, by omega, HMX, HAR, HNX⟩
        case measure => simp [lenS6]; omega


end Go.Proofs.Ytgcepbpdicadnaa
