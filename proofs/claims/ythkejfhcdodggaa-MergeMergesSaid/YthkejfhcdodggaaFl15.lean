/- The program of layer 15: Fold. -/
import Derived.Test.YthkejfhcdodggaaSe15
import Derived.Test.YthkejfhcdodggaaJ18
import Derived.Test.YthkejfhcdodggaaRf15
import Derived.Test.YthkejfhcdodggaaAg15
namespace Go.Proofs.Ythkejfhcdodggaa
open Go.RowKit Go.Shelf Go.Proofs Go.Proofs.Pk
set_option maxRecDepth 10000
attribute [local simp] mk_get wrap64_u8 mk_extract ByteArray.mk_append_mk

/-- The last ones taken away, as long as they drop. -/
def trimL : List MEnt → List MEnt
  | [] => []
  | e :: r => if e.2.2.1 = true ∧ trimL r = [] then [] else e :: trimL r
theorem trimL_snoc (x : MEnt) : ∀ o : List MEnt, trimL (o ++ [x]) = if x.2.2.1 = true then trimL o else o ++ [x]
  | [] => by
    by_cases h : x.2.2.1 = true
    · simp [trimL, h]
    · simp [trimL, h]
  | e :: r => by
    have ih := trimL_snoc x r
    by_cases h : x.2.2.1 = true
    · rw [if_pos h] at ih ⊢
      rw [List.cons_append, trimL, ih, trimL]
    · rw [if_neg h] at ih ⊢
      rw [List.cons_append, trimL, ih, if_neg (by simp)]
theorem trimL_one {k : Txt} : ∀ o : List MEnt, OneK k o → trimL o = trimD k o
  | [], _ => rfl
  | e :: r, h => by
    have hk : dropK k e = e.2.2.1 := by unfold dropK; rw [h e (by simp)]; simp
    rw [trimL, trimD, trimL_one r (fun x hx => h x (by simp [hx])), hk]
theorem trimL_len : ∀ o : List MEnt, (trimL o).length ≤ o.length
  | [] => Nat.le_refl _
  | e :: r => by
    have := trimL_len r
    rw [trimL]
    split
    · simp
    · simp only [List.length_cons]; omega
theorem trimL_done {O F : List MEnt} (h : trimL O = trimL F) (he : O = [] ∨ ∃ P x, O = P ++ [x] ∧ x.2.2.1 = false) : trimL F = O := by
  rw [← h]
  rcases he with rfl | ⟨P, x, rfl, hx⟩
  · rfl
  · rw [trimL_snoc, if_neg (by rw [hx]; simp)]
theorem trimL_more {P F : List MEnt} {x : MEnt} (h : trimL (P ++ [x]) = trimL F) (hx : x.2.2.1 = true) : trimL P = trimL F := by rw [← h, trimL_snoc, if_pos hx]
theorem needK_sub (rs : List Int) : ∀ (V : List MEnt) (m : Int), (needK rs m V).Sublist V
  | [], _ => List.Sublist.refl _
  | e :: r, m => by
    rw [needK]
    split
    · exact (needK_sub rs r e.2.1).cons_cons e
    · exact (needK_sub rs r e.2.1).cons e
/-- What is kept of a run. -/
def foldL (rs : List Int) (b : Bool) (V : List MEnt) : List MEnt := if b = true then trimL (needK rs 9007199254740992 V) else needK rs 9007199254740992 V
theorem foldL_one (rs : List Int) (b : Bool) {k : Txt} {V : List MEnt} (h : OneK k V) : foldL rs b V = foldK rs b k V := by
  unfold foldL foldK
  rw [trimL_one _ (fun x hx => h x ((needK_sub rs V _).subset hx))]
theorem foldL_len (rs : List Int) (b : Bool) (V : List MEnt) : (foldL rs b V).length ≤ V.length := by
  unfold foldL
  split
  · exact Nat.le_trans (trimL_len _) (needK_sub _ _ _).length_le
  · exact (needK_sub _ _ _).length_le
/-- What the rounds so far have kept. -/
def keptRn (rs : List Int) (b : Bool) (l : List MEnt) {len : Nat} (pre : List (RunP len)) : List MEnt := pre.flatMap fun x => foldL rs b (cutR l x.1)
theorem keptRn_len (rs : List Int) (b : Bool) (l : List MEnt) {len : Nat} : ∀ pre : List (RunP len), (keptRn rs b l pre).length ≤ pre.length * l.length
  | [] => by simp [keptRn]
  | x :: r => by
    have ih := keptRn_len rs b l r
    have h1 := foldL_len rs b (cutR l x.1)
    have h2 : (cutR l x.1).length ≤ l.length := by unfold cutR; rw [List.length_take, List.length_drop]; omega
    unfold keptRn at ih ⊢
    rw [List.flatMap_cons, List.length_append, List.length_cons, Nat.add_mul, Nat.one_mul]
    omega
theorem keptRn_snoc (rs : List Int) (b : Bool) (l : List MEnt) {len : Nat} (pre : List (RunP len)) (x : RunP len) : keptRn rs b l (pre ++ [x]) = keptRn rs b l pre ++ foldL rs b (cutR l x.1) := by unfold keptRn; simp
theorem keptRn_all {l : List MEnt} (h : sortB l = true) {ks rs : List Int} (hrs : ∀ n, n ∈ rs ↔ n ∈ ks ∨ n = 9007199254740991) (b : Bool) {len : Nat} {ys : List (RunP len)} (hy : ys.map (·.1) = runsM l) : keptRn rs b l ys = foldM l ks b := by
  rw [← fold_runs h hrs b]
  have e : keptRn rs b l ys = (ys.map (·.1)).flatMap fun x => foldL rs b (cutR l x) := by unfold keptRn; rw [List.flatMap_map]
  rw [e, hy]
  refine flatMap_same _ fun x hx => ?_
  obtain ⟨h1, h2, h3, h4⟩ := runs_in l.length 0 x hx
  rw [List.getD_eq_getElem?_getD, List.getElem?_eq_getElem h3, Option.getD_some, foldL_one rs b h4]
theorem int_info : (Try.prog.info? 3).map (fun i => (i.zero, i.size, i.bytes)) = some (some (.int .i64 0), 1, 8) := by kernel_rfl
/-- The greatest number put behind some. -/
theorem app_max {B : Nat} {W : World} {v : Value} {n : Nat} {ks : List Int} (h : W.ownsRow B 3 1 v n (ks.map intV)) (hB : B ≤ W.heap.size) (hn : (n : Int) * 8 ≤ 140737488351232) (ty : TypeId) :
    ∃ (g cap : Nat) (w' : World), (Builtin.append_ #[36, 36] ty #[v, .slice (some ⟨W.heap.size, 0, none⟩) 1 1]).run Try.prog (W.alloc (.cells #[.int .i64 9007199254740991] 3)) = .ok (.slice (some ⟨g, 0, none⟩) (n + 1) cap) w' ∧ w'.ownsRow B 3 1 (.slice (some ⟨g, 0, none⟩) (n + 1) cap) (n + 1) ((ks ++ [9007199254740991]).map intV) ∧ (W.alloc (.cells #[.int .i64 9007199254740991] 3)).grownBy w' v.ownBlock ∧ B ≤ g := by
  obtain ⟨i0, hi0, hz0, hz1, hz2⟩ := info_parts int_info
  have hH : Holds (W.alloc (.cells #[.int .i64 9007199254740991] 3)) W.heap.size [.int .i64 9007199254740991] 3 := Holds.new W [.int .i64 9007199254740991] _
  have h' : (W.alloc (.cells #[.int .i64 9007199254740991] 3)).ownsRow B 3 1 v n (ks.map intV) := h.alloc _
  obtain ⟨v', w', hr, h2, h3, _⟩ := run_append_own (P := Try.prog) (W.alloc (.cells #[.int .i64 9007199254740991] 3)) B 36 ty 3 i0 _ 1 8 Try.underlying36 hi0 hz0 hz1 hz2 rfl (by decide) v n (ks.map intV) h' ⟨W.heap.size, 0, none⟩ 1 1 [.int .i64 9007199254740991] rfl (fun j u hj => by rw [addN]; rw [Nat.zero_add]; exact hH.cell j u hj) (fun u hu => by simp at hu; subst hu; rfl) (by unfold maxLen; omega) (by omega) (by rw [size_al]; omega)
  rcases h2.2 with ⟨_, h0⟩ | ⟨g, cap, cur, hv, hb, _⟩
  · omega
  · subst hv
    exact ⟨g, cap, w', hr, by rw [List.map_append]; exact h2, h3, hb⟩

attribute [local go_sem] Oper.semAt_some
set_option maxHeartbeats 8000000 in
theorem pFold (J : BkJ) (w : World) (ad : Option Addr) (len cap : Nat) (l : List MEnt) (kd : Option Addr) (kl kc : Nat) (ks : List Int) (b : Bool) (h : EntsW w ad len l) (hlm : len ≤ 1000) (hc : len ≤ cap) (hi : Ints w kd kl ks) (hf : Fit64 ks) (hkd : kd = none → kl = 0 ∧ kc = 0) (hkl : (kl : Int) * 8 ≤ 140737488351232) :
    Calls Try.prog 15 #[.slice ad len cap, .slice kd kl kc, .bool b] w (OutE w (foldR l ks b)) := by
  have hlen := h.1
  obtain ⟨i0, hi0, hz0, hz1, hz2⟩ := info_parts ent_info
  obtain ⟨w1, hw1⟩ : ∃ w1, Hid (w1 = w.alloc (.cells #[.bool b] 4)) := ⟨_, rfl⟩
  have hk1 : Kept (fun _ => False) w w1 := by rw [hw1.out]; exact (Kept.refl _ w).alloc _
  have HS := Lib.hid (J.sorted w1 ad len cap l (ents_keptK h hk1) (by omega))
  obtain ⟨sb, hsb⟩ : ∃ sb, sb = w.heap.size := ⟨_, rfl⟩
  have HB1 : Hid (Holds w1 sb [.bool b] 4) := by show Holds _ _ _ _; rw [hw1.out, hsb]; exact Holds.new w [.bool b] _
  by_cases hso : sortB l = true
  case neg =>
    have hsf := Bool.eq_false_iff.2 hso
    rw [hsf] at HS
    have HV : Hid (foldR l ks b = ([], false)) := by show foldR l ks b = _; unfold foldR; rw [if_neg hso]
    rw [HV.out]
    clear h HB1
    go_enter Try.func15, Try.ntmps15
    go_wp2_with (go_at_call 19; rw [← hw1.out]; refine HS.out.mono ?_; clear HS; rintro e w2 ⟨rfl, hk2⟩)
    have HK : Hid (Kept (fun _ => False) w w2) := hk1.trans hk2 (fun _ f => f.elim)
    clear hk1 hk2 hw1
    go_wp2
    go_ret2
    exact ⟨none, 0, rfl, EntsW.empty, HK.out, Nat.le_refl _⟩
  rw [hso] at HS
  have HV : Hid (foldR l ks b = (foldM l ks b, true)) := by show foldR l ks b = _; unfold foldR; rw [if_pos hso]
  rw [HV.out]
  have HBk := Lib.hid (fun W : World => pByKey ad len cap W)
  have HCl := Lib.hid (fun (W : World) (hk : Kept (fun _ => False) w W) => cloneInts15 kd kl kc ks W (ints_kept hi hk) hkd (by omega))
  refine (callsIn_wide (n := 8)).1 ?_
  refine callsIn_of_wp_marks Try.func15 rfl trivial ?_ rfl
  simp only [Try.ntmps15, List.size_toArray, List.length_cons, List.length_nil, Nat.reduceAdd, Nat.reduceSub, Array.replicate_succ, Array.replicate_zero, List.push_toArray, List.append_toArray, List.nil_append, List.cons_append]
  gi_wp2_with (refine ⟨trivial, ?_⟩; gi_at_call 19; rw [← hw1.out]; refine (callsIn_wide.2 HS.out).mono ?_; clear HS; rintro e w2 ⟨rfl, hk2⟩)
  have hk02 : Kept (fun _ => False) w w2 := hk1.trans hk2 (fun _ f => f.elim)
  have HB2 := HB1.out.of_block (hk2.block sb HB1.out.lt (fun f => f))
  refine ⟨trivial, ?_⟩
  refine (callsIn_wide.2 (HCl.out _ hk02)).mono ?_
  rintro e wc ⟨v, rfl, hrow, hbc⟩
  have hk2c : Kept (fun _ => False) w2 wc := Kept.of_below _ hbc
  obtain ⟨g, rc, wd, hrun, hrow2, hgr, hg2⟩ := app_max hrow hk2c.size hkl 36
  gi_wp2_with (gi_at_builtin; refine wpListIn_run_append rfl (.tmp 17) (.tmp 18) 36 36 rfl rfl rfl rfl hrun ?_)
  have hvb : ∀ k, v.ownBlock = some k → w2.heap.size ≤ k := fun k hk => (hrow.lt k hk).1
  have hk0d : Kept (fun _ => False) w wd := kept_grown ((hk02.trans hk2c (fun _ f => f.elim)).alloc _) hgr (fun k hk => .inr (by have := hvb k hk; have := hk02.size; omega))
  have hk2c' : Kept (fun _ => False) w2 (wc.alloc (.cells #[.int .i64 9007199254740991] 3)) := hk2c.alloc _
  have hBc := HB2.of_block (hk2c'.block sb HB2.lt (fun f => f))
  have hBd : Holds wd sb [.bool b] 4 := hBc.of_block (hgr.block sb hBc.lt (fun e => by have := hvb sb e.symm; have := HB2.lt; omega))
  have hgl := (hrow2.lt g rfl).2
  obtain ⟨rb, hrb⟩ : ∃ rb, rb = wd.heap.size := ⟨_, rfl⟩
  have hR3 : Holds (wd.alloc (.cells #[.slice (some ⟨g, 0, none⟩) (kl + 1) rc] 36)) rb [.slice (some ⟨g, 0, none⟩) (kl + 1) rc] 36 := by rw [hrb]; exact Holds.new wd [.slice (some ⟨g, 0, none⟩) (kl + 1) rc] _
  have hB3 := hBd.alloc (.cells #[.slice (some ⟨g, 0, none⟩) (kl + 1) rc] 36)
  have hk03 := hk0d.alloc (.cells #[.slice (some ⟨g, 0, none⟩) (kl + 1) rc] 36)
  have hSo := sortInts15 w2.heap.size g rc (kl + 1) (ks ++ [9007199254740991]) _ (hrow2.alloc (.cells #[.slice (some ⟨g, 0, none⟩) (kl + 1) rc] 36)) (by omega)
  have hsz1 : w1.heap.size = w.heap.size + 1 := by rw [hw1.out]; exact size_al _ _
  have hsz2 := hk2.size
  have hsb2 : sb < w2.heap.size := HB2.lt
  rw [← hrb]
  refine ⟨trivial, ?_⟩
  refine (callsIn_wide.2 hSo).mono ?_
  rintro e wf ⟨rfl, L, hiL, hpL, hsL, hkf⟩
  have hRf := hR3.of_block (hkf.block rb hR3.lt (by show rb ≠ g; omega))
  have hBf := hB3.of_block (hkf.block sb hB3.lt (by show sb ≠ g; omega))
  have hk0f : Kept (fun _ => False) w wf := hk03.trans hkf (fun k hk => .inr (by have := hk02.size; have : k = g := hk; omega))
  obtain ⟨ob, hob⟩ : ∃ ob, ob = wf.heap.size := ⟨_, rfl⟩
  clear hrun hrow hrow2 hgr hSo hBd hBc hk2c hk2c' hbc
  gi_wp2_with (refine ⟨trivial, ?_⟩; gi_at_call 30; refine (callsIn_wide.2 (HBk.out _)).mono ?_; rintro e w4 ⟨rfl, rfl⟩)
  rw [← hob, ← hsb, ← hrb]
  have hk3 : Kept (fun _ => False) wf (wf.alloc (.cells #[.slice none 0 0] 24)) := (Kept.refl _ wf).alloc _
  have hO3 : Holds (wf.alloc (.cells #[.slice none 0 0] 24)) ob [.slice none 0 0] 24 := by rw [hob]; exact Holds.new wf [.slice none 0 0] _
  have hsz3 : (wf.alloc (.cells #[.slice none 0 0] 24)).heap.size = ob + 1 := by rw [size_al, hob]
  obtain ⟨w3, hw3⟩ : ∃ w3, w3 = wf.alloc (.cells #[.slice none 0 0] 24) := ⟨_, rfl⟩
  rw [← hw3] at hk3 hO3 hsz3 ⊢
  have hk4 : Kept (fun _ => False) w3 (w3.alloc (.cells #[.slice ad len cap] 24)) := (Kept.refl _ w3).alloc _
  have hN4 : Holds (w3.alloc (.cells #[.slice ad len cap] 24)) (ob + 1) [.slice ad len cap] 24 := by rw [← hsz3]; exact Holds.new w3 [.slice ad len cap] _
  have hO4 := hO3.of_block (hk4.block ob hO3.lt (fun f => f))
  obtain ⟨w4, hw4⟩ : ∃ w4, w4 = w3.alloc (.cells #[.slice ad len cap] 24) := ⟨_, rfl⟩
  rw [← hw4] at hk4 hN4 hO4 ⊢
  obtain ⟨Bn, hBn⟩ : ∃ Bn, Bn = ob + 1 := ⟨_, rfl⟩
  rw [← hBn] at hN4 ⊢
  have hkf4 : Kept (fun _ => False) wf w4 := hk3.trans hk4 (fun _ f => f.elim)
  have hkw : Kept (fun _ => False) w w4 := hk0f.trans hkf4 (fun _ f => f.elim)
  have hB4 := hBf.of_block (hkf4.block sb hBf.lt (fun f => f))
  have hR4 := hRf.of_block (hkf4.block rb hRf.lt (fun f => f))
  have hgf : g < wf.heap.size := by have := hkf.size; have h2 := size_al wd (.cells #[.slice (some ⟨g, 0, none⟩) (kl + 1) rc] 36); omega
  have hL4 : Ints w4 (some ⟨g, 0, none⟩) (kl + 1) L := hiL.kept hkf4 (.inr fun _ _ _ f => f)
  have hbw : ∀ a, ad = some a → l ≠ [] → a.block < w.heap.size := fun a ha h0 => ents_lt h h0 a ha
  have hF : KeyF w4 Bn ad len cap l := ⟨hN4.cell 0 _ rfl, ents_keptK h hkw⟩
  have hrbf := hRf.lt
  have hsbf := hBf.lt
  have hw2 := hk02.size
  have hT : ∀ k, KeyT Bn ad l k → k < w4.heap.size ∧ k ≠ ob := fun k hk => ⟨hF.lt hN4.lt k hk, by
    rcases hk with rfl | ⟨h0, a, ha, rfl⟩
    · omega
    · have := hbw a ha h0
      have := hk0f.size
      omega⟩
  have hLm : ∀ n, n ∈ L ↔ n ∈ ks ∨ n = 9007199254740991 := fun n => by rw [hpL.mem_iff]; simp
  have hLf : Fit64 L := fun n hn => by
    rcases (hLm n).1 hn with h1 | h1
    · exact hf n h1
    · subst h1; omega
  have hlt : sb < ob ∧ rb < ob ∧ g < ob ∧ w.heap.size ≤ ob ∧ ob < w4.heap.size := ⟨by omega, by omega, by omega, by have := hk0f.size; omega, hO4.lt⟩
  have H4 := Lib.hid (And.intro hB4 (And.intro hO4 (And.intro hF (And.intro hT (And.intro hkw (And.intro hR4 (And.intro hL4 hlt)))))))
  have HL := Lib.hid (And.intro hLm (And.intro hLf hsL))
  have hob4 := hO4.lt
  have HSO := Lib.hid hso
  have HKl := Lib.hid hkl
  clear hk1 hk2 hw1 hw3 hw4 hob hBn hk3 hk4 hkw hO3 hO4 hN4 hsz1 hF hT hso HB1 hbw hkf4 hB4 hR4 hgf hL4 hrbf hsbf hw2 hLm hLf hlt hsz3 hk0f hBf hRf hkf hsL hpL hiL hsb2 hsz2 hk03 hB3 hR3 hrb hgl hk0d hvb HB2 hk02 hf hi hkl hg2
  refine wpIn_rangeFunc_ownF rfl (by decide) (gf := 42) (lb := #[.pointer (some ⟨Bn, 0, none⟩)]) rfl trivial (enters_of Try.func42 (by kernel_rfl) rfl)
    (key_stops 7 (by decide) Bn ad len cap l (sort_up HSO.out) hc (by omega) w4 H4.out.2.2.1 (by have := H4.out.2.2.2.1 Bn (.inl rfl); exact this.1)) KpT.trans (KpT.putObj (fun k hk => (H4.out.2.2.2.1 k hk).1)) (Below.refl _ _) (fun _ => rfl)
    (fun pre W => SeeI w4 ob (keptRn L b l pre) W) (fun _ _ _ => False) (seeI_own _) (fun _ _ _ _ _ hs _ _ => hs) (SeeI.start H4.out.2.1) ?a1 ?assign ?body ?done ?stop
  case assign =>
    intro y x W K hK
    gi_wp2
    exact hK
  case done =>
    rintro D ys W hD hys hI hK
    have HR : Hid (SeeI w4 ob (foldM l ks b) W) := by rw [← keptRn_all HSO.out HL.out.1 b hys]; exact hI
    clear hI
    obtain ⟨_, ao, n, co, hO, hH⟩ := HR.out
    have o0 := hH.cell 0 _ rfl
    gi_wp2
    refine ⟨by simp, .inl ⟨_, _, rfl, run_takeDeferred hK, ?_⟩⟩
    obtain rfl : (foldM l ks b).length = n := hO.len
    have hgD := grownBy_putObj' W D (.deferred none)
    have hO2 : OutG w4.heap.size (W.putObj D (.deferred none)) ao (foldM l ks b).length co (foldM l ks b) := hO.of_block fun g hg => World.putObj_heap_other (fun e => by
      obtain ⟨_, cur, hc⟩ := hO.cells g hg
      rw [e, hK] at hc; cases hc)
    have hkk : Kept (fun _ => False) w (W.putObj D (.deferred none)) := kept_grown (H4.out.2.2.2.2.1.trans HR.out.1 (fun k hk => .inr (by have := H4.out.2.2.2.2.2.2.2; have : k = ob := hk; omega))) hgD (fun b e => by cases e; exact .inr (by have := H4.out.2.2.2.2.1.size; omega))
    refine ⟨.tuple #[.slice ao (foldM l ks b).length co, .nilIface], ?_, ⟨ao, co, rfl, hO2.ents, hkk, hO2.few.1⟩⟩
    simp [results, Try.f15, go_sem]
  case stop =>
    rintro D c pre W _ _ h _
    exact h.elim
  case body =>
    rintro y pre ⟨⟨a, e⟩, hae, hel⟩ W hI hlt
    simp only at hae hel
    have haL : a < l.length := by omega
    obtain ⟨bb, off, rfl⟩ : ∃ b off, ad = some ⟨b, off, none⟩ := by
      rcases h.2 with h0 | ⟨b, off, h1, _⟩
      · rw [h0] at haL; simp at haL
      · exact ⟨b, off, h1⟩
    have hE : EntsW W (some ⟨bb, off, none⟩) len l := hI.ents H4.out.2.2.1.ents (fun h0 a' ha => by
      have := ents_lt h h0 a' ha
      have := H4.out.2.2.2.2.2.2.2
      omega)
    have hRe := run_ents hE hae hel
    have hsn := keptRn_snoc L b l pre ⟨(a, e), hae, hel⟩
    simp only at hsn
    have hlenF := keptRn_len L b l pre
    have hfl := foldL_len L b (cutR l (a, e))
    have hcl : (cutR l (a, e)).length ≤ l.length := by unfold cutR; rw [List.length_take, List.length_drop]; omega
    have hmul : pre.length * l.length + l.length ≤ 1000000 := by
      have h1 : (pre.length + 1) * l.length ≤ 1000 * 1000 := Nat.mul_le_mul (by omega) (by omega)
      rw [Nat.add_mul, Nat.one_mul] at h1
      exact h1
    obtain ⟨PL, hPL⟩ : ∃ PL, PL = pre.length * l.length := ⟨_, rfl⟩
    rw [← hPL] at hlenF hmul
    have hmx : ∀ z ∈ cutR l (a, e), ∃ n ∈ L, z.2.1 ≤ n := fun z hz => ⟨9007199254740991, (HL.out.1 _).2 (.inr rfl), by
      have hz2 : z ∈ l := List.mem_of_mem_drop (List.mem_of_mem_take hz)
      have := (sort_iff.1 HSO.out).2 z hz2
      unfold rightM at this
      exact (of_decide_eq_true this).2.2.2.2.1⟩
    have hIL : Ints W (some ⟨g, 0, none⟩) (kl + 1) L := H4.out.2.2.2.2.2.2.1.kept hI.1 (.inr fun b' off' e' => by cases e'; have := H4.out.2.2.2.2.2.2.2; show ¬g = ob; omega)
    have HNd := Lib.hid (pNeeded W (some ⟨bb, off + a * 4, none⟩) (e - a) (cap - a) (cutR l (a, e)) (some ⟨g, 0, none⟩) (kl + 1) rc L hRe (by omega) hIL HL.out.2.2 (by have := HKl.out; omega) HL.out.2.1 hmx)
    have r0 := (hI.box H4.out.2.2.2.2.2.1 (by have := H4.out.2.2.2.2.2.2.2; omega)).cell 0 _ rfl
    have hBW := hI.box H4.out.1 (by have := H4.out.2.2.2.2.2.2.2; omega)
    obtain ⟨T, hTd⟩ : ∃ T, Hid (T = needK L 9007199254740992 (cutR l (a, e))) := ⟨_, rfl⟩
    rw [← hTd.out] at HNd
    have HTl : Hid (T.length ≤ l.length) := by show _ ≤ _; rw [hTd.out]; exact Nat.le_trans (needK_sub _ _ _).length_le hcl
    have HFd : Hid (foldL L b (cutR l (a, e)) = if b = true then trimL T else T) := by show _ = _; rw [hTd.out]; rfl
    have HSn := Lib.hid hsn
    have HI := Lib.hid hI
    have HLn : Hid ((keptRn L b l pre).length ≤ PL ∧ PL + l.length ≤ 1000000 ∧ (foldL L b (cutR l (a, e))).length ≤ l.length) := ⟨hlenF, hmul, Nat.le_trans hfl hcl⟩
    clear hsn hI hE hRe hIL hmx hPL hmul hlenF hfl hcl
    simp only [runV, Option.map_some, addN]
    gi_wp2_with (refine ⟨trivial, ?_⟩; gi_at_call 31; refine (CallsIn.inRound y (callsIn_wide.2 HNd.out)).mono ?_; clear HNd; rintro r wn ⟨an, nn, cn, rfl, hOn⟩)
    have hkn : Kept (fun _ => False) W wn := hOn.2.2.1
    have bcell := (hBW.of_block (hkn.block sb hBW.lt (fun f => f))).cell 0 _ rfl
    rw [hsb] at bcell
    have HI0 : Hid (OutO W wn an nn cn T ∧ trimL T = trimL T ∧ (T = T ∨ b = true)) := ⟨hOn, rfl, .inl rfl⟩
    have hnn : nn ≤ 1000 := by have h1 := hOn.1; have h2 := HTl.out; omega
    clear hOn r0 hBW
    gi_loopw [11] (fun v wx => ∃ (m : Nat) (O : List MEnt), v = .slice an m cn ∧ wx = wn ∧ m ≤ 1000 ∧ Hid (OutO W wn an m cn O ∧ trimL O = trimL T ∧ (O = T ∨ b = true))) (fun v _ => lenV v)
    case atStart => exact ⟨nn, T, rfl, rfl, hnn, HI0⟩
    case round =>
      clear HI0
      obtain ⟨m, O, rfl, hwx, hm, hO⟩ := hrel
      have hwx' := hwx.symm
      subst hwx'
      cases b with
      | false =>
        have HF : Hid (OutO W wn an m cn O ∧ foldL L false (cutR l (a, e)) = O) := ⟨hO.out.1, by rw [HFd.out, if_neg (by simp)]; exact (hO.out.2.2.elim (fun h => h.symm) (fun h => by cases h))⟩
        clear hO HFd
        obtain ⟨hk0, ao, n, co, hO, hH⟩ := HI.out
        have hOx : OutG w4.heap.size wn ao n co (keptRn L false l pre) := hO.of_block (fun g' hg' => hkn.block g' (by obtain ⟨_, cur, hc'⟩ := hO.cells g' hg'; exact (Array.getElem?_eq_some_iff.1 hc').1) (fun f => f))
        have hHx := hH.of_block (hkn.block ob hH.lt (fun f => f))
        have hkx := hk0.trans hkn (fun _ f => f.elim)
        obtain ⟨ad2, co2, wB, hrun, hO2, hgr, _⟩ := app_row (cx := cn) hOx HF.out.1.ents (by have := hkx.size; omega) (by have h1 := hO.len; have h2 := HF.out.1.1; have h3 := HLn.out; rw [HF.out.2] at h3; omega) 24
        have hHB : Holds wB ob [.slice ao n co] 24 := hHx.of_block (hgr.block ob hHx.lt (fun e => by have := (hO.cells ob e.symm).1; omega))
        have hfin := SeeI.put hob4 hkx hOx hHx (Kept.refl _ wn) hO2 hgr
        have HN : Hid (KeepsOthers W (wB.setCell ⟨ob, 0, none⟩ (.slice ad2 (n + m) co2)) ∧ KpT (KeyT Bn (some ⟨bb, off, none⟩) l) W (wB.setCell ⟨ob, 0, none⟩ (.slice ad2 (n + m) co2)) ∧ SeeI w4 ob (keptRn L false l (pre ++ [⟨(a, e), hae, hel⟩])) (wB.setCell ⟨ob, 0, none⟩ (.slice ad2 (n + m) co2))) := by
          refine ⟨(keeps_kept hkn (fun _ f => f.elim)).trans hfin.2, HI.out.kp hfin.1 H4.out.2.2.2.1, ?_⟩
          rw [HSn.out, HF.out.2]
          exact hfin.1
        have o0 := hHx.cell 0 _ rfl
        have b0 := hHB.cell 0 _ rfl
        have b1 := hHB.free 0
        clear hfin hgr hO2 hkx hHx hOx hO hH hk0 hHB HF
        gi_wp2_with (gi_at_builtin; refine wpListIn_run_append rfl (.tmp 48) (.tmp 49) 24 24 rfl rfl rfl rfl hrun ?_)
        exact HN.out
      | true =>
        cases m with
        | zero =>
          have HF : Hid (OutO W wn an 0 cn O ∧ foldL L true (cutR l (a, e)) = O) := ⟨hO.out.1, by rw [HFd.out, if_pos rfl]; exact trimL_done hO.out.2.1 (.inl (List.length_eq_zero_iff.1 hO.out.1.1))⟩
          clear hO HFd
          obtain ⟨hk0, ao, n, co, hO, hH⟩ := HI.out
          have hOx : OutG w4.heap.size wn ao n co (keptRn L true l pre) := hO.of_block (fun g' hg' => hkn.block g' (by obtain ⟨_, cur, hc'⟩ := hO.cells g' hg'; exact (Array.getElem?_eq_some_iff.1 hc').1) (fun f => f))
          have hHx := hH.of_block (hkn.block ob hH.lt (fun f => f))
          have hkx := hk0.trans hkn (fun _ f => f.elim)
          obtain ⟨ad2, co2, wB, hrun, hO2, hgr, _⟩ := app_row (cx := cn) hOx HF.out.1.ents (by have := hkx.size; omega) (by have h1 := hO.len; have h2 := HF.out.1.1; have h3 := HLn.out; rw [HF.out.2] at h3; omega) 24
          have hHB : Holds wB ob [.slice ao n co] 24 := hHx.of_block (hgr.block ob hHx.lt (fun e => by have := (hO.cells ob e.symm).1; omega))
          have hfin := SeeI.put hob4 hkx hOx hHx (Kept.refl _ wn) hO2 hgr
          have HN : Hid (KeepsOthers W (wB.setCell ⟨ob, 0, none⟩ (.slice ad2 (n + 0) co2)) ∧ KpT (KeyT Bn (some ⟨bb, off, none⟩) l) W (wB.setCell ⟨ob, 0, none⟩ (.slice ad2 (n + 0) co2)) ∧ SeeI w4 ob (keptRn L true l (pre ++ [⟨(a, e), hae, hel⟩])) (wB.setCell ⟨ob, 0, none⟩ (.slice ad2 (n + 0) co2))) := by
            refine ⟨(keeps_kept hkn (fun _ f => f.elim)).trans hfin.2, HI.out.kp hfin.1 H4.out.2.2.2.1, ?_⟩
            rw [HSn.out, HF.out.2]
            exact hfin.1
          have o0 := hHx.cell 0 _ rfl
          have b0 := hHB.cell 0 _ rfl
          have b1 := hHB.free 0
          clear hfin hgr hO2 hkx hHx hOx hO hH hk0 hHB HF
          gi_wp2_with (gi_at_builtin; refine wpListIn_run_append rfl (.tmp 48) (.tmp 49) 24 24 rfl rfl rfl rfl hrun ?_)
          exact HN.out
        | succ m3 =>
          obtain ⟨g3, z, rfl, hOz, hmc, _, z2⟩ := hO.out.1.top
          have hgt : (0 : Int) < ((m3 + 1 : Nat) : Int) := by omega
          have hgN : 0 < m3 + 1 := Nat.succ_pos _
          have hw3 : IntKind.i64.wrap (((m3 + 1 : Nat) : Int) - 1) = (m3 : Int) := by rw [IntWalk.i64_in _ (by omega)]; omega
          have hm0 : (0 : Int) ≤ (m3 : Int) := by omega
          have hmn : (m3 : Int) < ((m3 + 1 : Nat) : Int) := by omega
          have hmcI : (m3 : Int) ≤ (cn : Int) := by omega
          obtain ⟨n4, hn4⟩ : ∃ n4, n4 = m3 + 1 := ⟨_, rfl⟩
          rw [← hn4] at hgt hgN hw3 hmn hmc hO hm ⊢
          obtain ⟨d, hd⟩ : ∃ d, Hid (d = z.2.2.1) := ⟨_, rfl⟩
          rw [← hd.out] at z2
          cases d with
          | false =>
            have HF : Hid (OutO W wn (some ⟨g3, 0, none⟩) n4 cn O ∧ foldL L true (cutR l (a, e)) = O) := ⟨hO.out.1, by rw [HFd.out, if_pos rfl]; exact trimL_done hO.out.2.1 (.inr ⟨_, z, hOz, hd.out.symm⟩)⟩
            clear hO HFd hOz hn4
            obtain ⟨hk0, ao, n, co, hO, hH⟩ := HI.out
            have hOx : OutG w4.heap.size wn ao n co (keptRn L true l pre) := hO.of_block (fun g' hg' => hkn.block g' (by obtain ⟨_, cur, hc'⟩ := hO.cells g' hg'; exact (Array.getElem?_eq_some_iff.1 hc').1) (fun f => f))
            have hHx := hH.of_block (hkn.block ob hH.lt (fun f => f))
            have hkx := hk0.trans hkn (fun _ f => f.elim)
            obtain ⟨ad2, co2, wB, hrun, hO2, hgr, _⟩ := app_row (cx := cn) hOx HF.out.1.ents (by have := hkx.size; omega) (by have h1 := hO.len; have h2 := HF.out.1.1; have h3 := HLn.out; rw [HF.out.2] at h3; omega) 24
            have hHB : Holds wB ob [.slice ao n co] 24 := hHx.of_block (hgr.block ob hHx.lt (fun e => by have := (hO.cells ob e.symm).1; omega))
            have hfin := SeeI.put hob4 hkx hOx hHx (Kept.refl _ wn) hO2 hgr
            have HN : Hid (KeepsOthers W (wB.setCell ⟨ob, 0, none⟩ (.slice ad2 (n + n4) co2)) ∧ KpT (KeyT Bn (some ⟨bb, off, none⟩) l) W (wB.setCell ⟨ob, 0, none⟩ (.slice ad2 (n + n4) co2)) ∧ SeeI w4 ob (keptRn L true l (pre ++ [⟨(a, e), hae, hel⟩])) (wB.setCell ⟨ob, 0, none⟩ (.slice ad2 (n + n4) co2))) := by
              refine ⟨(keeps_kept hkn (fun _ f => f.elim)).trans hfin.2, HI.out.kp hfin.1 H4.out.2.2.2.1, ?_⟩
              rw [HSn.out, HF.out.2]
              exact hfin.1
            have o0 := hHx.cell 0 _ rfl
            have b0 := hHB.cell 0 _ rfl
            have b1 := hHB.free 0
            clear hfin hgr hO2 hkx hHx hOx hO hH hk0 hHB HF
            gi_wp2_with (gi_at_builtin; refine wpListIn_run_append rfl (.tmp 48) (.tmp 49) 24 24 rfl rfl rfl rfl hrun ?_)
            exact HN.out
          | true =>
            have HN : Hid (OutO W wn (some ⟨g3, 0, none⟩) m3 cn (O.take m3) ∧ trimL (O.take m3) = trimL T ∧ (O.take m3 = T ∨ true = true)) := by
              have h1 := hO.out.1
              rw [hn4] at h1
              exact ⟨h1.pop, trimL_more (x := z) (by rw [← hOz]; exact hO.out.2.1) hd.out.symm, .inr rfl⟩
            have HN4 := Lib.hid hn4
            clear hn4 hO hOz
            gi_wp2
            go_roundw
            case rel => exact ⟨m3, O.take m3, rfl, by first | rfl | trivial, by have := HN4.out; omega, by first | exact HN | (have h := HN.out; simp only [or_true, and_true] at h ⊢; exact h) | exact ⟨HN.out.1, HN.out.2.1, .inr trivial⟩⟩
            case measure => simp [lenV]; have := HN4.out; omega

end Go.Proofs.Ythkejfhcdodggaa
