/- Wi16, PjM, Vbx. -/
import Derived.Test.YtgcepbpdicadnaaJ08
import Derived.BigQuiet
import Derived.Test.YtgcepbpdicadnaaJ06

/- The law's own question whether a number is in a list (layer 16). -/
namespace Go.Proofs.Ytgcepbpdicadnaa
open Go.RowKit Go.Proofs Go.Proofs.Pk
set_option maxRecDepth 10000
attribute [local simp] mk_get wrap64_u8 mk_extract ByteArray.mk_append_mk get_1k

set_option maxHeartbeats 4000000 in
theorem within16 (w : World) (ad : Option Addr) (len cap : Nat) (l : List Int) (n : Int) (h : Ints w ad len l) (hl : (len : Int) * 8 ≤ 140737488351232) :
    Calls Try.prog 19 #[.slice ad len cap, .int .i64 n] w fun e w' => e = .returned (.bool (decide (n ∈ l))) ∧ Kept (fun _ => False) w w' := by
  have H := Lib.hid h
  have hlen := h.1
  clear h
  go_enter Try.func19, Try.ntmps19
  go_wp2
  obtain ⟨wq, hwq⟩ : ∃ wq, wq = w := ⟨_, rfl⟩
  have HK : Hid (Kept (fun _ => False) w wq) := by rw [hwq]; exact Kept.refl _ _
  rw [← hwq]
  clear hwq
  go_loopw [5] (fun i wr => ∃ j : Nat, j ≤ len ∧ i = .int .i64 (j : Int) ∧ Hid (Kept (fun _ => False) w wr) ∧ Hid (n ∉ l.take j)) (fun i _ => len - (intOf i).toNat)
  case atStart => exact ⟨0, Nat.zero_le _, rfl, HK, by simp [Hid]⟩
  case round =>
    obtain ⟨j, hj, rfl, hK, hpre⟩ := hrel
    clear HK
    have j0 : (0 : Int) ≤ (j : Int) := by omega
    have hwj : IntKind.i64.wrap ((j : Int) + 1) = (j : Int) + 1 := IntWalk.i64_in _ (by omega)
    by_cases hlt : j < len
    · have hjT : j < l.length := by omega
      obtain ⟨g, og, rfl, hg, d0⟩ := ints_at (H.out.kept hK.out (.inr fun _ _ _ f => f)) j hjT
      have jN : (j : Int) < (len : Int) := by omega
      by_cases hx : l[j] = n
      · have hyes : Hid (n ∈ l) := by rw [← hx]; exact List.getElem_mem hjT
        rw [hx] at d0
        clear hjT hx hpre
        go_wp2
        go_ret
        exact ⟨by rw [decide_eq_true hyes.out]; rfl, hK.out⟩
      · have hnext : Hid (n ∉ l.take (j + 1)) := by
          show n ∉ l.take (j + 1)
          rw [List.take_succ_eq_append_getElem hjT, List.mem_append, List.mem_singleton]
          exact fun k => k.elim hpre.out fun k => hx k.symm
        generalize l[j] = x at d0 hx
        clear hjT hpre
        go_wp2
        go_roundw
        case rel => exact ⟨j + 1, hlt, by first | rfl | go_num, hK.out, hnext⟩
        case measure => simp [intOf]; omega
    · obtain rfl : j = len := by omega
      have jN : ¬(j : Int) < (j : Int) := by omega
      go_wp2
      go_ret
      refine ⟨?_, hK.out⟩
      have := hpre.out
      rw [List.take_of_length_le (by omega)] at this
      rw [decide_eq_false this]; rfl

end Go.Proofs.Ytgcepbpdicadnaa

/- Mathematics of a job that was picked (layer 16): its tables are apart, of two levels, and just those. No program. -/
namespace Go.Proofs.Pk
set_option maxRecDepth 10000

theorem meets_iff {m : MetaV} {l : List MetaV} : meetsM m l = true ↔ (∃ x ∈ l, ¬m.2.2.2.1 < x.2.2.1) ∧ ∃ y ∈ l, ¬y.2.2.2.1 < m.2.2.1 := by
  unfold meetsM
  simp only [Bool.and_eq_true, List.any_eq_true, decide_eq_true_eq]
theorem meets_same {m : MetaV} {l k : List MetaV} (h : ∀ x, x ∈ l ↔ x ∈ k) : meetsM m l = meetsM m k := by
  rw [Bool.eq_iff_iff, meets_iff, meets_iff]
  simp only [h]
theorem choose_of {v : VerV} {n : Int} {ins : List MetaV} (h : chooseM v = some (n, ins)) : (n = 0 ∨ n = 1 ∨ n = 2) ∧ ins ≠ [] ∧ ins.Sublist (levelV v n) := by
  unfold chooseM at h
  split at h
  · rename_i h1
    cases h
    exact ⟨.inl rfl, fun e => by rw [e] at h1; simp at h1, List.Sublist.refl _⟩
  · split at h
    · rename_i h1
      cases h
      refine ⟨.inr (.inl rfl), fun e => ?_, List.take_sublist _ _⟩
      rcases List.take_eq_nil_iff.1 e with e | e
      · cases e
      · rw [e] at h1; simp [sizeT] at h1
    · split at h
      · rename_i h1
        cases h
        refine ⟨.inr (.inr rfl), fun e => ?_, List.take_sublist _ _⟩
        rcases List.take_eq_nil_iff.1 e with e | e
        · cases e
        · rw [e] at h1; simp [sizeT] at h1
      · cases h
theorem level_mem {v : VerV} {n : Int} {m : MetaV} : m ∈ levelV v n ↔ m ∈ v.1 ∧ m.2.1 = n := by simp [levelV]
theorem under_mem {v : VerV} {n : Int} {ins : List MetaV} {m : MetaV} : m ∈ underM v n ins ↔ (m ∈ v.1 ∧ m.2.1 = n + 1) ∧ meetsM m ins = true := by
  unfold underM; rw [List.mem_filter, level_mem]
/-- One number, one table. -/
theorem one_id {v : VerV} (h : rightV v = true) {a b : MetaV} (ha : a ∈ v.1) (hb : b ∈ v.1) (e : a.1 = b.1) : a = b := by
  have hn := right_nodupT h
  obtain ⟨i, hi, rfl⟩ := List.getElem_of_mem ha
  obtain ⟨j, hj, rfl⟩ := List.getElem_of_mem hb
  have hp := List.pairwise_iff_getElem.1 (List.pairwise_map.1 hn)
  rcases Nat.lt_trichotomy i j with hij | hij | hij
  · exact absurd e (hp i j hi hj hij)
  · subst hij; rfl
  · exact absurd e.symm (hp j i hj hi hij)
theorem id_mem {v : VerV} (h : rightV v = true) {l : List MetaV} (hl : ∀ x ∈ l, x ∈ v.1) {m : MetaV} (hm : m ∈ v.1) : m.1 ∈ l.map (·.1) ↔ m ∈ l := by
  constructor
  · intro k
    obtain ⟨x, hx, e⟩ := List.mem_map.1 k
    rw [one_id h hm (hl x hx) e.symm]; exact hx
  · exact fun k => List.mem_map.2 ⟨m, k, rfl⟩
/-- The tables that have a number of some. -/
def ofIds (T : List MetaV) (ids : List Int) : List MetaV := T.filter fun x => decide (x.1 ∈ ids)
theorem of_ids {v : VerV} (h : rightV v = true) {l : List MetaV} (hl : ∀ x ∈ l, x ∈ v.1) (x : MetaV) : x ∈ ofIds v.1 (l.map (·.1)) ↔ x ∈ l := by
  unfold ofIds
  rw [List.mem_filter, decide_eq_true_eq]
  exact ⟨fun k => (id_mem h hl k.1).1 k.2, fun k => ⟨hl x k, (id_mem h hl (hl x k)).2 k⟩⟩
/-- What is told of a job. -/
structure JobOk (v : VerV) (n : Int) (I U : List Int) : Prop where
  lev : n = 0 ∨ n = 1 ∨ n = 2
  ne : I ≠ []
  nodup : (I ++ U).Nodup
  many : (v.1.filter fun m => decide (m.1 ∈ I ∨ m.1 ∈ U)).length = (I ++ U).length
  inL : ∀ m ∈ v.1, m.1 ∈ I → m.2.1 = n
  unL : ∀ m ∈ v.1, m.1 ∈ U → m.2.1 = n + 1
  met : ∀ m ∈ v.1, m.2.1 = n + 1 → (m.1 ∈ U ↔ meetsM m (ofIds v.1 I) = true)
  not : ∀ m ∈ v.1, m.2.1 = n + 1 → m.1 ∉ U → meetsM m (ofIds v.1 (I ++ U)) = false
/-- Whoever meets none of what goes down meets none of what lies under, either. -/
theorem not_all {v : VerV} (h : rightV v = true) {n : Int} (hn : n + 1 ≠ 0) {ins : List MetaV} {m : MetaV} (hm : m ∈ levelV v (n + 1)) (hx : meetsM m ins = false) : meetsM m (ins ++ underM v n ins) = false := by
  have hap : ∀ u ∈ levelV v (n + 1), u ≠ m → u.2.2.2.1 < m.2.2.1 ∨ m.2.2.2.1 < u.2.2.1 := by
    intro u hu hne
    have hp := level_apart h hn
    obtain ⟨i, hi, rfl⟩ := List.getElem_of_mem hu
    obtain ⟨j, hj, rfl⟩ := List.getElem_of_mem hm
    rcases Nat.lt_trichotomy i j with hij | hij | hij
    · exact .inl (List.pairwise_iff_getElem.1 hp i j hi hj hij)
    · subst hij; exact absurd rfl hne
    · exact .inr (List.pairwise_iff_getElem.1 hp j i hj hi hij)
  have hmm : ¬m.2.2.2.1 < m.2.2.1 := by
    obtain ⟨_, _, _, _, _, _, _, _, k, _⟩ := meta_of (level_meta h m hm); exact k
  have hnu : ∀ u ∈ underM v n ins, u ≠ m := fun u hu e => by
    subst e; rw [(under_mem.1 hu).2] at hx; cases hx
  cases hall : meetsM m (ins ++ underM v n ins) with
  | false => rfl
  | true =>
    exfalso
    obtain ⟨⟨x, hx1, hx2⟩, y, hy1, hy2⟩ := meets_iff.1 hall
    have hno : (∀ x ∈ ins, m.2.2.2.1 < x.2.2.1) ∨ ∀ y ∈ ins, y.2.2.2.1 < m.2.2.1 := by
      by_cases k1 : ∀ x ∈ ins, m.2.2.2.1 < x.2.2.1
      · exact .inl k1
      · refine .inr fun y hy => ?_
        by_cases k2 : y.2.2.2.1 < m.2.2.1
        · exact k2
        · exfalso
          have : meetsM m ins = true := by
            refine meets_iff.2 ⟨?_, y, hy, k2⟩
            by_cases k3 : ∃ x ∈ ins, ¬m.2.2.2.1 < x.2.2.1
            · exact k3
            · exact absurd (fun x hx => by
                by_cases k4 : m.2.2.2.1 < x.2.2.1
                · exact k4
                · exact absurd ⟨x, hx, k4⟩ k3) k1
          rw [this] at hx; cases hx
    rcases hno with hno | hno
    · -- all lie behind m
      rcases List.mem_append.1 hx1 with hx1 | hx1
      · exact hx2 (hno x hx1)
      · obtain ⟨⟨hu1, hu2⟩, hu3⟩ := under_mem.1 hx1
        rcases hap x (level_mem.2 ⟨hu1, hu2⟩) (hnu x hx1) with k | k
        · obtain ⟨⟨z, hz1, hz2⟩, _⟩ := meets_iff.1 hu3
          -- x.max < m.min <= m.max < z.min, but not x.max < z.min
          exact hz2 (List.lt_trans k (vle_lt hmm (hno z hz1)))
        · exact hx2 k
    · rcases List.mem_append.1 hy1 with hy1 | hy1
      · exact hy2 (hno y hy1)
      · obtain ⟨⟨hu1, hu2⟩, hu3⟩ := under_mem.1 hy1
        rcases hap y (level_mem.2 ⟨hu1, hu2⟩) (hnu y hy1) with k | k
        · exact hy2 k
        · obtain ⟨_, z, hz1, hz2⟩ := meets_iff.1 hu3
          exact hz2 (List.lt_trans (hno z hz1) (vle_lt hmm k))
theorem job_ok {v : VerV} (h : rightV v = true) {n : Int} {ins : List MetaV} (hc : chooseM v = some (n, ins)) : JobOk v n (ins.map (·.1)) ((underM v n ins).map (·.1)) := by
  obtain ⟨hl, hne, hsub⟩ := choose_of hc
  have hI : ∀ x ∈ ins, x ∈ v.1 ∧ x.2.1 = n := fun x hx => level_mem.1 (hsub.subset hx)
  have hIv : ∀ x ∈ ins, x ∈ v.1 := fun x hx => (hI x hx).1
  have hUv : ∀ x ∈ underM v n ins, x ∈ v.1 := fun x hx => (under_mem.1 hx).1.1
  have hAv : ∀ x ∈ ins ++ underM v n ins, x ∈ v.1 := fun x hx => (List.mem_append.1 hx).elim (hIv x) (hUv x)
  have hnt := right_nodupT h
  have hlv : ∀ k, ((levelV v k).map (·.1)).Nodup := fun k => List.Nodup.sublist ((List.filter_sublist).map _) hnt
  have hnd : (ins.map (·.1) ++ (underM v n ins).map (·.1)).Nodup := by
    refine List.nodup_append.2 ⟨List.Nodup.sublist (hsub.map _) (hlv n), List.Nodup.sublist ((List.filter_sublist).map _) (hlv (n + 1)), ?_⟩
    intro a ha b hb e
    obtain ⟨x, hx, rfl⟩ := List.mem_map.1 ha
    obtain ⟨y, hy, rfl⟩ := List.mem_map.1 hb
    have e2 := one_id h (hIv x hx) (hUv y hy) e
    have h1 := (hI x hx).2
    have h2 := (under_mem.1 hy).1.2
    rw [e2] at h1; omega
  refine ⟨hl, by simpa using hne, hnd, ?_, ?_, ?_, ?_, ?_⟩
  · have hp : ((v.1.filter fun m => decide (m.1 ∈ ins.map (·.1) ∨ m.1 ∈ (underM v n ins).map (·.1))).map (·.1)).Perm (ins.map (·.1) ++ (underM v n ins).map (·.1)) := by
      refine (List.perm_ext_iff_of_nodup (List.Nodup.sublist ((List.filter_sublist).map _) hnt) hnd).2 fun a => ?_
      constructor
      · intro ha
        obtain ⟨x, hx, rfl⟩ := List.mem_map.1 ha
        exact List.mem_append.2 (of_decide_eq_true (List.mem_filter.1 hx).2)
      · intro ha
        rw [← List.map_append] at ha
        obtain ⟨x, hx, rfl⟩ := List.mem_map.1 ha
        refine List.mem_map.2 ⟨x, List.mem_filter.2 ⟨hAv x hx, decide_eq_true ?_⟩, rfl⟩
        exact (List.mem_append.1 hx).imp (fun k => List.mem_map.2 ⟨x, k, rfl⟩) (fun k => List.mem_map.2 ⟨x, k, rfl⟩)
    have := hp.length_eq
    rwa [List.length_map] at this
  · exact fun m hm k => (hI m ((id_mem h hIv hm).1 k)).2
  · exact fun m hm k => (under_mem.1 ((id_mem h hUv hm).1 k)).1.2
  · intro m hm hlm
    rw [id_mem h hUv hm, under_mem, meets_same (of_ids h hIv)]
    exact ⟨fun k => k.2, fun k => ⟨⟨hm, hlm⟩, k⟩⟩
  · intro m hm hlm hnm
    rw [← List.map_append, meets_same (of_ids h hAv)]
    refine not_all h (by omega) (level_mem.2 ⟨hm, hlm⟩) ?_
    cases k : meetsM m ins with
    | false => rfl
    | true => exact absurd ((id_mem h hUv hm).2 (under_mem.2 ⟨⟨hm, hlm⟩, k⟩)) hnm
theorem pick_job {v : VerV} {j : JobV} (h : pickM v = some j) : rightV v = true ∧ JobOk v j.1 j.2.1 j.2.2.1 := by
  have hr := pick_right h
  refine ⟨hr, ?_⟩
  unfold pickM at h
  rw [if_pos hr] at h
  cases hc : chooseM v with
  | none => rw [hc] at h; cases h
  | some p =>
    obtain ⟨n, ins⟩ := p
    rw [hc] at h
    cases h
    exact job_ok hr hc

/-! The least and the greatest key of some tables, step by step. -/
abbrev SpanV := VTxt × VTxt × Bool
structure SpanP (ids : List Int) (L : List MetaV) (s : SpanV) : Prop where
  no : s.2.2 = false → (∀ x ∈ L, x.1 ∉ ids) ∧ s.1 = [] ∧ s.2.1 = []
  yes : s.2.2 = true → ((∃ x ∈ L, x.1 ∈ ids ∧ x.2.2.1 = s.1) ∧ ∀ x ∈ L, x.1 ∈ ids → ¬x.2.2.1 < s.1) ∧ (∃ y ∈ L, y.1 ∈ ids ∧ y.2.2.2.1 = s.2.1) ∧ ∀ y ∈ L, y.1 ∈ ids → ¬s.2.1 < y.2.2.2.1
theorem vle_trans {a b c : VTxt} (h : ¬b < a) (k : ¬c < b) : ¬c < a := fun e => by
  by_cases e1 : a = b
  · subst e1; exact k e
  · exact k (List.lt_trans e (vlt_tri (Ne.symm e1) h))
theorem span_nil (ids : List Int) : SpanP ids [] ([], [], false) := ⟨fun _ => ⟨fun _ h => (by cases h), rfl, rfl⟩, fun h => (by cases h)⟩
theorem span_skip {ids : List Int} {L : List MetaV} {s : SpanV} (h : SpanP ids L s) {x : MetaV} (hx : x.1 ∉ ids) : SpanP ids (L ++ [x]) s where
  no k := ⟨fun y hy => by
    rcases List.mem_append.1 hy with hy | hy
    · exact (h.no k).1 y hy
    · obtain rfl := List.mem_singleton.1 hy; exact hx, (h.no k).2⟩
  yes k := by
    obtain ⟨⟨⟨a, a1, a2, a3⟩, a4⟩, ⟨b, b1, b2, b3⟩, b4⟩ := h.yes k
    refine ⟨⟨⟨a, List.mem_append_left _ a1, a2, a3⟩, fun y hy hi => ?_⟩, ⟨b, List.mem_append_left _ b1, b2, b3⟩, fun y hy hi => ?_⟩
    · rcases List.mem_append.1 hy with hy | hy
      · exact a4 y hy hi
      · obtain rfl := List.mem_singleton.1 hy; exact absurd hi hx
    · rcases List.mem_append.1 hy with hy | hy
      · exact b4 y hy hi
      · obtain rfl := List.mem_singleton.1 hy; exact absurd hi hx
/-- One more: lo and hi are what is kept. -/
theorem span_take {ids : List Int} {L : List MetaV} {s : SpanV} (h : SpanP ids L s) {x : MetaV} (hx : x.1 ∈ ids) {lo hi : VTxt}
    (hlo : s.2.2 = true ∧ ¬x.2.2.1 < s.1 ∧ lo = s.1 ∨ (s.2.2 = false ∨ x.2.2.1 < s.1) ∧ lo = x.2.2.1) (hhi : ¬s.2.1 < x.2.2.2.1 ∧ hi = s.2.1 ∨ s.2.1 < x.2.2.2.1 ∧ hi = x.2.2.2.1) : SpanP ids (L ++ [x]) (lo, hi, true) where
  no k := by cases k
  yes _ := by
    have hxm : x ∈ L ++ [x] := List.mem_append_right _ (List.mem_singleton.2 rfl)
    refine ⟨⟨?_, fun y hy hi' => ?_⟩, ?_, fun y hy hi' => ?_⟩
    · rcases hlo with ⟨k1, k2, rfl⟩ | ⟨_, rfl⟩
      · obtain ⟨⟨⟨a, a1, a2, a3⟩, _⟩, _⟩ := h.yes k1; exact ⟨a, List.mem_append_left _ a1, a2, a3⟩
      · exact ⟨x, hxm, hx, rfl⟩
    · rcases List.mem_append.1 hy with hy | hy
      · rcases hlo with ⟨k1, k2, rfl⟩ | ⟨k1 | k1, rfl⟩
        · exact (h.yes k1).1.2 y hy hi'
        · exact absurd hi' ((h.no k1).1 y hy)
        · cases ha : s.2.2 with
          | false => exact absurd hi' ((h.no ha).1 y hy)
          | true => exact vle_trans (vlt_asymm k1) ((h.yes ha).1.2 y hy hi')
      · obtain rfl := List.mem_singleton.1 hy
        rcases hlo with ⟨k1, k2, rfl⟩ | ⟨_, rfl⟩
        · exact k2
        · exact List.lt_irrefl _
    · rcases hhi with ⟨k1, rfl⟩ | ⟨_, rfl⟩
      · cases ha : s.2.2 with
        | false =>
          have e := (h.no ha).2.2
          rw [e] at k1 ⊢
          refine ⟨x, hxm, hx, ?_⟩
          cases hm : x.2.2.2.1 with
          | nil => rfl
          | cons a b => rw [hm] at k1; exact absurd List.Lex.nil k1
        | true => obtain ⟨_, ⟨b, b1, b2, b3⟩, _⟩ := h.yes ha; exact ⟨b, List.mem_append_left _ b1, b2, b3⟩
      · exact ⟨x, hxm, hx, rfl⟩
    · rcases List.mem_append.1 hy with hy | hy
      · cases ha : s.2.2 with
        | false => exact absurd hi' ((h.no ha).1 y hy)
        | true =>
          have k := (h.yes ha).2.2 y hy hi'
          rcases hhi with ⟨_, rfl⟩ | ⟨k1, rfl⟩
          · exact k
          · exact vle_trans k (vlt_asymm k1)
      · obtain rfl := List.mem_singleton.1 hy
        rcases hhi with ⟨k1, rfl⟩ | ⟨_, rfl⟩
        · exact k1
        · exact List.lt_irrefl _
/-- What is asked at the end. -/
theorem span_meets {ids : List Int} {T : List MetaV} {s : SpanV} (h : SpanP ids T s) (m : MetaV) : meetsM m (ofIds T ids) = true ↔ s.2.2 = true ∧ ¬m.2.2.2.1 < s.1 ∧ ¬s.2.1 < m.2.2.1 := by
  rw [meets_iff]
  have hof : ∀ x, x ∈ ofIds T ids ↔ x ∈ T ∧ x.1 ∈ ids := fun x => by simp [ofIds]
  constructor
  · rintro ⟨⟨x, hx, kx⟩, y, hy, ky⟩
    obtain ⟨hx1, hx2⟩ := (hof x).1 hx
    obtain ⟨hy1, hy2⟩ := (hof y).1 hy
    cases ha : s.2.2 with
    | false => exact absurd hx2 ((h.no ha).1 x hx1)
    | true =>
      obtain ⟨⟨_, a4⟩, _, b4⟩ := h.yes ha
      exact ⟨rfl, vle_trans (a4 x hx1 hx2) kx, vle_trans ky (b4 y hy1 hy2)⟩
  · rintro ⟨ha, h1, h2⟩
    obtain ⟨⟨⟨a, a1, a2, a3⟩, _⟩, ⟨b, b1, b2, b3⟩, _⟩ := h.yes ha
    exact ⟨⟨a, (hof a).2 ⟨a1, a2⟩, a3 ▸ h1⟩, b, (hof b).2 ⟨b1, b2⟩, b3 ▸ h2⟩
end Go.Proofs.Pk

/- A version in a law's own box (layers 14, 16). -/
namespace Go.Proofs.Ytgcepbpdicadnaa
open Go.RowKit Go.Proofs Go.Proofs.Pk
set_option maxRecDepth 10000

/-- Since w nothing that stood was changed, and block g holds a version that reads as v. -/
structure VBox (w wx : World) (g : Nat) (ad : Option Addr) (len cap : Nat) (ad2 : Option Addr) (len2 cap2 : Nat) (v : VerV) : Prop where
  kept : Kept (fun _ => False) w wx
  box : Holds wx g [.slice ad len cap, .slice ad2 len2 cap2, .int .i64 v.2.2] 25
  ver : VerW wx ad len cap ad2 len2 cap2 v
theorem VBox.quiet {w wx w' : World} {g : Nat} {ad : Option Addr} {len cap : Nat} {ad2 : Option Addr} {len2 cap2 : Nat} {v : VerV} (h : VBox w wx g ad len cap ad2 len2 cap2 v) (k : Kept (fun _ => False) wx w') : VBox w w' g ad len cap ad2 len2 cap2 v :=
  ⟨h.kept.trans k (fun _ f => f.elim), h.box.of_block (k.block g h.box.lt (fun f => f)), h.ver.kept k⟩
theorem VBox.new {w wx : World} {ad : Option Addr} {len cap : Nat} {ad2 : Option Addr} {len2 cap2 : Nat} {v : VerV} (k : Kept (fun _ => False) w wx) (h : VerW wx ad len cap ad2 len2 cap2 v) :
    VBox w (wx.alloc (.cells #[.slice ad len cap, .slice ad2 len2 cap2, .int .i64 v.2.2] 25)) wx.heap.size ad len cap ad2 len2 cap2 v :=
  ⟨k.alloc _, Holds.new wx _ _, h.kept ((Kept.refl _ wx).alloc _)⟩
theorem VBox.cells {w wx : World} {g : Nat} {ad : Option Addr} {len cap : Nat} {ad2 : Option Addr} {len2 cap2 : Nat} {v : VerV} (h : VBox w wx g ad len cap ad2 len2 cap2 v) :
    wx.cell? ⟨g, 0, none⟩ = some (.slice ad len cap) ∧ wx.cell? ⟨g, 1, none⟩ = some (.slice ad2 len2 cap2) ∧ wx.cell? ⟨g, 2, none⟩ = some (.int .i64 v.2.2) := ⟨h.box.cell 0 _ rfl, h.box.cell 1 _ rfl, h.box.cell 2 _ rfl⟩

end Go.Proofs.Ytgcepbpdicadnaa
