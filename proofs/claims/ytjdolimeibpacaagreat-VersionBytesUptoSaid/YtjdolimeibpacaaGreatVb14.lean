/- Layer 14's landed program: without, at numbers. -/
import Derived.Test.YtjdolimeibpacaaGreatVa14
namespace Go.Proofs.YtjdolimeibpacaaGreat
open Go.RowKit Go.Proofs Go.Proofs.Pk
set_option maxRecDepth 10000

/-! Numbers that go. -/
theorem mem_onceI {l : List Int} {x : Int} : x ∈ onceI l ↔ x ∈ l := by
  have go : ∀ (l S : List Int), x ∈ l.foldl addI S ↔ x ∈ S ∨ x ∈ l := by
    intro l
    induction l with
    | nil => intro S; simp
    | cons a r ih =>
      intro S
      rw [List.foldl_cons, ih, mem_addI, List.mem_cons, or_assoc]
  simpa [onceI] using go l []
theorem nodup_onceI (l : List Int) : (onceI l).Nodup := by
  have go : ∀ (l S : List Int), S.Nodup → (l.foldl addI S).Nodup := by
    intro l
    induction l with
    | nil => intro S h; exact h
    | cons a r ih => intro S h; exact ih _ (addI_nodup h a)
  exact go l [] List.nodup_nil
/-- On the way: the first k numbers to go are there, each once; S is what is left. -/
structure LeftI (l d : List Int) (k : Nat) (S : List Int) : Prop where
  uniq : S.Nodup
  mem : ∀ x, x ∈ S ↔ x ∈ l ∧ x ∉ d.take k
  once : (d.take k).Nodup
  here : ∀ x ∈ d.take k, x ∈ l
theorem LeftI.start (l d : List Int) : LeftI l d 0 (onceI l) := ⟨nodup_onceI l, fun x => by simp [mem_onceI], by simp, by simp⟩
theorem LeftI.step {l d : List Int} {k : Nat} {S : List Int} (h : LeftI l d k S) (hk : k < d.length) (hm : d[k] ∈ S) : LeftI l d (k + 1) (S.erase d[k]) := by
  have hx := (h.mem _).1 hm
  refine ⟨h.uniq.erase _, fun x => ?_, ?_, ?_⟩
  · rw [h.uniq.mem_erase_iff, h.mem, List.take_succ_eq_append_getElem hk, List.mem_append, List.mem_singleton]
    constructor
    · rintro ⟨h1, h2, h3⟩
      exact ⟨h2, fun h => h.elim h3 h1⟩
    · rintro ⟨h1, h2⟩
      exact ⟨fun e => h2 (.inr e), h1, fun e => h2 (.inl e)⟩
  · rw [List.take_succ_eq_append_getElem hk, List.nodup_append]
    refine ⟨h.once, by simp, fun a ha b hb => ?_⟩
    rw [List.mem_singleton] at hb
    subst hb
    exact fun e => hx.2 (e ▸ ha)
  · intro x hxm
    rw [List.take_succ_eq_append_getElem hk, List.mem_append, List.mem_singleton] at hxm
    rcases hxm with h1 | h1
    · exact h.here x h1
    · rw [h1]; exact hx.1
theorem LeftI.bad {l d : List Int} {k : Nat} {S : List Int} (h : LeftI l d k S) (hk : k < d.length) (hm : d[k] ∉ S) : goneB l d = false := by
  cases hg : goneB l d with
  | false => rfl
  | true =>
    exfalso
    unfold goneB at hg
    simp only [Bool.and_eq_true, decide_eq_true_eq, List.all_eq_true] at hg
    refine hm ((h.mem _).2 ⟨hg.2 _ (List.getElem_mem hk), fun hc => ?_⟩)
    obtain ⟨i, hi, he⟩ := List.mem_iff_getElem.1 hc
    rw [List.length_take] at hi
    rw [List.getElem_take] at he
    exact List.pairwise_iff_getElem.1 hg.1 i k (by omega) hk (by omega) he
theorem LeftI.done {l d : List Int} {k : Nat} {S : List Int} (h : LeftI l d k S) (hk : d.length ≤ k) : goneB l d = true ∧ ∀ x, x ∈ S ↔ x ∈ l ∧ x ∉ d := by
  obtain ⟨_, h2, h3, h4⟩ := h
  rw [List.take_of_length_le hk] at h2 h3 h4
  refine ⟨?_, h2⟩
  unfold goneB
  simp only [Bool.and_eq_true, decide_eq_true_eq, List.all_eq_true]
  exact ⟨h3, h4⟩

theorem own_ne_set {w : World} {B b n m : Nat} {e : TypeId} {sz : Nat} {v : Value} {X : List Value} {S : List Int} (h : w.ownsRow B e sz v m X) (hs : SetI w b n S) : ¬v.ownBlock = some b := by
  intro hv
  obtain ⟨D, ⟨es, clock, h1, _⟩, _⟩ := hs
  rcases h.2 with ⟨k1, _⟩ | ⟨g, cap, cur, k1, _, k3, _⟩
  · rw [k1] at hv; cases hv
  · rw [k1] at hv
    injection hv with hv
    have hv' : g = b := hv
    rw [hv', h1] at k3
    cases k3

/-- What without answers. -/
def WoI (w : World) (l d : List Int) (e : Ending) (w' : World) : Prop :=
  ∃ v n L, e = .returned (.tuple #[v, .bool (goneB l d)]) ∧ L.length = n ∧ w'.ownsRow w.heap.size 3 1 v n (L.map intC) ∧ (goneB l d = true → L = l.filter fun x => decide (x ∉ d)) ∧ Kept (fun _ => False) w w'

set_option maxHeartbeats 4000000 in
theorem withoutInts (ad : Option Addr) (len cap : Nat) (l : List Int) (bd : Option Addr) (bl bc : Nat) (d : List Int) (w : World) (h : Ints w ad len l) (hf : ∀ x ∈ l, FitV x) (hlen : (len : Int) * 8 ≤ 140737488355328)
    (h2 : Ints w bd bl d) (hf2 : ∀ x ∈ d, FitV x) (hlen2 : (bl : Int) ≤ 140737488355328) :
    Calls Tryz.prog 34 #[.slice ad len cap, .slice bd bl bc, .func (.func 35) #[] #[]] w (WoI w l d) := by
  have hmm := @run_makeMap Tryz.prog
  obtain ⟨i0, hi, hz0, hz1, hz2⟩ := parts_of int_info
  have HW := Lib.hid h
  have HF := Lib.hid hf
  have HL := Lib.hid h.1
  have HW2 := Lib.hid h2
  have HF2 := Lib.hid hf2
  have HL2 := Lib.hid h2.1
  clear h hf h2 hf2
  have HID : ∀ (x : Int) w, Calls Tryz.prog 35 #[.int .i64 x] w fun e w' => e = .returned (.int .i64 x) ∧ w' = w := by
    intro x w
    go_enter Tryz.func35, Tryz.ntmps35
    go_wp2
    go_ret
    exact ⟨rfl, rfl⟩
  go_enter Tryz.func34, Tryz.ntmps34
  go_wp2
  go_loopw [23] (fun i wr => ∃ k : Nat, i = .int .i64 (k : Int) ∧ k ≤ len ∧ Hid (SetI wr w.heap.size k (onceI (l.take k)) ∧ Kept (fun _ => False) w wr)) (fun i _ => len - (intOf i).toNat)
  case atStart => exact ⟨0, rfl, Nat.zero_le _, Lib.hid ⟨by simpa [onceI] using SetI.made w, (Kept.refl _ _).alloc _⟩⟩
  case round =>
    obtain ⟨k, rfl, hk, hI⟩ := hrel
    have k0 : (0 : Int) ≤ (k : Int) := by omega
    have hwk : IntKind.i64.wrap ((k : Int) + 1) = (k : Int) + 1 := IntWalk.i64_in _ (by omega)
    by_cases hlt : k < len
    · have kN : (k : Int) < (len : Int) := by omega
      have hkl : k < l.length := by rw [HL.out]; exact hlt
      obtain ⟨b, off, rfl, hbl, hc⟩ := ints_at (ints_keptV HW.out hI.out.2) k hkl
      have hx := HF.out l[k] (List.getElem_mem hkl)
      have hst : Hid (onceI (l.take (k + 1)) = addI (onceI (l.take k)) l[k]) := Lib.hid (by rw [List.take_succ_eq_append_getElem hkl, onceI_snoc])
      generalize l[k] = x at hc hx hst
      go_wp2_with (first | (go_at_call 35; refine (HID x _).mono ?_; rintro e w' ⟨rfl, hw'⟩; rw [hw']; clear hw') | (at_mapUpdate; refine wpList_set_put rfl _ _ _ rfl w.heap.size k _ rfl hI.out.1 (by unfold maxLen; omega) x rfl rfl hx ?_))
      intro w1 hs1 hk1
      have HN := Lib.hid (And.intro hs1 (hI.out.2.trans hk1 (fun j hj => .inr (Nat.le_of_eq hj.symm))))
      clear hs1 hk1
      go_wp2
      go_roundw
      case rel => exact ⟨k + 1, by first | rfl | go_num, by omega, Lib.hid ⟨by rw [hst.out]; exact HN.out.1, HN.out.2⟩⟩
      case measure => simp [intOf]; omega
    · have kN : ¬(k : Int) < (len : Int) := by omega
      have HI : Hid (SetI wr w.heap.size k (onceI l) ∧ Kept (fun _ => False) w wr) := Lib.hid ⟨by have := hI.out.1; rwa [List.take_of_length_le (by rw [HL.out]; omega)] at this, hI.out.2⟩
      clear hI
      go_wp2
      obtain ⟨wq, hwq⟩ : ∃ wq, wq = wr := ⟨_, rfl⟩
      rw [← hwq] at HI ⊢
      clear hwq
      go_loopw [35] (fun i wr => ∃ (j : Nat) (S : List Int), i = .int .i64 (j : Int) ∧ j ≤ bl ∧ Hid (SetI wr w.heap.size k S ∧ LeftI l d j S ∧ Kept (fun _ => False) w wr)) (fun i _ => bl - (intOf i).toNat)
      case atStart => exact ⟨0, onceI l, rfl, Nat.zero_le _, Lib.hid ⟨HI.out.1, LeftI.start l d, HI.out.2⟩⟩
      case round =>
        obtain ⟨j, S, rfl, hj, hI⟩ := hrel
        clear HI
        have j0 : (0 : Int) ≤ (j : Int) := by omega
        have hwj : IntKind.i64.wrap ((j : Int) + 1) = (j : Int) + 1 := IntWalk.i64_in _ (by omega)
        by_cases hlt2 : j < bl
        · have jN : (j : Int) < (bl : Int) := by omega
          have hjl : j < d.length := by rw [HL2.out]; exact hlt2
          obtain ⟨b, off, rfl, hbl, hc⟩ := ints_at (ints_keptV HW2.out hI.out.2.2) j hjl
          have hx := HF2.out d[j] (List.getElem_mem hjl)
          have HY := Lib.hid (hI.out.2.1.step hjl)
          have HB := Lib.hid (hI.out.2.1.bad hjl)
          generalize d[j] = x at hc hx HY HB
          by_cases hm : x ∈ S
          · have hmd : decide (x ∈ S) = true := decide_eq_true hm
            have HY2 := Lib.hid (HY.out hm)
            have HA := Lib.hid (hI.out.1.kept ((Kept.refl (fun _ => False) wr).alloc (.cells #[] 107)) (fun f => f))
            clear HY HB
            go_wp2_with (first | (at_lookup; refine wpList_set_has rfl _ _ rfl w.heap.size k S rfl hI.out.1 x rfl hx ?_; rw [hmd]) | (at_delete; refine wpList_set_del rfl _ _ rfl w.heap.size k S rfl HA.out x rfl hx ?_))
            intro w1 hs1 hk1
            have HN : Hid (SetI w1 w.heap.size k (S.erase x) ∧ LeftI l d (j + 1) (S.erase x) ∧ Kept (fun _ => False) w w1) := Lib.hid ⟨hs1, HY2.out, (hI.out.2.2.alloc _).trans hk1 (fun n hn => .inr (Nat.le_of_eq hn.symm))⟩
            clear hs1 hk1 hI HA HY2
            go_wp2
            go_roundw
            case rel => exact ⟨j + 1, _, by first | rfl | go_num, by omega, HN⟩
            case measure => simp [intOf]; omega
          · have hmd : decide (x ∈ S) = false := decide_eq_false hm
            have HB2 := Lib.hid (HB.out hm)
            clear HY HB
            go_wp2_with (first | (at_lookup; refine wpList_set_has rfl _ _ rfl w.heap.size k S rfl hI.out.1 x rfl hx ?_; rw [hmd]))
            go_ret2
            exact ⟨.slice none 0 0, 0, [], by rw [HB2.out]; rfl, rfl, World.ownsRow_nil _ _ _ _, fun h => (by rw [HB2.out] at h; cases h), hI.out.2.2.alloc _⟩
        · have jN : ¬(j : Int) < (bl : Int) := by omega
          have HD := Lib.hid (hI.out.2.1.done (by rw [HL2.out]; omega))
          have HI : Hid (SetI wr w.heap.size k S ∧ Kept (fun _ => False) w wr) := Lib.hid ⟨hI.out.1, hI.out.2.2⟩
          clear hI
          go_wp2
          obtain ⟨wq2, hwq2⟩ : ∃ wq, wq = wr := ⟨_, rfl⟩
          rw [← hwq2] at HI ⊢
          clear hwq2
          go_loopw [15, 52] (fun v i wr => ∃ (n : Nat) (L : List Int) (m : Nat), i = .int .i64 (n : Int) ∧ n ≤ len ∧ Hid (SetI wr w.heap.size k S ∧ L = (l.take n).filter (fun x => decide (x ∈ S)) ∧ m = L.length ∧ wr.ownsRow w.heap.size 3 1 v m (L.map intC) ∧ Kept (fun _ => False) w wr)) (fun _ i _ => len - (intOf i).toNat)
          case atStart => exact ⟨0, [], 0, rfl, Nat.zero_le _, Lib.hid ⟨HI.out.1, by simp, rfl, World.ownsRow_nil _ _ _ _, HI.out.2⟩⟩
          case round =>
            obtain ⟨n, L, m, rfl, hn, hI⟩ := hrel
            clear HI
            have n0 : (0 : Int) ≤ (n : Int) := by omega
            have hwn : IntKind.i64.wrap ((n : Int) + 1) = (n : Int) + 1 := IntWalk.i64_in _ (by omega)
            by_cases hlt3 : n < len
            · have nN : (n : Int) < (len : Int) := by omega
              have hnl : n < l.length := by rw [HL.out]; exact hlt3
              obtain ⟨b, off, rfl, hbl, hc⟩ := ints_at (ints_keptV HW.out hI.out.2.2.2.2) n hnl
              have hx := HF.out l[n] (List.getElem_mem hnl)
              have HT : Hid ((l.take (n + 1)).filter (fun x => decide (x ∈ S)) = L ++ if l[n] ∈ S then [l[n]] else []) := Lib.hid (by
                rw [List.take_succ_eq_append_getElem hnl, List.filter_append, ← hI.out.2.1]
                congr 1
                by_cases hc : l[n] ∈ S <;> simp [hc])
              have hml : Hid (m ≤ n) := Lib.hid (by
                rw [hI.out.2.2.1, hI.out.2.1]
                exact Nat.le_trans (List.length_filter_le _ _) (by rw [List.length_take]; omega))
              generalize l[n] = x at hc hx HT
              have HA := Lib.hid (hI.out.1.kept ((Kept.refl (fun _ => False) wr).alloc (.cells #[] 107)) (fun f => f))
              by_cases hm : x ∈ S
              · have hmd : decide (x ∈ S) = true := decide_eq_true hm
                have HT2 : Hid ((l.take (n + 1)).filter (fun x => decide (x ∈ S)) = L ++ [x]) := Lib.hid (by rw [HT.out, if_pos hm])
                clear HT
                have hNb := Lib.hid (Holds.new (wr.alloc (.cells #[] 107)) [.int .i64 x] 3)
                go_wp2_with (first | (go_at_call 35; refine (HID x _).mono ?_; rintro e w' ⟨rfl, hw'⟩; rw [hw']; clear hw') | (at_lookup; refine wpList_set_has rfl _ _ rfl w.heap.size k S rfl hI.out.1 x rfl hx ?_; rw [hmd]) | (at_builtin; refine wpList_append_own _ rfl (.tmp 65) (.tmp 67) 23 rfl w.heap.size 3 i0 (.int .i64 0) 1 8 Tryz.underlying23 hi hz0 hz1 hz2 rfl (by decide) _ m _ rfl ((hI.out.2.2.2.1.alloc _).alloc _) ⟨wr.heap.size + 1, 0, none⟩ 1 1 [intC x] rfl rfl ?d1 ?d2 ?d3 ?d4 ?d5 ?_))
                case d1 =>
                  intro q u hq
                  rw [add0]
                  have := hNb.out.cell q u hq
                  rwa [show (wr.alloc (.cells #[] 107)).heap.size = wr.heap.size + 1 from Array.size_push _] at this
                case d2 => intro u hu; rw [List.mem_singleton] at hu; subst hu; rfl
                case d3 => have := hml.out; unfold maxLen; omega
                case d4 => have := hml.out; omega
                case d5 => have := hI.out.2.2.2.2.size; simp; omega
                intro v2 wB hown hgr _
                have hkB : Kept (fun k => u15.ownBlock = some k) wr wB := kept_grown (((Kept.refl _ wr).alloc _).alloc _) hgr (fun b hb => .inl hb)
                have hnp : ¬u15.ownBlock = some w.heap.size := own_ne_set hI.out.2.2.2.1 hI.out.1
                have HN : Hid (SetI wB w.heap.size k S ∧ L ++ [x] = (l.take (n + 1)).filter (fun x => decide (x ∈ S)) ∧ m + 1 = (L ++ [x]).length ∧ wB.ownsRow w.heap.size 3 1 v2 (m + 1) ((L ++ [x]).map intC) ∧ Kept (fun _ => False) w wB) :=
                  Lib.hid ⟨hI.out.1.kept hkB hnp, HT2.out.symm, by rw [List.length_append, ← hI.out.2.2.1]; rfl, by rw [List.map_append]; exact hown, hI.out.2.2.2.2.trans hkB (fun q hq => .inr (hI.out.2.2.2.1.lt q hq).1)⟩
                clear hown hgr hkB hnp hI HT2 hNb hml HA
                go_wp2
                go_roundw
                case rel => exact ⟨n + 1, L ++ [x], m + 1, by first | rfl | go_num, by omega, HN⟩
                case measure => simp [intOf]; omega
              · have hmd : decide (x ∈ S) = false := decide_eq_false hm
                have HN : ∀ o, Hid (SetI (wr.alloc o) w.heap.size k S ∧ L = (l.take (n + 1)).filter (fun x => decide (x ∈ S)) ∧ m = L.length ∧ (wr.alloc o).ownsRow w.heap.size 3 1 u15 m (L.map intC) ∧ Kept (fun _ => False) w (wr.alloc o)) := fun o =>
                  Lib.hid ⟨hI.out.1.kept ((Kept.refl (fun _ => False) wr).alloc o) (fun f => f), by rw [HT.out, if_neg hm, List.append_nil], hI.out.2.2.1, hI.out.2.2.2.1.alloc _, hI.out.2.2.2.2.alloc _⟩
                go_wp2_with (first | (go_at_call 35; refine (HID x _).mono ?_; rintro e w' ⟨rfl, hw'⟩; rw [hw']; clear hw') | (at_lookup; refine wpList_set_has rfl _ _ rfl w.heap.size k S rfl hI.out.1 x rfl hx ?_; rw [hmd]))
                go_roundw
                case rel => exact ⟨n + 1, L, m, by first | rfl | go_num, by omega, HN _⟩
                case measure => simp [intOf]; omega
            · have nN : ¬(n : Int) < (len : Int) := by omega
              have HE : Hid (WoI w l d (.returned (.tuple #[u15, .bool true])) wr) := Lib.hid (by
                refine ⟨u15, m, L, by rw [HD.out.1], hI.out.2.2.1.symm, hI.out.2.2.2.1, fun _ => ?_, hI.out.2.2.2.2⟩
                rw [hI.out.2.1, List.take_of_length_le (by rw [HL.out]; omega)]
                refine List.filter_congr fun x hx => ?_
                rw [Bool.eq_iff_iff, decide_eq_true_eq, decide_eq_true_eq, HD.out.2]
                exact ⟨fun h => h.2, fun h => ⟨hx, h⟩⟩)
              clear hI
              go_wp2
              go_ret2
              exact HE.out

end Go.Proofs.YtjdolimeibpacaaGreat
