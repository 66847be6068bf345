/- Layer 14's landed program: without, at tables' descriptions. -/
import Derived.Test.YtjdolimeibpacaaGreatVb14
import Derived.Test.YtjdolimeibpacaaGreatVt14
namespace Go.Proofs.YtjdolimeibpacaaGreat
open Go.RowKit Go.Proofs Go.Proofs.Pk
set_option maxRecDepth 10000

/-- What without answers, at tables' descriptions. -/
def WoM (w : World) (T : List MetaV) (d : List Int) (e : Ending) (w' : World) : Prop :=
  ∃ v n L, e = .returned (.tuple #[v, .bool (goneB (T.map (·.1)) d)]) ∧ L.length = n ∧ w'.ownsRow w.heap.size 45 5 v n (L.flatMap metaC) ∧ (goneB (T.map (·.1)) d = true → L = T.filter fun m => decide (m.1 ∉ d)) ∧ (∀ m ∈ L, FitMV m) ∧ Kept (fun _ => False) w w'
theorem idOf (m : MetaV) (w : World) : Calls Tryz.prog 33 #[.agg #[.int .i64 m.1, .int .i64 m.2.1, .string ⟨m.2.2.1.toArray⟩, .string ⟨m.2.2.2.1.toArray⟩, .int .i64 m.2.2.2.2]] w fun e w' => e = .returned (.int .i64 m.1) ∧ Kept (fun _ => False) w w' := by
  go_enter Tryz.func33, Tryz.ntmps33
  go_wp2
  go_ret
  exact ⟨rfl, (Kept.refl _ _).alloc _⟩

set_option maxHeartbeats 4000000 in
theorem withoutMetas (ad : Option Addr) (len cap : Nat) (T : List MetaV) (bd : Option Addr) (bl bc : Nat) (d : List Int) (w : World) (h : MetasW w ad len T) (hf : ∀ m ∈ T, FitMV m) (hlen : (len : Int) * 56 ≤ 140737488355328)
    (h2 : Ints w bd bl d) (hf2 : ∀ x ∈ d, FitV x) (hlen2 : (bl : Int) ≤ 140737488355328) :
    Calls Tryz.prog 32 #[.slice ad len cap, .slice bd bl bc, .func (.func 33) #[] #[]] w (WoM w T d) := by
  have hmm := @run_makeMap Tryz.prog
  obtain ⟨i0, hi, hz0, hz1, hz2⟩ := parts_of meta_info
  have HW := Lib.hid h
  have HF := Lib.hid hf
  have HL := Lib.hid h.1
  have HW2 := Lib.hid h2
  have HF2 := Lib.hid hf2
  have HL2 := Lib.hid h2.1
  obtain ⟨l, hlT⟩ : ∃ l, Hid (l = T.map (·.1)) := ⟨T.map (·.1), Lib.hid rfl⟩
  have HLl : Hid (l.length = len) := Lib.hid (by rw [hlT.out, List.length_map]; exact h.1)
  have HG : ∀ k (hk : k < T.length), ∃ hk' : k < l.length, l[k] = T[k].1 := fun k hk => by
    have e := hlT.out
    subst e
    exact ⟨by simpa using hk, by simp⟩
  have HGH := Lib.hid HG
  clear h hf h2 hf2 HG
  go_enter Tryz.func32, Tryz.ntmps32
  go_wp2
  go_loopw [23] (fun i wr => ∃ k : Nat, i = .int .i64 (k : Int) ∧ k ≤ len ∧ Hid (SetI wr w.heap.size k (onceI (l.take k)) ∧ Kept (fun _ => False) w wr)) (fun i _ => len - (intOf i).toNat)
  case atStart => exact ⟨0, rfl, Nat.zero_le _, Lib.hid ⟨by simpa [onceI] using SetI.made w, (Kept.refl _ _).alloc _⟩⟩
  case round =>
    obtain ⟨k, rfl, hk, hI⟩ := hrel
    have k0 : (0 : Int) ≤ (k : Int) := by omega
    have hwk : IntKind.i64.wrap ((k : Int) + 1) = (k : Int) + 1 := IntWalk.i64_in _ (by omega)
    by_cases hlt : k < len
    · have kN : (k : Int) < (len : Int) := by omega
      have hkl : k < T.length := by rw [HL.out]; exact hlt
      obtain ⟨hkl', hge⟩ := HGH.out k hkl
      obtain ⟨b, off, rfl, hbl, c0, c1, c2, c3, c4, _⟩ := MetasW.at (metas_kept HW.out hI.out.2) k hkl
      have hx := (HF.out T[k] (List.getElem_mem hkl)).1
      have hst : Hid (onceI (l.take (k + 1)) = addI (onceI (l.take k)) T[k].1) := Lib.hid (by rw [List.take_succ_eq_append_getElem hkl', onceI_snoc, hge])
      have HID : ∀ w, _ := fun w => idOf T[k] w
      clear hge
      generalize T[k] = m at c0 c1 c2 c3 c4 hx hst HID
      obtain ⟨x, lv, y, z, c⟩ := m
      simp only at c0 c1 c2 c3 c4 hx hst HID
      have HID2 := Lib.hid HID
      clear HID
      go_wp2_with fail
      refine (HID2.out _).mono ?_
      rintro e wx ⟨rfl, hkx⟩
      have hkw := ((Kept.refl (fun _ => False) wr).alloc (.cells #[.int .i64 x, .int .i64 lv, .string ⟨y.toArray⟩, .string ⟨z.toArray⟩, .int .i64 c] 45)).trans hkx (fun _ f => f.elim)
      have HS := Lib.hid (And.intro (hI.out.1.kept hkw (fun f => f)) (hI.out.2.trans hkw (fun _ f => f.elim)))
      clear hkw hkx hI c0 c1 c2 c3 c4
      go_wp2_with (at_mapUpdate; refine wpList_set_put rfl _ _ _ rfl w.heap.size k _ rfl HS.out.1 (by unfold maxLen; omega) x rfl rfl hx ?_)
      intro w1 hs1 hk1
      have HN := Lib.hid (And.intro hs1 (HS.out.2.trans hk1 (fun j hj => .inr (Nat.le_of_eq hj.symm))))
      clear hs1 hk1
      go_wp2
      go_roundw
      case rel => exact ⟨k + 1, by first | rfl | go_num, by omega, Lib.hid ⟨by rw [hst.out]; exact HN.out.1, HN.out.2⟩⟩
      case measure => simp [intOf]; omega
    · have kN : ¬(k : Int) < (len : Int) := by omega
      have HI : Hid (SetI wr w.heap.size k (onceI l) ∧ Kept (fun _ => False) w wr) := Lib.hid ⟨by have := hI.out.1; rwa [List.take_of_length_le (by rw [HLl.out]; omega)] at this, hI.out.2⟩
      clear hI
      go_wp2
      obtain ⟨wq, hwq⟩ : ∃ wq, wq = wr := ⟨_, rfl⟩
      rw [← hwq] at HI ⊢
      clear hwq
      go_loopw [35] (fun i wr => ∃ (j : Nat) (S : List Int), i = .int .i64 (j : Int) ∧ j ≤ bl ∧ Hid (SetI wr w.heap.size k S ∧ LeftI l d j S ∧ Kept (fun _ => False) w wr)) (fun i _ => bl - (intOf i).toNat)
      case atStart => exact ⟨0, onceI l, rfl, Nat.zero_le _, Lib.hid ⟨HI.out.1, LeftI.start l d, HI.out.2⟩⟩
      case round =>
        obtain ⟨j, S, rfl, hj, hI⟩ := hrel
        clear HI
        have j0 : (0 : Int) ≤ (j : Int) := by omega
        have hwj : IntKind.i64.wrap ((j : Int) + 1) = (j : Int) + 1 := IntWalk.i64_in _ (by omega)
        by_cases hlt2 : j < bl
        · have jN : (j : Int) < (bl : Int) := by omega
          have hjl : j < d.length := by rw [HL2.out]; exact hlt2
          obtain ⟨b, off, rfl, hbl, hc⟩ := ints_at (ints_keptV HW2.out hI.out.2.2) j hjl
          have hx := HF2.out d[j] (List.getElem_mem hjl)
          have HY := Lib.hid (hI.out.2.1.step hjl)
          have HB := Lib.hid (hI.out.2.1.bad hjl)
          generalize d[j] = x at hc hx HY HB
          by_cases hm : x ∈ S
          · have hmd : decide (x ∈ S) = true := decide_eq_true hm
            have HY2 := Lib.hid (HY.out hm)
            have HA := Lib.hid (hI.out.1.kept ((Kept.refl (fun _ => False) wr).alloc (.cells #[] 107)) (fun f => f))
            clear HY HB
            go_wp2_with (first | (at_lookup; refine wpList_set_has rfl _ _ rfl w.heap.size k S rfl hI.out.1 x rfl hx ?_; rw [hmd]) | (at_delete; refine wpList_set_del rfl _ _ rfl w.heap.size k S rfl HA.out x rfl hx ?_))
            intro w1 hs1 hk1
            have HN : Hid (SetI w1 w.heap.size k (S.erase x) ∧ LeftI l d (j + 1) (S.erase x) ∧ Kept (fun _ => False) w w1) := Lib.hid ⟨hs1, HY2.out, (hI.out.2.2.alloc _).trans hk1 (fun n hn => .inr (Nat.le_of_eq hn.symm))⟩
            clear hs1 hk1 hI HA HY2
            go_wp2
            go_roundw
            case rel => exact ⟨j + 1, _, by first | rfl | go_num, by omega, HN⟩
            case measure => simp [intOf]; omega
          · have hmd : decide (x ∈ S) = false := decide_eq_false hm
            have HB2 := Lib.hid (HB.out hm)
            have HE : Hid (∀ o, WoM w T d (.returned (.tuple #[.slice none 0 0, .bool false])) (wr.alloc o)) := Lib.hid (fun o => by
              have hg := HB2.out
              rw [hlT.out] at hg
              exact ⟨.slice none 0 0, 0, [], by rw [hg], rfl, World.ownsRow_nil _ _ _ _, fun h => (by rw [hg] at h; cases h), fun m hm => (by cases hm), hI.out.2.2.alloc _⟩)
            clear HY HB HB2
            go_wp2_with (first | (at_lookup; refine wpList_set_has rfl _ _ rfl w.heap.size k S rfl hI.out.1 x rfl hx ?_; rw [hmd]))
            go_ret2
            exact HE.out _
        · have jN : ¬(j : Int) < (bl : Int) := by omega
          have HD := Lib.hid (hI.out.2.1.done (by rw [HL2.out]; omega))
          have HI : Hid (SetI wr w.heap.size k S ∧ Kept (fun _ => False) w wr) := Lib.hid ⟨hI.out.1, hI.out.2.2⟩
          clear hI
          go_wp2
          obtain ⟨wq2, hwq2⟩ : ∃ wq, wq = wr := ⟨_, rfl⟩
          rw [← hwq2] at HI ⊢
          clear hwq2
          go_loopw [15, 52] (fun v i wr => ∃ (n : Nat) (L : List MetaV) (m : Nat), i = .int .i64 (n : Int) ∧ n ≤ len ∧ Hid (SetI wr w.heap.size k S ∧ L = (T.take n).filter (fun x => decide (x.1 ∈ S)) ∧ m = L.length ∧ wr.ownsRow w.heap.size 45 5 v m (L.flatMap metaC) ∧ Kept (fun _ => False) w wr)) (fun _ i _ => len - (intOf i).toNat)
          case atStart => exact ⟨0, [], 0, rfl, Nat.zero_le _, Lib.hid ⟨HI.out.1, by simp, rfl, World.ownsRow_nil _ _ _ _, HI.out.2⟩⟩
          case round =>
            obtain ⟨n, L, m, rfl, hn, hI⟩ := hrel
            clear HI
            have n0 : (0 : Int) ≤ (n : Int) := by omega
            have hwn : IntKind.i64.wrap ((n : Int) + 1) = (n : Int) + 1 := IntWalk.i64_in _ (by omega)
            by_cases hlt3 : n < len
            · have nN : (n : Int) < (len : Int) := by omega
              have hnl : n < T.length := by rw [HL.out]; exact hlt3
              obtain ⟨b, off, rfl, hbl, c0, c1, c2, c3, c4, _⟩ := MetasW.at (metas_kept HW.out hI.out.2.2.2.2) n hnl
              have hx := (HF.out T[n] (List.getElem_mem hnl)).1
              have HID : ∀ w, _ := fun w => idOf T[n] w
              have HT : Hid ((T.take (n + 1)).filter (fun x => decide (x.1 ∈ S)) = L ++ if T[n].1 ∈ S then [T[n]] else []) := Lib.hid (by
                rw [List.take_succ_eq_append_getElem hnl, List.filter_append, ← hI.out.2.1]
                congr 1
                by_cases hc : T[n].1 ∈ S <;> simp [hc])
              have hml : Hid (m ≤ n) := Lib.hid (by
                rw [hI.out.2.2.1, hI.out.2.1]
                exact Nat.le_trans (List.length_filter_le _ _) (by rw [List.length_take]; omega))
              generalize T[n] = mm at c0 c1 c2 c3 c4 hx HT HID
              obtain ⟨x, lv, y, z, c⟩ := mm
              simp only at c0 c1 c2 c3 c4 hx HT HID
              have HID2 := Lib.hid HID
              clear HID
              go_wp2_with fail
              refine (HID2.out _).mono ?_
              rintro e wx ⟨rfl, hkx⟩
              have hkw := ((Kept.refl (fun _ => False) wr).alloc (.cells #[.int .i64 x, .int .i64 lv, .string ⟨y.toArray⟩, .string ⟨z.toArray⟩, .int .i64 c] 45)).trans hkx (fun _ f => f.elim)
              have hbx : Holds wx wr.heap.size [.int .i64 x, .int .i64 lv, .string ⟨y.toArray⟩, .string ⟨z.toArray⟩, .int .i64 c] 45 := Holds.of_block (Holds.new wr _ _) (hkx.block _ (by simp) (fun f => f))
              have e0 := Holds.cell hbx 0 _ rfl
              have e1 := Holds.cell hbx 1 _ rfl
              have e2 := Holds.cell hbx 2 _ rfl
              have e3 := Holds.cell hbx 3 _ rfl
              have e4 := Holds.cell hbx 4 _ rfl
              have hlx : wr.heap.size < wx.heap.size := Holds.lt hbx
              have hnx : ¬wr.heap.size = wx.heap.size := by omega
              have HS : Hid (SetI wx w.heap.size k S ∧ wx.ownsRow w.heap.size 45 5 u15 m (L.flatMap metaC) ∧ Kept (fun _ => False) w wx) :=
                Lib.hid ⟨hI.out.1.kept hkw (fun f => f), owns_of_block hI.out.2.2.2.1 (fun g hg => hkw.block g (hI.out.2.2.2.1.lt g hg).2 (fun f => f)), hI.out.2.2.2.2.trans hkw (fun _ f => f.elim)⟩
              have HLm := Lib.hid (And.intro hI.out.2.1 hI.out.2.2.1)
              clear hkw hkx hI c0 c1 c2 c3 c4 hbx
              by_cases hm : x ∈ S
              · have hmd : decide (x ∈ S) = true := decide_eq_true hm
                have HT2 : Hid ((T.take (n + 1)).filter (fun x => decide (x.1 ∈ S)) = L ++ [(x, lv, y, z, c)]) := Lib.hid (by rw [HT.out, if_pos hm])
                clear HT
                have hNb := Lib.hid (Holds.new (wx.alloc (.cells #[] 107)) (metaC (x, lv, y, z, c)) 45)
                go_wp2_with (first | (at_lookup; refine wpList_set_has rfl _ _ rfl w.heap.size k S rfl HS.out.1 x rfl hx ?_; rw [hmd]) | (at_builtin; refine wpList_append_own _ rfl (.tmp 65) (.tmp 67) 22 rfl w.heap.size 45 i0 _ 5 56 Tryz.underlying22 hi hz0 hz1 hz2 rfl (by decide) _ m _ rfl ((HS.out.2.1.alloc _).alloc _) ⟨wx.heap.size + 1, 0, none⟩ 1 1 (metaC (x, lv, y, z, c)) rfl rfl ?d1 ?d2 ?d3 ?d4 ?d5 ?_))
                case d1 =>
                  intro q u hq
                  rw [add0]
                  have := hNb.out.cell q u hq
                  rwa [show (wx.alloc (.cells #[] 107)).heap.size = wx.heap.size + 1 from Array.size_push _] at this
                case d2 => exact meta_one _
                case d3 => have := hml.out; unfold maxLen; omega
                case d4 => have := hml.out; omega
                case d5 => have := HS.out.2.2.size; simp; omega
                intro v2 wB hown hgr _
                have hkB : Kept (fun k => u15.ownBlock = some k) wx wB := kept_grown (((Kept.refl _ wx).alloc _).alloc _) hgr (fun b hb => .inl hb)
                have hnp : ¬u15.ownBlock = some w.heap.size := own_ne_set HS.out.2.1 HS.out.1
                have HN : Hid (SetI wB w.heap.size k S ∧ L ++ [(x, lv, y, z, c)] = (T.take (n + 1)).filter (fun x => decide (x.1 ∈ S)) ∧ m + 1 = (L ++ [(x, lv, y, z, c)]).length ∧ wB.ownsRow w.heap.size 45 5 v2 (m + 1) ((L ++ [(x, lv, y, z, c)]).flatMap metaC) ∧ Kept (fun _ => False) w wB) :=
                  Lib.hid ⟨HS.out.1.kept hkB hnp, HT2.out.symm, by rw [List.length_append, ← HLm.out.2]; rfl, by rw [List.flatMap_append]; simpa using hown, HS.out.2.2.trans hkB (fun q hq => .inr (HS.out.2.1.lt q hq).1)⟩
                clear hown hgr hkB hnp HS HT2 hNb hml HLm e0 e1 e2 e3 e4
                go_wp2
                go_roundw
                case rel => exact ⟨n + 1, L ++ [(x, lv, y, z, c)], m + 1, by first | rfl | go_num, by omega, HN⟩
                case measure => simp [intOf]; omega
              · have hmd : decide (x ∈ S) = false := decide_eq_false hm
                have HN : ∀ o, Hid (SetI (wx.alloc o) w.heap.size k S ∧ L = (T.take (n + 1)).filter (fun x => decide (x.1 ∈ S)) ∧ m = L.length ∧ (wx.alloc o).ownsRow w.heap.size 45 5 u15 m (L.flatMap metaC) ∧ Kept (fun _ => False) w (wx.alloc o)) := fun o =>
                  Lib.hid ⟨HS.out.1.kept ((Kept.refl (fun _ => False) wx).alloc o) (fun f => f), by rw [HT.out, if_neg hm, List.append_nil], HLm.out.2, HS.out.2.1.alloc _, HS.out.2.2.alloc _⟩
                go_wp2_with (first | (at_lookup; refine wpList_set_has rfl _ _ rfl w.heap.size k S rfl HS.out.1 x rfl hx ?_; rw [hmd]))
                go_roundw
                case rel => exact ⟨n + 1, L, m, by first | rfl | go_num, by omega, HN _⟩
                case measure => simp [intOf]; omega
            · have nN : ¬(n : Int) < (len : Int) := by omega
              have HE : Hid (WoM w T d (.returned (.tuple #[u15, .bool true])) wr) := Lib.hid (by
                have hg := HD.out.1
                rw [hlT.out] at hg
                have hL : L = T.filter (fun x => decide (x.1 ∈ S)) := by rw [hI.out.2.1, List.take_of_length_le (by rw [HL.out]; omega)]
                refine ⟨u15, m, L, by rw [hg], hI.out.2.2.1.symm, hI.out.2.2.2.1, fun _ => ?_, fun q hq => ?_, hI.out.2.2.2.2⟩
                · rw [hL]
                  refine List.filter_congr fun x hx => ?_
                  rw [Bool.eq_iff_iff, decide_eq_true_eq, decide_eq_true_eq, HD.out.2]
                  refine ⟨fun h => h.2, fun h => ⟨?_, h⟩⟩
                  rw [hlT.out]
                  exact List.mem_map.2 ⟨x, hx, rfl⟩
                · rw [hL] at hq
                  exact HF.out q (List.mem_filter.1 hq).1)
              clear hI
              go_wp2
              go_ret2
              exact HE.out

end Go.Proofs.YtjdolimeibpacaaGreat
