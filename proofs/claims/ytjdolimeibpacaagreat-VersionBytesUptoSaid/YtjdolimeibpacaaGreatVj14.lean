/- Layer 14's landed program: a writer (a strings.Builder in a struct of one field); what number, text, numbers and table write. -/
import Derived.Test.YtjdolimeibpacaaGreatVi14
import Derived.Test.YtjdolimeibpacaaGreatShelf
import Derived.Test.YtjdolimeibpacaaGreatPackT
import Derived.Lib.FrozenHead
import Derived.Laws.Externs
namespace Go.Proofs.YtjdolimeibpacaaGreat
open Go.RowKit Go.Proofs Go.Proofs.Pk
set_option maxRecDepth 100000

theorem own_ne_box14 {w : World} {B n : Nat} {e e' : TypeId} {sz : Nat} {v : Value} {X C : List Value} {g : Nat} (h : w.ownsRow B e sz v n X) (h' : Holds w g C e') (hne : e ≠ e') : ¬v.ownBlock = some g := by
  intro hg
  rcases h.2 with ⟨k1, _⟩ | ⟨a, cap, cur, k1, _, k3, _⟩
  · rw [k1] at hg; cases hg
  · rw [k1] at hg
    injection hg with hg
    have ea : a = g := hg
    rw [ea, show w.heap[g]? = some (.cells C.toArray e') from h'] at k3
    injection k3 with k3
    injection k3 with _ j4
    exact hne j4.symm
/-- Block g is a writer that holds the bytes l. -/
def WrW (w : World) (B g : Nat) (l : VTxt) : Prop :=
  B ≤ g ∧ ∃ p v, (p = .pointer none ∨ p = .pointer (some ⟨g, 0, none⟩)) ∧ Holds w g [p, v] 55 ∧ w.ownsRow B 5 1 v l.length (Lib.byteCells l)
theorem WrW.lt {w : World} {B g : Nat} {l : VTxt} (h : WrW w B g l) : g < w.heap.size := by
  obtain ⟨_, p, v, _, hh, _⟩ := h
  exact Holds.lt hh
theorem WrW.kept {w w' : World} {B g : Nat} {l : VTxt} (h : WrW w B g l) (hk : Kept (fun _ => False) w w') : WrW w' B g l := by
  obtain ⟨hB, p, v, hp, hh, ho⟩ := h
  exact ⟨hB, p, v, hp, Holds.of_block hh (hk.block _ (Holds.lt hh) (fun f => f)), owns_of_block ho fun k hk2 => hk.block k (ho.lt k hk2).2 (fun f => f)⟩
/-- What a write may change: the writer's own block, and rows of bytes. -/
def WX (w : World) (B g : Nat) (k : Nat) : Prop := B ≤ k ∧ (k = g ∨ ∃ c fz, w.heap[k]? = some (.cells c 5 fz))
theorem wx_trans {a b c : World} {B g : Nat} (h : Kept (WX a B g) a b) (k : Kept (WX b B g) b c) : Kept (WX a B g) a c := h.trans k (fun n hn => by
  by_cases hx : WX a B g n
  · exact .inl hx
  · rcases Nat.lt_or_ge n a.heap.size with hlt | hge
    · refine .inl ⟨hn.1, hn.2.imp id ?_⟩
      rintro ⟨c, fz, hc⟩
      rw [h.block n hlt hx] at hc
      exact ⟨c, fz, hc⟩
    · exact .inr hge)
theorem wx_none {a b : World} {B g : Nat} (h : Kept (fun _ => False) a b) : Kept (WX a B g) a b := h.mono (fun _ f => f.elim)
theorem wx_holds {a b : World} {B g k : Nat} {C : List Value} {e : TypeId} (h : Kept (WX a B g) a b) (hh : Holds a k C e) (hg : k ≠ g) (he : e ≠ 5) : Holds b k C e := Holds.of_block hh (h.block k (Holds.lt hh) (fun hx => by
  rcases hx.2 with h1 | ⟨c, fz, h1⟩
  · exact hg h1
  · rw [show a.heap[k]? = some (.cells C.toArray e) from hh] at h1
    injection h1 with h1
    injection h1 with _ h2
    exact he h2))
theorem wx_own {a : World} {B g n : Nat} {v : Value} {X : List Value} (h : a.ownsRow B 5 1 v n X) : ∀ k, v.ownBlock = some k → WX a B g k := by
  intro k hk
  rcases h.2 with ⟨k1, _⟩ | ⟨q, cap, cur, k1, k2, k3, _⟩
  · rw [k1] at hk; cases hk
  · rw [k1] at hk
    injection hk with hk
    have e : q = k := hk
    rw [e] at k2 k3
    exact ⟨k2, .inr ⟨_, _, k3⟩⟩
theorem writer_lies : liesAt Tryz.prog Tryz.prog.depth 55 (2 / Tryz.prog.cellsOf 55) 0 53 1 = true := by kernel_rfl
theorem builder_info : (Tryz.prog.info? 53).map (·.size) = some 2 := by kernel_rfl
theorem byte_info : (Tryz.prog.info? 5).map (fun i => (i.zero, i.size, i.bytes)) = some (some (.int .u8 0), 1, 1) := by kernel_rfl

set_option maxHeartbeats 2000000 in
theorem copyUsed (g : Nat) (w : World) (h0 : w.cell? ⟨g, 0, none⟩ = some (.pointer (some ⟨g, 0, none⟩))) : Calls Tryz.prog 67 #[.pointer (some ⟨g, 0, none⟩)] w fun e w' => e = .returned (.tuple #[]) ∧ w' = w := by
  obtain ⟨j, hj, _⟩ := Option.map_eq_some_iff.1 builder_info
  go_enter Tryz.func67, Tryz.ntmps67
  go_wp2
  rw [Lib.run_neq_ptr_same w _ Tryz.underlying50 hj]
  go_wp2
  go_end0
  exact ⟨rfl, rfl⟩
set_option maxHeartbeats 2000000 in
theorem copyFresh (g : Nat) (w : World) (h0 : w.cell? ⟨g, 0, none⟩ = some (.pointer none)) (hsh : w.shape? g = some (55, 2)) (hfz : w.frozen? ⟨g, 0, none⟩ = false) :
    Calls Tryz.prog 67 #[.pointer (some ⟨g, 0, none⟩)] w fun e w' => e = .returned (.tuple #[]) ∧ w' = w.setCell ⟨g, 0, none⟩ (.pointer (some ⟨g, 0, none⟩)) := by
  obtain ⟨j, hj, hjs⟩ := Option.map_eq_some_iff.1 builder_info
  go_enter Tryz.func67, Tryz.ntmps67
  go_wp2
  rw [Lib.run_to_unsafe w ⟨g, 0, none⟩ Tryz.underlying50 Tryz.underlying141 hj (by rw [hjs]; decide) hsh (Nat.zero_lt_succ 1)]
  simp only [Result.andThen]
  rw [Oper.upon_value]
  go_wp2
  rw [run_callFunc_extern Tryz.func92 (by kernel_rfl) (by kernel_rfl) (by kernel_rfl) (e := Extern.AbiNoEscape.same) (by kernel_rfl)]
  rw [Lib.run_noEscape]
  simp only [Result.andThen]
  rw [Oper.upon_value]
  go_wp2
  rw [Lib.run_from_unsafe w ⟨g, 0, none⟩ Tryz.underlying141 Tryz.underlying50 hj hsh writer_lies]
  simp only [Result.andThen]
  rw [Oper.upon_value]
  go_wp2
  go_end0
  exact ⟨rfl, rfl⟩

set_option maxHeartbeats 4000000 in
/-- WriteString into a writer. -/
theorem writeS (B g : Nat) (l s : VTxt) (w : World) (h : WrW w B g l) (hlen : l.length + s.length ≤ 140737488355328) (hBw : B ≤ w.heap.size) :
    Calls Tryz.prog 50 #[.pointer (some ⟨g, 0, none⟩), .string ⟨s.toArray⟩] w fun e w' => e = .returned (.tuple #[.int .i64 (s.length : Int), .nilIface]) ∧ WrW w' B g (l ++ s) ∧ Kept (WX w B g) w w' := by
  obtain ⟨i0, hi, hz0, hz1, hz2⟩ := parts_of byte_info
  obtain ⟨hB, p, v, hp, hh, ho⟩ := h
  have hCC : Calls Tryz.prog 67 #[.pointer (some ⟨g, 0, none⟩)] w fun e w' => e = .returned (.tuple #[]) ∧ Holds w' g [.pointer (some ⟨g, 0, none⟩), v] 55 ∧ w'.ownsRow B 5 1 v l.length (Lib.byteCells l) ∧ Kept (WX w B g) w w' := by
    have c0 := Holds.cell hh 0 _ rfl
    rcases hp with rfl | rfl
    · refine (copyFresh g w c0 (by unfold World.shape?; rw [show w.heap[g]? = _ from hh]; rfl) (Holds.free hh 0)).mono ?_
      rintro e w' ⟨rfl, rfl⟩
      have hk : Kept (fun k => k = g) w (w.setCell ⟨g, 0, none⟩ (.pointer (some ⟨g, 0, none⟩))) := (Kept.refl (fun k => k = g) w).setCell (p := ⟨g, 0, none⟩) rfl _
      exact ⟨rfl, Holds.set hh 0 _, owns_of_block ho fun k hk2 => hk.block k (ho.lt k hk2).2 (fun e => own_ne_box14 ho hh (by decide) (by rw [hk2, e])), hk.mono (fun k e => ⟨by rw [e]; exact hB, .inl e⟩)⟩
    · refine (copyUsed g w c0).mono ?_
      rintro e w' ⟨rfl, rfl⟩
      exact ⟨rfl, hh, ho, Kept.refl _ _⟩
  clear hh ho hp
  go_enter Tryz.func50, Tryz.ntmps50
  go_wp2_with fail
  refine hCC.mono ?_
  clear hCC
  rintro e w1 ⟨rfl, hh, ho, hk⟩
  have c1 := Holds.cell hh 1 _ rfl
  have HH := Lib.hid (And.intro hh (And.intro ho hk))
  clear hh ho hk
  go_wp2_with (at_builtin; refine Lib.wpList_append_own_string _ rfl _ _ _ _ rfl B 5 i0 Tryz.underlying51 Tryz.underlying9 hi hz0 hz1 hz2 _ _ _ rfl HH.out.2.1 ⟨s.toArray⟩ rfl ?c3 ?c4 ?c5 ?_)
  case c3 => show _ + s.length ≤ _; unfold maxLen; omega
  case c4 => show _ + s.length ≤ _; omega
  case c5 => have := HH.out.2.2.size; omega
  intro v2 w2 ho2 hgr _
  have hx : ∃ a n p, v2 = .slice a n p := by
    rcases ho2.2 with ⟨k1, _⟩ | ⟨a, cap, cur, k1, _⟩
    · exact ⟨_, _, _, k1⟩
    · exact ⟨_, _, _, k1⟩
  obtain ⟨a2, n2, p2, rfl⟩ := hx
  have hk2 : Kept (fun k => v.ownBlock = some k) w1 w2 := kept_grown (Kept.refl _ w1) hgr (fun b hb => .inl hb)
  have hh2 : Holds w2 g [.pointer (some ⟨g, 0, none⟩), v] 55 := Holds.of_block HH.out.1 (hk2.block _ (Holds.lt HH.out.1) (own_ne_box14 HH.out.2.1 HH.out.1 (by decide)))
  have hkB : Kept (WX w B g) w w2 := wx_trans HH.out.2.2 (hk2.mono (wx_own HH.out.2.1))
  have d1 := Holds.cell hh2 1 _ rfl
  have f1 := Holds.free hh2 1
  have hks : Kept (fun k => k = g) w2 (w2.setCell ⟨g, 1, none⟩ (.slice a2 n2 p2)) := (Kept.refl (fun k => k = g) w2).setCell (p := ⟨g, 1, none⟩) rfl _
  have HN : Hid (WrW (w2.setCell ⟨g, 1, none⟩ (.slice a2 n2 p2)) B g (l ++ s) ∧ Kept (WX w B g) w (w2.setCell ⟨g, 1, none⟩ (.slice a2 n2 p2))) := Lib.hid (by
    refine ⟨⟨hB, .pointer (some ⟨g, 0, none⟩), .slice a2 n2 p2, .inr rfl, Holds.set hh2 1 _, ?_⟩, wx_trans hkB (hks.mono (fun k hk => ⟨by rw [hk]; exact hB, .inl hk⟩))⟩
    rw [List.length_append, Lib.byteCells_append]
    exact owns_of_block ho2 fun k hk => hks.block k (ho2.lt k hk).2 (fun e => own_ne_box14 ho2 hh2 (by decide) (by rw [hk, e])))
  clear ho2 hgr hk2 hh2 hkB hks HH c1
  go_wp2
  go_ret2
  exact ⟨rfl, HN.out⟩

theorem wNum (B g : Nat) (l : VTxt) (n : Nat) (w : World) (h : WrW w B g l) (hn : n ≤ MaxN) (hlen : l.length + 8 ≤ 140737488355328) (hBw : B ≤ w.heap.size) :
    Calls Tryz.prog 15 #[.pointer (some ⟨g, 0, none⟩), .int .i64 (n : Int)] w fun e w' => e = .returned (.tuple #[]) ∧ WrW w' B g (l ++ numL n) ∧ Kept (WX w B g) w w' := by
  have HN := Lib.hid (pNum_ok n w hn)
  have HL := Lib.hid (numL_len_le n)
  have H := Lib.hid h
  clear h
  go_enter Tryz.func15, Tryz.ntmps15
  go_wp2_with fail
  refine HN.out.mono ?_
  clear HN
  rintro e w1 ⟨rfl, hb⟩
  have hk := Kept.of_below (fun _ => False) hb
  have HS := Lib.hid (writeS B g l (numL n) w1 (H.out.kept hk) (by have := HL.out; omega) (by have := hk.size; omega))
  have HK := Lib.hid hk
  clear hb hk H
  go_wp2_with fail
  refine HS.out.mono ?_
  clear HS
  rintro e w2 ⟨rfl, hw, hk⟩
  have HE := Lib.hid (And.intro hw (wx_trans (wx_none HK.out) hk))
  clear hw hk HK
  go_wp2
  exact ⟨rfl, _, (by kernel_rfl), rfl, HE.out⟩

theorem wTxt (B g : Nat) (l s : VTxt) (w : World) (h : WrW w B g l) (hs : (s.length : Int) ≤ 1048576) (hlen : l.length + 8 + s.length ≤ 140737488355328) (hBw : B ≤ w.heap.size) :
    Calls Tryz.prog 51 #[.pointer (some ⟨g, 0, none⟩), .string ⟨s.toArray⟩] w fun e w' => e = .returned (.tuple #[]) ∧ WrW w' B g (l ++ txtL s) ∧ Kept (WX w B g) w w' := by
  have HN := Lib.hid (pText_ok s w hs)
  have HL := Lib.hid (txtL_le s)
  have H := Lib.hid h
  clear h
  go_enter Tryz.func51, Tryz.ntmps51
  go_wp2_with fail
  refine HN.out.mono ?_
  clear HN
  rintro e w1 ⟨rfl, hb⟩
  have hk := Kept.of_below (fun _ => False) hb
  have HS := Lib.hid (writeS B g l (txtL s) w1 (H.out.kept hk) (by have := HL.out; omega) (by have := hk.size; omega))
  have HK := Lib.hid hk
  clear hb hk H
  go_wp2_with fail
  refine HS.out.mono ?_
  clear HS
  rintro e w2 ⟨rfl, hw, hk⟩
  have HE := Lib.hid (And.intro hw (wx_trans (wx_none HK.out) hk))
  clear hw hk HK
  go_wp2
  exact ⟨rfl, _, (by kernel_rfl), rfl, HE.out⟩

theorem WrW.keptX {w w' : World} {B g : Nat} {l : VTxt} {X : Nat → Prop} (h : WrW w B g l) (hk : Kept X w w') (hx : ∀ k, X k → k < B) : WrW w' B g l := by
  obtain ⟨hB, p, v, hp, hh, ho⟩ := h
  exact ⟨hB, p, v, hp, Holds.of_block hh (hk.block _ (Holds.lt hh) (fun f => by have := hx _ f; omega)), owns_of_block ho fun k hk2 => hk.block k (ho.lt k hk2).2 (fun f => by have := hx _ f; have := (ho.lt k hk2).1; omega)⟩

set_option maxHeartbeats 4000000 in
theorem wNums (B g : Nat) (out : VTxt) (ad : Option Addr) (len cap : Nat) (l : List Int) (w : World) (h : WrW w B g out) (hi : Ints w ad len l) (hok : ∀ x ∈ l, 0 ≤ x ∧ x ≤ 9007199254740991) (hl : len ≤ 200) (hout : out.length ≤ 1000000) (hBw : B ≤ w.heap.size) (hoff : l = [] ∨ IntsOff (fun k => B ≤ k) ad) :
    Calls Tryz.prog 17 #[.pointer (some ⟨g, 0, none⟩), .slice ad len cap] w fun e w' => e = .returned (.tuple #[]) ∧ WrW w' B g (out ++ rowE l) ∧ Kept (WX w B g) w w' := by
  have HI := Lib.hid hi
  have HL := Lib.hid hi.1
  have HOK := Lib.hid hok
  have HOF := Lib.hid hoff
  have HN := Lib.hid (wNum B g out len w h (by unfold MaxN; omega) (by omega) hBw)
  have hn0 := numL_len_le len
  have HF : Hid (∀ k, ((l.take k).flatMap fun n => numL n.toNat).length ≤ k * 8) := Lib.hid (by
    intro k
    have go : ∀ l : List Int, (l.flatMap fun n => numL n.toNat).length ≤ l.length * 8 := by
      intro l
      induction l with
      | nil => simp
      | cons a r ih =>
        rw [List.flatMap_cons, List.length_append, List.length_cons]
        have := numL_len_le a.toNat
        omega
    have := go (l.take k)
    have : (l.take k).length ≤ k := by rw [List.length_take]; omega
    omega)
  obtain ⟨tot, htot⟩ : ∃ t, Hid (t = out ++ rowE l) := ⟨_, Lib.hid rfl⟩
  rw [← htot.out]
  clear h hi hok hoff
  go_enter Tryz.func17, Tryz.ntmps17
  go_wp2_with fail
  refine HN.out.mono ?_
  clear HN
  rintro e w1 ⟨rfl, hw, hk⟩
  have HS : Hid (WrW w1 B g (out ++ numL len ++ ((l.take 0).flatMap fun n => numL n.toNat)) ∧ Kept (WX w B g) w w1) := Lib.hid ⟨by simpa using hw, hk⟩
  clear hw hk
  go_wp2
  obtain ⟨wq, hwq⟩ : ∃ wq, wq = w1 := ⟨_, rfl⟩
  rw [← hwq] at HS ⊢
  clear hwq
  go_loopw [12] (fun i wr => ∃ k : Nat, i = .int .i64 (k : Int) ∧ k ≤ len ∧ Hid (WrW wr B g (out ++ numL len ++ ((l.take k).flatMap fun n => numL n.toNat)) ∧ Kept (WX w B g) w wr)) (fun i _ => len - (intOf i).toNat)
  case atStart => exact ⟨0, rfl, Nat.zero_le _, HS⟩
  case round =>
    obtain ⟨k, rfl, hk, hI⟩ := hrel
    clear HS
    have k0 : (0 : Int) ≤ (k : Int) := by omega
    have hwk : IntKind.i64.wrap ((k : Int) + 1) = (k : Int) + 1 := IntWalk.i64_in _ (by omega)
    by_cases hlt : k < len
    · have kN : (k : Int) < (len : Int) := by omega
      have hkl : k < l.length := by rw [HL.out]; exact hlt
      obtain ⟨b, off, rfl, hbl, hc⟩ := ints_at (HI.out.kept hI.out.2 (HOF.out.imp id (fun h b off hb hx => h b off hb hx.1))) k hkl
      have hx := HOK.out l[k] (List.getElem_mem hkl)
      have hst : Hid (((l.take (k + 1)).flatMap fun n => numL n.toNat) = ((l.take k).flatMap fun n => numL n.toNat) ++ numL l[k].toNat) := Lib.hid (by rw [List.take_succ_eq_append_getElem hkl, List.flatMap_append]; simp)
      generalize l[k] = x at hc hx hst
      obtain ⟨n, rfl⟩ := Int.eq_ofNat_of_zero_le hx.1
      have hszk := hI.out.2.size
      have HC := Lib.hid (wNum B g _ n wr hI.out.1 (by unfold MaxN; omega) (by have := HF.out k; simp only [List.length_append]; omega) (by omega))
      go_wp2_with fail
      refine HC.out.mono ?_
      clear HC
      rintro e w2 ⟨rfl, hw, hk2⟩
      have HN : Hid (WrW w2 B g (out ++ numL len ++ ((l.take (k + 1)).flatMap fun n => numL n.toNat)) ∧ Kept (WX w B g) w w2) := Lib.hid ⟨by rw [hst.out, ← List.append_assoc]; exact hw, wx_trans hI.out.2 hk2⟩
      clear hw hk2 hI hst
      go_wp2
      go_roundw
      case rel => exact ⟨k + 1, by first | rfl | go_num, by omega, HN⟩
      case measure => simp [intOf]; omega
    · have kN : ¬(k : Int) < (len : Int) := by omega
      have HE : Hid (WrW wr B g tot ∧ Kept (WX w B g) w wr) := Lib.hid ⟨by
        have := hI.out.1
        rw [List.take_of_length_le (by rw [HL.out]; omega)] at this
        rw [htot.out]
        unfold rowE
        rw [HL.out, ← List.append_assoc]
        exact this, hI.out.2⟩
      clear hI
      go_wp2
      exact ⟨rfl, _, (by kernel_rfl), rfl, HE.out⟩

set_option maxHeartbeats 4000000 in
theorem wTable (B g : Nat) (out : VTxt) (m : MetaV) (w : World) (h : WrW w B g out) (hok : metaOk m = true) (hout : out.length ≤ 1000000) (hBw : B ≤ w.heap.size) :
    Calls Tryz.prog 16 #[.pointer (some ⟨g, 0, none⟩), .agg (metaC m).toArray] w fun e w' => e = .returned (.tuple #[]) ∧ WrW w' B g (out ++ metaB m) ∧ Kept (WX w B g) w w' := by
  obtain ⟨h1, h2, h3, h4, h5, h6, h7, h8, _, h9, h10⟩ := meta_of hok
  obtain ⟨id, lv, x, y, c⟩ := m
  simp only at h1 h2 h3 h4 h6 h8 h9 h10
  obtain ⟨a, rfl⟩ := Int.eq_ofNat_of_zero_le (show 0 ≤ id by omega)
  obtain ⟨b, rfl⟩ := Int.eq_ofNat_of_zero_le h3
  obtain ⟨z, rfl⟩ := Int.eq_ofNat_of_zero_le (show 0 ≤ c by omega)
  show Calls Tryz.prog 16 #[.pointer (some ⟨g, 0, none⟩), .agg #[.int .i64 (a : Int), .int .i64 (b : Int), .string ⟨x.toArray⟩, .string ⟨y.toArray⟩, .int .i64 (z : Int)]] w _
  have na := numL_len_le a
  have nbb := numL_len_le b
  have nz := numL_len_le z
  have tx := txtL_le x
  have ty := txtL_le y
  obtain ⟨tot, htot⟩ : ∃ t, Hid (t = out ++ metaB ((a : Int), (b : Int), x, y, (z : Int))) := ⟨_, Lib.hid rfl⟩
  rw [← htot.out]
  have hk0 := (Kept.refl (fun _ => False) w).alloc (.cells #[.int .i64 (a : Int), .int .i64 (b : Int), .string ⟨x.toArray⟩, .string ⟨y.toArray⟩, .int .i64 (z : Int)] 45)
  have hb0 : Holds (w.alloc (.cells #[.int .i64 (a : Int), .int .i64 (b : Int), .string ⟨x.toArray⟩, .string ⟨y.toArray⟩, .int .i64 (z : Int)] 45)) w.heap.size [.int .i64 (a : Int), .int .i64 (b : Int), .string ⟨x.toArray⟩, .string ⟨y.toArray⟩, .int .i64 (z : Int)] 45 := Holds.new w _ _
  have HG := Lib.hid h.lt
  have H0 := Lib.hid (And.intro (h.kept hk0) (And.intro hb0 hk0))
  have HX := Lib.hid (And.intro h6 h8)
  clear hk0 hb0 h
  go_enter Tryz.func16, Tryz.ntmps16
  have c0 := Holds.cell H0.out.2.1 0 _ rfl
  have HC0 := Lib.hid (wNum B g (out) a (w.alloc (.cells #[.int .i64 (a : Int), .int .i64 (b : Int), .string ⟨x.toArray⟩, .string ⟨y.toArray⟩, .int .i64 (z : Int)] 45)) H0.out.1 (by unfold MaxN; omega) (by first | omega | (simp only [List.length_append]; omega)) (by have := H0.out.2.2.size; omega))
  go_wp2_with fail
  refine HC0.out.mono ?_
  clear HC0 c0
  rintro e w1 ⟨rfl, hw, hk⟩
  have hgn : w.heap.size ≠ g := fun e => by have := HG.out; omega
  have H1 : Hid (WrW w1 B g (out ++ numL a) ∧ Holds w1 w.heap.size [.int .i64 (a : Int), .int .i64 (b : Int), .string ⟨x.toArray⟩, .string ⟨y.toArray⟩, .int .i64 (z : Int)] 45 ∧ Kept (WX w B g) w w1) := Lib.hid ⟨hw, wx_holds hk H0.out.2.1 hgn (by decide), wx_trans (wx_none H0.out.2.2) hk⟩
  clear hw hk hgn H0
  have c1 := Holds.cell H1.out.2.1 1 _ rfl
  have HC1 := Lib.hid (wNum B g (out ++ numL a) b w1 H1.out.1 (by unfold MaxN; omega) (by first | omega | (simp only [List.length_append]; omega)) (by have := H1.out.2.2.size; omega))
  go_wp2_with fail
  refine HC1.out.mono ?_
  clear HC1 c1
  rintro e w2 ⟨rfl, hw, hk⟩
  have hgn : w.heap.size ≠ g := fun e => by have := HG.out; omega
  have H2 : Hid (WrW w2 B g (out ++ numL a ++ numL b) ∧ Holds w2 w.heap.size [.int .i64 (a : Int), .int .i64 (b : Int), .string ⟨x.toArray⟩, .string ⟨y.toArray⟩, .int .i64 (z : Int)] 45 ∧ Kept (WX w B g) w w2) := Lib.hid ⟨hw, wx_holds hk H1.out.2.1 hgn (by decide), wx_trans H1.out.2.2 hk⟩
  clear hw hk hgn H1
  have c2 := Holds.cell H2.out.2.1 2 _ rfl
  have HC2 := Lib.hid (wTxt B g (out ++ numL a ++ numL b) x w2 H2.out.1 (by have := HX.out; omega) (by have := HX.out; first | omega | (simp only [List.length_append]; omega)) (by have := H2.out.2.2.size; omega))
  go_wp2_with fail
  refine HC2.out.mono ?_
  clear HC2 c2
  rintro e w3 ⟨rfl, hw, hk⟩
  have hgn : w.heap.size ≠ g := fun e => by have := HG.out; omega
  have H3 : Hid (WrW w3 B g (out ++ numL a ++ numL b ++ txtL x) ∧ Holds w3 w.heap.size [.int .i64 (a : Int), .int .i64 (b : Int), .string ⟨x.toArray⟩, .string ⟨y.toArray⟩, .int .i64 (z : Int)] 45 ∧ Kept (WX w B g) w w3) := Lib.hid ⟨hw, wx_holds hk H2.out.2.1 hgn (by decide), wx_trans H2.out.2.2 hk⟩
  clear hw hk hgn H2
  have c3 := Holds.cell H3.out.2.1 3 _ rfl
  have HC3 := Lib.hid (wTxt B g (out ++ numL a ++ numL b ++ txtL x) y w3 H3.out.1 (by have := HX.out; omega) (by have := HX.out; first | omega | (simp only [List.length_append]; omega)) (by have := H3.out.2.2.size; omega))
  go_wp2_with fail
  refine HC3.out.mono ?_
  clear HC3 c3
  rintro e w4 ⟨rfl, hw, hk⟩
  have hgn : w.heap.size ≠ g := fun e => by have := HG.out; omega
  have H4 : Hid (WrW w4 B g (out ++ numL a ++ numL b ++ txtL x ++ txtL y) ∧ Holds w4 w.heap.size [.int .i64 (a : Int), .int .i64 (b : Int), .string ⟨x.toArray⟩, .string ⟨y.toArray⟩, .int .i64 (z : Int)] 45 ∧ Kept (WX w B g) w w4) := Lib.hid ⟨hw, wx_holds hk H3.out.2.1 hgn (by decide), wx_trans H3.out.2.2 hk⟩
  clear hw hk hgn H3
  have c4 := Holds.cell H4.out.2.1 4 _ rfl
  have HC4 := Lib.hid (wNum B g (out ++ numL a ++ numL b ++ txtL x ++ txtL y) z w4 H4.out.1 (by unfold MaxN; omega) (by first | omega | (simp only [List.length_append]; omega)) (by have := H4.out.2.2.size; omega))
  go_wp2_with fail
  refine HC4.out.mono ?_
  clear HC4 c4
  rintro e w5 ⟨rfl, hw, hk⟩
  have hgn : w.heap.size ≠ g := fun e => by have := HG.out; omega
  have H5 : Hid (WrW w5 B g (out ++ numL a ++ numL b ++ txtL x ++ txtL y ++ numL z) ∧ Holds w5 w.heap.size [.int .i64 (a : Int), .int .i64 (b : Int), .string ⟨x.toArray⟩, .string ⟨y.toArray⟩, .int .i64 (z : Int)] 45 ∧ Kept (WX w B g) w w5) := Lib.hid ⟨hw, wx_holds hk H4.out.2.1 hgn (by decide), wx_trans H4.out.2.2 hk⟩
  clear hw hk hgn H4
  have HE : Hid (WrW w5 B g tot ∧ Kept (WX w B g) w w5) := Lib.hid ⟨by
    have := H5.out.1
    rw [htot.out]
    unfold metaB
    simpa only [Int.toNat_natCast, List.append_assoc] using this, H5.out.2.2⟩
  clear H5
  go_wp2
  exact ⟨rfl, _, (by kernel_rfl), rfl, HE.out⟩

end Go.Proofs.YtjdolimeibpacaaGreat
