/- The reference of layer 14: Decode (printed by genrc14.py). -/
import Derived.Test.YtjdolimeibpacaaGreatRd14
import Derived.Test.YtjdolimeibpacaaGreatRe14
import Derived.Laws.ResultCell
namespace Go.Proofs.YtjdolimeibpacaaGreat
open Go.RowKit Go.Proofs Go.Proofs.Pk
set_option maxRecDepth 10000
attribute [local simp] mk_get wrap64_u8 mk_extract ByteArray.mk_append_mk get_1k

def joinMV (T : List MetaV) (o : Option (List MetaV × VTxt)) : Option (List MetaV × VTxt) := o.map fun p => (T ++ p.1, p.2)
theorem joinMV_nil (o : Option (List MetaV × VTxt)) : joinMV [] o = o := by cases o <;> simp [joinMV]
theorem metas_step {n : Nat} {b r : VTxt} {T : List MetaV} {m : MetaV} (h : rdMeta b = some (m, r)) : joinMV T (rdMetas (n + 1) b) = joinMV (T ++ [m]) (rdMetas n r) := by
  rw [rdMetas, h]
  simp only
  unfold joinMV
  cases rdMetas n r <;> simp
theorem metas_stop {n : Nat} {b : VTxt} {T : List MetaV} (h : rdMeta b = none) : joinMV T (rdMetas (n + 1) b) = none := by
  rw [rdMetas, h]; rfl
theorem meta_parts {b : VTxt} {a1 a2 a5 : Nat} {b1 b2 b3 b4 b5 : VTxt} {e1 e2 e3 e4 e5 : Nat} {a3 a4 : VTxt} (h1 : rdNum b = (a1, b1, e1)) (h2 : rdNum b1 = (a2, b2, e2)) (h3 : rdTxt b2 = (a3, b3, e3)) (h4 : rdTxt b3 = (a4, b4, e4)) (h5 : rdNum b4 = (a5, b5, e5)) :
    rdMeta b = if (((((false || decide (e1 ≠ 0)) || decide (e2 ≠ 0)) || decide (e3 ≠ 0)) || decide (e4 ≠ 0)) || decide (e5 ≠ 0)) = true then none else some (((a1 : Int), (a2 : Int), a3, a4, (a5 : Int)), b5) := by
  unfold rdMeta
  simp only [h1, h2, h3, h4, h5]
  by_cases c1 : e1 = 0 <;> by_cases c2 : e2 = 0 <;> by_cases c3 : e3 = 0 <;> by_cases c4 : e4 = 0 <;> by_cases c5 : e5 = 0 <;> simp [c1, c2, c3, c4, c5]
/-- What else stands while tables are read: the edit's box, the result's, the tables so far. -/
structure DcO (w wr : World) (pe pr B : Nat) (av : Value) (j : Nat) (T : List MetaV) : Prop where
  box : Holds wr pe [av, .slice none 0 0, .slice none 0 0, .slice none 0 0, .int .i64 0] 25
  res : Holds wr pr [.slice none 0 0, .slice none 0 0, .slice none 0 0, .slice none 0 0, .int .i64 0] 25
  own : wr.ownsRow B 45 5 av j (T.flatMap metaC)
  len : T.length = j
  fit : ∀ m ∈ T, FitMV m
  kept : Kept (fun _ => False) w wr
theorem DcO.step {w wr w' : World} {pe pr B : Nat} {av : Value} {j : Nat} {T : List MetaV} {X : Nat → Prop} (h : DcO w wr pe pr B av j T) (hk : Kept X wr w') (h1 : ¬X pe) (h2 : ¬X pr) (h3 : ∀ g, av.ownBlock = some g → ¬X g) (h4 : ∀ k, X k → w.heap.size ≤ k) : DcO w w' pe pr B av j T :=
  ⟨h.box.of_block (hk.block pe h.box.lt h1), h.res.of_block (hk.block pr h.res.lt h2), owns_of_block h.own fun g hg => hk.block g (h.own.lt g hg).2 (h3 g hg), h.len, h.fit, h.kept.trans hk (fun k hx => .inr (h4 k hx))⟩
/-- A slice of numbers that lies from a block on. -/
def IntsB (w : World) (B : Nat) (ad : Option Addr) (m cap : Nat) (l : List Int) : Prop := Ints w ad m l ∧ BndI ad m cap l ∧ ∀ b off, ad = some ⟨b, off, none⟩ → B ≤ b
theorem IntsB.kept {w w' : World} {B : Nat} {ad : Option Addr} {m cap : Nat} {l : List Int} {X : Nat → Prop} (h : IntsB w B ad m cap l) (hk : Kept X w w') (hX : ∀ k, X k → k < B) : IntsB w' B ad m cap l :=
  ⟨h.1.kept hk (.inr fun b off he hx => by have := h.2.2 b off he; have := hX b hx; omega), h.2⟩
theorem owns_intsB {w : World} {B B0 m cap : Nat} {ad : Option Addr} {l : List Int} (h : w.ownsRow B0 3 1 (.slice ad m cap) m (l.map intC)) (hl : l.length = m) (hB : B ≤ B0) (hf : Fit64 l) (hm : m ≤ 1048577) : IntsB w B ad m cap l := by
  obtain ⟨ad', cap', he, h1, h2, h3⟩ := owns_ints h hl
  injection he with e1 _ e2
  subst e1; subst e2
  refine ⟨h1, ⟨hf, h2, by omega, h3⟩, fun b off hb => ?_⟩
  subst hb
  have := (h.lt b rfl).1
  omega
def MetasB (w : World) (B : Nat) (ad : Option Addr) (m cap : Nat) (l : List MetaV) : Prop := MetasW w ad m l ∧ BndM ad m cap ∧ ∀ b off, ad = some ⟨b, off, none⟩ → B ≤ b
theorem MetasB.kept {w w' : World} {B : Nat} {ad : Option Addr} {m cap : Nat} {l : List MetaV} {X : Nat → Prop} (h : MetasB w B ad m cap l) (hk : Kept X w w') (hX : ∀ k, X k → k < B) : MetasB w' B ad m cap l := by
  refine ⟨⟨h.1.1, h.1.2.imp_right ?_⟩, h.2⟩
  rintro ⟨b, off, h1, h2, h3⟩
  have hb : ¬X b := fun hx => by have := h.2.2 b off h1; have := hX b hx; omega
  exact ⟨b, off, h1, Nat.lt_of_lt_of_le h2 hk.size, fun i hi => ⟨fun j v hv => (hk.cell (p := ⟨b, off + i * 5 + j, none⟩) h2 hb).trans ((h3 i hi).row j v hv), (h3 i hi).fit⟩⟩
theorem owns_metasB {w : World} {B m : Nat} {v : Value} {l : List MetaV} (h : w.ownsRow B 45 5 v m (l.flatMap metaC)) (hl : l.length = m) (hf : ∀ x ∈ l, FitMV x) (hm : m ≤ 1048577) : ∃ ad cap, v = .slice ad m cap ∧ MetasB w B ad m cap l := by
  obtain ⟨ad, cap, rfl, h1, h2, h3, h4⟩ := owns_metas h hl hf
  refine ⟨ad, cap, rfl, h1, ⟨h3, h2, by omega, h4⟩, fun b off hb => ?_⟩
  subst hb
  exact (h.lt b rfl).1
theorem rdTxt_fstV (b : VTxt) : (rdTxt b).1.length ≤ 1048576 := by
  unfold rdTxt
  split
  · simp
  · split
    · simp
    · split
      · simp
      · rename_i h _; unfold MaxT at h; simp; omega
theorem fit_nat {n : Nat} (h : n ≤ MaxN) : FitV (n : Int) := by unfold MaxN at h; unfold FitV; omega
/-- On the way through the tables of an edit. -/
structure DcS (w wr : World) (p pe pr B n : Nat) (b : VTxt) (j : Nat) (av : Value) (T : List MetaV) (rest : VTxt) (bd : Bool) : Prop where
  oth : DcO w wr pe pr B av j T
  rd : RdV wr p rest bd
  le : rest.length ≤ b.length
  good : bd = false → j ≤ n ∧ j + rest.length ≤ b.length ∧ rdTabs b = joinMV T (rdMetas (n - j) rest)
  bads : bd = true → rdTabs b = none ∧ j ≤ b.length + 1
theorem DcS.many {w wr : World} {p pe pr B n : Nat} {b : VTxt} {j : Nat} {av : Value} {T : List MetaV} {rest : VTxt} {bd : Bool} (h : DcS w wr p pe pr B n b j av T rest bd) : j ≤ b.length + 1 := by
  cases hb : bd with
  | false => have := (h.good hb).2.1; omega
  | true => exact (h.bads hb).2
/-- Behind the tables: the edit's box, the result's, the reader. -/
structure TlS (w wr : World) (p pe pr : Nat) (C : List Value) (rest : VTxt) (bd : Bool) : Prop where
  box : Holds wr pe C 25
  res : Holds wr pr [.slice none 0 0, .slice none 0 0, .slice none 0 0, .slice none 0 0, .int .i64 0] 25
  rd : RdV wr p rest bd
  kept : Kept (fun _ => False) w wr
theorem TlS.row {w wr wk : World} {p pe pr i : Nat} {C : List Value} {rest rest' : VTxt} {bd bd' : Bool} (h : TlS w wr p pe pr C rest bd) (hk : Kept (fun k => k = p) wr wk) (hrd : RdV wk p rest' bd') (hr : pr < p ∧ p < pe ∧ w.heap.size ≤ pr) (v : Value) :
    TlS w (wk.setCell ⟨pe, i, none⟩ v) p pe pr (C.set i v) rest' bd' ∧ Kept (fun k => k = p ∨ k = pe) wr (wk.setCell ⟨pe, i, none⟩ v) := by
  have hs : Kept (fun k => k = pe) wk (wk.setCell ⟨pe, i, none⟩ v) := Kept.setCell (X := fun k => k = pe) (Kept.refl _ _) (p := ⟨pe, i, none⟩) rfl _
  have hb := h.box.of_block (hk.block pe h.box.lt (by omega))
  have hre := h.res.of_block (hk.block pr h.res.lt (by omega))
  exact ⟨⟨hb.set i v, hre.of_block (hs.block pr hre.lt (by omega)), hrd.kept hs (by omega), (h.kept.trans hk (fun k hx => .inr (by omega))).trans hs (fun k hx => .inr (by omega))⟩,
    (hk.mono fun k hx => .inl hx).setCell (p := ⟨pe, i, none⟩) (.inr rfl) _⟩
theorem TlS.still {w wr wk : World} {p pe pr : Nat} {C : List Value} {rest : VTxt} {bd : Bool} (h : TlS w wr p pe pr C rest bd) (hk : Kept (fun _ => False) wr wk) : TlS w wk p pe pr C rest bd :=
  ⟨h.box.of_block (hk.block pe h.box.lt (fun f => f)), h.res.of_block (hk.block pr h.res.lt (fun f => f)), h.rd.kept hk (fun f => f), h.kept.trans hk (fun _ f => f.elim)⟩
/-- What the reference's Decode answers. -/
def RdE (w : World) (r : EdV × Bool) (e : Ending) (w' : World) : Prop :=
  ∃ ad len cap ad2 len2 cap2 ad3 len3 cap3 ad4 len4 cap4, e = .returned (.tuple #[edC ad len cap ad2 len2 cap2 ad3 len3 cap3 ad4 len4 cap4 r.1.2.2.2.2, .bool r.2]) ∧
    EdW w' ad len cap ad2 len2 cap2 ad3 len3 cap3 ad4 len4 cap4 r.1 ∧ Kept (fun _ => False) w w'
theorem ed_zero (w : World) : EdW w none 0 0 none 0 0 none 0 0 none 0 0 zeroE := ⟨(metas_none w).1, (metas_none w).2, (ints_none w).1, (ints_none w).2, (ints_none w).1, (ints_none w).2, (ints_none w).1, (ints_none w).2, by unfold FitV zeroE; simp only; omega⟩

set_option maxHeartbeats 4000000 in
theorem refDecode14 (b : VTxt) (w : World) (hb : b.length ≤ 1048576) : Calls Tryz.prog 8 #[.string ⟨b.toArray⟩] w (RdE w (decE b)) := by
  obtain ⟨i0, hi, hz0, hz1, hz2⟩ := parts_of meta_info
  have HDEC : Hid (decE b = match rdEd b with | some (e, _) => if encE e = (b, true) then (e, true) else (zeroE, false) | none => (zeroE, false)) := rfl
  have HED : Hid (rdEd b = (rdTabs b).bind fun a => (rdLst a.2).bind fun d => (rdLst d.2).bind fun x => (rdLst x.2).bind fun y => if (rdNum y.2).2.2 ≠ 0 then none else some ((a.1, d.1, x.1, y.1, ((rdNum y.2).1 : Int)), (rdNum y.2).2.1)) := rfl
  generalize decE b = dec at HDEC ⊢
  go_enter Tryz.func8, Tryz.ntmps8
  go_upto_region 3 with fail
  have HO : Hid (RdV (((w.alloc (.cells #[.slice none 0 0, .slice none 0 0, .slice none 0 0, .slice none 0 0, .int .i64 0] 25)).alloc (.cells #[.string ⟨b.toArray⟩, .bool false] 72)).alloc (.cells #[.slice none 0 0, .slice none 0 0, .slice none 0 0, .slice none 0 0, .int .i64 0] 25)) (w.heap.size + 1) b false ∧
      DcO w (((w.alloc (.cells #[.slice none 0 0, .slice none 0 0, .slice none 0 0, .slice none 0 0, .int .i64 0] 25)).alloc (.cells #[.string ⟨b.toArray⟩, .bool false] 72)).alloc (.cells #[.slice none 0 0, .slice none 0 0, .slice none 0 0, .slice none 0 0, .int .i64 0] 25)) (w.heap.size + 2) w.heap.size (w.heap.size + 3) (.slice none 0 0) 0 []) := by
    have h1 := Holds.new w [.slice none 0 0, .slice none 0 0, .slice none 0 0, .slice none 0 0, .int .i64 0] 25
    have h2 := Holds.new (w.alloc (.cells #[.slice none 0 0, .slice none 0 0, .slice none 0 0, .slice none 0 0, .int .i64 0] 25)) [.string ⟨b.toArray⟩, .bool false] 72
    have h3 := Holds.new ((w.alloc (.cells #[.slice none 0 0, .slice none 0 0, .slice none 0 0, .slice none 0 0, .int .i64 0] 25)).alloc (.cells #[.string ⟨b.toArray⟩, .bool false] 72)) [.slice none 0 0, .slice none 0 0, .slice none 0 0, .slice none 0 0, .int .i64 0] 25
    rw [show (w.alloc (.cells #[.slice none 0 0, .slice none 0 0, .slice none 0 0, .slice none 0 0, .int .i64 0] 25)).heap.size = w.heap.size + 1 from by simp] at h2
    rw [show ((w.alloc (.cells #[.slice none 0 0, .slice none 0 0, .slice none 0 0, .slice none 0 0, .int .i64 0] 25)).alloc (.cells #[.string ⟨b.toArray⟩, .bool false] 72)).heap.size = w.heap.size + 2 from by simp] at h3
    exact ⟨h2.alloc _, h3, (h1.alloc _).alloc _, World.ownsRow_nil _ _ _ _, rfl, fun _ h => (by cases h), (((Kept.refl _ w).alloc _).alloc _).alloc _⟩
  obtain ⟨p, hp⟩ : ∃ p, p = w.heap.size + 1 := ⟨_, rfl⟩
  obtain ⟨pe, hpe⟩ : ∃ pe, pe = w.heap.size + 2 := ⟨_, rfl⟩
  obtain ⟨pr, hpr⟩ : ∃ pr, pr = w.heap.size := ⟨_, rfl⟩
  have HPP : Hid (p = w.heap.size + 1 ∧ pe = w.heap.size + 2 ∧ pr = w.heap.size) := ⟨hp, hpe, hpr⟩
  rw [← hpe, ← hp, ← hpr] at HO
  rw [show w.heap.size + 1 + 1 = pe from by omega, ← hp, ← hpr]
  generalize (((w.alloc (.cells #[.slice none 0 0, .slice none 0 0, .slice none 0 0, .slice none 0 0, .int .i64 0] 25)).alloc (.cells #[.string ⟨b.toArray⟩, .bool false] 72)).alloc (.cells #[.slice none 0 0, .slice none 0 0, .slice none 0 0, .slice none 0 0, .int .i64 0] 25)) = w0 at HO ⊢
  obtain ⟨B, hB⟩ : ∃ B, B = pr + 3 := ⟨_, rfl⟩
  rw [← hB] at HO
  have HORD : Hid (p = pr + 1 ∧ pe = pr + 2 ∧ B = pr + 3 ∧ w.heap.size = pr) := ⟨by omega, by omega, by omega, by omega⟩
  clear HPP hp hpe hpr hB
  have HC := Lib.hid (refRdNum p b false w0 (by unfold maxLen; omega) HO.out.1)
  have hnl := rdNum_len b
  have hne := num_eats b
  have hnM := rdNum_le b
  obtain ⟨⟨n, r0, c⟩, hr⟩ : ∃ r, Hid (r = rdNum b) := ⟨rdNum b, rfl⟩
  rw [← hr.out] at HC hnl hne hnM
  simp only at HC hnl hne hnM
  have hn53 : (n : Int) ≤ 9007199254740991 := by unfold MaxN at hnM; omega
  clear hnM
  go_wp2_with fail
  refine HC.out.mono ?_
  rintro e w1 ⟨rfl, hr1, hk1⟩
  have HI : Hid (DcS w w1 p pe pr B n b 0 (.slice none 0 0) [] r0 (false || decide (c ≠ 0))) := by
    refine ⟨HO.out.2.step hk1 (by have := HORD.out; omega) (by have := HORD.out; omega) (fun g hg => by cases hg) (fun k hk => by have := HORD.out; omega), hr1, hnl, fun hg => ?_, fun hg => ⟨?_, by omega⟩⟩
    · simp only [Bool.or_eq_false_iff, decide_eq_false_iff_not, ne_eq, Decidable.not_not] at hg
      refine ⟨Nat.zero_le _, by omega, ?_⟩
      unfold rdTabs
      rw [← hr.out]
      simp only
      rw [if_neg (by simp [hg.2]), joinMV_nil, Nat.sub_zero]
    · simp only [Bool.or_eq_true, decide_eq_true_eq, Bool.false_eq_true, false_or] at hg
      unfold rdTabs
      rw [← hr.out]
      simp only
      rw [if_pos hg]
  clear hr1 hk1 HC hr hnl hne HO
  generalize (false || decide (c ≠ 0)) = bd0 at HI
  go_wp2
  obtain ⟨wq, hwq⟩ : ∃ wq, wq = w1 := ⟨_, rfl⟩
  rw [← hwq] at HI ⊢
  clear hwq
  go_loopw [7] (fun i wr => ∃ (j : Nat) (av : Value) (T : List MetaV) (rest : VTxt) (bd : Bool), i = .int .i64 (j : Int) ∧ Hid (DcS w wr p pe pr B n b j av T rest bd)) (fun i _ => n - (intOf i).toNat)
  case atStart => exact ⟨0, .slice none 0 0, [], r0, bd0, rfl, HI⟩
  case round =>
    obtain ⟨j, av, T, rest, bd, rfl, hI⟩ := hrel
    clear HI
    have j0 : (0 : Int) ≤ (j : Int) := by omega
    have hjm := hI.out.many
    have hwj : IntKind.i64.wrap ((j : Int) + 1) = (j : Int) + 1 := IntWalk.i64_in _ (by omega)
    have c1 := Holds.cell hI.out.rd 1 _ rfl
    -- the tables are over
    have fin : (bd = true ∨ ¬j < n) → Hid (DcO w wr pe pr B av j T ∧ RdV wr p rest bd ∧ rest.length ≤ b.length ∧ (bd = false → rdTabs b = some (T, rest)) ∧ (bd = true → rdEd b = none) ∧ j ≤ b.length + 1) := fun hd =>
      ⟨hI.out.oth, hI.out.rd, hI.out.le, fun hg => by
        obtain ⟨g2, _, g4⟩ := hI.out.good hg
        have hjn : j = n := by
          rcases hd with h | h
          · rw [hg] at h; cases h
          · omega
        rw [g4, hjn, Nat.sub_self]
        simp [rdMetas, joinMV], fun hg => by rw [HED.out, (hI.out.bads hg).1]; rfl, hjm⟩
    have FIN := Lib.hid fin
    clear fin
    by_cases hlt : j < n
    case neg =>
      have jN : ¬(j : Int) < (n : Int) := by omega
      have HF := Lib.hid (FIN.out (.inr hlt))
      clear hI FIN hlt
      obtain ⟨bd0, hbd0⟩ : ∃ bd0, bd0 = bd := ⟨_, rfl⟩
      rw [← hbd0] at HF
      clear hbd0
      obtain ⟨ad, cap, rfl, hmb⟩ := owns_metasB HF.out.1.own HF.out.1.len HF.out.1.fit (by have := HF.out.2.2.2.2.2; omega)
      have HT0 : Hid (TlS w wr p pe pr [.slice ad j cap, .slice none 0 0, .slice none 0 0, .slice none 0 0, .int .i64 0] rest bd0 ∧ MetasB wr B ad j cap T) := ⟨⟨HF.out.1.box, HF.out.1.res, HF.out.2.1, HF.out.1.kept⟩, hmb⟩
      have HG0 : Hid ((bd0 = false → rdTabs b = some (T, rest)) ∧ (bd0 = true → rdEd b = none) ∧ rest.length ≤ b.length) := ⟨HF.out.2.2.2.1, HF.out.2.2.2.2.1, HF.out.2.2.1⟩
      clear hmb HF
      obtain ⟨x0, hx0⟩ : ∃ x0, x0 = wr := ⟨_, rfl⟩
      rw [← hx0] at HT0 c1 ⊢
      clear hx0
      have CR1 := Lib.hid (refRdRow p rest bd0 x0 (by have := HG0.out.2.2; omega) HT0.out.1.rd)
      go_wp2_with fail
      refine CR1.out.mono ?_
      rintro e y1 ⟨a1, m1, z1, l1, t1, bd1, rfl, ho, hl, hm, hf, hrd, hle, hkk, hg, hbd⟩
      have hib := owns_intsB (B := B) ho hl (by have := HORD.out; have := HT0.out.1.box.lt; omega) hf (by have := HG0.out.2.2; omega)
      have hrow := HT0.out.1.row (i := 1) hkk hrd (by have := HORD.out; omega) (.slice a1 m1 z1)
      have hsc : Kept (fun k => k = pe) y1 (y1.setCell ⟨pe, 1, none⟩ (.slice a1 m1 z1)) := Kept.setCell (X := fun k => k = pe) (Kept.refl _ _) (p := ⟨pe, 1, none⟩) rfl _
      have hbx := HT0.out.1.box.of_block (hkk.block pe HT0.out.1.box.lt (by have := HORD.out; omega))
      have b0 := hbx.cell 1 _ rfl
      have g0 := hbx.free 1
      have HT1 : Hid (TlS w (y1.setCell ⟨pe, 1, none⟩ (.slice a1 m1 z1)) p pe pr [.slice ad j cap, .slice a1 m1 z1, .slice none 0 0, .slice none 0 0, .int .i64 0] t1 bd1 ∧ MetasB (y1.setCell ⟨pe, 1, none⟩ (.slice a1 m1 z1)) B ad j cap T ∧ IntsB (y1.setCell ⟨pe, 1, none⟩ (.slice a1 m1 z1)) B a1 m1 z1 l1) :=
        ⟨hrow.1, HT0.out.2.kept hrow.2 (fun k hx => by have := HORD.out; omega), hib.kept hsc (fun k hx => by have := HORD.out; omega)⟩
      have HG1 : Hid ((bd1 = false → rdTabs b = some (T, rest) ∧ rdLst rest = some (l1, t1)) ∧ (bd1 = true → rdEd b = none) ∧ t1.length ≤ b.length) := by
        refine ⟨fun h => ?_, fun h => ?_, by have := HG0.out.2.2; omega⟩
        · obtain ⟨h1, h2⟩ := hg h
          exact ⟨HG0.out.1 h1, h2⟩
        · rcases hbd h with h1 | h1
          · exact HG0.out.2.1 h1
          · cases hpd : bd0 with
            | true => exact HG0.out.2.1 hpd
            | false =>
              have hch := HG0.out.1 hpd
              rw [HED.out, hch]
              simp only [Option.bind_some]; rw [h1]; rfl
      clear ho hl hm hf hrd hle hkk hg hbd hib hrow hsc hbx CR1 HT0 HG0 c1
      go_upto_region 15 with fail
      generalize (y1.setCell ⟨pe, 1, none⟩ (.slice a1 m1 z1)) = x1 at HT1 ⊢
      clear b0 g0
      have CR2 := Lib.hid (refRdRow p t1 bd1 x1 (by have := HG1.out.2.2; omega) HT1.out.1.rd)
      go_wp2_with fail
      refine CR2.out.mono ?_
      rintro e y2 ⟨a2, m2, z2, l2, t2, bd2, rfl, ho, hl, hm, hf, hrd, hle, hkk, hg, hbd⟩
      have hib := owns_intsB (B := B) ho hl (by have := HORD.out; have := HT1.out.1.box.lt; omega) hf (by have := HG1.out.2.2; omega)
      have hrow := HT1.out.1.row (i := 2) hkk hrd (by have := HORD.out; omega) (.slice a2 m2 z2)
      have hsc : Kept (fun k => k = pe) y2 (y2.setCell ⟨pe, 2, none⟩ (.slice a2 m2 z2)) := Kept.setCell (X := fun k => k = pe) (Kept.refl _ _) (p := ⟨pe, 2, none⟩) rfl _
      have hbx := HT1.out.1.box.of_block (hkk.block pe HT1.out.1.box.lt (by have := HORD.out; omega))
      have b0 := hbx.cell 2 _ rfl
      have g0 := hbx.free 2
      have HT2 : Hid (TlS w (y2.setCell ⟨pe, 2, none⟩ (.slice a2 m2 z2)) p pe pr [.slice ad j cap, .slice a1 m1 z1, .slice a2 m2 z2, .slice none 0 0, .int .i64 0] t2 bd2 ∧ MetasB (y2.setCell ⟨pe, 2, none⟩ (.slice a2 m2 z2)) B ad j cap T ∧ IntsB (y2.setCell ⟨pe, 2, none⟩ (.slice a2 m2 z2)) B a1 m1 z1 l1 ∧ IntsB (y2.setCell ⟨pe, 2, none⟩ (.slice a2 m2 z2)) B a2 m2 z2 l2) :=
        ⟨hrow.1, HT1.out.2.1.kept hrow.2 (fun k hx => by have := HORD.out; omega), HT1.out.2.2.kept hrow.2 (fun k hx => by have := HORD.out; omega), hib.kept hsc (fun k hx => by have := HORD.out; omega)⟩
      have HG2 : Hid ((bd2 = false → rdTabs b = some (T, rest) ∧ rdLst rest = some (l1, t1) ∧ rdLst t1 = some (l2, t2)) ∧ (bd2 = true → rdEd b = none) ∧ t2.length ≤ b.length) := by
        refine ⟨fun h => ?_, fun h => ?_, by have := HG1.out.2.2; omega⟩
        · obtain ⟨h1, h2⟩ := hg h
          exact ⟨(HG1.out.1 h1).1, (HG1.out.1 h1).2, h2⟩
        · rcases hbd h with h1 | h1
          · exact HG1.out.2.1 h1
          · cases hpd : bd1 with
            | true => exact HG1.out.2.1 hpd
            | false =>
              have hch := HG1.out.1 hpd
              rw [HED.out, hch.1]
              simp only [Option.bind_some]; rw [hch.2]; simp only [Option.bind_some]; rw [h1]; rfl
      clear ho hl hm hf hrd hle hkk hg hbd hib hrow hsc hbx CR2 HT1 HG1
      go_upto_region 16 with fail
      generalize (y2.setCell ⟨pe, 2, none⟩ (.slice a2 m2 z2)) = x2 at HT2 ⊢
      clear b0 g0
      have CR3 := Lib.hid (refRdRow p t2 bd2 x2 (by have := HG2.out.2.2; omega) HT2.out.1.rd)
      go_wp2_with fail
      refine CR3.out.mono ?_
      rintro e y3 ⟨a3, m3, z3, l3, t3, bd3, rfl, ho, hl, hm, hf, hrd, hle, hkk, hg, hbd⟩
      have hib := owns_intsB (B := B) ho hl (by have := HORD.out; have := HT2.out.1.box.lt; omega) hf (by have := HG2.out.2.2; omega)
      have hrow := HT2.out.1.row (i := 3) hkk hrd (by have := HORD.out; omega) (.slice a3 m3 z3)
      have hsc : Kept (fun k => k = pe) y3 (y3.setCell ⟨pe, 3, none⟩ (.slice a3 m3 z3)) := Kept.setCell (X := fun k => k = pe) (Kept.refl _ _) (p := ⟨pe, 3, none⟩) rfl _
      have hbx := HT2.out.1.box.of_block (hkk.block pe HT2.out.1.box.lt (by have := HORD.out; omega))
      have b0 := hbx.cell 3 _ rfl
      have g0 := hbx.free 3
      have HT3 : Hid (TlS w (y3.setCell ⟨pe, 3, none⟩ (.slice a3 m3 z3)) p pe pr [.slice ad j cap, .slice a1 m1 z1, .slice a2 m2 z2, .slice a3 m3 z3, .int .i64 0] t3 bd3 ∧ MetasB (y3.setCell ⟨pe, 3, none⟩ (.slice a3 m3 z3)) B ad j cap T ∧ IntsB (y3.setCell ⟨pe, 3, none⟩ (.slice a3 m3 z3)) B a1 m1 z1 l1 ∧ IntsB (y3.setCell ⟨pe, 3, none⟩ (.slice a3 m3 z3)) B a2 m2 z2 l2 ∧ IntsB (y3.setCell ⟨pe, 3, none⟩ (.slice a3 m3 z3)) B a3 m3 z3 l3) :=
        ⟨hrow.1, HT2.out.2.1.kept hrow.2 (fun k hx => by have := HORD.out; omega), HT2.out.2.2.1.kept hrow.2 (fun k hx => by have := HORD.out; omega), HT2.out.2.2.2.kept hrow.2 (fun k hx => by have := HORD.out; omega), hib.kept hsc (fun k hx => by have := HORD.out; omega)⟩
      have HG3 : Hid ((bd3 = false → rdTabs b = some (T, rest) ∧ rdLst rest = some (l1, t1) ∧ rdLst t1 = some (l2, t2) ∧ rdLst t2 = some (l3, t3)) ∧ (bd3 = true → rdEd b = none) ∧ t3.length ≤ b.length) := by
        refine ⟨fun h => ?_, fun h => ?_, by have := HG2.out.2.2; omega⟩
        · obtain ⟨h1, h2⟩ := hg h
          exact ⟨(HG2.out.1 h1).1, (HG2.out.1 h1).2.1, (HG2.out.1 h1).2.2, h2⟩
        · rcases hbd h with h1 | h1
          · exact HG2.out.2.1 h1
          · cases hpd : bd2 with
            | true => exact HG2.out.2.1 hpd
            | false =>
              have hch := HG2.out.1 hpd
              rw [HED.out, hch.1]
              simp only [Option.bind_some]; rw [hch.2.1]; simp only [Option.bind_some]; rw [hch.2.2]; simp only [Option.bind_some]; rw [h1]; rfl
      clear ho hl hm hf hrd hle hkk hg hbd hib hrow hsc hbx CR3 HT2 HG2
      go_upto_region 17 with fail
      generalize (y3.setCell ⟨pe, 3, none⟩ (.slice a3 m3 z3)) = x3 at HT3 ⊢
      clear b0 g0
      obtain ⟨⟨nn, t4, e4⟩, hr4⟩ : ∃ r, r = rdNum t3 := ⟨_, rfl⟩
      have hnM4 := rdNum_le t3
      have CR4 := refRdNum p t3 bd3 x3 (by have := HG3.out.2.2; unfold maxLen; omega) HT3.out.1.rd
      rw [← hr4] at CR4 hnM4
      simp only at CR4 hnM4
      have CR4 := Lib.hid CR4
      go_wp2_with fail
      refine CR4.out.mono ?_
      rintro e y4 ⟨rfl, hrd, hkk⟩
      have hrow := HT3.out.1.row (i := 4) hkk hrd (by have := HORD.out; omega) (.int .i64 (nn : Int))
      have hbx := HT3.out.1.box.of_block (hkk.block pe HT3.out.1.box.lt (by have := HORD.out; omega))
      have b0 := hbx.cell 4 _ rfl
      have g0 := hbx.free 4
      have HT4 : Hid (TlS w (y4.setCell ⟨pe, 4, none⟩ (.int .i64 (nn : Int))) p pe pr [.slice ad j cap, .slice a1 m1 z1, .slice a2 m2 z2, .slice a3 m3 z3, .int .i64 (nn : Int)] t4 (bd3 || decide (e4 ≠ 0)) ∧ MetasB (y4.setCell ⟨pe, 4, none⟩ (.int .i64 (nn : Int))) B ad j cap T ∧ IntsB (y4.setCell ⟨pe, 4, none⟩ (.int .i64 (nn : Int))) B a1 m1 z1 l1 ∧ IntsB (y4.setCell ⟨pe, 4, none⟩ (.int .i64 (nn : Int))) B a2 m2 z2 l2 ∧ IntsB (y4.setCell ⟨pe, 4, none⟩ (.int .i64 (nn : Int))) B a3 m3 z3 l3) :=
        ⟨hrow.1, HT3.out.2.1.kept hrow.2 (fun k hx => by have := HORD.out; omega), HT3.out.2.2.1.kept hrow.2 (fun k hx => by have := HORD.out; omega), HT3.out.2.2.2.1.kept hrow.2 (fun k hx => by have := HORD.out; omega), HT3.out.2.2.2.2.kept hrow.2 (fun k hx => by have := HORD.out; omega)⟩
      have HG4 : Hid (((bd3 || decide (e4 ≠ 0)) = false → rdEd b = some ((T, l1, l2, l3, (nn : Int)), t4)) ∧ ((bd3 || decide (e4 ≠ 0)) = true → rdEd b = none)) := by
        refine ⟨fun h => ?_, fun h => ?_⟩
        · simp only [Bool.or_eq_false_iff, decide_eq_false_iff_not, ne_eq, Decidable.not_not] at h
          obtain ⟨q0, q1, q2, q3⟩ := HG3.out.1 h.1
          rw [HED.out, q0]; simp only [Option.bind_some]; rw [q1]; simp only [Option.bind_some]; rw [q2]; simp only [Option.bind_some]; rw [q3]; simp only [Option.bind_some]
          rw [← hr4]; simp only; rw [if_neg (by simp [h.2])]
        · cases hpd : bd3 with
          | true => exact HG3.out.2.1 hpd
          | false =>
            rw [hpd, Bool.false_or, decide_eq_true_eq] at h
            obtain ⟨q0, q1, q2, q3⟩ := HG3.out.1 hpd
            rw [HED.out, q0]; simp only [Option.bind_some]; rw [q1]; simp only [Option.bind_some]; rw [q2]; simp only [Option.bind_some]; rw [q3]; simp only [Option.bind_some]
            rw [← hr4]; simp only; rw [if_pos h]
      have hfn : FitV (nn : Int) := fit_nat hnM4
      have HFN := Lib.hid hfn
      clear hrd hkk hrow hbx CR4 HT3 HG3 hr4 hnM4 hfn
      go_upto_region 18 with fail
      generalize (y4.setCell ⟨pe, 4, none⟩ (.int .i64 (nn : Int))) = x4 at HT4 ⊢
      generalize (bd3 || decide (e4 ≠ 0)) = bd4 at HT4 HG4
      clear b0 g0
      have q1 := Holds.cell HT4.out.1.rd 1 _ rfl
      cases bd4 with
      | true =>
        have HV : Hid (dec = (zeroE, false)) := by show _ = _; rw [HDEC.out, HG4.out.2 rfl]
        have HT := Lib.hid HT4.out
        obtain ⟨o0, o1, o2, o3, o4⟩ := (show _ ∧ _ ∧ _ ∧ _ ∧ _ from ⟨HT.out.1.res.cell 0 _ rfl, HT.out.1.res.cell 1 _ rfl, HT.out.1.res.cell 2 _ rfl, HT.out.1.res.cell 3 _ rfl, HT.out.1.res.cell 4 _ rfl⟩)
        have f0 := HT.out.1.res.free 0
        have f1 := HT.out.1.res.free 1
        have f2 := HT.out.1.res.free 2
        have f3 := HT.out.1.res.free 3
        have f4 := HT.out.1.res.free 4
        have HK := Lib.hid HT.out.1.kept
        have hpw : w.heap.size ≤ pr := by have := HORD.out; omega
        clear HT4 HG4 HT
        go_wp2
        refine bodyPost_ret (v := .tuple #[.agg #[.slice none 0 0, .slice none 0 0, .slice none 0 0, .slice none 0 0, .int .i64 0], .bool false]) ?_ rfl ?_
        · rw [results_cell_tmp rfl]
          go_simp
        · refine ⟨none, 0, 0, none, 0, 0, none, 0, 0, none, 0, 0, by rw [HV.out]; rfl, by rw [HV.out]; exact ed_zero _, ?_⟩
          exact ((((HK.out.setNew (p := ⟨pr, 0, none⟩) hpw _).setNew (p := ⟨pr, 1, none⟩) hpw _).setNew (p := ⟨pr, 2, none⟩) hpw _).setNew (p := ⟨pr, 3, none⟩) hpw _).setNew (p := ⟨pr, 4, none⟩) hpw _
      | false =>
        have hee := HG4.out.1 rfl
        have HV0 : Hid (dec = if encE (T, l1, l2, l3, (nn : Int)) = (b, true) then ((T, l1, l2, l3, (nn : Int)), true) else (zeroE, false)) := by show _ = _; rw [HDEC.out, hee]
        have hew : EdW x4 ad j cap a1 m1 z1 a2 m2 z2 a3 m3 z3 (T, l1, l2, l3, (nn : Int)) := ⟨HT4.out.2.1.1, HT4.out.2.1.2.1, HT4.out.2.2.1.1, HT4.out.2.2.1.2.1, HT4.out.2.2.2.1.1, HT4.out.2.2.2.1.2.1, HT4.out.2.2.2.2.1, HT4.out.2.2.2.2.2.1, HFN.out⟩
        have CE := refEncode14 ad j cap a1 m1 z1 a2 m2 z2 a3 m3 z3 (T, l1, l2, l3, (nn : Int)) x4 hew
        obtain ⟨⟨a, ok⟩, hr5⟩ : ∃ r, r = encE (T, l1, l2, l3, (nn : Int)) := ⟨_, rfl⟩
        rw [← hr5] at CE HV0
        unfold edC at CE
        simp only at CE
        have CE := Lib.hid CE
        have s0 := HT4.out.1.box.cell 0 _ rfl
        have s1 := HT4.out.1.box.cell 1 _ rfl
        have s2 := HT4.out.1.box.cell 2 _ rfl
        have s3 := HT4.out.1.box.cell 3 _ rfl
        have s4 := HT4.out.1.box.cell 4 _ rfl
        clear hee hew hr5 HG4 HDEC HED
        go_wp2_with fail
        refine CE.out.mono ?_
        rintro e x5 ⟨rfl, hkk⟩
        have HT : Hid (TlS w x5 p pe pr [.slice ad j cap, .slice a1 m1 z1, .slice a2 m2 z2, .slice a3 m3 z3, .int .i64 (nn : Int)] t4 false ∧ MetasB x5 B ad j cap T ∧ IntsB x5 B a1 m1 z1 l1 ∧ IntsB x5 B a2 m2 z2 l2 ∧ IntsB x5 B a3 m3 z3 l3) :=
          ⟨HT4.out.1.still hkk, HT4.out.2.1.kept hkk (fun k hx => hx.elim), HT4.out.2.2.1.kept hkk (fun k hx => hx.elim), HT4.out.2.2.2.1.kept hkk (fun k hx => hx.elim), HT4.out.2.2.2.2.kept hkk (fun k hx => hx.elim)⟩
        clear hkk CE HT4 q1 s0 s1 s2 s3 s4
        obtain ⟨o0, o1, o2, o3, o4⟩ := (show _ ∧ _ ∧ _ ∧ _ ∧ _ from ⟨HT.out.1.res.cell 0 _ rfl, HT.out.1.res.cell 1 _ rfl, HT.out.1.res.cell 2 _ rfl, HT.out.1.res.cell 3 _ rfl, HT.out.1.res.cell 4 _ rfl⟩)
        have f0 := HT.out.1.res.free 0
        have f1 := HT.out.1.res.free 1
        have f2 := HT.out.1.res.free 2
        have f3 := HT.out.1.res.free 3
        have f4 := HT.out.1.res.free 4
        have HK := Lib.hid HT.out.1.kept
        have hpw : w.heap.size ≤ pr := by have := HORD.out; omega
        cases ok with
        | false =>
          have HV : Hid (dec = (zeroE, false)) := by show _ = _; rw [HV0.out, if_neg (by simp)]
          clear HV0 HT
          go_wp2
          refine bodyPost_ret (v := .tuple #[.agg #[.slice none 0 0, .slice none 0 0, .slice none 0 0, .slice none 0 0, .int .i64 0], .bool false]) ?_ rfl ?_
          · rw [results_cell_tmp rfl]
            go_simp
          · refine ⟨none, 0, 0, none, 0, 0, none, 0, 0, none, 0, 0, by rw [HV.out]; rfl, by rw [HV.out]; exact ed_zero _, ?_⟩
            exact ((((HK.out.setNew (p := ⟨pr, 0, none⟩) hpw _).setNew (p := ⟨pr, 1, none⟩) hpw _).setNew (p := ⟨pr, 2, none⟩) hpw _).setNew (p := ⟨pr, 3, none⟩) hpw _).setNew (p := ⟨pr, 4, none⟩) hpw _
        | true =>
          by_cases hab : a = b
          case neg =>
            have hq : (a == b) = false := by simpa using hab
            have HV : Hid (dec = (zeroE, false)) := by show _ = _; rw [HV0.out, if_neg (fun h => hab (Prod.mk.inj h).1)]
            clear HV0 HT hab
            go_wp2
            refine bodyPost_ret (v := .tuple #[.agg #[.slice none 0 0, .slice none 0 0, .slice none 0 0, .slice none 0 0, .int .i64 0], .bool false]) ?_ rfl ?_
            · rw [results_cell_tmp rfl]
              go_simp
            · refine ⟨none, 0, 0, none, 0, 0, none, 0, 0, none, 0, 0, by rw [HV.out]; rfl, by rw [HV.out]; exact ed_zero _, ?_⟩
              exact ((((HK.out.setNew (p := ⟨pr, 0, none⟩) hpw _).setNew (p := ⟨pr, 1, none⟩) hpw _).setNew (p := ⟨pr, 2, none⟩) hpw _).setNew (p := ⟨pr, 3, none⟩) hpw _).setNew (p := ⟨pr, 4, none⟩) hpw _
          have HV : Hid (dec = ((T, l1, l2, l3, (nn : Int)), true)) := by show _ = _; rw [HV0.out, if_pos (by rw [hab])]
          clear HV0
          subst hab
          have s0 := HT.out.1.box.cell 0 _ rfl
          have s1 := HT.out.1.box.cell 1 _ rfl
          have s2 := HT.out.1.box.cell 2 _ rfl
          have s3 := HT.out.1.box.cell 3 _ rfl
          have s4 := HT.out.1.box.cell 4 _ rfl
          go_wp2
          refine bodyPost_ret (v := .tuple #[.agg #[.slice ad j cap, .slice a1 m1 z1, .slice a2 m2 z2, .slice a3 m3 z3, .int .i64 (nn : Int)], .bool true]) ?_ rfl ?_
          · rw [results_cell_tmp rfl]
            go_simp
          · have hkr : Kept (fun k => k = pr) x5 (((((x5.setCell ⟨pr, 0, none⟩ (.slice ad j cap)).setCell ⟨pr, 1, none⟩ (.slice a1 m1 z1)).setCell ⟨pr, 2, none⟩ (.slice a2 m2 z2)).setCell ⟨pr, 3, none⟩ (.slice a3 m3 z3)).setCell ⟨pr, 4, none⟩ (.int .i64 (nn : Int))) :=
              Kept.setCell (X := fun k => k = pr) (Kept.setCell (X := fun k => k = pr) (Kept.setCell (X := fun k => k = pr) (Kept.setCell (X := fun k => k = pr) (Kept.setCell (X := fun k => k = pr) (Kept.refl _ x5) (p := ⟨pr, 0, none⟩) rfl _) (p := ⟨pr, 1, none⟩) rfl _) (p := ⟨pr, 2, none⟩) rfl _) (p := ⟨pr, 3, none⟩) rfl _) (p := ⟨pr, 4, none⟩) rfl _
            have hX : ∀ k, k = pr → k < B := fun k hx => by have := HORD.out; omega
            have m' := HT.out.2.1.kept hkr hX
            have i1 := HT.out.2.2.1.kept hkr hX
            have i2 := HT.out.2.2.2.1.kept hkr hX
            have i3 := HT.out.2.2.2.2.kept hkr hX
            refine ⟨ad, j, cap, a1, m1, z1, a2, m2, z2, a3, m3, z3, by rw [HV.out]; rfl, ?_, HK.out.trans hkr (fun k hx => .inr (by have := HORD.out; omega))⟩
            rw [HV.out]
            exact ⟨m'.1, m'.2.1, i1.1, i1.2.1, i2.1, i2.2.1, i3.1, i3.2.1, HFN.out⟩
    have jN : (j : Int) < (n : Int) := by omega
    cases bd with
    | true =>
      have HF := Lib.hid (FIN.out (.inl rfl))
      clear hI FIN hlt
      obtain ⟨bd0, hbd0⟩ : ∃ bd0 : Bool, bd0 = true := ⟨_, rfl⟩
      have HF := Lib.hid (show DcO w wr pe pr B av j T ∧ RdV wr p rest bd0 ∧ rest.length ≤ b.length ∧ (bd0 = false → rdTabs b = some (T, rest)) ∧ (bd0 = true → rdEd b = none) ∧ j ≤ b.length + 1 from by rw [hbd0]; exact HF.out)
      clear hbd0
      obtain ⟨ad, cap, rfl, hmb⟩ := owns_metasB HF.out.1.own HF.out.1.len HF.out.1.fit (by have := HF.out.2.2.2.2.2; omega)
      have HT0 : Hid (TlS w wr p pe pr [.slice ad j cap, .slice none 0 0, .slice none 0 0, .slice none 0 0, .int .i64 0] rest bd0 ∧ MetasB wr B ad j cap T) := ⟨⟨HF.out.1.box, HF.out.1.res, HF.out.2.1, HF.out.1.kept⟩, hmb⟩
      have HG0 : Hid ((bd0 = false → rdTabs b = some (T, rest)) ∧ (bd0 = true → rdEd b = none) ∧ rest.length ≤ b.length) := ⟨HF.out.2.2.2.1, HF.out.2.2.2.2.1, HF.out.2.2.1⟩
      clear hmb HF
      obtain ⟨x0, hx0⟩ : ∃ x0, x0 = wr := ⟨_, rfl⟩
      rw [← hx0] at HT0 c1 ⊢
      clear hx0
      have CR1 := Lib.hid (refRdRow p rest bd0 x0 (by have := HG0.out.2.2; omega) HT0.out.1.rd)
      go_wp2_with fail
      refine CR1.out.mono ?_
      rintro e y1 ⟨a1, m1, z1, l1, t1, bd1, rfl, ho, hl, hm, hf, hrd, hle, hkk, hg, hbd⟩
      have hib := owns_intsB (B := B) ho hl (by have := HORD.out; have := HT0.out.1.box.lt; omega) hf (by have := HG0.out.2.2; omega)
      have hrow := HT0.out.1.row (i := 1) hkk hrd (by have := HORD.out; omega) (.slice a1 m1 z1)
      have hsc : Kept (fun k => k = pe) y1 (y1.setCell ⟨pe, 1, none⟩ (.slice a1 m1 z1)) := Kept.setCell (X := fun k => k = pe) (Kept.refl _ _) (p := ⟨pe, 1, none⟩) rfl _
      have hbx := HT0.out.1.box.of_block (hkk.block pe HT0.out.1.box.lt (by have := HORD.out; omega))
      have b0 := hbx.cell 1 _ rfl
      have g0 := hbx.free 1
      have HT1 : Hid (TlS w (y1.setCell ⟨pe, 1, none⟩ (.slice a1 m1 z1)) p pe pr [.slice ad j cap, .slice a1 m1 z1, .slice none 0 0, .slice none 0 0, .int .i64 0] t1 bd1 ∧ MetasB (y1.setCell ⟨pe, 1, none⟩ (.slice a1 m1 z1)) B ad j cap T ∧ IntsB (y1.setCell ⟨pe, 1, none⟩ (.slice a1 m1 z1)) B a1 m1 z1 l1) :=
        ⟨hrow.1, HT0.out.2.kept hrow.2 (fun k hx => by have := HORD.out; omega), hib.kept hsc (fun k hx => by have := HORD.out; omega)⟩
      have HG1 : Hid ((bd1 = false → rdTabs b = some (T, rest) ∧ rdLst rest = some (l1, t1)) ∧ (bd1 = true → rdEd b = none) ∧ t1.length ≤ b.length) := by
        refine ⟨fun h => ?_, fun h => ?_, by have := HG0.out.2.2; omega⟩
        · obtain ⟨h1, h2⟩ := hg h
          exact ⟨HG0.out.1 h1, h2⟩
        · rcases hbd h with h1 | h1
          · exact HG0.out.2.1 h1
          · cases hpd : bd0 with
            | true => exact HG0.out.2.1 hpd
            | false =>
              have hch := HG0.out.1 hpd
              rw [HED.out, hch]
              simp only [Option.bind_some]; rw [h1]; rfl
      clear ho hl hm hf hrd hle hkk hg hbd hib hrow hsc hbx CR1 HT0 HG0 c1
      go_upto_region 15 with fail
      generalize (y1.setCell ⟨pe, 1, none⟩ (.slice a1 m1 z1)) = x1 at HT1 ⊢
      clear b0 g0
      have CR2 := Lib.hid (refRdRow p t1 bd1 x1 (by have := HG1.out.2.2; omega) HT1.out.1.rd)
      go_wp2_with fail
      refine CR2.out.mono ?_
      rintro e y2 ⟨a2, m2, z2, l2, t2, bd2, rfl, ho, hl, hm, hf, hrd, hle, hkk, hg, hbd⟩
      have hib := owns_intsB (B := B) ho hl (by have := HORD.out; have := HT1.out.1.box.lt; omega) hf (by have := HG1.out.2.2; omega)
      have hrow := HT1.out.1.row (i := 2) hkk hrd (by have := HORD.out; omega) (.slice a2 m2 z2)
      have hsc : Kept (fun k => k = pe) y2 (y2.setCell ⟨pe, 2, none⟩ (.slice a2 m2 z2)) := Kept.setCell (X := fun k => k = pe) (Kept.refl _ _) (p := ⟨pe, 2, none⟩) rfl _
      have hbx := HT1.out.1.box.of_block (hkk.block pe HT1.out.1.box.lt (by have := HORD.out; omega))
      have b0 := hbx.cell 2 _ rfl
      have g0 := hbx.free 2
      have HT2 : Hid (TlS w (y2.setCell ⟨pe, 2, none⟩ (.slice a2 m2 z2)) p pe pr [.slice ad j cap, .slice a1 m1 z1, .slice a2 m2 z2, .slice none 0 0, .int .i64 0] t2 bd2 ∧ MetasB (y2.setCell ⟨pe, 2, none⟩ (.slice a2 m2 z2)) B ad j cap T ∧ IntsB (y2.setCell ⟨pe, 2, none⟩ (.slice a2 m2 z2)) B a1 m1 z1 l1 ∧ IntsB (y2.setCell ⟨pe, 2, none⟩ (.slice a2 m2 z2)) B a2 m2 z2 l2) :=
        ⟨hrow.1, HT1.out.2.1.kept hrow.2 (fun k hx => by have := HORD.out; omega), HT1.out.2.2.kept hrow.2 (fun k hx => by have := HORD.out; omega), hib.kept hsc (fun k hx => by have := HORD.out; omega)⟩
      have HG2 : Hid ((bd2 = false → rdTabs b = some (T, rest) ∧ rdLst rest = some (l1, t1) ∧ rdLst t1 = some (l2, t2)) ∧ (bd2 = true → rdEd b = none) ∧ t2.length ≤ b.length) := by
        refine ⟨fun h => ?_, fun h => ?_, by have := HG1.out.2.2; omega⟩
        · obtain ⟨h1, h2⟩ := hg h
          exact ⟨(HG1.out.1 h1).1, (HG1.out.1 h1).2, h2⟩
        · rcases hbd h with h1 | h1
          · exact HG1.out.2.1 h1
          · cases hpd : bd1 with
            | true => exact HG1.out.2.1 hpd
            | false =>
              have hch := HG1.out.1 hpd
              rw [HED.out, hch.1]
              simp only [Option.bind_some]; rw [hch.2]; simp only [Option.bind_some]; rw [h1]; rfl
      clear ho hl hm hf hrd hle hkk hg hbd hib hrow hsc hbx CR2 HT1 HG1
      go_upto_region 16 with fail
      generalize (y2.setCell ⟨pe, 2, none⟩ (.slice a2 m2 z2)) = x2 at HT2 ⊢
      clear b0 g0
      have CR3 := Lib.hid (refRdRow p t2 bd2 x2 (by have := HG2.out.2.2; omega) HT2.out.1.rd)
      go_wp2_with fail
      refine CR3.out.mono ?_
      rintro e y3 ⟨a3, m3, z3, l3, t3, bd3, rfl, ho, hl, hm, hf, hrd, hle, hkk, hg, hbd⟩
      have hib := owns_intsB (B := B) ho hl (by have := HORD.out; have := HT2.out.1.box.lt; omega) hf (by have := HG2.out.2.2; omega)
      have hrow := HT2.out.1.row (i := 3) hkk hrd (by have := HORD.out; omega) (.slice a3 m3 z3)
      have hsc : Kept (fun k => k = pe) y3 (y3.setCell ⟨pe, 3, none⟩ (.slice a3 m3 z3)) := Kept.setCell (X := fun k => k = pe) (Kept.refl _ _) (p := ⟨pe, 3, none⟩) rfl _
      have hbx := HT2.out.1.box.of_block (hkk.block pe HT2.out.1.box.lt (by have := HORD.out; omega))
      have b0 := hbx.cell 3 _ rfl
      have g0 := hbx.free 3
      have HT3 : Hid (TlS w (y3.setCell ⟨pe, 3, none⟩ (.slice a3 m3 z3)) p pe pr [.slice ad j cap, .slice a1 m1 z1, .slice a2 m2 z2, .slice a3 m3 z3, .int .i64 0] t3 bd3 ∧ MetasB (y3.setCell ⟨pe, 3, none⟩ (.slice a3 m3 z3)) B ad j cap T ∧ IntsB (y3.setCell ⟨pe, 3, none⟩ (.slice a3 m3 z3)) B a1 m1 z1 l1 ∧ IntsB (y3.setCell ⟨pe, 3, none⟩ (.slice a3 m3 z3)) B a2 m2 z2 l2 ∧ IntsB (y3.setCell ⟨pe, 3, none⟩ (.slice a3 m3 z3)) B a3 m3 z3 l3) :=
        ⟨hrow.1, HT2.out.2.1.kept hrow.2 (fun k hx => by have := HORD.out; omega), HT2.out.2.2.1.kept hrow.2 (fun k hx => by have := HORD.out; omega), HT2.out.2.2.2.kept hrow.2 (fun k hx => by have := HORD.out; omega), hib.kept hsc (fun k hx => by have := HORD.out; omega)⟩
      have HG3 : Hid ((bd3 = false → rdTabs b = some (T, rest) ∧ rdLst rest = some (l1, t1) ∧ rdLst t1 = some (l2, t2) ∧ rdLst t2 = some (l3, t3)) ∧ (bd3 = true → rdEd b = none) ∧ t3.length ≤ b.length) := by
        refine ⟨fun h => ?_, fun h => ?_, by have := HG2.out.2.2; omega⟩
        · obtain ⟨h1, h2⟩ := hg h
          exact ⟨(HG2.out.1 h1).1, (HG2.out.1 h1).2.1, (HG2.out.1 h1).2.2, h2⟩
        · rcases hbd h with h1 | h1
          · exact HG2.out.2.1 h1
          · cases hpd : bd2 with
            | true => exact HG2.out.2.1 hpd
            | false =>
              have hch := HG2.out.1 hpd
              rw [HED.out, hch.1]
              simp only [Option.bind_some]; rw [hch.2.1]; simp only [Option.bind_some]; rw [hch.2.2]; simp only [Option.bind_some]; rw [h1]; rfl
      clear ho hl hm hf hrd hle hkk hg hbd hib hrow hsc hbx CR3 HT2 HG2
      go_upto_region 17 with fail
      generalize (y3.setCell ⟨pe, 3, none⟩ (.slice a3 m3 z3)) = x3 at HT3 ⊢
      clear b0 g0
      obtain ⟨⟨nn, t4, e4⟩, hr4⟩ : ∃ r, r = rdNum t3 := ⟨_, rfl⟩
      have hnM4 := rdNum_le t3
      have CR4 := refRdNum p t3 bd3 x3 (by have := HG3.out.2.2; unfold maxLen; omega) HT3.out.1.rd
      rw [← hr4] at CR4 hnM4
      simp only at CR4 hnM4
      have CR4 := Lib.hid CR4
      go_wp2_with fail
      refine CR4.out.mono ?_
      rintro e y4 ⟨rfl, hrd, hkk⟩
      have hrow := HT3.out.1.row (i := 4) hkk hrd (by have := HORD.out; omega) (.int .i64 (nn : Int))
      have hbx := HT3.out.1.box.of_block (hkk.block pe HT3.out.1.box.lt (by have := HORD.out; omega))
      have b0 := hbx.cell 4 _ rfl
      have g0 := hbx.free 4
      have HT4 : Hid (TlS w (y4.setCell ⟨pe, 4, none⟩ (.int .i64 (nn : Int))) p pe pr [.slice ad j cap, .slice a1 m1 z1, .slice a2 m2 z2, .slice a3 m3 z3, .int .i64 (nn : Int)] t4 (bd3 || decide (e4 ≠ 0)) ∧ MetasB (y4.setCell ⟨pe, 4, none⟩ (.int .i64 (nn : Int))) B ad j cap T ∧ IntsB (y4.setCell ⟨pe, 4, none⟩ (.int .i64 (nn : Int))) B a1 m1 z1 l1 ∧ IntsB (y4.setCell ⟨pe, 4, none⟩ (.int .i64 (nn : Int))) B a2 m2 z2 l2 ∧ IntsB (y4.setCell ⟨pe, 4, none⟩ (.int .i64 (nn : Int))) B a3 m3 z3 l3) :=
        ⟨hrow.1, HT3.out.2.1.kept hrow.2 (fun k hx => by have := HORD.out; omega), HT3.out.2.2.1.kept hrow.2 (fun k hx => by have := HORD.out; omega), HT3.out.2.2.2.1.kept hrow.2 (fun k hx => by have := HORD.out; omega), HT3.out.2.2.2.2.kept hrow.2 (fun k hx => by have := HORD.out; omega)⟩
      have HG4 : Hid (((bd3 || decide (e4 ≠ 0)) = false → rdEd b = some ((T, l1, l2, l3, (nn : Int)), t4)) ∧ ((bd3 || decide (e4 ≠ 0)) = true → rdEd b = none)) := by
        refine ⟨fun h => ?_, fun h => ?_⟩
        · simp only [Bool.or_eq_false_iff, decide_eq_false_iff_not, ne_eq, Decidable.not_not] at h
          obtain ⟨q0, q1, q2, q3⟩ := HG3.out.1 h.1
          rw [HED.out, q0]; simp only [Option.bind_some]; rw [q1]; simp only [Option.bind_some]; rw [q2]; simp only [Option.bind_some]; rw [q3]; simp only [Option.bind_some]
          rw [← hr4]; simp only; rw [if_neg (by simp [h.2])]
        · cases hpd : bd3 with
          | true => exact HG3.out.2.1 hpd
          | false =>
            rw [hpd, Bool.false_or, decide_eq_true_eq] at h
            obtain ⟨q0, q1, q2, q3⟩ := HG3.out.1 hpd
            rw [HED.out, q0]; simp only [Option.bind_some]; rw [q1]; simp only [Option.bind_some]; rw [q2]; simp only [Option.bind_some]; rw [q3]; simp only [Option.bind_some]
            rw [← hr4]; simp only; rw [if_pos h]
      have hfn : FitV (nn : Int) := fit_nat hnM4
      have HFN := Lib.hid hfn
      clear hrd hkk hrow hbx CR4 HT3 HG3 hr4 hnM4 hfn
      go_upto_region 18 with fail
      generalize (y4.setCell ⟨pe, 4, none⟩ (.int .i64 (nn : Int))) = x4 at HT4 ⊢
      generalize (bd3 || decide (e4 ≠ 0)) = bd4 at HT4 HG4
      clear b0 g0
      have q1 := Holds.cell HT4.out.1.rd 1 _ rfl
      cases bd4 with
      | true =>
        have HV : Hid (dec = (zeroE, false)) := by show _ = _; rw [HDEC.out, HG4.out.2 rfl]
        have HT := Lib.hid HT4.out
        obtain ⟨o0, o1, o2, o3, o4⟩ := (show _ ∧ _ ∧ _ ∧ _ ∧ _ from ⟨HT.out.1.res.cell 0 _ rfl, HT.out.1.res.cell 1 _ rfl, HT.out.1.res.cell 2 _ rfl, HT.out.1.res.cell 3 _ rfl, HT.out.1.res.cell 4 _ rfl⟩)
        have f0 := HT.out.1.res.free 0
        have f1 := HT.out.1.res.free 1
        have f2 := HT.out.1.res.free 2
        have f3 := HT.out.1.res.free 3
        have f4 := HT.out.1.res.free 4
        have HK := Lib.hid HT.out.1.kept
        have hpw : w.heap.size ≤ pr := by have := HORD.out; omega
        clear HT4 HG4 HT
        go_wp2
        refine bodyPost_ret (v := .tuple #[.agg #[.slice none 0 0, .slice none 0 0, .slice none 0 0, .slice none 0 0, .int .i64 0], .bool false]) ?_ rfl ?_
        · rw [results_cell_tmp rfl]
          go_simp
        · refine ⟨none, 0, 0, none, 0, 0, none, 0, 0, none, 0, 0, by rw [HV.out]; rfl, by rw [HV.out]; exact ed_zero _, ?_⟩
          exact ((((HK.out.setNew (p := ⟨pr, 0, none⟩) hpw _).setNew (p := ⟨pr, 1, none⟩) hpw _).setNew (p := ⟨pr, 2, none⟩) hpw _).setNew (p := ⟨pr, 3, none⟩) hpw _).setNew (p := ⟨pr, 4, none⟩) hpw _
      | false =>
        have hee := HG4.out.1 rfl
        have HV0 : Hid (dec = if encE (T, l1, l2, l3, (nn : Int)) = (b, true) then ((T, l1, l2, l3, (nn : Int)), true) else (zeroE, false)) := by show _ = _; rw [HDEC.out, hee]
        have hew : EdW x4 ad j cap a1 m1 z1 a2 m2 z2 a3 m3 z3 (T, l1, l2, l3, (nn : Int)) := ⟨HT4.out.2.1.1, HT4.out.2.1.2.1, HT4.out.2.2.1.1, HT4.out.2.2.1.2.1, HT4.out.2.2.2.1.1, HT4.out.2.2.2.1.2.1, HT4.out.2.2.2.2.1, HT4.out.2.2.2.2.2.1, HFN.out⟩
        have CE := refEncode14 ad j cap a1 m1 z1 a2 m2 z2 a3 m3 z3 (T, l1, l2, l3, (nn : Int)) x4 hew
        obtain ⟨⟨a, ok⟩, hr5⟩ : ∃ r, r = encE (T, l1, l2, l3, (nn : Int)) := ⟨_, rfl⟩
        rw [← hr5] at CE HV0
        unfold edC at CE
        simp only at CE
        have CE := Lib.hid CE
        have s0 := HT4.out.1.box.cell 0 _ rfl
        have s1 := HT4.out.1.box.cell 1 _ rfl
        have s2 := HT4.out.1.box.cell 2 _ rfl
        have s3 := HT4.out.1.box.cell 3 _ rfl
        have s4 := HT4.out.1.box.cell 4 _ rfl
        clear hee hew hr5 HG4 HDEC HED
        go_wp2_with fail
        refine CE.out.mono ?_
        rintro e x5 ⟨rfl, hkk⟩
        have HT : Hid (TlS w x5 p pe pr [.slice ad j cap, .slice a1 m1 z1, .slice a2 m2 z2, .slice a3 m3 z3, .int .i64 (nn : Int)] t4 false ∧ MetasB x5 B ad j cap T ∧ IntsB x5 B a1 m1 z1 l1 ∧ IntsB x5 B a2 m2 z2 l2 ∧ IntsB x5 B a3 m3 z3 l3) :=
          ⟨HT4.out.1.still hkk, HT4.out.2.1.kept hkk (fun k hx => hx.elim), HT4.out.2.2.1.kept hkk (fun k hx => hx.elim), HT4.out.2.2.2.1.kept hkk (fun k hx => hx.elim), HT4.out.2.2.2.2.kept hkk (fun k hx => hx.elim)⟩
        clear hkk CE HT4 q1 s0 s1 s2 s3 s4
        obtain ⟨o0, o1, o2, o3, o4⟩ := (show _ ∧ _ ∧ _ ∧ _ ∧ _ from ⟨HT.out.1.res.cell 0 _ rfl, HT.out.1.res.cell 1 _ rfl, HT.out.1.res.cell 2 _ rfl, HT.out.1.res.cell 3 _ rfl, HT.out.1.res.cell 4 _ rfl⟩)
        have f0 := HT.out.1.res.free 0
        have f1 := HT.out.1.res.free 1
        have f2 := HT.out.1.res.free 2
        have f3 := HT.out.1.res.free 3
        have f4 := HT.out.1.res.free 4
        have HK := Lib.hid HT.out.1.kept
        have hpw : w.heap.size ≤ pr := by have := HORD.out; omega
        cases ok with
        | false =>
          have HV : Hid (dec = (zeroE, false)) := by show _ = _; rw [HV0.out, if_neg (by simp)]
          clear HV0 HT
          go_wp2
          refine bodyPost_ret (v := .tuple #[.agg #[.slice none 0 0, .slice none 0 0, .slice none 0 0, .slice none 0 0, .int .i64 0], .bool false]) ?_ rfl ?_
          · rw [results_cell_tmp rfl]
            go_simp
          · refine ⟨none, 0, 0, none, 0, 0, none, 0, 0, none, 0, 0, by rw [HV.out]; rfl, by rw [HV.out]; exact ed_zero _, ?_⟩
            exact ((((HK.out.setNew (p := ⟨pr, 0, none⟩) hpw _).setNew (p := ⟨pr, 1, none⟩) hpw _).setNew (p := ⟨pr, 2, none⟩) hpw _).setNew (p := ⟨pr, 3, none⟩) hpw _).setNew (p := ⟨pr, 4, none⟩) hpw _
        | true =>
          by_cases hab : a = b
          case neg =>
            have hq : (a == b) = false := by simpa using hab
            have HV : Hid (dec = (zeroE, false)) := by show _ = _; rw [HV0.out, if_neg (fun h => hab (Prod.mk.inj h).1)]
            clear HV0 HT hab
            go_wp2
            refine bodyPost_ret (v := .tuple #[.agg #[.slice none 0 0, .slice none 0 0, .slice none 0 0, .slice none 0 0, .int .i64 0], .bool false]) ?_ rfl ?_
            · rw [results_cell_tmp rfl]
              go_simp
            · refine ⟨none, 0, 0, none, 0, 0, none, 0, 0, none, 0, 0, by rw [HV.out]; rfl, by rw [HV.out]; exact ed_zero _, ?_⟩
              exact ((((HK.out.setNew (p := ⟨pr, 0, none⟩) hpw _).setNew (p := ⟨pr, 1, none⟩) hpw _).setNew (p := ⟨pr, 2, none⟩) hpw _).setNew (p := ⟨pr, 3, none⟩) hpw _).setNew (p := ⟨pr, 4, none⟩) hpw _
          have HV : Hid (dec = ((T, l1, l2, l3, (nn : Int)), true)) := by show _ = _; rw [HV0.out, if_pos (by rw [hab])]
          clear HV0
          subst hab
          have s0 := HT.out.1.box.cell 0 _ rfl
          have s1 := HT.out.1.box.cell 1 _ rfl
          have s2 := HT.out.1.box.cell 2 _ rfl
          have s3 := HT.out.1.box.cell 3 _ rfl
          have s4 := HT.out.1.box.cell 4 _ rfl
          go_wp2
          refine bodyPost_ret (v := .tuple #[.agg #[.slice ad j cap, .slice a1 m1 z1, .slice a2 m2 z2, .slice a3 m3 z3, .int .i64 (nn : Int)], .bool true]) ?_ rfl ?_
          · rw [results_cell_tmp rfl]
            go_simp
          · have hkr : Kept (fun k => k = pr) x5 (((((x5.setCell ⟨pr, 0, none⟩ (.slice ad j cap)).setCell ⟨pr, 1, none⟩ (.slice a1 m1 z1)).setCell ⟨pr, 2, none⟩ (.slice a2 m2 z2)).setCell ⟨pr, 3, none⟩ (.slice a3 m3 z3)).setCell ⟨pr, 4, none⟩ (.int .i64 (nn : Int))) :=
              Kept.setCell (X := fun k => k = pr) (Kept.setCell (X := fun k => k = pr) (Kept.setCell (X := fun k => k = pr) (Kept.setCell (X := fun k => k = pr) (Kept.setCell (X := fun k => k = pr) (Kept.refl _ x5) (p := ⟨pr, 0, none⟩) rfl _) (p := ⟨pr, 1, none⟩) rfl _) (p := ⟨pr, 2, none⟩) rfl _) (p := ⟨pr, 3, none⟩) rfl _) (p := ⟨pr, 4, none⟩) rfl _
            have hX : ∀ k, k = pr → k < B := fun k hx => by have := HORD.out; omega
            have m' := HT.out.2.1.kept hkr hX
            have i1 := HT.out.2.2.1.kept hkr hX
            have i2 := HT.out.2.2.2.1.kept hkr hX
            have i3 := HT.out.2.2.2.2.kept hkr hX
            refine ⟨ad, j, cap, a1, m1, z1, a2, m2, z2, a3, m3, z3, by rw [HV.out]; rfl, ?_, HK.out.trans hkr (fun k hx => .inr (by have := HORD.out; omega))⟩
            rw [HV.out]
            exact ⟨m'.1, m'.2.1, i1.1, i1.2.1, i2.1, i2.2.1, i3.1, i3.2.1, HFN.out⟩
    | false =>
      obtain ⟨g2, g3, g4⟩ := hI.out.good rfl
      obtain ⟨⟨a1, b1, e1⟩, r1⟩ : ∃ r, r = rdNum rest := ⟨_, rfl⟩
      obtain ⟨⟨a2, b2, e2⟩, r2⟩ : ∃ r, r = rdNum b1 := ⟨_, rfl⟩
      obtain ⟨⟨a3, b3, e3⟩, r3⟩ : ∃ r, r = rdTxt b2 := ⟨_, rfl⟩
      obtain ⟨⟨a4, b4, e4⟩, r4⟩ : ∃ r, r = rdTxt b3 := ⟨_, rfl⟩
      obtain ⟨⟨a5, b5, e5⟩, r5⟩ : ∃ r, r = rdNum b4 := ⟨_, rfl⟩
      have l1 := rdNum_len rest
      have l2 := rdNum_len b1
      have l3 := rdTxt_len b2
      have l4 := rdTxt_len b3
      have l5 := rdNum_len b4
      have m1 := rdNum_le rest
      have m2 := rdNum_le b1
      have m5 := rdNum_le b4
      have n1 := num_eats rest
      have hrest := hI.out.le
      rw [← r1] at l1 m1 n1
      rw [← r2] at l2 m2
      rw [← r3] at l3
      rw [← r4] at l4
      rw [← r5] at l5 m5
      simp only at l1 l2 l3 l4 l5 m1 m2 m5 n1
      have hmp := meta_parts r1.symm r2.symm r3.symm r4.symm r5.symm
      have Q1 := Lib.hid (fun (W : World) (bd : Bool) (h : RdV W p rest bd) => refRdNum p rest bd W (by unfold maxLen; omega) h)
      have Q2 := Lib.hid (fun (W : World) (bd : Bool) (h : RdV W p b1 bd) => refRdNum p b1 bd W (by unfold maxLen; omega) h)
      have Q3 := Lib.hid (fun (W : World) (bd : Bool) (h : RdV W p b2 bd) => refRdText p b2 bd W (by unfold maxLen; omega) h)
      have Q4 := Lib.hid (fun (W : World) (bd : Bool) (h : RdV W p b3 bd) => refRdText p b3 bd W (by unfold maxLen; omega) h)
      have Q5 := Lib.hid (fun (W : World) (bd : Bool) (h : RdV W p b4 bd) => refRdNum p b4 bd W (by unfold maxLen; omega) h)
      rw [← r1] at Q1
      rw [← r2] at Q2
      rw [← r3] at Q3
      rw [← r4] at Q4
      rw [← r5] at Q5
      simp only at Q1 Q2 Q3 Q4 Q5
      have hstep : Hid (((((((false || decide (e1 ≠ 0)) || decide (e2 ≠ 0)) || decide (e3 ≠ 0)) || decide (e4 ≠ 0)) || decide (e5 ≠ 0)) = false → rdTabs b = joinMV (T ++ [((a1 : Int), (a2 : Int), a3, a4, (a5 : Int))]) (rdMetas (n - (j + 1)) b5)) ∧
          ((((((false || decide (e1 ≠ 0)) || decide (e2 ≠ 0)) || decide (e3 ≠ 0)) || decide (e4 ≠ 0)) || decide (e5 ≠ 0)) = true → rdTabs b = none)) := by
        refine ⟨fun h => ?_, fun h => ?_⟩
        · rw [g4, show n - j = (n - (j + 1)) + 1 from by omega, metas_step (by rw [hmp, if_neg (by rw [h]; simp)])]
        · rw [g4, show n - j = (n - (j + 1)) + 1 from by omega, metas_stop (by rw [hmp, if_pos h])]
      have hfm : Hid (FitMV ((a1 : Int), (a2 : Int), a3, a4, (a5 : Int))) := ⟨fit_nat m1, fit_nat m2, fit_nat m5⟩
      have HP : Hid (b5.length ≤ rest.length ∧ (e1 = 0 → b5.length + 1 ≤ rest.length) ∧ j + rest.length ≤ b.length ∧ j < n) := ⟨by omega, fun h => by have := n1 h; omega, g3, hlt⟩
      have HO := Lib.hid hI.out.oth
      have HR := Lib.hid hI.out.rd
      have hpb := Holds.lt hI.out.rd
      have HLE : Hid (rest.length ≤ b.length) := hrest
      clear hI r1 r2 r3 r4 r5 l1 l2 l3 l4 l5 m1 m2 m5 n1 hrest hmp g2 g3 g4 FIN
      have hwa : Kept (fun k => k = p ∨ k = wr.heap.size) wr (wr.alloc (.cells #[.int .i64 0, .int .i64 0, .string ⟨#[]⟩, .string ⟨#[]⟩, .int .i64 0] 45)) := (Kept.refl _ wr).alloc _
      have HN0 : Hid (RdV (wr.alloc (.cells #[.int .i64 0, .int .i64 0, .string ⟨#[]⟩, .string ⟨#[]⟩, .int .i64 0] 45)) p rest false ∧ Holds (wr.alloc (.cells #[.int .i64 0, .int .i64 0, .string ⟨#[]⟩, .string ⟨#[]⟩, .int .i64 0] 45)) wr.heap.size [.int .i64 0, .int .i64 0, .string ⟨#[]⟩, .string ⟨#[]⟩, .int .i64 0] 45 ∧ Kept (fun k => k = p ∨ k = wr.heap.size) wr (wr.alloc (.cells #[.int .i64 0, .int .i64 0, .string ⟨#[]⟩, .string ⟨#[]⟩, .int .i64 0] 45))) :=
        ⟨HR.out.kept ((Kept.refl (fun _ => False) wr).alloc _) (fun f => f), Holds.new wr [.int .i64 0, .int .i64 0, .string ⟨#[]⟩, .string ⟨#[]⟩, .int .i64 0] _, hwa⟩
      clear hwa
      obtain ⟨pm, hpm⟩ : ∃ pm, pm = wr.heap.size := ⟨_, rfl⟩
      have HPM : Hid (pm = wr.heap.size ∧ p < pm) := ⟨hpm, by omega⟩
      clear hpb
      go_upto_region 8 with fail
      rw [← hpm] at HN0 ⊢
      clear hpm
      generalize wr.alloc (.cells #[.int .i64 0, .int .i64 0, .string ⟨#[]⟩, .string ⟨#[]⟩, .int .i64 0] 45) = x0 at HN0 ⊢
      go_wp2_with fail
      refine (Q1.out _ _ HN0.out.1).mono ?_
      rintro e y1 ⟨rfl, hrk, hkk⟩
      have hmk : Holds y1 pm [.int .i64 0, .int .i64 0, .string ⟨#[]⟩, .string ⟨#[]⟩, .int .i64 0] 45 := HN0.out.2.1.of_block (hkk.block pm HN0.out.2.1.lt (by have := HPM.out.2; omega))
      have ck := hmk.cell 0 _ rfl
      have fk := hmk.free 0
      have HN1 : Hid (RdV (y1.setCell ⟨pm, 0, none⟩ (.int .i64 (a1 : Int))) p b1 (false || decide (e1 ≠ 0)) ∧ Holds (y1.setCell ⟨pm, 0, none⟩ (.int .i64 (a1 : Int))) pm [.int .i64 (a1 : Int), .int .i64 0, .string ⟨#[]⟩, .string ⟨#[]⟩, .int .i64 0] 45 ∧ Kept (fun k => k = p ∨ k = pm) wr (y1.setCell ⟨pm, 0, none⟩ (.int .i64 (a1 : Int)))) :=
        ⟨hrk.kept (Kept.setCell (X := fun k => k = pm) (Kept.refl _ _) (p := ⟨pm, 0, none⟩) rfl _) (by have := HPM.out.2; omega), hmk.set 0 (.int .i64 (a1 : Int)),
          (HN0.out.2.2.trans hkk (fun k hk => .inl (.inl hk))).setCell (p := ⟨pm, 0, none⟩) (.inr rfl) _⟩
      clear hrk hkk hmk HN0 Q1
      go_upto_region 9 with fail
      generalize y1.setCell ⟨pm, 0, none⟩ (.int .i64 (a1 : Int)) = x1 at HN1 ⊢
      clear ck fk
      go_wp2_with fail
      refine (Q2.out _ _ HN1.out.1).mono ?_
      rintro e y2 ⟨rfl, hrk, hkk⟩
      have hmk : Holds y2 pm [.int .i64 (a1 : Int), .int .i64 0, .string ⟨#[]⟩, .string ⟨#[]⟩, .int .i64 0] 45 := HN1.out.2.1.of_block (hkk.block pm HN1.out.2.1.lt (by have := HPM.out.2; omega))
      have ck := hmk.cell 1 _ rfl
      have fk := hmk.free 1
      have HN2 : Hid (RdV (y2.setCell ⟨pm, 1, none⟩ (.int .i64 (a2 : Int))) p b2 ((false || decide (e1 ≠ 0)) || decide (e2 ≠ 0)) ∧ Holds (y2.setCell ⟨pm, 1, none⟩ (.int .i64 (a2 : Int))) pm [.int .i64 (a1 : Int), .int .i64 (a2 : Int), .string ⟨#[]⟩, .string ⟨#[]⟩, .int .i64 0] 45 ∧ Kept (fun k => k = p ∨ k = pm) wr (y2.setCell ⟨pm, 1, none⟩ (.int .i64 (a2 : Int)))) :=
        ⟨hrk.kept (Kept.setCell (X := fun k => k = pm) (Kept.refl _ _) (p := ⟨pm, 1, none⟩) rfl _) (by have := HPM.out.2; omega), hmk.set 1 (.int .i64 (a2 : Int)),
          (HN1.out.2.2.trans hkk (fun k hk => .inl (.inl hk))).setCell (p := ⟨pm, 1, none⟩) (.inr rfl) _⟩
      clear hrk hkk hmk HN1 Q2
      go_upto_region 10 with fail
      generalize y2.setCell ⟨pm, 1, none⟩ (.int .i64 (a2 : Int)) = x2 at HN2 ⊢
      clear ck fk
      go_wp2_with fail
      refine (Q3.out _ _ HN2.out.1).mono ?_
      rintro e y3 ⟨rfl, hrk, hkk⟩
      have hmk : Holds y3 pm [.int .i64 (a1 : Int), .int .i64 (a2 : Int), .string ⟨#[]⟩, .string ⟨#[]⟩, .int .i64 0] 45 := HN2.out.2.1.of_block (hkk.block pm HN2.out.2.1.lt (by have := HPM.out.2; omega))
      have ck := hmk.cell 2 _ rfl
      have fk := hmk.free 2
      have HN3 : Hid (RdV (y3.setCell ⟨pm, 2, none⟩ (.string ⟨a3.toArray⟩)) p b3 (((false || decide (e1 ≠ 0)) || decide (e2 ≠ 0)) || decide (e3 ≠ 0)) ∧ Holds (y3.setCell ⟨pm, 2, none⟩ (.string ⟨a3.toArray⟩)) pm [.int .i64 (a1 : Int), .int .i64 (a2 : Int), .string ⟨a3.toArray⟩, .string ⟨#[]⟩, .int .i64 0] 45 ∧ Kept (fun k => k = p ∨ k = pm) wr (y3.setCell ⟨pm, 2, none⟩ (.string ⟨a3.toArray⟩))) :=
        ⟨hrk.kept (Kept.setCell (X := fun k => k = pm) (Kept.refl _ _) (p := ⟨pm, 2, none⟩) rfl _) (by have := HPM.out.2; omega), hmk.set 2 (.string ⟨a3.toArray⟩),
          (HN2.out.2.2.trans hkk (fun k hk => .inl (.inl hk))).setCell (p := ⟨pm, 2, none⟩) (.inr rfl) _⟩
      clear hrk hkk hmk HN2 Q3
      go_upto_region 11 with fail
      generalize y3.setCell ⟨pm, 2, none⟩ (.string ⟨a3.toArray⟩) = x3 at HN3 ⊢
      clear ck fk
      go_wp2_with fail
      refine (Q4.out _ _ HN3.out.1).mono ?_
      rintro e y4 ⟨rfl, hrk, hkk⟩
      have hmk : Holds y4 pm [.int .i64 (a1 : Int), .int .i64 (a2 : Int), .string ⟨a3.toArray⟩, .string ⟨#[]⟩, .int .i64 0] 45 := HN3.out.2.1.of_block (hkk.block pm HN3.out.2.1.lt (by have := HPM.out.2; omega))
      have ck := hmk.cell 3 _ rfl
      have fk := hmk.free 3
      have HN4 : Hid (RdV (y4.setCell ⟨pm, 3, none⟩ (.string ⟨a4.toArray⟩)) p b4 ((((false || decide (e1 ≠ 0)) || decide (e2 ≠ 0)) || decide (e3 ≠ 0)) || decide (e4 ≠ 0)) ∧ Holds (y4.setCell ⟨pm, 3, none⟩ (.string ⟨a4.toArray⟩)) pm [.int .i64 (a1 : Int), .int .i64 (a2 : Int), .string ⟨a3.toArray⟩, .string ⟨a4.toArray⟩, .int .i64 0] 45 ∧ Kept (fun k => k = p ∨ k = pm) wr (y4.setCell ⟨pm, 3, none⟩ (.string ⟨a4.toArray⟩))) :=
        ⟨hrk.kept (Kept.setCell (X := fun k => k = pm) (Kept.refl _ _) (p := ⟨pm, 3, none⟩) rfl _) (by have := HPM.out.2; omega), hmk.set 3 (.string ⟨a4.toArray⟩),
          (HN3.out.2.2.trans hkk (fun k hk => .inl (.inl hk))).setCell (p := ⟨pm, 3, none⟩) (.inr rfl) _⟩
      clear hrk hkk hmk HN3 Q4
      go_upto_region 12 with fail
      generalize y4.setCell ⟨pm, 3, none⟩ (.string ⟨a4.toArray⟩) = x4 at HN4 ⊢
      clear ck fk
      go_wp2_with fail
      refine (Q5.out _ _ HN4.out.1).mono ?_
      rintro e y5 ⟨rfl, hrk, hkk⟩
      have hmk : Holds y5 pm [.int .i64 (a1 : Int), .int .i64 (a2 : Int), .string ⟨a3.toArray⟩, .string ⟨a4.toArray⟩, .int .i64 0] 45 := HN4.out.2.1.of_block (hkk.block pm HN4.out.2.1.lt (by have := HPM.out.2; omega))
      have ck := hmk.cell 4 _ rfl
      have fk := hmk.free 4
      have HN5 : Hid (RdV (y5.setCell ⟨pm, 4, none⟩ (.int .i64 (a5 : Int))) p b5 (((((false || decide (e1 ≠ 0)) || decide (e2 ≠ 0)) || decide (e3 ≠ 0)) || decide (e4 ≠ 0)) || decide (e5 ≠ 0)) ∧ Holds (y5.setCell ⟨pm, 4, none⟩ (.int .i64 (a5 : Int))) pm [.int .i64 (a1 : Int), .int .i64 (a2 : Int), .string ⟨a3.toArray⟩, .string ⟨a4.toArray⟩, .int .i64 (a5 : Int)] 45 ∧ Kept (fun k => k = p ∨ k = pm) wr (y5.setCell ⟨pm, 4, none⟩ (.int .i64 (a5 : Int)))) :=
        ⟨hrk.kept (Kept.setCell (X := fun k => k = pm) (Kept.refl _ _) (p := ⟨pm, 4, none⟩) rfl _) (by have := HPM.out.2; omega), hmk.set 4 (.int .i64 (a5 : Int)),
          (HN4.out.2.2.trans hkk (fun k hk => .inl (.inl hk))).setCell (p := ⟨pm, 4, none⟩) (.inr rfl) _⟩
      clear hrk hkk hmk HN4 Q5
      go_upto_region 13 with fail
      generalize y5.setCell ⟨pm, 4, none⟩ (.int .i64 (a5 : Int)) = x5 at HN5 ⊢
      clear ck fk
      obtain ⟨mm, hmm⟩ : ∃ mm : MetaV, mm = ((a1 : Int), (a2 : Int), a3, a4, (a5 : Int)) := ⟨_, rfl⟩
      have HM5 : Hid (Holds x5 pm (metaC mm) 45) := by rw [hmm]; exact HN5.out.2.1
      rw [← hmm] at hstep hfm
      have hDO := HO.out.step HN5.out.2.2 (by have := HORD.out; have := HPM.out; have := HO.out.box.lt; omega) (by have := HORD.out; have := HPM.out; have := HO.out.res.lt; omega)
        (fun g hg hx => by have := HO.out.own.lt g hg; have := HORD.out; have := HPM.out; omega) (fun k hk => by have := HORD.out; have := HPM.out; have := HO.out.kept.size; omega)
      have HD := Lib.hid hDO
      have d0 := hDO.box.cell 0 _ rfl
      have f0 := hDO.box.free 0
      have m0 := HM5.out.cell 0 _ rfl
      have m1 := HM5.out.cell 1 _ rfl
      have m2 := HM5.out.cell 2 _ rfl
      have m3 := HM5.out.cell 3 _ rfl
      have m4 := HM5.out.cell 4 _ rfl
      have HR5 := Lib.hid HN5.out.1
      have hNb := Lib.hid (Holds.new x5 (metaC mm) 45)
      have hBs : Hid (B ≤ x5.heap.size) := by show _ ≤ _; have := HORD.out; have := hDO.box.lt; have := HPM.out; have := HM5.out.lt; have := HO.out.box.lt; omega
      clear hDO hmm HO HR HN5
      go_wp2_with (at_builtin; refine wpList_append_own _ rfl (.tmp 44) (.tmp 46) 22 rfl B 45 i0 _ 5 56 Tryz.underlying22 hi hz0 hz1 hz2 rfl (by decide) _ j _ rfl (HD.out.own.alloc _) ⟨x5.heap.size, 0, none⟩ 1 1 (metaC mm) rfl rfl ?d1 (meta_one _) ?d3 ?d4 ?d5 ?_)
      case d1 =>
        intro q u hq
        have := hNb.out.cell q u hq
        rw [add0]
        exact this
      case d3 => unfold maxLen; omega
      case d4 => omega
      case d5 => have := hBs.out; simp; omega
      intro v2 wB hown hgr _
      obtain ⟨ad2, cap2, rfl⟩ : ∃ ad2 cap2, v2 = .slice ad2 (j + 1) cap2 := by
        rcases hown.2 with ⟨_, h⟩ | ⟨g, cap, cur, h, _⟩
        · omega
        · exact ⟨_, _, h⟩
      have hkB : Kept (fun k => av.ownBlock = some k) x5 wB := kept_grown ((Kept.refl _ x5).alloc _) hgr (fun b hb => .inl hb)
      have ho : ∀ g, av.ownBlock = some g → B ≤ g := fun g hg => (HD.out.own.lt g hg).1
      have hbox := HD.out.box.of_block (hkB.block pe HD.out.box.lt (fun hx => by have := ho _ hx; have := HORD.out; omega))
      have hres := HD.out.res.of_block (hkB.block pr HD.out.res.lt (fun hx => by have := ho _ hx; have := HORD.out; omega))
      have hrd := HR5.out.kept hkB (fun hx => by have := ho _ hx; have := HORD.out; omega)
      have b0 := hbox.cell 0 _ rfl
      have g0 := hbox.free 0
      have hks : Kept (fun k => k = pe) wB (wB.setCell ⟨pe, 0, none⟩ (.slice ad2 (j + 1) cap2)) := Kept.setCell (X := fun k => k = pe) (Kept.refl _ _) (p := ⟨pe, 0, none⟩) rfl _
      have HN : Hid (DcS w (wB.setCell ⟨pe, 0, none⟩ (.slice ad2 (j + 1) cap2)) p pe pr B n b (j + 1) (.slice ad2 (j + 1) cap2) (T ++ [mm]) b5 (((((false || decide (e1 ≠ 0)) || decide (e2 ≠ 0)) || decide (e3 ≠ 0)) || decide (e4 ≠ 0)) || decide (e5 ≠ 0))) := by
        refine ⟨⟨hbox.set 0 (.slice ad2 (j + 1) cap2), hres.of_block (hks.block pr hres.lt (by have := HORD.out; omega)), owns_of_block ?_ fun g hg => hks.block g ?_ ?_, by rw [List.length_append, HD.out.len]; rfl, fun z hz => ?_, ?_⟩, hrd.kept hks (by have := HORD.out; omega), by have := HP.out.1; have := HLE.out; omega, fun hg => ?_, fun hg => ?_⟩
        · rw [List.flatMap_append]; simpa using hown
        · exact (hown.lt g hg).2
        · have := (hown.lt g hg).1; have := HORD.out; omega
        · rcases List.mem_append.1 hz with h | h
          · exact HD.out.fit z h
          · rw [List.mem_singleton] at h; subst h; exact hfm.out
        · exact (HD.out.kept.trans hkB (fun k hx => .inr (by have := ho _ hx; have := HORD.out; omega))).trans hks (fun k hx => .inr (by have := HORD.out; omega))
        · refine ⟨by have := HP.out.2.2.2; omega, ?_, hstep.out.1 hg⟩
          have he1 : e1 = 0 := by
            simp only [Bool.or_eq_false_iff, decide_eq_false_iff_not, ne_eq, Decidable.not_not] at hg
            exact hg.1.1.1.1.2
          have := HP.out.2.1 he1; have := HP.out.2.2.1; omega
        · exact ⟨hstep.out.2 hg, by have := HP.out.2.2.1; omega⟩
      clear hown hgr hkB ho hbox hres hrd hks HD HR5 HM5 hNb hBs d0 f0 m0 m1 m2 m3 m4 hstep hfm HP HPM HLE
      generalize (((((false || decide (e1 ≠ 0)) || decide (e2 ≠ 0)) || decide (e3 ≠ 0)) || decide (e4 ≠ 0)) || decide (e5 ≠ 0)) = bd5 at HN
      go_wp2
      go_roundw
      case rel => exact ⟨j + 1, .slice ad2 (j + 1) cap2, T ++ [mm], b5, bd5, by first | rfl | go_num, HN⟩
      case measure => simp [intOf]; omega

end Go.Proofs.YtjdolimeibpacaaGreat
