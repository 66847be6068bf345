/- VolP, VolA. -/
import Derived.Test.YtfbgagpihhbllaaGreatDoorJ13
import Derived.Test.YtfbgagpihhbllaaGreatDoorJ18
import Derived.Test.YtfbgagpihhbllaaGreatDoorJ12
import Derived.Test.YtfbgagpihhbllaaGreatDoorJ05
import Derived.Test.YtfbgagpihhbllaaGreatDoorJ04
import Derived.Deep.Cut
import Derived.Deep.RegionLaw
import Derived.Lib.SliceRun
import Derived.Shelf.Abstract

/- The program's volume in memory. -/
namespace Go.Proofs.YtfbgagpihhbllaaGreatDoor
open Go.RowKit Go.Proofs Go.Proofs.Pk
set_option maxRecDepth 10000
attribute [local simp] mk_get wrap64_u8 mk_extract ByteArray.mk_append_mk get_1k

/-- The cells of a volume's object. -/
def cellsV (pd : Nat) (R : RootN) (vF : Value) (gone : Bool) : List Value := [.pointer (some ⟨pd, 0, none⟩), .int .i64 (R.1 : Int), .int .i64 (R.2.1 : Int), .int .i64 (R.2.2.1 : Int), vF, .bool gone]
/-- The program's volume at the block p: its disk at pd, its root's files in vF. -/
structure VlAt (w : World) (B p pd : Nat) (V : Vol) (vF : Value) (Xd : Nat → Prop) : Prop where
  obj : Holds w p (cellsV pd V.R vF V.gone) 80
  dsk : DskP w B pd V.D Xd
  fil : w.ownsRow B 102 3 vF V.R.2.2.2.length (cellsF V.R.2.2.2)
  base : B ≤ p
  nep : ¬Xd p
  nef : ∀ b, vF.ownBlock = some b → b ≠ p ∧ ¬Xd b
  ok : V.D.Ok
  room : 18 ≤ V.D.L.length
  right : rightN V.D.L.length V.R = true ∨ V.R = rootZ
def VlP (w : World) (B p pd : Nat) (V : Vol) (vF : Value) (X : Nat → Prop) : Prop := ∃ Xd, VlAt w B p pd V vF Xd ∧ ∀ k, X k ↔ k = p ∨ Xd k

theorem DskP.lt {w : World} {B p : Nat} {S : Dsk} {X : Nat → Prop} (h : DskP w B p S X) : ∀ k, X k → B ≤ k ∧ k < w.heap.size := by
  obtain ⟨gD, gS, vC, h⟩ := h; exact h.lt
theorem VlP.lt {w : World} {B p pd : Nat} {V : Vol} {vF : Value} {X : Nat → Prop} (h : VlP w B p pd V vF X) : ∀ k, X k ∨ vF.ownBlock = some k → B ≤ k ∧ k < w.heap.size := by
  obtain ⟨Xd, h, hX⟩ := h
  rintro k (hk | hk)
  · rcases (hX k).1 hk with rfl | hk
    · exact ⟨h.base, h.obj.lt⟩
    · exact h.dsk.lt k hk
  · exact h.fil.lt k hk
theorem VlP.off {w : World} {B p pd : Nat} {V : Vol} {vF : Value} {X : Nat → Prop} (h : VlP w B p pd V vF X) : ∀ k, vF.ownBlock = some k → ¬X k := by
  obtain ⟨Xd, h, hX⟩ := h
  intro k hk hx
  have := h.nef k hk
  rcases (hX k).1 hx with rfl | hx
  · exact this.1 rfl
  · exact this.2 hx
theorem VlP.mine {w : World} {B p pd : Nat} {V : Vol} {vF : Value} {X : Nat → Prop} (h : VlP w B p pd V vF X) : X p := by
  obtain ⟨Xd, h, hX⟩ := h
  exact (hX p).2 (.inl rfl)
theorem VlP.obj {w : World} {B p pd : Nat} {V : Vol} {vF : Value} {X : Nat → Prop} (h : VlP w B p pd V vF X) : Holds w p (cellsV pd V.R vF V.gone) 80 := by
  obtain ⟨Xd, h, hX⟩ := h
  exact h.obj
theorem VlP.ok {w : World} {B p pd : Nat} {V : Vol} {vF : Value} {X : Nat → Prop} (h : VlP w B p pd V vF X) : V.D.Ok := by
  obtain ⟨Xd, h, hX⟩ := h
  exact h.ok
theorem VlP.room {w : World} {B p pd : Nat} {V : Vol} {vF : Value} {X : Nat → Prop} (h : VlP w B p pd V vF X) : 18 ≤ V.D.L.length := by
  obtain ⟨Xd, h, hX⟩ := h
  exact h.room
theorem VlP.right {w : World} {B p pd : Nat} {V : Vol} {vF : Value} {X : Nat → Prop} (h : VlP w B p pd V vF X) : rightN V.D.L.length V.R = true ∨ V.R = rootZ := by
  obtain ⟨Xd, h, hX⟩ := h
  exact h.right
theorem VlP.fil {w : World} {B p pd : Nat} {V : Vol} {vF : Value} {X : Nat → Prop} (h : VlP w B p pd V vF X) : w.ownsRow B 102 3 vF V.R.2.2.2.length (cellsF V.R.2.2.2) := by
  obtain ⟨Xd, h, hX⟩ := h
  exact h.fil
theorem VlP.kept {w w' : World} {B p pd : Nat} {V : Vol} {vF : Value} {X Y : Nat → Prop} (h : VlP w B p pd V vF X) (hk : Kept Y w w') (hd : ∀ k, X k ∨ vF.ownBlock = some k → ¬Y k) : VlP w' B p pd V vF X := by
  have hl := h.lt
  obtain ⟨Xd, h, hX⟩ := h
  have blk : ∀ k, X k ∨ vF.ownBlock = some k → w'.heap[k]? = w.heap[k]? := fun k hx => hk.block k (hl k hx).2 (hd k hx)
  refine ⟨Xd, ⟨h.obj.of_block (blk p (.inl ((hX p).2 (.inl rfl)))), h.dsk.kept hk (fun k hx => hd k (.inl ((hX k).2 (.inr hx)))), owns_of_block h.fil fun g hg => blk g (.inr hg), h.base, h.nep, h.nef, h.ok, h.room, h.right⟩, hX⟩
theorem VlP.still {w w' : World} {B p pd : Nat} {V : Vol} {vF : Value} {X : Nat → Prop} (h : VlP w B p pd V vF X) (hk : Kept (fun _ => False) w w') : VlP w' B p pd V vF X := h.kept hk (fun _ _ hf => hf)
theorem right_few {T : Int} {R : RootN} (h : rightN T R = true) : R.2.2.2.length ≤ 24 ∧ R.1 ≤ MaxN ∧ R.2.1 ≤ MaxN ∧ R.2.2.1 ≤ MaxN ∧ (∀ f ∈ R.2.2.2, FitF (fileI f) ∧ f.2.2 ≤ 4000 ∧ f.2.1 ≤ 4000 ∧ f.1 ≤ MaxN) ∧ 1 ≤ R.1 ∧ 1 ≤ R.2.1 := by
  have hp := right_p.1 h
  have h1 := hp.aSeq
  have h2 := hp.aNext
  have h3 := hp.few
  rw [List.length_map] at h3
  obtain ⟨N, e, hN, hg, _⟩ := hp.runs
  have hf : ∀ f ∈ R.2.2.2, FitF (fileI f) ∧ f.2.2 ≤ 4000 ∧ f.2.1 ≤ 4000 ∧ f.1 ≤ MaxN := fun f hf => by
    have ha := hp.each (fileI f) (List.mem_map_of_mem hf)
    have hG := hg (fileI f).2 (by unfold usedF; exact List.mem_map_of_mem (List.mem_map_of_mem hf))
    unfold fileI at ha hG
    unfold Pk.Good at hG
    simp only at ha hG
    refine ⟨⟨?_, ?_, ?_⟩, by omega, by omega, by unfold MaxN; omega⟩
    · show Fit (f.1 : Int); unfold Fit; omega
    · show Fit (f.2.1 : Int); unfold Fit; omega
    · show Fit (f.2.2 : Int); unfold Fit; omega
  refine ⟨h3, by unfold MaxN; omega, by unfold MaxN; omega, ?_, hf, by omega, by omega⟩
  rcases hp.aCur with h0 | ⟨f, hfm, h0⟩
  · have : R.2.2.1 = 0 := by omega
    omega
  · obtain ⟨g, hg2, rfl⟩ := List.mem_map.1 hfm
    have := (hf g hg2).2.2.2
    have h0' : (g.1 : Int) = (R.2.2.1 : Int) := h0
    omega
theorem VlP.few {w : World} {B p pd : Nat} {V : Vol} {vF : Value} {X : Nat → Prop} (h : VlP w B p pd V vF X) : V.R.2.2.2.length ≤ 24 ∧ V.R.1 ≤ MaxN ∧ V.R.2.1 ≤ MaxN ∧ V.R.2.2.1 ≤ MaxN ∧ (∀ f ∈ V.R.2.2.2, FitF (fileI f) ∧ f.2.2 ≤ 4000 ∧ f.2.1 ≤ 4000 ∧ f.1 ≤ MaxN) := by
  rcases h.right with hr | hz
  · have := right_few hr
    exact ⟨this.1, this.2.1, this.2.2.1, this.2.2.2.1, this.2.2.2.2.1⟩
  · rw [hz]; exact ⟨by simp [rootZ], by simp [rootZ], by simp [rootZ], by simp [rootZ], by simp [rootZ]⟩
theorem VlP.files {w : World} {B p pd : Nat} {V : Vol} {vF : Value} {X : Nat → Prop} (h : VlP w B p pd V vF X) : ∃ ad cap, vF = .slice ad V.R.2.2.2.length cap ∧ Files w ad V.R.2.2.2.length (V.R.2.2.2.map fileI) :=
  own_files h.fil rfl (fun f hf => (h.few.2.2.2.2 f hf).1)
theorem own_flat {w : World} {B : Nat} {e : TypeId} {ad : Option Addr} {n cap size : Nat} {xs : List Value} (h : w.ownsRow B e size (.slice ad n cap) n xs) : ad = none ∨ ∃ g, ad = some ⟨g, 0, none⟩ := by
  rcases h.2 with ⟨h1, _⟩ | ⟨g, c, cur, h1, _⟩
  · injection h1 with h1; exact .inl h1
  · injection h1 with h1; exact .inr ⟨g, h1⟩
/-- What the disk did becomes the volume's. -/
theorem VlP.disk {w w' : World} {B p pd : Nat} {V : Vol} {vF : Value} {X Xd' : Nat → Prop} {Xd : Nat → Prop} (h : VlAt w B p pd V vF Xd) (hX : ∀ k, X k ↔ k = p ∨ Xd k) {S' : Dsk} (hd : DskP w' B pd S' Xd') (hg : Grows w Xd Xd') (hk : Kept Xd w w') (hok : S'.Ok) (hl : S'.L.length = V.D.L.length) :
    VlP w' B p pd ⟨S', V.R, V.gone⟩ vF (fun k => k = p ∨ Xd' k) ∧ Grows w X (fun k => k = p ∨ Xd' k) ∧ Kept X w w' := by
  refine ⟨⟨Xd', ⟨h.obj.of_block (hk.block p h.obj.lt h.nep), hd, owns_of_block h.fil fun g hgb => hk.block g (h.fil.lt g hgb).2 (h.nef g hgb).2, h.base, ?_, ?_, hok, by rw [hl]; exact h.room, by rw [hl]; exact h.right⟩, fun _ => Iff.rfl⟩, ?_, hk.mono (fun n hn => (hX n).2 (.inr hn))⟩
  · intro hx
    rcases hg p hx with hx | hx
    · exact h.nep hx
    · have := h.obj.lt; omega
  · intro b hb
    refine ⟨(h.nef b hb).1, fun hx => ?_⟩
    rcases hg b hx with hx | hx
    · exact (h.nef b hb).2 hx
    · have := (h.fil.lt b hb).2; omega
  · rintro n (rfl | hn)
    · exact .inl ((hX n).2 (.inl rfl))
    · rcases hg n hn with hx | hx
      · exact .inl ((hX n).2 (.inr hx))
      · exact .inr hx
/-- A new root, in a row that is the volume's own from now on. -/
theorem VlP.reroot {w : World} {B p pd : Nat} {V : Vol} {vF vF' : Value} {X : Nat → Prop} (h : VlP w B p pd V vF X) (R : RootN) (gone : Bool) (hf : w.ownsRow B 102 3 vF' R.2.2.2.length (cellsF R.2.2.2)) (hn : ∀ b, vF'.ownBlock = some b → ¬X b)
    (hr : rightN V.D.L.length R = true ∨ R = rootZ) (w' : World) (hb : ∀ k, k ≠ p → w'.heap[k]? = w.heap[k]?) (ho : Holds w' p (cellsV pd R vF' gone) 80) : VlP w' B p pd ⟨V.D, R, gone⟩ vF' X := by
  obtain ⟨Xd, h, hX⟩ := h
  have hnp : ∀ b, vF'.ownBlock = some b → b ≠ p ∧ ¬Xd b := fun b hb' => ⟨fun e => hn b hb' ((hX b).2 (.inl e)), fun e => hn b hb' ((hX b).2 (.inr e))⟩
  refine ⟨Xd, ⟨ho, ?_, owns_of_block hf fun g hg => hb g (hnp g hg).1, h.base, h.nep, hnp, h.ok, h.room, hr⟩, hX⟩
  obtain ⟨gD, gS, vC, hD⟩ := h.dsk
  have blk : ∀ k, Xd k → w'.heap[k]? = w.heap[k]? := fun k hk => hb k (fun e => h.nep (e ▸ hk))
  exact ⟨gD, gS, vC, hD.obj.of_block (blk _ ((hD.own _).2 (.inl rfl))), hD.dur.of_block (blk _ ((hD.own _).2 (.inr (.inl rfl)))), hD.see.of_block (blk _ ((hD.own _).2 (.inr (.inr (.inl rfl))))), owns_of_block hD.cache fun g hg => blk g ((hD.own _).2 (.inr (.inr (.inr hg)))), hD.base, hD.ne, hD.neC, hD.own⟩
/-- The root written into the object. -/
theorem obj_rooted {w : World} {p pd : Nat} {R R' : RootN} {vF vF' : Value} {g : Bool} (h : Holds w p (cellsV pd R vF g) 80) :
    Holds ((((w.setCell ⟨p, 1, none⟩ (.int .i64 (R'.1 : Int))).setCell ⟨p, 2, none⟩ (.int .i64 (R'.2.1 : Int))).setCell ⟨p, 3, none⟩ (.int .i64 (R'.2.2.1 : Int))).setCell ⟨p, 4, none⟩ vF') p (cellsV pd R' vF' g) 80 := by
  have := (((h.set 1 (.int .i64 (R'.1 : Int))).set 2 (.int .i64 (R'.2.1 : Int))).set 3 (.int .i64 (R'.2.2.1 : Int))).set 4 vF'
  exact this
theorem heap_rooted {w : World} {p : Nat} {a b c d : Value} : ∀ k, k ≠ p → ((((w.setCell ⟨p, 1, none⟩ a).setCell ⟨p, 2, none⟩ b).setCell ⟨p, 3, none⟩ c).setCell ⟨p, 4, none⟩ d).heap[k]? = w.heap[k]? := fun k hk => by
  rw [Below.heap_setCell _ _ _ _ hk, Below.heap_setCell _ _ _ _ hk, Below.heap_setCell _ _ _ _ hk, Below.heap_setCell _ _ _ _ hk]

/-- An error of layer 7: its number, and whether the disk's stands below. -/
def ErF (w : World) (v : Value) (c : Nat) (from' : Bool) : Prop :=
  (c = 0 ∧ v = .nilIface) ∨ (c ≠ 0 ∧ ∃ b, b < w.heap.size ∧ v = .iface 81 (.pointer (some ⟨b, 0, none⟩)) ∧ FaultAt w b 7 c (if from' then .iface 33 (.int .i64 c) else .nilIface))
theorem ErF.none (w : World) (f : Bool) : ErF w .nilIface 0 f := .inl ⟨rfl, rfl⟩

end Go.Proofs.YtfbgagpihhbllaaGreatDoor

/- Package volume: find; package slices at files: IndexFunc, Delete. -/
namespace Go.Proofs.YtfbgagpihhbllaaGreatDoor
open Go.RowKit Go.Proofs Go.Proofs.Pk
set_option maxRecDepth 10000
attribute [local simp] mk_get wrap64_u8 mk_extract ByteArray.mk_append_mk get_1k

/-- Where a file of this number is, or -1. -/
def findI (l : List FileV) (id : Int) : Int := match l.findIdx? (fun f => f.1 == id) with | some i => (i : Int) | none => -1
theorem findI_hit (l : List FileV) (id : Int) (k : Nat) (hk : k < l.length) (h : (l[k]).1 = id) (hb : ∀ j (hj : j < k), (l[j]'(by omega)).1 ≠ id) : findI l id = (k : Int) := by
  unfold findI
  rw [List.findIdx?_eq_some_iff_getElem.2 ⟨hk, by simp [h], fun j hj => by simpa using hb j hj⟩]
theorem findI_miss (l : List FileV) (id : Int) (hb : ∀ j (hj : j < l.length), (l[j]).1 ≠ id) : findI l id = -1 := by
  unfold findI
  rw [List.findIdx?_eq_none_iff.2 (fun x hx => by obtain ⟨j, hj, rfl⟩ := List.getElem_of_mem hx; simpa using hb j hj)]

set_option maxHeartbeats 400000 in
theorem closureF (q : Nat) (id : Int) (x : FileV) (W : World) (hq : W.cell? ⟨q, 0, none⟩ = some (.int .i64 id)) :
    Calls Tryz.prog 67 #[.agg #[.int .i64 x.1, .int .i64 x.2.1, .int .i64 x.2.2], .pointer (some ⟨q, 0, none⟩)] W fun e w' => e = .returned (.bool (x.1 == id)) ∧ Below W.heap.size W w' := by
  obtain ⟨a, b, c⟩ := x
  have hq' : (W.alloc (.cells #[.int .i64 a, .int .i64 b, .int .i64 c] 102)).cell? ⟨q, 0, none⟩ = some (.int .i64 id) := Go.Lib.cell?_alloc_some _ hq
  simp only
  go_enter Tryz.func67, Tryz.ntmps67
  go_wp2
  go_ret
  exact ⟨rfl, (Below.refl _ _).alloc (Nat.le_refl _) _⟩

set_option maxHeartbeats 1000000 in
theorem indexFuncP (ad : Option Addr) (len cap : Nat) (l : List FileV) (q : Nat) (id : Int) (w : World) (h : Files w ad len l) (hlen : len ≤ 1000000) (hql : q < w.heap.size) (hq : w.cell? ⟨q, 0, none⟩ = some (.int .i64 id)) :
    Calls Tryz.prog 66 #[.slice ad len cap, .func (.func 67) #[] #[.pointer (some ⟨q, 0, none⟩)]] w fun e w' => e = .returned (.int .i64 (findI l id)) ∧ Below w.heap.size w w' := by
  have eg : ∀ args w, (callFunc 67 args).run Tryz.prog w = .ok (.enter 67 args) w := Go.Proofs.enters_of Tryz.func67 (by kernel_rfl) rfl
  have H := Lib.hid h
  have hl := h.1
  have HQ : Hid (∀ W : World, Below w.heap.size w W → W.cell? ⟨q, 0, none⟩ = some (.int .i64 id)) := fun W hb => by rw [hb.cell (p := ⟨q, 0, none⟩) hql]; exact hq
  clear h hq hql
  go_enter Tryz.func66, Tryz.ntmps66
  go_wp2
  go_loopw [5, 8] (fun _ i wr => ∃ k : Nat, k ≤ len ∧ i = .int .i64 k ∧ Hid (Below w.heap.size w wr) ∧ Hid (∀ j (hj : j < l.length), j < k → (l[j]).1 ≠ id)) (fun _ i _ => len - (intOf i).toNat)
  case atStart => exact ⟨0, Nat.zero_le _, rfl, Below.refl _ _, fun j _ hj => absurd hj (Nat.not_lt_zero _)⟩
  case round =>
    obtain ⟨k, hk, rfl, hb, hm⟩ := hrel
    by_cases hlt : (k : Int) < len
    · have hkl : k < len := by omega
      obtain ⟨g, og, rfl, hgl, r1, _⟩ := files_at (H.out.below hb.out) k hkl
      obtain ⟨x, hx0⟩ : ∃ x, x = l[k]'(by omega) := ⟨_, rfl⟩
      rw [← hx0] at r1
      have hx := Lib.hid hx0
      clear hx0
      have HC := Lib.hid (closureF q id x wr (HQ.out wr hb.out))
      obtain ⟨a, b, c⟩ := x
      have d0 : wr.cell? ⟨g, og + k * 3, none⟩ = some (.int .i64 a) := r1 0 _ rfl
      have d1 : wr.cell? ⟨g, og + k * 3 + 1, none⟩ = some (.int .i64 b) := r1 1 _ rfl
      have d2 : wr.cell? ⟨g, og + k * 3 + 2, none⟩ = some (.int .i64 c) := r1 2 _ rfl
      have hk0 : (0 : Int) ≤ (k : Int) := Int.natCast_nonneg _
      have hwk : IntKind.i64.wrap ((k : Int) + 1) = ((k + 1 : Nat) : Int) := by rw [IntWalk.i64_in _ (by omega)]; omega
      simp only at HC
      clear r1
      by_cases he : a = id
      · subst he
        have hf : Hid (findI l a = (k : Int)) := findI_hit l a k (by omega) (by rw [← hx.out]) (fun j hj => hm.out j (by omega) hj)
        rw [show (a == a) = true by simp] at HC
        go_wp2_with fail
        refine HC.out.mono ?_
        rintro e w' ⟨rfl, hb'⟩
        go_wp2
        go_ret
        rw [hf.out]
        exact ⟨rfl, hb.out.trans (hb'.mono hb.out.size)⟩
      · rw [show (a == id) = false by simpa using he] at HC
        have hm2 : Hid (∀ j (hj : j < l.length), j < k + 1 → (l[j]).1 ≠ id) := fun j hj hjk => by
          rcases Nat.lt_or_ge j k with h | h
          · exact hm.out j hj h
          · obtain rfl : j = k := by omega
            rw [← hx.out]; exact he
        go_wp2_with fail
        refine HC.out.mono ?_
        rintro e w' ⟨rfl, hb'⟩
        go_wp2
        go_roundw
        case rel => exact ⟨k + 1, by omega, by first | rfl | go_num, hb.out.trans (hb'.mono hb.out.size), hm2⟩
        case measure => simp [intOf]; omega
    · have hf : Hid (findI l id = -1) := findI_miss l id (fun j hj => hm.out j hj (by omega))
      go_wp2
      go_ret
      rw [hf.out]
      exact ⟨rfl, hb.out⟩

set_option maxHeartbeats 400000 in
/-- find answers as it should. -/
theorem findP (ad : Option Addr) (len cap : Nat) (l : List FileV) (id : Int) (w : World) (h : Files w ad len l) (hlen : len ≤ 1000000) :
    Calls Tryz.prog 42 #[.slice ad len cap, .int .i64 id] w fun e w' => e = .returned (.int .i64 (findI l id)) ∧ Below w.heap.size w w' := by
  have hb0 := (Below.refl w.heap.size w).alloc (Nat.le_refl _) (.cells #[.int .i64 id] 3)
  have HI := Lib.hid (indexFuncP ad len cap l w.heap.size id (w.alloc (.cells #[.int .i64 id] 3)) (h.below hb0) hlen (by simp) (by simp))
  have HB := Lib.hid hb0
  clear h hb0
  go_enter Tryz.func42, Tryz.ntmps42
  go_wp2_with (go_at_call 66; refine HI.out.mono ?_; rintro e w' ⟨rfl, hb'⟩)
  go_ret
  exact ⟨rfl, HB.out.trans (hb'.mono HB.out.size)⟩

theorem run_clear_one {P : Program} (w : World) (t e ty : TypeId) (z : Value) (C : List Value) (ht : P.underlying t = some (.slice e)) (hv : ∀ w, (zeroValue e).run P w = .ok z w) (hz : z.cells = C.toArray) (h1 : ∀ v ∈ C, v.oneCell' = true) (b o c : Nat)
    (hc : ∀ j, j < C.length → (w.cell? ⟨b, o + j, none⟩).isSome = true) (hf : ∀ j, j < C.length → w.frozen? ⟨b, o + j, none⟩ = false) :
    (Builtin.clear_ #[t] ty #[.slice (some ⟨b, o, none⟩) 1 c]).run P w = .ok (.tuple #[]) (w.setCells b o C) := by
  have hzc : (Builtin.zeroCells z.cells 1).toList = C := by
    rw [hz]
    simp [Builtin.zeroCells]
    apply List.ext_getElem
    · simp
    · intro i h1 h2
      simp at h1
      simp [Nat.mod_eq_of_lt h1, List.getElem?_eq_getElem h1]
  have hst := run_storeCells_cells (P := P) b o C 0 w (by simpa using hc) (by simpa using hf) h1
  simp only [Nat.add_zero] at hst
  simp [Builtin.clear_, run_underlying ht, hv, hzc, hst]

def flatF (l : List FileV) : List Value := l.flatMap fileV
theorem flatF_length : ∀ l : List FileV, (flatF l).length = l.length * 3
  | [] => rfl
  | x :: l => by have := flatF_length l; unfold flatF at *; simp only [List.flatMap_cons, List.length_append, List.length_cons, fileV, List.length_nil] at *; omega
theorem flatF_take : ∀ (l : List FileV) (i : Nat), (flatF l).take (i * 3) = flatF (l.take i)
  | [], i => by simp [flatF]
  | x :: l, 0 => by simp [flatF]
  | x :: l, i + 1 => by
    have := flatF_take l i
    rw [show (i + 1) * 3 = i * 3 + 1 + 1 + 1 from by omega]
    unfold flatF at *
    simp [fileV, this]
theorem flatF_drop : ∀ (l : List FileV) (i : Nat), (flatF l).drop (i * 3) = flatF (l.drop i)
  | [], i => by simp [flatF]
  | x :: l, 0 => by simp [flatF]
  | x :: l, i + 1 => by
    have := flatF_drop l i
    rw [show (i + 1) * 3 = i * 3 + 1 + 1 + 1 from by omega]
    unfold flatF at *
    simp [fileV, this]
theorem flatF_append (l m : List FileV) : flatF (l ++ m) = flatF l ++ flatF m := by simp [flatF]
theorem flatF_one (l : List FileV) : ∀ v ∈ flatF l, v.oneCell' = true := by
  intro v hv
  obtain ⟨x, _, hx⟩ := List.mem_flatMap.1 hv
  simp only [fileV, List.mem_cons, List.not_mem_nil, or_false] at hx
  rcases hx with rfl | rfl | rfl <;> rfl
def z3 : List Value := [.int .i64 0, .int .i64 0, .int .i64 0]

set_option maxHeartbeats 4000000 in
/-- slices.Delete of one file of a row of one's own. -/
theorem deleteP (B g n cap i : Nat) (l : List FileV) (w : World) (h : w.ownsRow B 102 3 (.slice (some ⟨g, 0, none⟩) n cap) n (flatF l)) (hl : l.length = n) (hi : i < n) (hn : n ≤ 1000000) :
    Calls Tryz.prog 43 #[.slice (some ⟨g, 0, none⟩) n cap, .int .i64 (i : Int), .int .i64 ((i + 1 : Nat) : Int)] w fun e w' =>
      e = .returned (.slice (some ⟨g, 0, none⟩) (n - 1) cap) ∧ w'.ownsRow B 102 3 (.slice (some ⟨g, 0, none⟩) (n - 1) cap) (n - 1) (flatF (l.eraseIdx i)) ∧ Kept (fun k => k = g) w w' := by
  obtain ⟨iF, hiF, hzF, hsF, hbF⟩ := info_parts file_info
  rcases h.2 with ⟨h0, _⟩ | ⟨g', cap', cur, h0, hB, hg, hnc, hcm, hcs, htk⟩
  · cases h0
  injection h0 with e1 e2 e3
  injection e1 with e1
  injection e1 with e1
  subst e1 e3
  obtain ⟨C, rfl⟩ : ∃ C : List Value, cur = C.toArray := ⟨cur.toList, by simp⟩
  have hcl : C.length = cap * 3 := by simpa using hcs
  have htk : C.take (n * 3) = flatF l := by simpa using htk
  have HH : Holds w g C 102 := hg
  obtain ⟨m, rfl⟩ : ∃ m, n = i + 1 + m := ⟨n - (i + 1), by omega⟩
  obtain ⟨news, hnews⟩ : ∃ news, Hid (news = flatF (l.drop (i + 1))) := ⟨_, rfl⟩
  have hnl : news.length = m * 3 := by rw [hnews.out, flatF_length, List.length_drop]; omega
  have hCn : ∀ t u, news[t]? = some u → C[(i + 1) * 3 + t]? = some u := by
    intro t u hu
    have ht : t < m * 3 := by rw [← hnl]; exact (List.getElem?_eq_some_iff.1 hu).1
    rw [hnews.out, ← flatF_drop, ← htk, List.getElem?_drop, List.getElem?_take, if_pos (by omega)] at hu
    exact hu
  obtain ⟨A, hA, hsrc⟩ : ∃ A : Addr, (if cap = i + 1 then some (⟨g, 0, none⟩ : Addr) else some ⟨g, (i + 1) * 3, none⟩) = some A ∧ Hid (∀ t u, news[t]? = some u → w.drew.cell? (A.add t) = some u) := by
    by_cases hc : cap = i + 1
    · refine ⟨⟨g, 0, none⟩, by simp [hc], fun t u hu => ?_⟩
      have h0 : news.length = 0 := by rw [hnl]; omega
      rw [List.length_eq_zero_iff.1 h0] at hu
      simp at hu
    · refine ⟨⟨g, (i + 1) * 3, none⟩, by simp [hc], fun t u hu => ?_⟩
      rw [Addr.add_lit]
      exact HH.cell _ _ (hCn t u hu)
  have s1 : Hid (news.length = m * 3) := hnl
  have s2 : Hid (∀ u ∈ news, u.oneCell' = true) := by show ∀ _ _, _; rw [hnews.out]; exact flatF_one _
  have s3 : Hid (∀ t, t < news.length → (w.drew.cell? ⟨g, 0 + i * 3 + t, none⟩).isSome = true ∧ w.drew.frozen? ⟨g, 0 + i * 3 + t, none⟩ = false) := by
    intro t ht
    rw [hnl] at ht
    refine ⟨?_, HH.free _⟩
    show (w.cell? _).isSome = true
    rw [HH.cell (0 + i * 3 + t) _ (List.getElem?_eq_getElem (by omega))]; rfl
  obtain ⟨W1, hW1⟩ : ∃ W1, Hid (W1 = w.drew.setCells g (0 + i * 3) news) := ⟨_, rfl⟩
  have HH1 : Holds W1 g (Pk.lay C (i * 3) news) 102 := by
    rw [hW1.out, Nat.zero_add]; exact Holds.setCells news (i * 3) w.drew C HH.drew (by omega)
  have hl1 : (Pk.lay C (i * 3) news).length = cap * 3 := by rw [Pk.lay_length _ _ _ (by omega)]; exact hcl
  have K1 : Kept (fun k => k = g) w W1 := by rw [hW1.out]; exact Kept.setCells (X := fun k => k = g) rfl news _ w.drew ((Kept.refl _ w).drewN 1)
  have hcl2 : Hid (∀ ty, (Builtin.clear_ #[76] ty #[.slice (some ⟨g, (i + m) * 3, none⟩) 1 (cap - (i + m))]).run Tryz.prog W1 = .ok (.tuple #[]) (W1.setCells g ((i + m) * 3) z3)) :=
    fun ty => run_clear_one W1 _ _ ty _ z3 Tryz.underlying76 Tryz.zeroValue102 rfl (by intro v hv; simp only [z3, List.mem_cons, List.not_mem_nil, or_false] at hv; rcases hv with rfl | rfl | rfl <;> rfl) g _ _
      (fun t ht => by rw [HH1.cell _ _ (List.getElem?_eq_getElem (by simp [z3] at ht; omega))]; rfl) (fun t _ => HH1.free _)
  have HH2 := Lib.hid (Holds.setCells z3 ((i + m) * 3) W1 _ HH1 (by simp [z3]; omega))
  have K2 := Lib.hid (Kept.setCells (X := fun k => k = g) (g := g) rfl z3 ((i + m) * 3) W1 K1)
  have hic : i ≤ cap := by omega
  have hjc : i + 1 ≤ cap := by omega
  have hfin : Hid ((Pk.lay (Pk.lay C (i * 3) news) ((i + m) * 3) z3).take ((i + m) * 3) = flatF (l.eraseIdx i)) := by
    show _ = _
    have e1 : (Pk.lay C (i * 3) news).take ((i + m) * 3) = C.take (i * 3) ++ news := by
      unfold Pk.lay
      rw [← List.append_assoc, List.take_left' (by simp [hnl, hcl]; omega)]
    have e2 : (Pk.lay (Pk.lay C (i * 3) news) ((i + m) * 3) z3).take ((i + m) * 3) = (Pk.lay C (i * 3) news).take ((i + m) * 3) := by
      rw [Pk.lay, List.take_left' (by rw [List.length_take, hl1]; omega)]
    rw [e2, e1, List.eraseIdx_eq_take_drop_succ, flatF_append, hnews.out, ← flatF_take l i, ← htk, List.take_take, Nat.min_eq_left (by omega)]
  have hl2 : Hid ((Pk.lay (Pk.lay C (i * 3) news) ((i + m) * 3) z3).length = cap * 3) := by
    show _ = _
    rw [Pk.lay_length _ _ _ (by simp [z3]; omega)]; exact hl1
  have hle : Hid ((l.eraseIdx i).length = i + m) := by show _ = _; rw [List.length_eraseIdx, if_pos (by omega)]; omega
  have hB' := Lib.hid hB
  have hcm' := Lib.hid hcm
  have hj0 : (0 : Int) ≤ (i : Int) + 1 := by omega
  have hj1 : (i : Int) + 1 ≤ (i : Int) + 1 + (m : Int) := by omega
  clear HH1 hl1 K1 hCn htk hcl hg hcs HH h hnews hnl hB hcm hl
  go_enter Tryz.func43, Tryz.ntmps43
  go_wp2_with fail
  go_region_law (refine step_append_room rfl (.tmp 22) (.tmp 25) 76 rfl 102 iF 3 Tryz.underlying76 hiF hsF g 0 i cap (by simp [Act.eval, Act.put]) A m (cap - (i + 1)) news (by simp [Act.eval, Act.put]) s1.out hsrc.out s2.out (by omega) s3.out ?_; rw [← hW1.out])
  have hcl3 := hcl2.out
  have hne : ¬cap = i + m := by omega
  have hs1 : i + 1 + m - (i + m) = 1 := by omega
  go_wp2
  go_ret
  have en : i + 1 + m - 1 = i + m := by omega
  rw [en]
  refine ⟨rfl, ⟨by rw [flatF_length, hle.out], .inr ⟨g, cap, (Pk.lay (Pk.lay C (i * 3) news) ((i + m) * 3) z3).toArray, rfl, hB'.out, HH2.out, by omega, hcm'.out, by simpa using hl2.out, by simpa using hfin.out⟩⟩, K2.out⟩

end Go.Proofs.YtfbgagpihhbllaaGreatDoor
