/- Package mem: a table in memory over the program's list; New, Size, Len. -/
import Derived.Test.YtlmlldcpllagbaaTb10
import Derived.Test.YtlmlldcpllagbaaMmK
namespace Go.Proofs.Ytlmlldcpllagbaa
open Go.RowKit Go.Proofs Go.Proofs.Pk
set_option maxRecDepth 10000
attribute [local simp] mk_get wrap64_u8 mk_extract ByteArray.mk_append_mk get_1k

def tbC (l g n cap : Nat) (T : List MEnt) : List Value := [.pointer (some ⟨l, 0, none⟩), .slice (some ⟨g, 0, none⟩) n cap, .int .i64 (sizeM T : Int)]
structure TbRaw (At : SkOf) (w : World) (B t l g n cap : Nat) (T : List MEnt) (E : List Ent) (hs : List Int) (Xl : Nat → Prop) : Prop where
  ok : MmOk T
  obj : Holds w t (tbC l g n cap T) 54
  low : B ≤ t
  list : At w B l E Xl
  keys : E.map (·.1) = T.map writeS
  hlen : hs.length = n
  pos : 0 < n
  few : (n : Int) * 8 ≤ 140737488351232
  fit : Fit64 hs
  glow : B ≤ g
  glt : g < w.heap.size
  row : ∀ i (h : i < hs.length), w.cell? ⟨g, i, none⟩ = some (.int .i64 hs[i])
  nt : ¬Xl t
  ng : ¬Xl g
  ne : g ≠ t
def blocksT (t g : Nat) (Xl : Nat → Prop) (k : Nat) : Prop := k = t ∨ k = g ∨ Xl k
def TbAt (At : SkOf) : MmOf := fun w B t T X => ∃ l g n cap E hs Xl, TbRaw At w B t l g n cap T E hs Xl ∧ X = blocksT t g Xl
theorem TbRaw.lens {At : SkOf} {w : World} {B t l g n cap : Nat} {T : List MEnt} {E : List Ent} {hs : List Int} {Xl : Nat → Prop} (h : TbRaw At w B t l g n cap T E hs Xl) : E.length = T.length := by
  have := congrArg List.length h.keys
  simpa using this
theorem TbRaw.kept {At : SkOf} (K : SkJ At) {w w' : World} {B t l g n cap : Nat} {T : List MEnt} {E : List Ent} {hs : List Int} {Xl Y : Nat → Prop} (h : TbRaw At w B t l g n cap T E hs Xl) (hk : Kept Y w w') (hY : ∀ k, blocksT t g Xl k → ¬Y k) : TbRaw At w' B t l g n cap T E hs Xl :=
  ⟨h.ok, h.obj.of_block (hk.block t h.obj.lt (hY t (.inl rfl))), h.low, K.kept h.list hk (fun k hx => hY k (.inr (.inr hx))), h.keys, h.hlen, h.pos, h.few, h.fit, h.glow, Nat.lt_of_lt_of_le h.glt hk.size,
   fun i hi => (World.cell?_of_block (w := w) (hk.block g h.glt (hY g (.inr (.inl rfl))))).trans (h.row i hi), h.nt, h.ng, h.ne⟩
theorem TbRaw.still {At : SkOf} (K : SkJ At) {w w' : World} {B t l g n cap : Nat} {T : List MEnt} {E : List Ent} {hs : List Int} {Xl : Nat → Prop} (h : TbRaw At w B t l g n cap T E hs Xl) (hk : Kept (fun _ => False) w w') : TbRaw At w' B t l g n cap T E hs Xl := h.kept K hk (fun _ _ f => f)
theorem TbRaw.lt {At : SkOf} (K : SkJ At) {w : World} {B t l g n cap : Nat} {T : List MEnt} {E : List Ent} {hs : List Int} {Xl : Nat → Prop} (h : TbRaw At w B t l g n cap T E hs Xl) (k : Nat) (hk : blocksT t g Xl k) : B ≤ k ∧ k < w.heap.size := by
  rcases hk with rfl | rfl | hk
  · exact ⟨h.low, h.obj.lt⟩
  · exact ⟨h.glow, h.glt⟩
  · exact K.lt h.list k hk

/-- A new table, from its list, its row of heights, and the struct that names them. -/
theorem tb_new {At : SkOf} (K : SkJ At) {w1 w2 w3 : World} {B l n : Nat} {v : Value} {hs : List Int} {Xl : Nat → Prop} (hB : B ≤ w1.heap.size) (hl : At w2 B l [] Xl) (hx : ∀ k, Xl k → w1.heap.size ≤ k) (hk1 : Kept (fun _ => False) w1 w2)
    (hl2 : hs.length = n) (hn : 0 < n) (h8 : (n : Int) * 8 ≤ 140737488351232) (hf : Fit64 hs) (ho : w3.ownsRow w2.heap.size 3 1 v n (hs.map intV)) (hk2 : Kept (fun _ => False) w2 w3) :
    ∃ g cap, v = .slice (some ⟨g, 0, none⟩) n cap ∧ TbRaw At (w3.alloc (.cells (tbC l g n cap []).toArray 54)) B w3.heap.size l g n cap [] [] hs Xl ∧ Kept (fun _ => False) w1 (w3.alloc (.cells (tbC l g n cap []).toArray 54)) ∧ w1.heap.size ≤ g ∧ ∀ k, blocksT w3.heap.size g Xl k → w1.heap.size ≤ k := by
  rcases ho.2 with ⟨_, hbad⟩ | ⟨g, cap, cur, rfl, _⟩
  · omega
  · have hg := ho.lt g rfl
    have hlt := fun k hk => (K.lt hl k hk).2
    have hw : Kept (fun _ => False) w2 (w3.alloc (.cells (tbC l g n cap []).toArray 54)) := hk2.alloc _
    have h2 := hk2.size
    have h1 := hk1.size
    refine ⟨g, cap, rfl, ⟨MmOk.nil, Holds.new _ _ _, by omega, K.still hl hw, rfl, hl2, hn, h8, hf, by omega, by have := hw.size; simp; omega, fun i hi => ?_, fun hx => ?_, fun hx => ?_, by omega⟩, hk1.trans hw (fun _ f => f.elim), by omega, ?_⟩
    · have hc := ho.cells rfl i (.int .i64 hs[i]) (by rw [List.getElem?_map, List.getElem?_eq_getElem hi]; rfl)
      rw [add0] at hc
      rw [← hc]
      exact World.cell?_of_block (w := w3) (by simp only [World.alloc]; rw [Array.getElem?_push_lt hg.2, Array.getElem?_eq_getElem hg.2])
    · have := hlt _ hx; omega
    · have := hlt _ hx; omega
    · rintro k (rfl | rfl | hk)
      · omega
      · omega
      · exact hx k hk

set_option maxHeartbeats 2000000 in
theorem newT {At : SkOf} (K : SkJ At) (w : World) (B : Nat) (ad : Option Addr) (len cap : Nat) (hs : List Int) (hB : B ≤ w.heap.size) (hI : Ints w ad len hs) (hf : Fit64 hs) (h8 : (len : Int) * 8 ≤ 140737488351232) :
    Calls Try.prog 8 #[.slice ad len cap] w fun e w' => ∃ t X, e = .returned (.pointer (some ⟨t, 0, none⟩)) ∧ TbAt At w' B t [] X ∧ (∀ k, X k → w.heap.size ≤ k) ∧ Kept (fun _ => False) w w' := by
  by_cases h0 : len = 0
  · subst h0
    have hk0 : Kept (fun _ => False) w (w.alloc (.cells #[.int .i64 1] 3)) := (Kept.refl _ w).alloc _
    have hH : Holds (w.alloc (.cells #[.int .i64 1] 3)) w.heap.size [.int .i64 1] 3 := Holds.new w [.int .i64 1] 3
    have hsz : w.heap.size ≤ (w.alloc (.cells #[.int .i64 1] 3)).heap.size := hk0.size
    clear hI
    go_enter Try.func8, Try.ntmps8
    go_upto_region 3 with (fail)
    obtain ⟨q, hq⟩ : ∃ q, Hid (q = w.heap.size) := ⟨_, rfl⟩
    rw [← hq.out] at hH ⊢
    generalize w.alloc (.cells #[.int .i64 1] 3) = w1 at hk0 hH hsz ⊢
    have HK0 := Lib.hid hk0
    have HN := Lib.hid (K.new w1 B (by omega))
    have HL : Hid (∀ W, Kept (fun _ => False) w1 W → Calls Try.prog 25 #[.slice (some ⟨q, 0, none⟩) 1 1] W fun e w' => ∃ v, e = .returned v ∧ w'.ownsRow W.heap.size 3 1 v 1 ([(1 : Int)].map intV) ∧ Kept (fun _ => False) W w') := fun W hk => by
      have hH2 := hH.of_block (hk.block q hH.lt (fun f => f))
      exact cloneI q 0 1 1 [1] W rfl (by omega) (by omega) (fun i hi => by
        obtain rfl : i = 0 := by simpa using hi
        exact hH2.cell 0 _ rfl) hH2.lt
    have HB := Lib.hid (And.intro hB hsz)
    clear hk0 hH hsz hB
    go_wp2_with fail
    refine HN.out.mono ?_
    clear HN
    rintro e w2 ⟨l, Xl, rfl, hl, hx, hk⟩
    have HL2 := Lib.hid (HL.out w2 hk)
    have HX := Lib.hid (And.intro hl (And.intro hx hk))
    clear hl hx hk HL
    go_wp2_with fail
    refine HL2.out.mono ?_
    clear HL2
    rintro e w3 ⟨v, rfl, hown, hk3⟩
    obtain ⟨g, cg, rfl, hT, hKT, hg, hXX⟩ := tb_new K (Nat.le_trans HB.out.1 HB.out.2) HX.out.1 HX.out.2.1 HX.out.2.2 rfl (by decide) (by decide) (fun n hn => by simp at hn; omega) hown hk3
    have HT := Lib.hid (And.intro hT (And.intro (HK0.out.trans hKT (fun _ f => f.elim)) hXX))
    clear hT hKT hg hXX hown hk3 HX
    go_wp2
    go_ret
    exact ⟨w3.heap.size, _, rfl, ⟨l, g, 1, cg, [], [1], Xl, HT.out.1, rfl⟩, fun k hk => Nat.le_trans HB.out.2 (HT.out.2.2 k hk), HT.out.2.1⟩
  · obtain ⟨b, off, rfl, hb, hc⟩ : ∃ b off, ad = some ⟨b, off, none⟩ ∧ b < w.heap.size ∧ ∀ i (h : i < hs.length), w.cell? ⟨b, off + i, none⟩ = some (.int .i64 hs[i]) := by
      rcases hI.2 with h | h
      · rw [← hI.1, h] at h0; exact absurd rfl h0
      · exact h
    have hl := hI.1
    have n0 : ¬(len : Int) = 0 := by omega
    have hpos : 0 < len := by omega
    have HN := Lib.hid (K.new w B (by omega))
    have HL : Hid (∀ W, Kept (fun _ => False) w W → Calls Try.prog 25 #[.slice (some ⟨b, off, none⟩) len cap] W fun e w' => ∃ v, e = .returned v ∧ w'.ownsRow W.heap.size 3 1 v len (hs.map intV) ∧ Kept (fun _ => False) W w') := fun W hk =>
      cloneI b off len cap hs W hl hpos h8 (fun i hi => (World.cell?_of_block (w := w) (hk.block b hb (fun f => f))).trans (hc i hi)) (Nat.lt_of_lt_of_le hb hk.size)
    have HB := Lib.hid (And.intro hB (And.intro hl (And.intro hpos (And.intro h8 hf))))
    clear hI h0 hb hc hl hpos hB h8 hf
    go_enter Try.func8, Try.ntmps8
    go_wp2_with fail
    refine HN.out.mono ?_
    clear HN
    rintro e w2 ⟨l, Xl, rfl, hl, hx, hk⟩
    have HL2 := Lib.hid (HL.out w2 hk)
    have HX := Lib.hid (And.intro hl (And.intro hx hk))
    clear hl hx hk HL
    go_wp2_with fail
    refine HL2.out.mono ?_
    clear HL2
    rintro e w3 ⟨v, rfl, hown, hk3⟩
    obtain ⟨g, cg, rfl, hT, hKT, hg, hXX⟩ := tb_new K HB.out.1 HX.out.1 HX.out.2.1 HX.out.2.2 HB.out.2.1 HB.out.2.2.1 HB.out.2.2.2.1 HB.out.2.2.2.2 hown hk3
    have HT := Lib.hid (And.intro hT (And.intro hKT hXX))
    clear hT hKT hg hXX hown hk3 HX
    go_wp2
    go_ret
    exact ⟨w3.heap.size, _, rfl, ⟨l, g, len, cg, [], hs, Xl, HT.out.1, rfl⟩, HT.out.2.2, HT.out.2.1⟩

theorem sizeT {At : SkOf} {w : World} {B t l g n cap : Nat} {T : List MEnt} {E : List Ent} {hs : List Int} {Xl : Nat → Prop} (h : TbRaw At w B t l g n cap T E hs Xl) :
    Calls Try.prog 20 #[.pointer (some ⟨t, 0, none⟩)] w fun r w' => r = .returned (.int .i64 (sizeM T : Int)) ∧ Kept (fun _ => False) w w' := by
  have c2 : w.cell? ⟨t, 2, none⟩ = some (.int .i64 (sizeM T : Int)) := h.obj.cell 2 _ rfl
  clear h
  generalize (sizeM T : Int) = s at c2 ⊢
  go_enter Try.func20, Try.ntmps20
  go_wp2
  go_ret
  exact ⟨rfl, Kept.refl _ _⟩

theorem lenT {At : SkOf} (K : SkJ At) {w : World} {B t l g n cap : Nat} {T : List MEnt} {E : List Ent} {hs : List Int} {Xl : Nat → Prop} (h : TbRaw At w B t l g n cap T E hs Xl) (hl : T.length ≤ 1001) :
    Calls Try.prog 22 #[.pointer (some ⟨t, 0, none⟩)] w fun r w' => r = .returned (.int .i64 (T.length : Int)) ∧ Kept (fun _ => False) w w' := by
  have c0 : w.cell? ⟨t, 0, none⟩ = some (.pointer (some ⟨l, 0, none⟩)) := h.obj.cell 0 _ rfl
  have hL := K.len h.list (by rw [h.lens]; exact hl)
  rw [h.lens] at hL
  have HL := Lib.hid hL
  clear h hL
  generalize (T.length : Int) = s at HL ⊢
  go_enter Try.func22, Try.ntmps22
  go_wp2_with fail
  refine HL.out.mono ?_
  rintro e w2 ⟨rfl, hk⟩
  go_wp2
  go_ret
  exact ⟨rfl, hk⟩

end Go.Proofs.Ytlmlldcpllagbaa
