/- Rpc16. -/
import Derived.Test.YtgcepbpdicadnaaJ23
import Derived.Test.YtgcepbpdicadnaaJ07
import Derived.Laws.AppendOwnNone

/- The reference of layer 16: the job that Pick builds, and the tables that it gathers, step by step. -/
namespace Go.Proofs.Ytgcepbpdicadnaa
open Go.RowKit Go.Proofs Go.Proofs.Pk
set_option maxRecDepth 10000

theorem app_one_int {W : World} {B : Nat} {a : Option Addr} {k c : Nat} {L : List Int} (x : Int) (ho : W.ownsRow B 3 1 (.slice a k c) k (L.map intC)) (hk : k ≤ 1000) (hB : B ≤ W.heap.size) :
    ∃ a2 c2 W2, (Builtin.append_ #[23, 23] 23 #[.slice a k c, .slice (some ⟨W.heap.size, 0, none⟩) 1 1]).run Try.prog (W.alloc (.cells [Value.int .i64 x].toArray 3)) = .ok (.slice a2 (k + 1) c2) W2 ∧ W2.ownsRow B 3 1 (.slice a2 (k + 1) c2) (k + 1) ((L ++ [x]).map intC) ∧
      Kept (fun z => (Value.slice a k c).ownBlock = some z) W W2 ∧ ∀ z, (Value.slice a2 (k + 1) c2).ownBlock = some z → (Value.slice a k c).ownBlock = some z ∨ W.heap.size ≤ z := by
  obtain ⟨iT, hiT, hzT, hsT, hbT⟩ := parts_of int_info
  have hh := Holds.new W [Value.int .i64 x] 3
  have hsz : (W.alloc (.cells [Value.int .i64 x].toArray 3)).heap.size = W.heap.size + 1 := Array.size_push _
  obtain ⟨v', W', h1, h2, h3, h4⟩ := run_append_at (P := Try.prog) (W.alloc (.cells [Value.int .i64 x].toArray 3)) B 23 23 3 iT (.int .i64 0) 1 8 Try.underlying23 hiT hzT hsT hbT rfl (by decide) (.slice a k c) k (L.map intC) (ho.alloc _) ⟨W.heap.size, 0, none⟩ 1 1 [Value.int .i64 x] rfl
    (fun j u hj => by rw [Addr.add_mid, Nat.zero_add]; exact hh.cell j u hj) (fun u hu => by rw [List.mem_singleton.1 hu]; rfl) (by unfold maxLen; omega) (by omega) (by omega) (by omega)
  have hx : ∃ a2 c2, v' = .slice a2 (k + 1) c2 := by
    rcases h2.2 with ⟨_, k2⟩ | ⟨g, cap, cur, k1, _⟩
    · omega
    · exact ⟨_, _, k1⟩
  obtain ⟨a2, c2, rfl⟩ := hx
  refine ⟨a2, c2, W', h1, ?_, kept_grown ((Kept.refl _ W).alloc _) h3 (fun b hb => .inl hb), fun z hz => ?_⟩
  · have e : (L ++ [x]).map intC = L.map intC ++ [Value.int .i64 x] := by simp [intC]
    rw [e]; exact h2
  · rcases h4 with h4 | h4
    · rw [h4] at hz; exact .inl hz
    · rw [h4] at hz
      injection hz with hz
      exact .inr (by omega)
theorem app_one_meta {W : World} {B : Nat} {a : Option Addr} {k c : Nat} {L : List MetaV} (x : MetaV) (ho : W.ownsRow B 49 5 (.slice a k c) k (L.flatMap metaC)) (hk : k ≤ 1000) (hB : B ≤ W.heap.size) :
    ∃ a2 c2 W2, (Builtin.append_ #[22, 22] 22 #[.slice a k c, .slice (some ⟨W.heap.size, 0, none⟩) 1 1]).run Try.prog (W.alloc (.cells (metaC x).toArray 49)) = .ok (.slice a2 (k + 1) c2) W2 ∧ W2.ownsRow B 49 5 (.slice a2 (k + 1) c2) (k + 1) ((L ++ [x]).flatMap metaC) ∧
      Kept (fun z => (Value.slice a k c).ownBlock = some z) W W2 ∧ ∀ z, (Value.slice a2 (k + 1) c2).ownBlock = some z → (Value.slice a k c).ownBlock = some z ∨ W.heap.size ≤ z := by
  obtain ⟨iT, hiT, hzT, hsT, hbT⟩ := parts_of meta_info
  have hh := Holds.new W (metaC x) 49
  have hsz : (W.alloc (.cells (metaC x).toArray 49)).heap.size = W.heap.size + 1 := Array.size_push _
  obtain ⟨v', W', h1, h2, h3, h4⟩ := run_append_at (P := Try.prog) (W.alloc (.cells (metaC x).toArray 49)) B 22 22 49 iT _ 5 56 Try.underlying22 hiT hzT hsT hbT rfl (by decide) (.slice a k c) k (L.flatMap metaC) (ho.alloc _) ⟨W.heap.size, 0, none⟩ 1 1 (metaC x) rfl
    (fun j u hj => by rw [Addr.add_mid, Nat.zero_add]; exact hh.cell j u hj) (meta_one x) (by unfold maxLen; omega) (by omega) (by omega) (by omega)
  have hx : ∃ a2 c2, v' = .slice a2 (k + 1) c2 := by
    rcases h2.2 with ⟨_, k2⟩ | ⟨g, cap, cur, k1, _⟩
    · omega
    · exact ⟨_, _, k1⟩
  obtain ⟨a2, c2, rfl⟩ := hx
  refine ⟨a2, c2, W', h1, ?_, kept_grown ((Kept.refl _ W).alloc _) h3 (fun b hb => .inl hb), fun z hz => ?_⟩
  · have e : (L ++ [x]).flatMap metaC = L.flatMap metaC ++ (metaC x) := by simp [intC]
    rw [e]; exact h2
  · rcases h4 with h4 | h4
    · rw [h4] at hz; exact .inl hz
    · rw [h4] at hz
      injection hz with hz
      exact .inr (by omega)

theorem own_ne_boxR {w : World} {B n : Nat} {e e' : TypeId} {sz : Nat} {v : Value} {X C : List Value} {g : Nat} (h : w.ownsRow B e sz v n X) (h' : Holds w g C e') (hne : e ≠ e') : ¬v.ownBlock = some g := by
  intro hg
  rcases h.2 with ⟨k1, _⟩ | ⟨a, cap, cur, k1, _, k3, _⟩
  · rw [k1] at hg; cases hg
  · rw [k1] at hg
    injection hg with hg
    have ea : a = g := hg
    rw [ea, show w.heap[g]? = some (.cells C.toArray e') from h'] at k3
    injection k3 with k3
    injection k3 with _ j4
    exact hne j4.symm
theorem own_ne_ownR {w : World} {B B' n n' : Nat} {e e' : TypeId} {sz sz' : Nat} {v v' : Value} {X X' : List Value} (h : w.ownsRow B e sz v n X) (h' : w.ownsRow B' e' sz' v' n' X') (hne : e ≠ e') (g : Nat) (hg : v.ownBlock = some g) : ¬v'.ownBlock = some g := by
  intro hg'
  rcases h.2 with ⟨k1, _⟩ | ⟨a, cap, cur, k1, _, k3, _⟩
  · rw [k1] at hg; cases hg
  · rcases h'.2 with ⟨j1, _⟩ | ⟨b, cap', cur', j1, _, j3, _⟩
    · rw [j1] at hg'; cases hg'
    · rw [k1] at hg
      rw [j1] at hg'
      injection hg with hg
      injection hg' with hg'
      have ea : a = g := hg
      have eb : b = g := hg'
      rw [ea] at k3
      rw [eb, k3] at j3
      injection j3 with j3
      injection j3 with _ j4
      exact hne j4

theorem cell_blk {w w' : World} {b o : Nat} (h : w'.heap[b]? = w.heap[b]?) : w'.cell? ⟨b, o, none⟩ = w.cell? ⟨b, o, none⟩ := by
  unfold World.cell?; simp only [h]
/-- The job in its box, its two lists of numbers, the tables gathered: each in a row of its own. -/
structure PQ (W : World) (q : Nat) (n : Int) (ia : Option Addr) (il ic : Nat) (ua : Option Addr) (ul uc : Nat) (b : Bool) (aa : Option Addr) (al ac : Nat) (LI LU : List Int) (LA : List MetaV) : Prop where
  box : Holds W q [.int .i64 n, .slice ia il ic, .slice ua ul uc, .bool b] 28
  ownI : W.ownsRow (q + 1) 3 1 (.slice ia il ic) il (LI.map intC)
  ownU : W.ownsRow (q + 1) 3 1 (.slice ua ul uc) ul (LU.map intC)
  ownA : W.ownsRow (q + 1) 49 5 (.slice aa al ac) al (LA.flatMap metaC)
  lenI : LI.length = il
  lenU : LU.length = ul
  lenA : LA.length = al
  fit : ∀ m ∈ LA, FitMV m
  sep : ∀ z, (Value.slice ia il ic).ownBlock = some z → ¬(Value.slice ua ul uc).ownBlock = some z
section
variable {W W' : World} {q : Nat} {n : Int} {ia : Option Addr} {il ic : Nat} {ua : Option Addr} {ul uc : Nat} {b : Bool} {aa : Option Addr} {al ac : Nat} {LI LU : List Int} {LA : List MetaV}
theorem PQ.new (w3 : World) (l : Int) : PQ (w3.alloc (.cells #[.int .i64 l, .slice none 0 0, .slice none 0 0, .bool true] 28)) w3.heap.size l none 0 0 none 0 0 true none 0 0 [] [] [] :=
  ⟨Holds.new w3 _ _, World.ownsRow_nil _ _ _ _, World.ownsRow_nil _ _ _ _, World.ownsRow_nil _ _ _ _, rfl, rfl, rfl, by simp, fun z hz => by cases hz⟩
theorem PQ.quiet (h : PQ W q n ia il ic ua ul uc b aa al ac LI LU LA) (hk : Kept (fun _ => False) W W') : PQ W' q n ia il ic ua ul uc b aa al ac LI LU LA :=
  ⟨h.box.of_block (hk.block q h.box.lt (fun f => f)), owns_of_block h.ownI fun g hg => hk.block g (h.ownI.lt g hg).2 (fun f => f), owns_of_block h.ownU fun g hg => hk.block g (h.ownU.lt g hg).2 (fun f => f), owns_of_block h.ownA fun g hg => hk.block g (h.ownA.lt g hg).2 (fun f => f), h.lenI, h.lenU, h.lenA, h.fit, h.sep⟩
theorem PQ.addI (h : PQ W q n ia il ic ua ul uc b aa al ac LI LU LA) (x : Int) (hl : il ≤ 1000) :
    ∃ a2 c2 W2, (Builtin.append_ #[23, 23] 23 #[.slice ia il ic, .slice (some ⟨W.heap.size, 0, none⟩) 1 1]).run Try.prog (W.alloc (.cells #[.int .i64 x] 3)) = .ok (.slice a2 (il + 1) c2) W2 ∧
      Holds W2 q [.int .i64 n, .slice ia il ic, .slice ua ul uc, .bool b] 28 ∧
      PQ (W2.setCell ⟨q, 1, none⟩ (.slice a2 (il + 1) c2)) q n a2 (il + 1) c2 ua ul uc b aa al ac (LI ++ [x]) LU LA ∧ Kept (fun z => q ≤ z) W (W2.setCell ⟨q, 1, none⟩ (.slice a2 (il + 1) c2)) ∧
      (∀ z, z < W.heap.size → ¬(Value.slice ia il ic).ownBlock = some z → W2.heap[z]? = W.heap[z]? ∧ (z ≠ q → (W2.setCell ⟨q, 1, none⟩ (.slice a2 (il + 1) c2)).heap[z]? = W.heap[z]?)) := by
  have hq := h.box.lt
  obtain ⟨a2, c2, W2, h1, h2, h3, h4⟩ := app_one_int x h.ownI hl (by omega)
  have hb := h.box.of_block (h3.block q hq (own_ne_boxR h.ownI h.box (by decide)))
  have hu := owns_of_block h.ownU fun g hg => h3.block g (h.ownU.lt g hg).2 (fun e => h.sep g e hg)
  have ha := owns_of_block h.ownA fun g hg => h3.block g (h.ownA.lt g hg).2 (own_ne_ownR h.ownA h.ownI (by decide) g hg)
  have hs := (Kept.refl (fun z => z = q) W2).setCell (p := ⟨q, 1, none⟩) rfl (.slice a2 (il + 1) c2)
  have hks : Kept (fun z => q ≤ z) W (W2.setCell ⟨q, 1, none⟩ (.slice a2 (il + 1) c2)) := (h3.mono fun z hz => by have := (h.ownI.lt z hz).1; omega).trans hs (fun z hz => .inl (by omega))
  refine ⟨a2, c2, W2, h1, hb, ⟨hb.set 1 _, ?_, ?_, ?_, by rw [List.length_append, h.lenI]; rfl, h.lenU, h.lenA, h.fit, ?_⟩, hks, ?_⟩
  · exact owns_of_block h2 fun g hg => hs.block g (h2.lt g hg).2 (fun e => by have := (h2.lt g hg).1; omega)
  · exact owns_of_block hu fun g hg => hs.block g (hu.lt g hg).2 (fun e => by have := (hu.lt g hg).1; omega)
  · exact owns_of_block ha fun g hg => hs.block g (ha.lt g hg).2 (fun e => by have := (ha.lt g hg).1; omega)
  · intro z hz hu2
    rcases h4 z hz with e | e
    · exact h.sep z e hu2
    · have := (h.ownU.lt z hu2).2; omega
  · intro z hlt ho
    exact ⟨h3.block z hlt ho, fun hz => (hs.block z (Nat.lt_of_lt_of_le hlt h3.size) hz).trans (h3.block z hlt ho)⟩
theorem PQ.addU (h : PQ W q n ia il ic ua ul uc b aa al ac LI LU LA) (x : Int) (hl : ul ≤ 1000) :
    ∃ a2 c2 W2, (Builtin.append_ #[23, 23] 23 #[.slice ua ul uc, .slice (some ⟨W.heap.size, 0, none⟩) 1 1]).run Try.prog (W.alloc (.cells #[.int .i64 x] 3)) = .ok (.slice a2 (ul + 1) c2) W2 ∧
      Holds W2 q [.int .i64 n, .slice ia il ic, .slice ua ul uc, .bool b] 28 ∧
      PQ (W2.setCell ⟨q, 2, none⟩ (.slice a2 (ul + 1) c2)) q n ia il ic a2 (ul + 1) c2 b aa al ac LI (LU ++ [x]) LA ∧ Kept (fun z => q ≤ z) W (W2.setCell ⟨q, 2, none⟩ (.slice a2 (ul + 1) c2)) ∧
      (∀ z, z < W.heap.size → ¬(Value.slice ua ul uc).ownBlock = some z → W2.heap[z]? = W.heap[z]? ∧ (z ≠ q → (W2.setCell ⟨q, 2, none⟩ (.slice a2 (ul + 1) c2)).heap[z]? = W.heap[z]?)) ∧
      ∀ z, (Value.slice a2 (ul + 1) c2).ownBlock = some z → (Value.slice ua ul uc).ownBlock = some z ∨ W.heap.size ≤ z := by
  have hq := h.box.lt
  obtain ⟨a2, c2, W2, h1, h2, h3, h4⟩ := app_one_int x h.ownU hl (by omega)
  have hb := h.box.of_block (h3.block q hq (own_ne_boxR h.ownU h.box (by decide)))
  have hu := owns_of_block h.ownI fun g hg => h3.block g (h.ownI.lt g hg).2 (fun e => h.sep g hg e)
  have ha := owns_of_block h.ownA fun g hg => h3.block g (h.ownA.lt g hg).2 (own_ne_ownR h.ownA h.ownU (by decide) g hg)
  have hs := (Kept.refl (fun z => z = q) W2).setCell (p := ⟨q, 2, none⟩) rfl (.slice a2 (ul + 1) c2)
  have hks : Kept (fun z => q ≤ z) W (W2.setCell ⟨q, 2, none⟩ (.slice a2 (ul + 1) c2)) := (h3.mono fun z hz => by have := (h.ownU.lt z hz).1; omega).trans hs (fun z hz => .inl (by omega))
  refine ⟨a2, c2, W2, h1, hb, ⟨hb.set 2 _, ?_, ?_, ?_, h.lenI, by rw [List.length_append, h.lenU]; rfl, h.lenA, h.fit, ?_⟩, hks, ?_, h4⟩
  · exact owns_of_block hu fun g hg => hs.block g (hu.lt g hg).2 (fun e => by have := (hu.lt g hg).1; omega)
  · exact owns_of_block h2 fun g hg => hs.block g (h2.lt g hg).2 (fun e => by have := (h2.lt g hg).1; omega)
  · exact owns_of_block ha fun g hg => hs.block g (ha.lt g hg).2 (fun e => by have := (ha.lt g hg).1; omega)
  · intro z hz hu2
    rcases h4 z hu2 with e | e
    · exact h.sep z hz e
    · have := (h.ownI.lt z hz).2; omega
  · intro z hlt ho
    exact ⟨h3.block z hlt ho, fun hz => (hs.block z (Nat.lt_of_lt_of_le hlt h3.size) hz).trans (h3.block z hlt ho)⟩
theorem PQ.addA (h : PQ W q n ia il ic ua ul uc b aa al ac LI LU LA) (x : MetaV) (hx : FitMV x) (hl : al ≤ 1000) :
    ∃ a2 c2 W2, (Builtin.append_ #[22, 22] 22 #[.slice aa al ac, .slice (some ⟨W.heap.size, 0, none⟩) 1 1]).run Try.prog (W.alloc (.cells (metaC x).toArray 49)) = .ok (.slice a2 (al + 1) c2) W2 ∧
      PQ W2 q n ia il ic ua ul uc b a2 (al + 1) c2 LI LU (LA ++ [x]) ∧ Kept (fun z => q ≤ z) W W2 ∧
      (∀ z, z < W.heap.size → ¬(Value.slice aa al ac).ownBlock = some z → W2.heap[z]? = W.heap[z]?) ∧
      ∀ z, (Value.slice a2 (al + 1) c2).ownBlock = some z → (Value.slice aa al ac).ownBlock = some z ∨ W.heap.size ≤ z := by
  have hq := h.box.lt
  obtain ⟨a2, c2, W2, h1, h2, h3, h4⟩ := app_one_meta x h.ownA hl (by omega)
  have hb := h.box.of_block (h3.block q hq (own_ne_boxR h.ownA h.box (by decide)))
  have hi := owns_of_block h.ownI fun g hg => h3.block g (h.ownI.lt g hg).2 (own_ne_ownR h.ownI h.ownA (by decide) g hg)
  have hu := owns_of_block h.ownU fun g hg => h3.block g (h.ownU.lt g hg).2 (own_ne_ownR h.ownU h.ownA (by decide) g hg)
  refine ⟨a2, c2, W2, h1, ⟨hb, hi, hu, h2, h.lenI, h.lenU, by rw [List.length_append, h.lenA]; rfl, ?_, h.sep⟩, h3.mono fun z hz => by have := (h.ownA.lt z hz).1; omega, fun z hz ho => h3.block z hz ho, h4⟩
  intro m hm
  rcases List.mem_append.1 hm with hm | hm
  · exact h.fit m hm
  · rw [List.mem_singleton.1 hm]; exact hx
theorem PQ.setB (h : PQ W q n ia il ic ua ul uc b aa al ac LI LU LA) (b2 : Bool) : PQ (W.setCell ⟨q, 3, none⟩ (.bool b2)) q n ia il ic ua ul uc b2 aa al ac LI LU LA ∧ Kept (fun z => z = q) W (W.setCell ⟨q, 3, none⟩ (.bool b2)) := by
  have hs := (Kept.refl (fun z => z = q) W).setCell (p := ⟨q, 3, none⟩) rfl (.bool b2)
  exact ⟨⟨h.box.set 3 _, owns_of_block h.ownI fun g hg => hs.block g (h.ownI.lt g hg).2 (fun e => by have := (h.ownI.lt g hg).1; omega), owns_of_block h.ownU fun g hg => hs.block g (h.ownU.lt g hg).2 (fun e => by have := (h.ownU.lt g hg).1; omega), owns_of_block h.ownA fun g hg => hs.block g (h.ownA.lt g hg).2 (fun e => by have := (h.ownA.lt g hg).1; omega), h.lenI, h.lenU, h.lenA, h.fit, h.sep⟩, hs⟩
end

end Go.Proofs.Ytgcepbpdicadnaa
