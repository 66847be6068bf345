/- An edit in a call's own box, and how long its bytes may be (layer 14). -/
import Derived.Test.YtjdolimeibpacaaGreatVnB
namespace Go.Proofs.YtjdolimeibpacaaGreat
open Go.RowKit Go.Proofs Go.Proofs.Pk
set_option maxRecDepth 10000

theorem metaB_len (m : MetaV) (h : metaOk m = true) : (metaB m).length ≤ 200 := by
  obtain ⟨_, _, _, _, _, h6, _, h8, _, _, _⟩ := meta_of h
  have a := numL_len_le m.1.toNat
  have b := numL_len_le m.2.1.toNat
  have c := numL_len_le m.2.2.1.length
  have d := numL_len_le m.2.2.2.1.length
  have e := numL_len_le m.2.2.2.2.toNat
  unfold metaB txtL
  simp only [List.length_append]
  omega
theorem flat_len : ∀ (l : List MetaV), (∀ m ∈ l, metaOk m = true) → (l.flatMap metaB).length ≤ l.length * 200
  | [], _ => by simp
  | m :: r, h => by
    have := flat_len r (fun x hx => h x (by simp [hx]))
    have := metaB_len m (h m (by simp))
    rw [List.flatMap_cons, List.length_append, List.length_cons]
    omega
theorem row_len : ∀ (l : List Int), (l.flatMap fun n => numL n.toNat).length ≤ l.length * 8
  | [] => by simp
  | n :: r => by
    have := row_len r
    have := numL_len_le n.toNat
    rw [List.flatMap_cons, List.length_append, List.length_cons]
    omega
theorem rowE_len (l : List Int) : (rowE l).length ≤ 8 + l.length * 8 := by
  have := row_len l
  have := numL_len_le l.length
  unfold rowE
  rw [List.length_append]
  omega
theorem encE_len (e : EdV) : (encE e).1.length ≤ 50000 := by
  unfold encE
  by_cases hk : edOk e = true
  · rw [if_pos hk]
    obtain ⟨h1, h2, h3, h4, h5, _, _⟩ := ed_of hk
    have a := flat_len e.1 h2
    have b := rowE_len e.2.1
    have c := rowE_len e.2.2.1
    have d := rowE_len e.2.2.2.1
    have := (nums_of h3).2
    have := (nums_of h4).2
    have := (nums_of h5).2
    have f := numL_len_le e.1.length
    have g := numL_len_le e.2.2.2.2.toNat
    unfold bodyE
    simp only [List.length_append]
    omega
  · rw [if_neg hk]; simp
/-- Since w nothing that stood was changed, and block g holds an edit that reads as v. -/
structure EBox (w wx : World) (g : Nat) (ad : Option Addr) (len cap : Nat) (ad2 : Option Addr) (len2 cap2 : Nat) (ad3 : Option Addr) (len3 cap3 : Nat) (ad4 : Option Addr) (len4 cap4 : Nat) (v : EdV) : Prop where
  kept : Kept (fun _ => False) w wx
  box : Holds wx g [.slice ad len cap, .slice ad2 len2 cap2, .slice ad3 len3 cap3, .slice ad4 len4 cap4, .int .i64 v.2.2.2.2] 25
  ed : EdW wx ad len cap ad2 len2 cap2 ad3 len3 cap3 ad4 len4 cap4 v
theorem EBox.quiet {w wx w' : World} {g : Nat} {ad : Option Addr} {len cap : Nat} {ad2 : Option Addr} {len2 cap2 : Nat} {ad3 : Option Addr} {len3 cap3 : Nat} {ad4 : Option Addr} {len4 cap4 : Nat} {v : EdV} (h : EBox w wx g ad len cap ad2 len2 cap2 ad3 len3 cap3 ad4 len4 cap4 v) (k : Kept (fun _ => False) wx w') :
    EBox w w' g ad len cap ad2 len2 cap2 ad3 len3 cap3 ad4 len4 cap4 v :=
  ⟨h.kept.trans k (fun _ f => f.elim), h.box.of_block (k.block g h.box.lt (fun f => f)), h.ed.kept k⟩
theorem EBox.new {w wx : World} {ad : Option Addr} {len cap : Nat} {ad2 : Option Addr} {len2 cap2 : Nat} {ad3 : Option Addr} {len3 cap3 : Nat} {ad4 : Option Addr} {len4 cap4 : Nat} {v : EdV} (k : Kept (fun _ => False) w wx) (h : EdW wx ad len cap ad2 len2 cap2 ad3 len3 cap3 ad4 len4 cap4 v) :
    EBox w (wx.alloc (.cells #[.slice ad len cap, .slice ad2 len2 cap2, .slice ad3 len3 cap3, .slice ad4 len4 cap4, .int .i64 v.2.2.2.2] 25)) wx.heap.size ad len cap ad2 len2 cap2 ad3 len3 cap3 ad4 len4 cap4 v :=
  ⟨k.alloc _, Holds.new wx _ _, h.kept ((Kept.refl _ wx).alloc _)⟩
theorem EBox.cells {w wx : World} {g : Nat} {ad : Option Addr} {len cap : Nat} {ad2 : Option Addr} {len2 cap2 : Nat} {ad3 : Option Addr} {len3 cap3 : Nat} {ad4 : Option Addr} {len4 cap4 : Nat} {v : EdV} (h : EBox w wx g ad len cap ad2 len2 cap2 ad3 len3 cap3 ad4 len4 cap4 v) :
    wx.cell? ⟨g, 0, none⟩ = some (.slice ad len cap) ∧ wx.cell? ⟨g, 1, none⟩ = some (.slice ad2 len2 cap2) ∧ wx.cell? ⟨g, 2, none⟩ = some (.slice ad3 len3 cap3) ∧ wx.cell? ⟨g, 3, none⟩ = some (.slice ad4 len4 cap4) ∧ wx.cell? ⟨g, 4, none⟩ = some (.int .i64 v.2.2.2.2) :=
  ⟨h.box.cell 0 _ rfl, h.box.cell 1 _ rfl, h.box.cell 2 _ rfl, h.box.cell 3 _ rfl, h.box.cell 4 _ rfl⟩

end Go.Proofs.YtjdolimeibpacaaGreat
