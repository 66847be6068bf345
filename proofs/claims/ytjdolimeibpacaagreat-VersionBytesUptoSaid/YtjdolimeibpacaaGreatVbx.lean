/- A version in a law's own box (layers 14, 16). -/
import Derived.Test.YtjdolimeibpacaaGreatVnL
namespace Go.Proofs.YtjdolimeibpacaaGreat
open Go.RowKit Go.Proofs Go.Proofs.Pk
set_option maxRecDepth 10000

/-- Since w nothing that stood was changed, and block g holds a version that reads as v. -/
structure VBox (w wx : World) (g : Nat) (ad : Option Addr) (len cap : Nat) (ad2 : Option Addr) (len2 cap2 : Nat) (v : VerV) : Prop where
  kept : Kept (fun _ => False) w wx
  box : Holds wx g [.slice ad len cap, .slice ad2 len2 cap2, .int .i64 v.2.2] 41
  ver : VerW wx ad len cap ad2 len2 cap2 v
theorem VBox.quiet {w wx w' : World} {g : Nat} {ad : Option Addr} {len cap : Nat} {ad2 : Option Addr} {len2 cap2 : Nat} {v : VerV} (h : VBox w wx g ad len cap ad2 len2 cap2 v) (k : Kept (fun _ => False) wx w') : VBox w w' g ad len cap ad2 len2 cap2 v :=
  ⟨h.kept.trans k (fun _ f => f.elim), h.box.of_block (k.block g h.box.lt (fun f => f)), h.ver.kept k⟩
theorem VBox.new {w wx : World} {ad : Option Addr} {len cap : Nat} {ad2 : Option Addr} {len2 cap2 : Nat} {v : VerV} (k : Kept (fun _ => False) w wx) (h : VerW wx ad len cap ad2 len2 cap2 v) :
    VBox w (wx.alloc (.cells #[.slice ad len cap, .slice ad2 len2 cap2, .int .i64 v.2.2] 41)) wx.heap.size ad len cap ad2 len2 cap2 v :=
  ⟨k.alloc _, Holds.new wx _ _, h.kept ((Kept.refl _ wx).alloc _)⟩
theorem VBox.cells {w wx : World} {g : Nat} {ad : Option Addr} {len cap : Nat} {ad2 : Option Addr} {len2 cap2 : Nat} {v : VerV} (h : VBox w wx g ad len cap ad2 len2 cap2 v) :
    wx.cell? ⟨g, 0, none⟩ = some (.slice ad len cap) ∧ wx.cell? ⟨g, 1, none⟩ = some (.slice ad2 len2 cap2) ∧ wx.cell? ⟨g, 2, none⟩ = some (.int .i64 v.2.2) := ⟨h.box.cell 0 _ rfl, h.box.cell 1 _ rfl, h.box.cell 2 _ rfl⟩

end Go.Proofs.YtjdolimeibpacaaGreat
