/- The law's own question whether a table has a key between the least and the greatest one of some (layer 16). -/
import Derived.Test.YtgcepbpdicadnaaJ15
import Derived.BigQuiet
import Derived.Lib.MinMaxS
namespace Go.Proofs.Ytgcepbpdicadnaa
open Go.RowKit Go.Proofs Go.Proofs.Pk
set_option maxRecDepth 10000
attribute [local simp] mk_get wrap64_u8 mk_extract ByteArray.mk_append_mk get_1k

theorem leq16 (x y : VTxt) : (Op.bytesLess x y || x == y) = decide (¬y < x) := by
  rw [bytesLess_eq]
  by_cases h : x = y
  · subst h
    rw [decide_eq_false (List.lt_irrefl x), decide_eq_true (List.lt_irrefl x)]; simp
  · have h2 : (x == y) = false := by simpa using h
    rw [h2, Bool.or_false]
    by_cases k : x < y
    · rw [decide_eq_true k, decide_eq_true (vlt_asymm k)]
    · rw [decide_eq_false k, decide_eq_false (fun hn => hn (vlt_tri h k))]
theorem max16 (x y : VTxt) (w : World) : ∃ hi : VTxt, (¬x < y ∧ hi = x ∨ x < y ∧ hi = y) ∧ ∀ w, (Builtin.max_ #[9, 9] 9 #[.string ⟨x.toArray⟩, .string ⟨y.toArray⟩]).run Try.prog w = .ok (.string ⟨hi.toArray⟩) w := by
  by_cases h : x < y
  · refine ⟨y, .inr ⟨h, rfl⟩, fun w => ?_⟩
    rw [Lib.run_max_strs]
    simp [Lib.maxS, h]
  · refine ⟨x, .inl ⟨h, rfl⟩, fun w => ?_⟩
    rw [Lib.run_max_strs]
    simp [Lib.maxS, h]
/-- A table as a value. -/
def metaV (m : MetaV) : Value := .agg #[.int .i64 m.1, .int .i64 m.2.1, .string ⟨m.2.2.1.toArray⟩, .string ⟨m.2.2.2.1.toArray⟩, .int .i64 m.2.2.2.2]
structure MBox (w wx : World) (g g5 : Nat) (ad : Option Addr) (len cap : Nat) (ad2 : Option Addr) (len2 cap2 : Nat) (v : VerV) (m : MetaV) (ai : Option Addr) (li : Nat) (ids : List Int) : Prop where
  vb : VBox w wx g ad len cap ad2 len2 cap2 v
  mb : Holds wx g5 (metaC m) 49
  ids : Ints wx ai li ids
theorem MBox.quiet {w wx w' : World} {g g5 : Nat} {ad : Option Addr} {len cap : Nat} {ad2 : Option Addr} {len2 cap2 : Nat} {v : VerV} {m : MetaV} {ai : Option Addr} {li : Nat} {ids : List Int} (h : MBox w wx g g5 ad len cap ad2 len2 cap2 v m ai li ids) (k : Kept (fun _ => False) wx w') : MBox w w' g g5 ad len cap ad2 len2 cap2 v m ai li ids :=
  ⟨h.vb.quiet k, h.mb.of_block (k.block g5 h.mb.lt (fun f => f)), h.ids.kept k (.inr fun _ _ _ f => f)⟩
theorem MBox.new {w : World} {ad : Option Addr} {len cap : Nat} {ad2 : Option Addr} {len2 cap2 : Nat} {v : VerV} (m : MetaV) {ai : Option Addr} {li : Nat} {ids : List Int} (h : VerW w ad len cap ad2 len2 cap2 v) (hi : Ints w ai li ids) :
    MBox w ((w.alloc (.cells #[.slice ad len cap, .slice ad2 len2 cap2, .int .i64 v.2.2] 25)).alloc (.cells #[.int .i64 m.1, .int .i64 m.2.1, .string ⟨m.2.2.1.toArray⟩, .string ⟨m.2.2.2.1.toArray⟩, .int .i64 m.2.2.2.2] 49)) w.heap.size (w.heap.size + 1) ad len cap ad2 len2 cap2 v m ai li ids := by
  have h1 := VBox.new (Kept.refl _ w) h
  generalize hx : w.alloc (.cells #[.slice ad len cap, .slice ad2 len2 cap2, .int .i64 v.2.2] 25) = wx at h1 ⊢
  have e : wx.heap.size = w.heap.size + 1 := by rw [← hx]; unfold World.alloc; exact Array.size_push _
  rw [← e]
  exact ⟨h1.quiet ((Kept.refl _ _).alloc _), Holds.new wx (metaC m) _, (hi.kept h1.kept (.inr fun _ _ _ f => f)).kept ((Kept.refl _ wx).alloc _) (.inr fun _ _ _ f => f)⟩
theorem MBox.mcells {w wx : World} {g g5 : Nat} {ad : Option Addr} {len cap : Nat} {ad2 : Option Addr} {len2 cap2 : Nat} {v : VerV} {m : MetaV} {ai : Option Addr} {li : Nat} {ids : List Int} (h : MBox w wx g g5 ad len cap ad2 len2 cap2 v m ai li ids) :
    wx.cell? ⟨g5, 2, none⟩ = some (.string ⟨m.2.2.1.toArray⟩) ∧ wx.cell? ⟨g5, 3, none⟩ = some (.string ⟨m.2.2.2.1.toArray⟩) := ⟨h.mb.cell 2 _ rfl, h.mb.cell 3 _ rfl⟩

set_option maxHeartbeats 8000000 in
theorem meets16 (w : World) (ad : Option Addr) (len cap : Nat) (ad2 : Option Addr) (len2 cap2 : Nat) (v : VerV) (m : MetaV) (ai : Option Addr) (li ci : Nat) (ids : List Int) (h0 : VerW w ad len cap ad2 len2 cap2 v) (hi0 : Ints w ai li ids) (hli : (li : Int) * 8 ≤ 140737488351232) :
    Calls Try.prog 20 #[verC ad len cap ad2 len2 cap2 v.2.2, .slice ai li ci, metaV m] w fun e w' => e = .returned (.bool (meetsM m (ofIds v.1 ids))) ∧ Kept (fun _ => False) w w' := by
  have hlen := h0.1.1
  have hbig := h0.2.1.2.2.1
  have HB := Lib.hid (MBox.new m h0 hi0)
  obtain ⟨s, hs⟩ : ∃ s, s = v.2.2 := ⟨_, rfl⟩
  have HS := Lib.hid hs
  obtain ⟨y1, hy1⟩ : ∃ y1 : VTxt, Hid (y1 = m.2.2.1) := ⟨_, rfl⟩
  obtain ⟨y2, hy2⟩ : ∃ y2 : VTxt, Hid (y2 = m.2.2.2.1) := ⟨_, rfl⟩
  obtain ⟨mr, hmr⟩ : ∃ mr, Hid (mr = meetsM m (ofIds v.1 ids)) := ⟨_, rfl⟩
  rw [← hmr.out]
  clear h0 hi0
  unfold verC metaV
  rw [← hs, ← hy1.out, ← hy2.out] at HB ⊢
  clear hs
  go_enter Try.func20, Try.ntmps20
  go_upto_region 1 with fail
  obtain ⟨g, hg⟩ : ∃ g, g = w.heap.size := ⟨_, rfl⟩
  rw [← hg] at HB ⊢
  generalize (w.alloc _).alloc _ = wa at HB ⊢
  clear hg
  go_wp2
  have HN : Hid (SpanP ids (v.1.take 0) ([], [], false)) := by rw [List.take_zero]; exact span_nil ids
  have HB0 := Lib.hid HB.out
  clear HB
  go_loopw [7, 8, 9, 10] (fun lo hi an i wr => ∃ (j : Nat) (l1 l2 : VTxt) (b : Bool), j ≤ len ∧ lo = .string ⟨l1.toArray⟩ ∧ hi = .string ⟨l2.toArray⟩ ∧ an = .bool b ∧ i = .int .i64 (j : Int) ∧ Hid (MBox w wr g (g + 1) ad len cap ad2 len2 cap2 v m ai li ids) ∧ Hid (SpanP ids (v.1.take j) (l1, l2, b))) (fun _ _ _ i _ => len - (intOf i).toNat)
  case atStart => exact ⟨0, [], [], false, Nat.zero_le _, rfl, rfl, rfl, rfl, HB0, HN⟩
  case round =>
    obtain ⟨j, lo, hi, an, hj, rfl, rfl, rfl, rfl, hI, hP⟩ := hrel
    clear HB0 HN
    have j0 : (0 : Int) ≤ (j : Int) := by omega
    have hwj : IntKind.i64.wrap ((j : Int) + 1) = (j : Int) + 1 := IntWalk.i64_in _ (by omega)
    obtain ⟨d0, d1, d2⟩ := hI.out.vb.cells
    obtain ⟨d3, d4⟩ := hI.out.mcells
    rw [← HS.out] at d2
    rw [← hy1.out] at d3
    rw [← hy2.out] at d4
    by_cases hlt : j < len
    case neg =>
      obtain rfl : j = len := by omega
      have jN : ¬(j : Int) < (j : Int) := by omega
      have hm := span_meets hP.out m
      rw [List.take_of_length_le (by omega), ← hmr.out, ← hy1.out, ← hy2.out] at hm
      obtain ⟨b1, hb1⟩ : ∃ b, (Op.bytesLess lo y2 || lo == y2) = b := ⟨_, rfl⟩
      obtain ⟨b2, hb2⟩ : ∃ b, (Op.bytesLess y1 hi || y1 == hi) = b := ⟨_, rfl⟩
      have HR : Hid (mr = (an && b1 && b2)) := by
        show mr = (an && b1 && b2)
        rw [← hb1, ← hb2, leq16, leq16, Bool.eq_iff_iff, hm]
        simp only [Bool.and_eq_true, decide_eq_true_eq, and_assoc]
      have HK := Lib.hid hI.out.vb.kept
      clear hm hI hP d1 d2
      cases an with
      | false =>
        obtain rfl : mr = false := HR.out
        go_wp2
        go_ret
        exact ⟨rfl, HK.out⟩
      | true =>
        cases b1 with
        | false =>
          obtain rfl : mr = false := HR.out
          go_wp2
          go_ret
          exact ⟨rfl, HK.out⟩
        | true =>
          obtain rfl : mr = b2 := HR.out
          go_wp2
          go_ret
          exact ⟨rfl, HK.out⟩
    have jN : (j : Int) < (len : Int) := by omega
    have hjT : j < v.1.length := by omega
    obtain ⟨b, off, rfl, hbl, e0, e1, e2, e3, e4, h5⟩ := hI.out.vb.ver.1.at j hjT
    have hst : v.1.take (j + 1) = v.1.take j ++ [v.1[j]] := List.take_succ_eq_append_getElem hjT
    obtain ⟨x, hx⟩ : ∃ x, Hid (x = v.1[j]) := ⟨v.1[j], rfl⟩
    rw [← hx.out] at e0 e1 e2 e3 e4 hst
    have HST := Lib.hid hst
    clear hst h5 d1 d2 d3 d4
    go_upto_region 8 with fail
    obtain ⟨gx, hgx⟩ : ∃ gx, gx = wr.heap.size := ⟨_, rfl⟩
    have HI8 : Hid (MBox w (wr.alloc (.cells #[.int .i64 x.1, .int .i64 x.2.1, .string ⟨x.2.2.1.toArray⟩, .string ⟨x.2.2.2.1.toArray⟩, .int .i64 x.2.2.2.2] 49)) g (g + 1) (some ⟨b, off, none⟩) len cap ad2 len2 cap2 v m ai li ids ∧
        Holds (wr.alloc (.cells #[.int .i64 x.1, .int .i64 x.2.1, .string ⟨x.2.2.1.toArray⟩, .string ⟨x.2.2.2.1.toArray⟩, .int .i64 x.2.2.2.2] 49)) gx (metaC x) 49) := by
      rw [hgx]; exact ⟨hI.out.quiet ((Kept.refl _ _).alloc _), Holds.new wr (metaC x) _⟩
    rw [← hgx]
    generalize wr.alloc (.cells #[.int .i64 x.1, .int .i64 x.2.1, .string ⟨x.2.2.1.toArray⟩, .string ⟨x.2.2.2.1.toArray⟩, .int .i64 x.2.2.2.2] 49) = w8 at HI8 ⊢
    clear hgx hI e0 e1 e2 e3 e4 hbl d0
    obtain ⟨z1, hz1⟩ : ∃ z1 : VTxt, Hid (z1 = x.2.2.1) := ⟨x.2.2.1, rfl⟩
    obtain ⟨z2, hz2⟩ : ∃ z2 : VTxt, Hid (z2 = x.2.2.2.1) := ⟨x.2.2.2.1, rfl⟩
    have x0 : w8.cell? ⟨gx, 0, none⟩ = some (.int .i64 x.1) := HI8.out.2.cell 0 _ rfl
    have HW := Lib.hid (within16 w8 ai li ci ids x.1 HI8.out.1.ids hli)
    rw [← hz1.out, ← hz2.out]
    obtain ⟨q, hq⟩ : ∃ q, Hid (q = decide (x.1 ∈ ids)) := ⟨_, rfl⟩
    rw [← hq.out] at HW
    go_wp2_with fail
    refine HW.out.mono ?_
    rintro e w9 ⟨rfl, hk⟩
    have HI9 : Hid (MBox w w9 g (g + 1) (some ⟨b, off, none⟩) len cap ad2 len2 cap2 v m ai li ids ∧ Holds w9 gx (metaC x) 49) := ⟨HI8.out.1.quiet hk, HI8.out.2.of_block (hk.block gx HI8.out.2.lt (fun f => f))⟩
    clear hk HW HI8 x0
    have x2 : w9.cell? ⟨gx, 2, none⟩ = some (.string ⟨z1.toArray⟩) := by rw [hz1.out]; exact HI9.out.2.cell 2 _ rfl
    have x3 : w9.cell? ⟨gx, 3, none⟩ = some (.string ⟨z2.toArray⟩) := by rw [hz2.out]; exact HI9.out.2.cell 3 _ rfl
    cases q with
    | false =>
      have hx2 : x.1 ∉ ids := of_decide_eq_false hq.out.symm
      have HP2 : Hid (SpanP ids (v.1.take (j + 1)) (lo, hi, an)) := by
        show SpanP ids (v.1.take (j + 1)) (lo, hi, an)
        rw [HST.out]; exact span_skip hP.out hx2
      clear hx2 hq
      go_wp2
      go_roundw
      case rel => exact ⟨j + 1, lo, hi, an, hlt, rfl, rfl, rfl, by first | rfl | go_num, HI9.out.1, HP2⟩
      case measure => simp [intOf]; omega
    | true =>
      have hx2 : x.1 ∈ ids := of_decide_eq_true hq.out.symm
      obtain ⟨hi2, hh, HM⟩ := max16 hi z2 w9
      obtain ⟨c, hc⟩ : ∃ c, Op.bytesLess z1 lo = c := ⟨_, rfl⟩
      have HC : Hid (c = decide (z1 < lo)) := by rw [← hc]; exact bytesLess_eq _ _
      have HP2 : Hid (SpanP ids (v.1.take (j + 1)) (if (!an || c) = true then z1 else lo, hi2, true)) := by
        show SpanP ids (v.1.take (j + 1)) (if (!an || c) = true then z1 else lo, hi2, true)
        rw [HST.out]
        refine span_take hP.out hx2 ?_ ?_
        · have k := HC.out
          rw [← hz1.out]
          cases an with
          | false => exact .inr ⟨.inl rfl, rfl⟩
          | true =>
            cases c with
            | true => exact .inr ⟨.inr (of_decide_eq_true k.symm), rfl⟩
            | false => exact .inl ⟨rfl, of_decide_eq_false k.symm, rfl⟩
        · rw [← hz2.out]; exact hh
      have HMx := Lib.hid HM
      clear hx2 hq hh HC HM
      cases an with
      | false =>
        have HM := HMx.out
        go_wp2
        go_roundw
        case rel => exact ⟨j + 1, z1, hi2, true, hlt, rfl, rfl, rfl, by first | rfl | go_num, HI9.out.1, HP2⟩
        case measure => simp [intOf]; omega
      | true =>
        cases c with
        | true =>
          have HM := HMx.out
          go_wp2
          go_roundw
          case rel => exact ⟨j + 1, z1, hi2, true, hlt, rfl, rfl, rfl, by first | rfl | go_num, HI9.out.1, HP2⟩
          case measure => simp [intOf]; omega
        | false =>
          have HM := HMx.out
          go_wp2
          go_roundw
          case rel => exact ⟨j + 1, lo, hi2, true, hlt, rfl, rfl, rfl, by first | rfl | go_num, HI9.out.1, HP2⟩
          case measure => simp [intOf]; omega

end Go.Proofs.Ytgcepbpdicadnaa
