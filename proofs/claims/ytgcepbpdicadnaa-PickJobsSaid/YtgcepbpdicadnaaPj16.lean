/- The law PickJobs (layer 16), walked over the contracts of the program's choice and versions. -/
import Derived.Test.YtgcepbpdicadnaaEx16
import Derived.Test.YtgcepbpdicadnaaMe16
import Derived.Test.YtgcepbpdicadnaaJ07
import Derived.Test.YtgcepbpdicadnaaJ08
import Derived.Test.YtgcepbpdicadnaaJ11
import Derived.Test.YtgcepbpdicadnaaJ03
import Derived.Laws.AppendOwnNone
import Derived.Deep.CutRange
namespace Go.Proofs.Ytgcepbpdicadnaa
open Go.RowKit Go.Proofs Go.Proofs.Pk
set_option maxRecDepth 10000
attribute [local simp] mk_get wrap64_u8 mk_extract ByteArray.mk_append_mk get_1k

/-- A slice of numbers joined to one that the call has built. -/
theorem app_ints {w0 W : World} {v : Value} {n : Nat} {L : List Int} (hk : Kept (fun _ => False) w0 W) (hown : W.ownsRow w0.heap.size 3 1 v n (L.map intC)) {ua : Option Addr} {ul uc : Nat} {U : List Int} (hu : Ints W ua ul U) (hn : ua = none → ul = 0 ∧ uc = 0) (hb : n + ul ≤ 1000) :
    ∃ v' W', (Builtin.append_ #[23, 23] 23 #[v, .slice ua ul uc]).run Try.prog W = .ok v' W' ∧ W'.ownsRow w0.heap.size 3 1 v' (n + ul) ((L ++ U).map intC) ∧ Kept (fun _ => False) w0 W' := by
  obtain ⟨iT, hiT, hzT, hsT, hbT⟩ := parts_of int_info
  cases ua with
  | none =>
    obtain ⟨rfl, rfl⟩ := hn rfl
    have hU : U = [] := List.length_eq_zero_iff.1 hu.1
    subst hU
    exact ⟨v, W, run_append_owned_none W w0.heap.size 23 23 3 iT 1 Try.underlying23 hiT v n (L.map intC) hown, by rw [List.append_nil]; exact hown, hk⟩
  | some a =>
    have hc : ∀ j u, (U.map intC)[j]? = some u → W.cell? (a.add j) = some u := fun j u hj => by
      obtain ⟨h1, h2⟩ := List.getElem?_eq_some_iff.1 hj
      rw [List.length_map] at h1
      rcases hu.2 with h0 | ⟨b, off, h3, _, h4⟩
      · rw [h0] at h1; simp at h1
      · cases h3
        rw [Addr.add_mid, h4 j h1, ← h2, List.getElem_map]; rfl
    obtain ⟨v', W', hr, h2, h3, _⟩ := run_append_own (P := Try.prog) W w0.heap.size 23 23 3 iT (.int .i64 0) 1 8 Try.underlying23 hiT hzT hsT hbT rfl (by decide) v n (L.map intC) hown a ul uc (U.map intC) (by rw [List.length_map, hu.1, Nat.mul_one]) hc (fun u hm => by obtain ⟨k, _, rfl⟩ := List.mem_map.1 hm; rfl) (by unfold maxLen; omega) (by omega) hk.size
    exact ⟨v', W', hr, by rw [List.map_append]; exact h2, kept_grown hk h3 (fun b hb => .inr (hown.lt b hb).1)⟩
/-- What is held since a job was picked: the version's box, the job's own. -/
structure JBox (w wx : World) (g q : Nat) (ad : Option Addr) (len cap : Nat) (ad2 : Option Addr) (len2 cap2 : Nat) (v : VerV) (n : Int) (ia : Option Addr) (il ic : Nat) (ua : Option Addr) (ul uc : Nat) (b : Bool) (I U : List Int) : Prop where
  vb : VBox w wx g ad len cap ad2 len2 cap2 v
  jb : Holds wx q [.int .i64 n, .slice ia il ic, .slice ua ul uc, .bool b] 28
  i : Ints wx ia il I
  u : Ints wx ua ul U
theorem JBox.quiet {w wx w' : World} {g q : Nat} {ad : Option Addr} {len cap : Nat} {ad2 : Option Addr} {len2 cap2 : Nat} {v : VerV} {n : Int} {ia : Option Addr} {il ic : Nat} {ua : Option Addr} {ul uc : Nat} {b : Bool} {I U : List Int} (h : JBox w wx g q ad len cap ad2 len2 cap2 v n ia il ic ua ul uc b I U) (k : Kept (fun _ => False) wx w') : JBox w w' g q ad len cap ad2 len2 cap2 v n ia il ic ua ul uc b I U :=
  ⟨h.vb.quiet k, h.jb.of_block (k.block q h.jb.lt (fun f => f)), h.i.kept k (.inr fun _ _ _ f => f), h.u.kept k (.inr fun _ _ _ f => f)⟩
theorem JBox.new {w wx : World} {g : Nat} {ad : Option Addr} {len cap : Nat} {ad2 : Option Addr} {len2 cap2 : Nat} {v : VerV} {ia : Option Addr} {il : Nat} {ua : Option Addr} {ul : Nat} {I U : List Int} (n : Int) (ic uc : Nat) (b : Bool) (h : VBox w wx g ad len cap ad2 len2 cap2 v) (hi : Ints wx ia il I) (hu : Ints wx ua ul U) :
    JBox w (wx.alloc (.cells #[.int .i64 n, .slice ia il ic, .slice ua ul uc, .bool b] 28)) g wx.heap.size ad len cap ad2 len2 cap2 v n ia il ic ua ul uc b I U :=
  ⟨h.quiet ((Kept.refl _ wx).alloc _), Holds.new wx _ _, hi.kept ((Kept.refl _ wx).alloc _) (.inr fun _ _ _ f => f), hu.kept ((Kept.refl _ wx).alloc _) (.inr fun _ _ _ f => f)⟩
theorem JBox.cells {w wx : World} {g q : Nat} {ad : Option Addr} {len cap : Nat} {ad2 : Option Addr} {len2 cap2 : Nat} {v : VerV} {n : Int} {ia : Option Addr} {il ic : Nat} {ua : Option Addr} {ul uc : Nat} {b : Bool} {I U : List Int} (h : JBox w wx g q ad len cap ad2 len2 cap2 v n ia il ic ua ul uc b I U) :
    wx.cell? ⟨q, 0, none⟩ = some (.int .i64 n) ∧ wx.cell? ⟨q, 1, none⟩ = some (.slice ia il ic) ∧ wx.cell? ⟨q, 2, none⟩ = some (.slice ua ul uc) := ⟨h.jb.cell 0 _ rfl, h.jb.cell 1 _ rfl, h.jb.cell 2 _ rfl⟩

/-- .. and the table that is looked at. -/
structure TBox (w wx : World) (g q : Nat) (ad : Option Addr) (len cap : Nat) (ad2 : Option Addr) (len2 cap2 : Nat) (v : VerV) (n : Int) (ia : Option Addr) (il ic : Nat) (ua : Option Addr) (ul uc : Nat) (b : Bool) (I U : List Int) (gx : Nat) (m : MetaV) (la : Option Addr) (N : Nat) (L : List Int) : Prop where
  j : JBox w wx g q ad len cap ad2 len2 cap2 v n ia il ic ua ul uc b I U
  l : Ints wx la N L
  x : Holds wx gx (metaC m) 49
theorem TBox.quiet {w wx : World} {g q : Nat} {ad : Option Addr} {len cap : Nat} {ad2 : Option Addr} {len2 cap2 : Nat} {v : VerV} {n : Int} {ia : Option Addr} {il ic : Nat} {ua : Option Addr} {ul uc : Nat} {b : Bool} {I U : List Int} {gx : Nat} {m : MetaV} {la : Option Addr} {N : Nat} {L : List Int} {w' : World} (h : TBox w wx g q ad len cap ad2 len2 cap2 v n ia il ic ua ul uc b I U gx m la N L) (k : Kept (fun _ => False) wx w') : TBox w w' g q ad len cap ad2 len2 cap2 v n ia il ic ua ul uc b I U gx m la N L :=
  ⟨h.j.quiet k, h.l.kept k (.inr fun _ _ _ f => f), h.x.of_block (k.block gx h.x.lt (fun f => f))⟩
theorem TBox.cells {w wx : World} {g q : Nat} {ad : Option Addr} {len cap : Nat} {ad2 : Option Addr} {len2 cap2 : Nat} {v : VerV} {n : Int} {ia : Option Addr} {il ic : Nat} {ua : Option Addr} {ul uc : Nat} {b : Bool} {I U : List Int} {gx : Nat} {m : MetaV} {la : Option Addr} {N : Nat} {L : List Int} (h : TBox w wx g q ad len cap ad2 len2 cap2 v n ia il ic ua ul uc b I U gx m la N L) :
    (wx.cell? ⟨g, 0, none⟩ = some (.slice ad len cap) ∧ wx.cell? ⟨g, 1, none⟩ = some (.slice ad2 len2 cap2) ∧ wx.cell? ⟨g, 2, none⟩ = some (.int .i64 v.2.2)) ∧
    (wx.cell? ⟨q, 0, none⟩ = some (.int .i64 n) ∧ wx.cell? ⟨q, 1, none⟩ = some (.slice ia il ic) ∧ wx.cell? ⟨q, 2, none⟩ = some (.slice ua ul uc)) ∧
    wx.cell? ⟨gx, 0, none⟩ = some (.int .i64 m.1) ∧ wx.cell? ⟨gx, 1, none⟩ = some (.int .i64 m.2.1) ∧ wx.cell? ⟨gx, 2, none⟩ = some (.string ⟨m.2.2.1.toArray⟩) ∧ wx.cell? ⟨gx, 3, none⟩ = some (.string ⟨m.2.2.2.1.toArray⟩) ∧ wx.cell? ⟨gx, 4, none⟩ = some (.int .i64 m.2.2.2.2) :=
  ⟨h.j.vb.cells, h.j.cells, h.x.cell 0 _ rfl, h.x.cell 1 _ rfl, h.x.cell 2 _ rfl, h.x.cell 3 _ rfl, h.x.cell 4 _ rfl⟩

set_option maxHeartbeats 16000000 in
theorem jobs16 (K : PkK) (J : VnJ) (ad : Option Addr) (len cap : Nat) (ad2 : Option Addr) (len2 cap2 : Nat) (v : VerV) (w : World) (h0 : VerW w ad len cap ad2 len2 cap2 v) :
    Calls Try.prog 5 #[verC ad len cap ad2 len2 cap2 v.2.2] w fun e w' => e = .returned (.bool true) ∧ Kept (fun _ => False) w w' := by
  have hlen := h0.1.1
  have HB := Lib.hid (VBox.new (Kept.refl _ w) h0)
  obtain ⟨s, hs⟩ : ∃ s, s = v.2.2 := ⟨_, rfl⟩
  have HS := Lib.hid hs
  clear h0
  unfold verC
  rw [← hs] at HB ⊢
  clear hs
  go_enter Try.func5, Try.ntmps5
  go_upto_region 1 with fail
  obtain ⟨g, hg⟩ : ∃ g, g = w.heap.size := ⟨_, rfl⟩
  rw [← hg] at HB ⊢
  generalize w.alloc (.cells #[.slice ad len cap, .slice ad2 len2 cap2, .int .i64 s] 25) = wa at HB ⊢
  clear hg
  have HX := Lib.hid (examples16 K wa)
  go_wp2_with fail
  refine HX.out.mono ?_
  rintro e w1 ⟨rfl, hk⟩
  have HB1 := Lib.hid (HB.out.quiet hk)
  clear hk HX HB
  obtain ⟨d0, d1, d2⟩ := HB1.out.cells
  have HR := Lib.hid (K.pick w1 ad len cap ad2 len2 cap2 v HB1.out.ver)
  unfold verC at HR
  rw [← HS.out] at d2 HR
  go_wp2_with fail
  refine HR.out.mono ?_
  rintro e w2 ⟨ia, il, ic, ua, ul, uc, rfl, hI, hBI, hU, hBU, hk⟩
  have HB2 := Lib.hid (HB1.out.quiet hk)
  clear hk HR HB1 d0 d1 d2
  obtain ⟨jn, hjn⟩ : ∃ jn, jn = ((pickM v).getD zeroJ).1 := ⟨_, rfl⟩
  obtain ⟨jb, hjb⟩ : ∃ jb, jb = ((pickM v).getD zeroJ).2.2.2 := ⟨_, rfl⟩
  obtain ⟨I, hIe⟩ : ∃ I, I = ((pickM v).getD zeroJ).2.1 := ⟨_, rfl⟩
  obtain ⟨U, hUe⟩ : ∃ U, U = ((pickM v).getD zeroJ).2.2.1 := ⟨_, rfl⟩
  obtain ⟨ok, hok⟩ : ∃ ok, Hid (ok = (pickM v).isSome) := ⟨_, rfl⟩
  have HJ : Hid (ok = true → rightV v = true ∧ JobOk v jn I U) := fun h => by
    obtain ⟨j, hj⟩ := Option.isSome_iff_exists.1 (hok.out.symm.trans h)
    rw [hj] at hjn hIe hUe
    rw [hjn, hIe, hUe]
    exact pick_job hj
  have HJ0 : Hid (ok = false → I = [] ∧ U = []) := fun h => by
    have : pickM v = none := by
      cases hp : pickM v with
      | none => rfl
      | some j => have h1 := hok.out; rw [hp, h] at h1; cases h1
    rw [this] at hIe hUe
    exact ⟨hIe, hUe⟩
  rw [← hjn, ← hjb, ← hok.out]
  rw [← hIe] at hI hBI
  rw [← hUe] at hU hBU
  unfold jobC
  clear hjn hjb hIe hUe hok
  have hil := hI.1
  have hul := hU.1
  have hb1 := hBI.2.2.1
  have hb2 := hBU.2.2.1
  have HNo := Lib.hid (And.intro hBI.2.2.2 hBU.2.2.2)
  have HIU := Lib.hid (And.intro hI hU)
  clear hI hU hBI hBU
  go_upto_region 3 with fail
  change Code.wp _ _ _ _ (w2.alloc (.cells #[.int .i64 jn, .slice ia il ic, .slice ua ul uc, .bool jb] 28))
  obtain ⟨q, hq⟩ : ∃ q, q = w2.heap.size := ⟨_, rfl⟩
  have HB3 := Lib.hid (JBox.new jn ic uc jb HB2.out HIU.out.1 HIU.out.2)
  rw [← hq] at HB3 ⊢
  generalize w2.alloc (.cells #[.int .i64 jn, .slice ia il ic, .slice ua ul uc, .bool jb] 28) = w3 at HB3 ⊢
  clear HB2 HIU hq
  obtain ⟨d0, d1, d2⟩ := HB3.out.vb.cells
  obtain ⟨c0, c1, c2⟩ := HB3.out.cells
  rw [← HS.out] at d2
  cases ok with
  | false =>
    obtain ⟨rfl, rfl⟩ := HJ0.out rfl
    obtain rfl : il = 0 := hil.symm
    obtain rfl : ul = 0 := hul.symm
    go_wp2
    go_ret
    exact ⟨rfl, HB3.out.vb.kept⟩
  | true =>
    obtain ⟨hr, hjo⟩ := HJ.out rfl
    have HR := Lib.hid (J.right w3 ad len cap ad2 len2 cap2 v HB3.out.vb.ver)
    unfold verC at HR
    rw [← HS.out, hr] at HR
    have HRt := Lib.hid hr
    have hlen200 : len ≤ 200 := by have := (right_ofV hr).1.1; omega
    have hn3 := hjo.lev
    have hi0 : il ≠ 0 := fun h => hjo.ne (List.length_eq_zero_iff.1 (hil.trans h))
    have hmany : il + ul ≤ 200 := by
      have h1 := hjo.many
      rw [List.length_append, hil, hul] at h1
      have h2 := List.length_filter_le (fun m : MetaV => decide (m.1 ∈ I ∨ m.1 ∈ U)) v.1
      have h3 := (right_ofV hr).1.1
      omega
    have HO := Lib.hid hjo
    clear hr hjo HJ HJ0
    have n0 : decide (jn < 0) = false := decide_eq_false (by omega)
    have n3 : decide (3 ≤ jn) = false := decide_eq_false (by omega)
    have hiI : ((il : Int) == 0) = false := by simp only [beq_eq_false_iff_ne, ne_eq]; omega
    go_wp2_with fail
    refine HR.out.mono ?_
    rintro e w4 ⟨rfl, hk⟩
    have HB4 := Lib.hid (HB3.out.quiet hk)
    clear hk HR HB3 d0 d1 d2 c0 c1 c2
    obtain ⟨c0, c1, c2⟩ := HB4.out.cells
    go_upto_region 7 with fail
    clear n0 n3 hiI
    have HIt := Lib.hid (And.intro HB4.out.i HB4.out.u)
    go_cut [6] from 14 (fun s6 wx => ∃ la lc, s6 = .slice la (il + ul) lc ∧ Hid (JBox w wx g q ad len cap ad2 len2 cap2 v jn ia il ic ua ul uc jb I U ∧ Ints wx la (il + ul) (I ++ U)))
    case first =>
      have HKA : Kept (fun _ => False) w4 w4.drew := (Kept.refl _ w4).drewN 1
      obtain ⟨v1, wA, e1, o1, k1⟩ := app_ints (w0 := w4) (v := .slice none 0 0) (n := 0) (L := []) HKA (World.ownsRow_nil _ _ _ _) (HIt.out.1.kept HKA (.inr fun _ _ _ f => f)) HNo.out.1 (by omega)
      obtain ⟨v2, wB, e2, o2, k2⟩ := app_ints (w0 := w4) (L := [] ++ I) k1 o1 (HIt.out.2.kept k1 (.inr fun _ _ _ f => f)) HNo.out.2 (by omega)
      rw [Nat.zero_add, List.nil_append] at o2
      obtain ⟨la, lc, rfl, hla, -⟩ := owns_ints o2 (by rw [List.length_append, hil, hul])
      have hS : ∀ W, Kept (fun _ => False) w4 W → W.cell? ⟨q, 1, none⟩ = some (.slice ia il ic) ∧ W.cell? ⟨q, 2, none⟩ = some (.slice ua ul uc) := fun W hk => ⟨(HB4.out.quiet hk).cells.2.1, (HB4.out.quiet hk).cells.2.2⟩
      have hS0 := hS _ HKA
      have hSA := hS _ k1
      have hSB := hS _ k2
      refine wp_region_until (fun W => W.cell? ⟨q, 1, none⟩ = some (.slice ia il ic) ∧ W.cell? ⟨q, 2, none⟩ = some (.slice ua ul uc)) 7 (by kernel_rfl) ?_
      refine wpAnyU_take (i := 0) (v := .pointer (some ⟨q, 1, none⟩)) (some 54) rfl rfl (by kernel_rfl) (by kernel_rfl) (by kernel_rfl) (by kernel_rfl) (fun _ _ _ h => h) hS0 (yields_of (by kernel_rfl) (fun w ⟨h1, h2⟩ => by go_simp)) ?_
      refine wpAnyU_take (i := 1) (v := .slice ia il ic) (some 55) rfl rfl (by kernel_rfl) (by kernel_rfl) (by kernel_rfl) (by kernel_rfl) (fun _ _ _ h => h) hS0 (yields_of (by kernel_rfl) (fun w ⟨h1, h2⟩ => by go_simp)) ?_
      refine wpAnyU_take (i := 3) (v := .pointer (some ⟨q, 2, none⟩)) (some 57) rfl rfl (by kernel_rfl) (by kernel_rfl) (by kernel_rfl) (by kernel_rfl) (fun _ _ _ h => h) hS0 (yields_of (by kernel_rfl) (fun w ⟨h1, h2⟩ => by go_simp)) ?_
      refine wpAnyU_take (i := 4) (v := .slice ua ul uc) (some 58) rfl rfl (by kernel_rfl) (by kernel_rfl) (by kernel_rfl) (by kernel_rfl) (fun _ _ _ h => h) hS0 (yields_of (by kernel_rfl) (fun w ⟨h1, h2⟩ => by go_simp)) ?_
      refine wpAnyU_run (i := 2) (v := v1) (w' := wA) (some 56) rfl rfl (by kernel_rfl) (by kernel_rfl) (exec_append (s := .const (.slice none 0 0)) (x := .tmp 55) e1 (by rfl) (by rfl) (by rfl) (by kernel_rfl)) (fun _ => hSA) ?_
      refine wpAnyU_run (i := 5) (v := .slice la (il + ul) lc) (w' := wB) (some 59) rfl rfl (by kernel_rfl) (by kernel_rfl) (exec_append (s := .tmp 56) (x := .tmp 58) e2 (by rfl) (by rfl) (by kernel_rfl) (by kernel_rfl)) (fun _ => hSB) ?_
      refine wpAnyU_take (i := 6) (v := .slice la (il + ul) lc) (some 6) rfl rfl (by kernel_rfl) (by kernel_rfl) (by kernel_rfl) (by kernel_rfl) (fun _ _ _ h => h) hSB (yields_of (by kernel_rfl) (fun w ⟨h1, h2⟩ => by go_simp)) ?_
      refine wpAnyU_done (by kernel_rfl) ?_ _
      simp only [put_lit, List.set_cons_succ, List.set_cons_zero]
      have HEnd : Hid (JBox w wB g q ad len cap ad2 len2 cap2 v jn ia il ic ua ul uc jb I U ∧ Ints wB la (il + ul) (I ++ U)) := ⟨HB4.out.quiet k2, hla⟩
      clear hSB hSA hS0 hS hla o2 o1 e1 e2 k1 k2 HKA c0 c1 c2
      go_wp2
      go_meet
      case rel => exact ⟨la, lc, rfl, HEnd.out⟩
    case rest =>
      obtain ⟨la, lc, rfl, hcw⟩ := hcut
      obtain ⟨N, hN⟩ : ∃ N, N = il + ul := ⟨_, rfl⟩
      obtain ⟨L, hL⟩ : ∃ L, L = I ++ U := ⟨_, rfl⟩
      have hNl : L.length = N := by rw [hL, hN, List.length_append, hil, hul]
      have hNd : L.Nodup := by rw [hL]; exact HO.out.nodup
      have HNd := Lib.hid hNd
      have HL := Lib.hid hL
      have HNe := Lib.hid hN
      have hN200 : N ≤ 200 := by omega
      rw [← hL] at hcw
      rw [← hN] at hcw ⊢
      have HC0 := Lib.hid hcw.out
      clear hcw hL hNd hN HIt HB4 c0 c1 c2 HNo
      go_wp2
      go_loopw [7] (fun i wr => ∃ x : Nat, x ≤ N ∧ i = .int .i64 (x : Int) ∧ Hid (JBox w wr g q ad len cap ad2 len2 cap2 v jn ia il ic ua ul uc jb I U ∧ Ints wr la N L)) (fun i _ => N - (intOf i).toNat)
      case atStart => exact ⟨0, Nat.zero_le _, rfl, HC0⟩
      case round =>
        obtain ⟨x, hx, rfl, hC⟩ := hrel
        clear HC0
        have x0 : (0 : Int) ≤ (x : Int) := by omega
        have hwx : IntKind.i64.wrap ((x : Int) + 1) = (x : Int) + 1 := IntWalk.i64_in _ (by omega)
        by_cases hlt : x < N
        case neg =>
          obtain rfl : x = N := by omega
          have xN : ¬(x : Int) < (x : Int) := by omega
          go_upto_region 17 with fail
          have HC2 := Lib.hid hC.out
          clear hC xN hlt hwx x0 hx
          have HM0 : Hid ((0 : Nat) = ((v.1.take 0).filter fun m => decide (m.1 ∈ I ∨ m.1 ∈ U)).length) := by simp [Hid]
          go_wp2
          go_loopw [9, 10] (fun c i wr => ∃ (y k : Nat), y ≤ len ∧ k ≤ y ∧ c = .int .i64 (k : Int) ∧ i = .int .i64 (y : Int) ∧ Hid (JBox w wr g q ad len cap ad2 len2 cap2 v jn ia il ic ua ul uc jb I U ∧ Ints wr la x L) ∧ Hid (k = ((v.1.take y).filter fun m => decide (m.1 ∈ I ∨ m.1 ∈ U)).length)) (fun _ i _ => len - (intOf i).toNat)
          case atStart => exact ⟨0, 0, Nat.zero_le _, Nat.le_refl _, rfl, rfl, HC2, HM0⟩
          case round =>
            obtain ⟨y, k, hy, hky, rfl, rfl, hC, hK⟩ := hrel
            clear HC2 HM0
            have y0 : (0 : Int) ≤ (y : Int) := by omega
            have hwy : IntKind.i64.wrap ((y : Int) + 1) = (y : Int) + 1 := IntWalk.i64_in _ (by omega)
            have hwk : IntKind.i64.wrap ((k : Int) + 1) = (k : Int) + 1 := IntWalk.i64_in _ (by omega)
            have hwj : IntKind.i64.wrap (jn + 1) = jn + 1 := IntWalk.i64_in _ (by omega)
            obtain ⟨d0, d1, d2⟩ := hC.out.1.vb.cells
            rw [← HS.out] at d2
            by_cases hly : y < len
            case neg =>
              obtain rfl : y = len := by omega
              have yN : ¬(y : Int) < (y : Int) := by omega
              have hkx : (k : Int) = (x : Int) := by
                have h1 := hK.out
                rw [List.take_of_length_le (by omega), HO.out.many, ← HL.out, hNl] at h1
                omega
              have HKe := Lib.hid hC.out.1.vb.kept
              clear hC hK hky
              rw [hkx]
              go_wp2
              go_ret
              exact ⟨rfl, HKe.out⟩
            have yN : (y : Int) < (len : Int) := by omega
            have hyT : y < v.1.length := by omega
            obtain ⟨b, off, rfl, hbl, e0, e1, e2, e3, e4, h5⟩ := hC.out.1.vb.ver.1.at y hyT
            obtain ⟨m, hm⟩ : ∃ m, Hid (m = v.1[y]) := ⟨v.1[y], rfl⟩
            rw [← hm.out] at e0 e1 e2 e3 e4
            have hst : v.1.take (y + 1) = v.1.take y ++ [m] := by rw [hm.out]; exact List.take_succ_eq_append_getElem hyT
            have HST := Lib.hid hst
            have HMem : Hid (m ∈ v.1) := by rw [hm.out]; exact List.getElem_mem hyT
            clear hst h5 d1 d2 hm
            clear hyT
            go_upto_region 21 with fail
            obtain ⟨gx, hgx⟩ : ∃ gx, gx = wr.heap.size := ⟨_, rfl⟩
            have HI8 : Hid (TBox w (wr.alloc (.cells #[.int .i64 m.1, .int .i64 m.2.1, .string ⟨m.2.2.1.toArray⟩, .string ⟨m.2.2.2.1.toArray⟩, .int .i64 m.2.2.2.2] 49)) g q (some ⟨b, off, none⟩) len cap ad2 len2 cap2 v jn ia il ic ua ul uc jb I U gx m la x L) := by
              rw [hgx]; exact ⟨hC.out.1.quiet ((Kept.refl _ _).alloc _), hC.out.2.kept ((Kept.refl _ _).alloc _) (.inr fun _ _ _ f => f), Holds.new wr (metaC m) _⟩
            rw [← hgx]
            generalize wr.alloc (.cells #[.int .i64 m.1, .int .i64 m.2.1, .string ⟨m.2.2.1.toArray⟩, .string ⟨m.2.2.2.1.toArray⟩, .int .i64 m.2.2.2.2] 49) = w8 at HI8 ⊢
            clear hgx hC e0 e1 e2 e3 e4 hbl d0
            obtain ⟨-, ⟨-, c1, -⟩, x0, -⟩ := HI8.out.cells
            obtain ⟨q1, hq1⟩ : ∃ q1, Hid (q1 = decide (m.1 ∈ I)) := ⟨_, rfl⟩
            have HW1 := Lib.hid (within16 w8 ia il ic I m.1 HI8.out.j.i (by omega))
            rw [← hq1.out] at HW1
            go_wp2_with fail
            refine HW1.out.mono ?_
            rintro e w9 ⟨rfl, hk⟩
            have HI9 := Lib.hid (HI8.out.quiet hk)
            clear hk HW1 HI8 x0 c1
            obtain ⟨-, ⟨-, -, c2⟩, x0, -⟩ := HI9.out.cells
            obtain ⟨q2, hq2⟩ : ∃ q2, Hid (q2 = decide (m.1 ∈ U)) := ⟨_, rfl⟩
            have HW2 := Lib.hid (within16 w9 ua ul uc U m.1 HI9.out.j.u (by omega))
            rw [← hq2.out] at HW2
            go_wp2_with fail
            refine HW2.out.mono ?_
            rintro e w10 ⟨rfl, hk⟩
            have HI10 := Lib.hid (HI9.out.quiet hk)
            clear hk HW2 HI9 x0 c2
            -- what is known of this table
            have hcount : ∀ o : Bool, o = (q1 || q2) → ((v.1.take (y + 1)).filter fun m => decide (m.1 ∈ I ∨ m.1 ∈ U)).length = k + (if o = true then 1 else 0) := fun o ho => by
              have h1 : decide (m.1 ∈ I ∨ m.1 ∈ U) = o := by rw [ho, hq1.out, hq2.out, Bool.decide_or]
              rw [HST.out, List.filter_append, List.length_append, ← hK.out]
              simp only [List.filter_cons, List.filter_nil, h1]
              cases o <;> rfl
            have HCt := Lib.hid hcount
            clear hcount
            cases q1 with
            | true =>
              have hl : m.2.1 = jn := HO.out.inL m HMem.out (of_decide_eq_true hq1.out.symm)
              have hun : q2 = false := by
                cases h : q2 with
                | false => rfl
                | true =>
                  have := HO.out.unL m HMem.out (of_decide_eq_true (h ▸ hq2.out).symm)
                  omega
              subst hun
              have HM1 : Hid (k + 1 = ((v.1.take (y + 1)).filter fun m => decide (m.1 ∈ I ∨ m.1 ∈ U)).length) := by
                show k + 1 = _
                rw [HCt.out true rfl]; rfl
              obtain ⟨-, ⟨c0, -, -⟩, -, x1, -⟩ := HI10.out.cells
              rw [hl] at x1
              clear hl HCt hK
              have hne : (jn == jn + 1) = false := by simp only [beq_eq_false_iff_ne, ne_eq]; omega
              go_wp2
              go_roundw
              case rel => exact ⟨y + 1, k + 1, hly, by omega, by first | rfl | go_num, by first | rfl | go_num, ⟨HI10.out.j, HI10.out.l⟩, HM1⟩
              case measure => simp [intOf]; omega
            | false =>
              cases q2 with
              | true =>
                have hl : m.2.1 = jn + 1 := HO.out.unL m HMem.out (of_decide_eq_true hq2.out.symm)
                have hmt : meetsM m (ofIds v.1 I) = true := (HO.out.met m HMem.out hl).1 (of_decide_eq_true hq2.out.symm)
                have HM1 : Hid (k + 1 = ((v.1.take (y + 1)).filter fun m => decide (m.1 ∈ I ∨ m.1 ∈ U)).length) := by
                  show k + 1 = _
                  rw [HCt.out true rfl]; rfl
                obtain ⟨⟨d0, d1, d2⟩, ⟨c0, c1, -⟩, x0, x1, x2, x3, x4⟩ := HI10.out.cells
                rw [hl] at x1
                rw [← HS.out] at d2
                have HMe := Lib.hid (meets16 w10 (some ⟨b, off, none⟩) len cap ad2 len2 cap2 v m ia il ic I HI10.out.j.vb.ver HI10.out.j.i (by omega))
                unfold verC metaV at HMe
                rw [← HS.out, hl, hmt] at HMe
                clear hl hmt HCt hK
                go_wp2_with fail
                refine HMe.out.mono ?_
                rintro e w11 ⟨rfl, hk⟩
                have HI11 := Lib.hid (HI10.out.quiet hk)
                clear hk HMe HI10 d0 d1 d2 c0 c1 x0 x1 x2 x3 x4
                go_wp2
                go_roundw
                case rel => exact ⟨y + 1, k + 1, hly, by omega, by first | rfl | go_num, by first | rfl | go_num, ⟨HI11.out.j, HI11.out.l⟩, HM1⟩
                case measure => simp [intOf]; omega
              | false =>
                have HM1 : Hid (k = ((v.1.take (y + 1)).filter fun m => decide (m.1 ∈ I ∨ m.1 ∈ U)).length) := by
                  show k = _
                  rw [HCt.out false rfl]; rfl
                by_cases hl : m.2.1 = jn + 1
                case neg =>
                  obtain ⟨-, ⟨c0, -, -⟩, -, x1, -⟩ := HI10.out.cells
                  obtain ⟨lv, hlv⟩ : ∃ lv, lv = m.2.1 := ⟨_, rfl⟩
                  have hne : (lv == jn + 1) = false := by rw [hlv]; simpa using hl
                  rw [← hlv] at x1
                  clear hlv hl HCt hK
                  go_wp2
                  go_roundw
                  case rel => exact ⟨y + 1, k, hly, by omega, by first | rfl | go_num, by first | rfl | go_num, ⟨HI10.out.j, HI10.out.l⟩, HM1⟩
                  case measure => simp [intOf]; omega
                have hnU : m.1 ∉ U := of_decide_eq_false hq2.out.symm
                have hmt : meetsM m (ofIds v.1 I) = false := by
                  cases h : meetsM m (ofIds v.1 I) with
                  | false => rfl
                  | true => exact absurd ((HO.out.met m HMem.out hl).2 h) hnU
                have hma : meetsM m (ofIds v.1 L) = false := by rw [HL.out]; exact HO.out.not m HMem.out hl hnU
                obtain ⟨⟨d0, d1, d2⟩, ⟨c0, c1, -⟩, x0, x1, x2, x3, x4⟩ := HI10.out.cells
                rw [hl] at x1
                rw [← HS.out] at d2
                have HMe := Lib.hid (meets16 w10 (some ⟨b, off, none⟩) len cap ad2 len2 cap2 v m ia il ic I HI10.out.j.vb.ver HI10.out.j.i (by omega))
                unfold verC metaV at HMe
                rw [← HS.out, hl, hmt] at HMe
                clear hmt hnU HCt hK
                have HLv := Lib.hid hl
                have HMa := Lib.hid hma
                clear hl hma
                go_wp2_with fail
                refine HMe.out.mono ?_
                rintro e w11 ⟨rfl, hk⟩
                have HI11 := Lib.hid (HI10.out.quiet hk)
                clear hk HMe HI10 d0 d1 d2 c0 c1 x0 x1 x2 x3 x4
                obtain ⟨⟨d0, d1, d2⟩, -, x0, x1, x2, x3, x4⟩ := HI11.out.cells
                rw [HLv.out] at x1
                rw [← HS.out] at d2
                have HMf := Lib.hid (meets16 w11 (some ⟨b, off, none⟩) len cap ad2 len2 cap2 v m la x lc L HI11.out.j.vb.ver HI11.out.l (by omega))
                unfold verC metaV at HMf
                rw [← HS.out, HLv.out, HMa.out] at HMf
                clear HLv HMa
                go_wp2_with fail
                refine HMf.out.mono ?_
                rintro e w12 ⟨rfl, hk⟩
                have HI12 := Lib.hid (HI11.out.quiet hk)
                clear hk HMf HI11 d0 d1 d2 x0 x1 x2 x3 x4
                go_wp2
                go_roundw
                case rel => exact ⟨y + 1, k, hly, by omega, by first | rfl | go_num, by first | rfl | go_num, ⟨HI12.out.j, HI12.out.l⟩, HM1⟩
                case measure => simp [intOf]; omega
        have xN : (x : Int) < (N : Int) := by omega
        have HC2 := Lib.hid hC.out
        clear hC
        go_wp2
        go_loopw [8] (fun k wr => ∃ y : Nat, y ≤ x ∧ k = .int .i64 (y : Int) ∧ Hid (JBox w wr g q ad len cap ad2 len2 cap2 v jn ia il ic ua ul uc jb I U ∧ Ints wr la N L)) (fun k _ => x - (intOf k).toNat)
        case atStart => exact ⟨0, Nat.zero_le _, rfl, HC2⟩
        case round =>
          obtain ⟨y, hy, rfl, hC⟩ := hrel
          clear HC2
          have y0 : (0 : Int) ≤ (y : Int) := by omega
          have hwy : IntKind.i64.wrap ((y : Int) + 1) = (y : Int) + 1 := IntWalk.i64_in _ (by omega)
          by_cases hly : y < x
          case neg =>
            obtain rfl : y = x := by omega
            have yN : ¬(y : Int) < (y : Int) := by omega
            have HC3 := Lib.hid hC.out
            clear hC
            go_wp2
            go_roundw
            case rel => exact ⟨y + 1, hlt, by first | rfl | go_num, HC3⟩
            case measure => simp [intOf]; omega
          have yN : (y : Int) < (x : Int) := by omega
          have hyN : (y : Int) < (N : Int) := by omega
          have hne : L[x]'(by omega) ≠ L[y]'(by omega) := fun e => List.pairwise_iff_getElem.1 HNd.out y x (by omega) (by omega) hly e.symm
          obtain ⟨bl, ol, rfl, _, d0⟩ := ints_at hC.out.2 x (by omega)
          obtain ⟨bm, om, hbm, _, d1⟩ := ints_at hC.out.2 y (by omega)
          obtain ⟨rfl, rfl⟩ : bm = bl ∧ om = ol := by simp at hbm; exact ⟨hbm.1.symm, hbm.2.symm⟩
          have HC3 := Lib.hid hC.out
          generalize L[x]'(by omega) = t1 at d0 hne
          generalize L[y]'(by omega) = t2 at d1 hne
          have hne2 : (t1 == t2) = false := by simpa using hne
          clear hC hbm hne
          go_wp2
          go_quiet (fail)
          go_wp2
          go_roundw
          case rel => exact ⟨y + 1, hly, by first | rfl | go_num, HC3.out.1.quiet ((Kept.refl _ wr).drewN _), HC3.out.2.kept ((Kept.refl _ wr).drewN _) (.inr fun _ _ _ f => f)⟩
          case measure => simp [intOf]; omega

end Go.Proofs.Ytgcepbpdicadnaa
