/- Decode: its deferred function, which recovers what the reader panics with, and all of it. -/
import Derived.Test.YtbiifeahdinjjaaBkK
import Derived.Defers
import Derived.Recover
import Derived.Laws.Pointers
import Derived.Test.YtbiifeahdinjjaaLs12
import Derived.Test.YtbiifeahdinjjaaAppend
import Derived.Laws.AppendOwnNone
namespace Go.Proofs.Ytbiifeahdinjjaa
open Go.RowKit Go.Proofs Go.Proofs.Pk
set_option maxRecDepth 10000
attribute [local simp] mk_get wrap64_u8 mk_extract ByteArray.mk_append_mk get_1k

set_option maxHeartbeats 2000000 in
theorem catch_panicking (bl be : Nat) (vl ve : Value) (older : List PanicEntry) (w : World) (hne : ¬bl = be) (h1 : bl < w.heap.size) (h2 : be < w.heap.size) (c1 : w.cell? ⟨bl, 0, none⟩ = some vl) (f1 : w.frozen? ⟨bl, 0, none⟩ = false) (c2 : w.cell? ⟨be, 0, none⟩ = some ve) (f2 : w.frozen? ⟨be, 0, none⟩ = false) :
    CallsD Try.prog 30 #[.pointer (some ⟨bl, 0, none⟩), .pointer (some ⟨be, 0, none⟩)] (.panicking ({ v := .iface 45 (.int .i64 3), recovered := false } :: older)) w fun e u' w' =>
      e = .returned (.tuple #[]) ∧ u' = .panicking ({ v := .iface 45 (.int .i64 3), recovered := true } :: older) ∧ w'.cell? ⟨bl, 0, none⟩ = some (.slice none 0 0) ∧ w'.cell? ⟨be, 0, none⟩ = some (.iface 45 (.int .i64 3)) ∧ Kept (fun k => k = bl ∨ k = be) w w' := by
  refine callsD_of_wpS Try.func30 rfl fun c₀ cs hu => ?_
  apply wpS_seq
  apply wpS_region
  simp [wpOpsS, go_sem, recoverD, hu, Try.ntmps30, Exit.thenS]
  refine wpS_of_wp ?_
  simp only [Array.replicate_succ, Array.replicate_zero, List.push_toArray, List.append_toArray, List.nil_append, List.cons_append, List.setIfInBounds_toArray, List.set_cons_succ, List.set_cons_zero]
  go_wp2
  have hb : Kept (fun k => k = bl ∨ k = be) w ((w.setCell ⟨bl, 0, none⟩ (.slice none 0 0)).setCell ⟨be, 0, none⟩ (.iface 45 (.int .i64 3))) :=
    ((Kept.refl _ w).setCell (p := ⟨bl, 0, none⟩) (.inl rfl) _).setCell (p := ⟨be, 0, none⟩) (.inr rfl) _
  have d1 : ((w.setCell ⟨bl, 0, none⟩ (.slice none 0 0)).setCell ⟨be, 0, none⟩ (.iface 45 (.int .i64 3))).cell? ⟨bl, 0, none⟩ = some (.slice none 0 0) := by
    rw [World.cell?_setCell_other _ _ _ _ (by simp [hne]), World.cell?_setCell_same' _ _ _ (by rw [c1]; rfl)]
  have d2 : ((w.setCell ⟨bl, 0, none⟩ (.slice none 0 0)).setCell ⟨be, 0, none⟩ (.iface 45 (.int .i64 3))).cell? ⟨be, 0, none⟩ = some (.iface 45 (.int .i64 3)) := by
    rw [World.cell?_setCell_same' _ _ _ (by rw [World.cell?_setCell_other _ _ _ _ (by simp), c2]; rfl)]
  simp [bodyPostS, results, Try.f30, hb, d1, d2]

set_option maxHeartbeats 2000000 in
theorem catch_idle (bl be : Nat) (w : World) :
    CallsD Try.prog 30 #[.pointer (some ⟨bl, 0, none⟩), .pointer (some ⟨be, 0, none⟩)] .returning w fun e u' w' => e = .returned (.tuple #[]) ∧ u' = .returning ∧ w' = w := by
  refine callsD_of_wpS Try.func30 rfl fun c₀ cs hu => ?_
  apply wpS_seq
  apply wpS_region
  simp [wpOpsS, go_sem, recoverD, hu, Try.ntmps30, Exit.thenS]
  refine wpS_of_wp ?_
  simp only [Array.replicate_succ, Array.replicate_zero, List.push_toArray, List.append_toArray, List.nil_append, List.cons_append, List.setIfInBounds_toArray, List.set_cons_succ, List.set_cons_zero]
  go_wp2
  cases c₀
  simp_all [bodyPostS, results, Try.f30]

/-- The two results' cells, which the deferred function has captured. -/
structure DeC (w wx : World) (v ve : Value) : Prop where
  l : wx.cell? ⟨w.heap.size, 0, none⟩ = some v
  fl : wx.frozen? ⟨w.heap.size, 0, none⟩ = false
  e : wx.cell? ⟨w.heap.size + 1, 0, none⟩ = some ve
  fe : wx.frozen? ⟨w.heap.size + 1, 0, none⟩ = false
  lt : w.heap.size + 2 ≤ wx.heap.size
  kept : Kept (fun _ => False) w wx
theorem DeC.step {w wx w' : World} {v ve : Value} {X : Nat → Prop} (h : DeC w wx v ve) (hk : Kept X wx w') (hX : ∀ k, X k → w.heap.size + 2 ≤ k) : DeC w w' v ve := by
  have n0 : ¬X w.heap.size := fun h => by have := hX _ h; omega
  have n1 : ¬X (w.heap.size + 1) := fun h => by have := hX _ h; omega
  have hlt := h.lt
  exact ⟨(hk.cell (p := ⟨w.heap.size, 0, none⟩) (show w.heap.size < _ by omega) n0).trans h.l, (hk.frozen (p := ⟨w.heap.size, 0, none⟩) (show w.heap.size < _ by omega) n0).trans h.fl,
    (hk.cell (p := ⟨w.heap.size + 1, 0, none⟩) (show w.heap.size + 1 < _ by omega) n1).trans h.e, (hk.frozen (p := ⟨w.heap.size + 1, 0, none⟩) (show w.heap.size + 1 < _ by omega) n1).trans h.fe,
    Nat.le_trans hlt hk.size, h.kept.trans hk (fun k hx => .inr (by have := hX k hx; omega))⟩
theorem DeC.put {w wx : World} {v ve : Value} (h : DeC w wx v ve) (v2 : Value) : DeC w (wx.setCell ⟨w.heap.size, 0, none⟩ v2) v2 ve ∧ Kept (fun k => k = w.heap.size) wx (wx.setCell ⟨w.heap.size, 0, none⟩ v2) := by
  have hk : Kept (fun k => k = w.heap.size) wx (wx.setCell ⟨w.heap.size, 0, none⟩ v2) := Kept.setCell (X := fun k => k = w.heap.size) (Kept.refl _ _) (p := ⟨w.heap.size, 0, none⟩) rfl _
  have hlt := h.lt
  refine ⟨⟨World.cell?_setCell_same' _ _ _ (by rw [h.l]; rfl), by rw [World.frozen?_setCell]; exact h.fl, (hk.cell (p := ⟨w.heap.size + 1, 0, none⟩) (show w.heap.size + 1 < _ by omega) (show ¬w.heap.size + 1 = w.heap.size by omega)).trans h.e, by rw [World.frozen?_setCell]; exact h.fe, by simpa using hlt, h.kept.trans hk (fun k hx => .inr (by omega))⟩, hk⟩
theorem DeC.putE {w wx : World} {v ve : Value} (h : DeC w wx v ve) (v2 : Value) : DeC w (wx.setCell ⟨w.heap.size + 1, 0, none⟩ v2) v v2 ∧ Kept (fun k => k = w.heap.size + 1) wx (wx.setCell ⟨w.heap.size + 1, 0, none⟩ v2) := by
  have hk : Kept (fun k => k = w.heap.size + 1) wx (wx.setCell ⟨w.heap.size + 1, 0, none⟩ v2) := Kept.setCell (X := fun k => k = w.heap.size + 1) (Kept.refl _ _) (p := ⟨w.heap.size + 1, 0, none⟩) rfl _
  have hlt := h.lt
  refine ⟨⟨(hk.cell (p := ⟨w.heap.size, 0, none⟩) (show w.heap.size < _ by omega) (show ¬w.heap.size = w.heap.size + 1 by omega)).trans h.l, by rw [World.frozen?_setCell]; exact h.fl, World.cell?_setCell_same' _ _ _ (by rw [h.e]; rfl), by rw [World.frozen?_setCell]; exact h.fe, by simpa using hlt, h.kept.trans hk (fun k hx => .inr (by omega))⟩, hk⟩
/-- The deferred call, as the frame holds it. -/
def defD (B : Nat) : List Deferred := [{ target := .fn (.func 30) #[.pointer (some ⟨B, 0, none⟩), .pointer (some ⟨B + 1, 0, none⟩)], args := #[] }]
set_option maxHeartbeats 2000000 in
/-- The body has panicked: what is handed back is no list, and ErrForm. -/
theorem door_panic {w wx : World} {v ve : Value} {r : List MEnt × Bool} (l : List Value) (h : DeC w wx v ve) (hr : r = ([], false)) (h2 : l[2]? = some (.pointer (some ⟨w.heap.size, 0, none⟩))) (h3 : l[3]? = some (.pointer (some ⟨w.heap.size + 1, 0, none⟩))) :
    bodyPostD Try.prog Try.f13 (DecK w r) (.panic invP) { tmps := l.toArray, defers := defD w.heap.size } wx := by
  subst hr
  have hlt := h.lt
  refine leaves_cons (f := 30) (args := #[.pointer (some ⟨w.heap.size, 0, none⟩), .pointer (some ⟨w.heap.size + 1, 0, none⟩)]) (by simp) (by simp [go_sem]) ?_
  refine (catch_panicking w.heap.size (w.heap.size + 1) v ve [] wx (by omega) (by omega) (by omega) h.l h.fl h.e h.fe).mono ?_
  rintro e u' w'' ⟨rfl, rfl, c1, c2, hk⟩
  have hK : Kept (fun _ => False) w w'' := h.kept.trans hk (fun k hx => .inr (by rcases hx with rfl | rfl <;> omega))
  simp [Leaves, settle, results, Try.f13, go_sem, h2, h3, c1, c2]
  exact ⟨none, 0, rfl, World.ownsRow_nil _ _ _ _, fun _ h => (by cases h), hK⟩
set_option maxHeartbeats 2000000 in
/-- The body has returned. -/
theorem door_return {w wx : World} {ad : Option Addr} {cap : Nat} {r : List MEnt × Bool} {T : List MEnt} (l : List Value) (h : DeC w wx (.slice ad T.length cap) .nilIface) (hr : r = (T, true)) (h2 : l[2]? = some (.pointer (some ⟨w.heap.size, 0, none⟩))) (h3 : l[3]? = some (.pointer (some ⟨w.heap.size + 1, 0, none⟩)))
    (ho : wx.ownsRow w.heap.size 37 4 (.slice ad T.length cap) T.length (cellsM T)) (hf : ∀ e ∈ T, FitN e.2.1) :
    bodyPostD Try.prog Try.f13 (DecK w r) .ret { tmps := l.toArray, defers := defD w.heap.size } wx := by
  subst hr
  have hlt := h.lt
  refine leaves_cons (f := 30) (args := #[.pointer (some ⟨w.heap.size, 0, none⟩), .pointer (some ⟨w.heap.size + 1, 0, none⟩)]) (by simp) (by simp [go_sem]) ?_
  refine (catch_idle w.heap.size (w.heap.size + 1) wx).mono ?_
  rintro e u' w'' ⟨rfl, rfl, rfl⟩
  have c1 := h.l
  have c2 := h.e
  simp [Leaves, settle, results, Try.f13, go_sem, h2, h3, c1, c2]
  exact ⟨ad, cap, rfl, ho, hf, h.kept⟩

theorem decC_list (b : Txt) : decB b = match listC b with | some (T, t) => if t = [] then (T, true) else ([], false) | none => ([], false) := by
  rw [dec_steps]
  unfold decC listC
  split <;> rfl

set_option maxHeartbeats 8000000 in
theorem decP (b : Txt) (w : World) (hb : (b.length : Int) ≤ 140737489000000) : Calls Try.prog 13 #[.string ⟨b.toArray⟩] w (DecK w (decB b)) := by
  have hmf : ∀ (fn : Fn) (first cap : Array Value) (w : World), (Instr.makeFunc fn first cap).run Try.prog w = .ok (.func fn first cap) w := fun _ _ _ _ => rfl
  have H1 := Lib.hid (fun (W : World) (p : Nat) (h : Rdr W p b) => listP p b W hb h)
  obtain ⟨m, hm⟩ : ∃ m, m = listC b := ⟨_, rfl⟩
  have hV := decC_list b
  rw [← hm] at H1 hV
  have HV := Lib.hid hV
  clear hb hV hm
  go_enter_defers Try.func13, Try.ntmps13
  have HD0 : Hid (DeC w (((w.alloc (.cells #[.slice none 0 0] 22)).alloc (.cells #[.nilIface] 25)).alloc (.cells #[.string ⟨b.toArray⟩] 62)) (.slice none 0 0) .nilIface ∧
      Rdr (((w.alloc (.cells #[.slice none 0 0] 22)).alloc (.cells #[.nilIface] 25)).alloc (.cells #[.string ⟨b.toArray⟩] 62)) (w.heap.size + 2) b) := by
    have h1 := Holds.new w [.slice none 0 0] 22
    have h2 := Holds.new (w.alloc (.cells #[.slice none 0 0] 22)) [.nilIface] 25
    have h3 := Holds.new ((w.alloc (.cells #[.slice none 0 0] 22)).alloc (.cells #[.nilIface] 25)) [.string ⟨b.toArray⟩] 62
    have s1 : (w.alloc (.cells #[.slice none 0 0] 22)).heap.size = w.heap.size + 1 := by simp
    have s2 : ((w.alloc (.cells #[.slice none 0 0] 22)).alloc (.cells #[.nilIface] 25)).heap.size = w.heap.size + 2 := by simp
    rw [s1] at h2
    rw [s2] at h3
    have h1' := (h1.alloc (.cells #[.nilIface] 25)).alloc (.cells #[.string ⟨b.toArray⟩] 62)
    have h2' := h2.alloc (.cells #[.string ⟨b.toArray⟩] 62)
    exact ⟨⟨h1'.cell 0 _ rfl, h1'.free 0, h2'.cell 0 _ rfl, h2'.free 0, by simp, (((Kept.refl _ w).alloc _).alloc _).alloc _⟩, ⟨h3.cell 0 _ rfl, h3.free 0, by simp⟩⟩
  obtain ⟨p, hp⟩ : ∃ p, Hid (p = w.heap.size + 2) := ⟨_, rfl⟩
  rw [← hp.out] at HD0
  have hpw : w.heap.size + 1 + 1 = p := by rw [hp.out]
  have hX : ∀ k, k = p → w.heap.size + 2 ≤ k := fun k e => by rw [e, hp.out]; exact Nat.le_refl _
  have HXX := Lib.hid hX
  clear hX
  go_wp2_with fail
  refine (H1.out _ p HD0.out.2).mono ?_
  rintro e wa (⟨T, t, ad, rfl, rfl, hr1, ho, hf, hk1⟩ | ⟨rfl, rfl, hk1⟩)
  rotate_left
  · exact door_panic _ (HD0.out.1.step hk1 HXX.out) HV.out rfl rfl
  have hDa := HD0.out.1.step hk1 HXX.out
  have hsz := HD0.out.1.lt
  have hle : w.heap.size + 2 ≤ (((w.alloc (.cells #[.slice none 0 0] 22)).alloc (.cells #[.nilIface] 25)).alloc (.cells #[.string ⟨b.toArray⟩] 62)).heap.size := hsz
  obtain ⟨hDb, hkb⟩ := hDa.put (.slice ad T.length T.length)
  have ho2 := owns_base ho hle
  have hob := owns_of_block ho2 fun g hg => hkb.block g (ho2.lt g hg).2 (by have := (ho2.lt g hg).1; omega)
  have hrb := hr1.kept hkb (by have := hp.out; omega)
  have c1 := hDa.l
  have f1 := hDa.fl
  have HB := Lib.hid (And.intro hDb (And.intro hob hrb))
  have HF := Lib.hid hf
  clear hDa hsz hle hDb hkb ho2 hob hrb ho hr1 hk1 hf HD0 H1
  have HVV : Hid (decB b = if t = [] then (T, true) else ([], false)) := HV.out
  clear HV
  go_upto_region 4 with fail
  generalize wa.setCell ⟨w.heap.size, 0, none⟩ (.slice ad T.length T.length) = wb at HB ⊢
  clear c1 f1
  have r0 := HB.out.2.2.cell
  by_cases htn : t = []
  case neg =>
    have hq : (t == []) = false := by simpa using htn
    have HVn : Hid (decB b = ([], false)) := by show _ = _; rw [HVV.out, if_neg htn]
    go_wp2_with fail
    refine (check_no _).mono ?_
    rintro e wc ⟨rfl, hkc⟩
    exact door_panic _ (HB.out.1.step hkc (fun _ f => f.elim)) HVn.out rfl rfl
  have HVt : Hid (decB b = (T, true)) := by show _ = _; rw [HVV.out, if_pos htn]
  clear HVV
  subst htn
  go_wp2_with fail
  refine (check_yes _).mono ?_
  rintro e wc ⟨rfl, hkc⟩
  have hDc := HB.out.1.step hkc (fun _ f => f.elim)
  have hoc := owns_of_block HB.out.2.1 fun g hg => hkc.block g (HB.out.2.1.lt g hg).2 (fun f => f)
  have z1 := hDc.l
  have z2 := hDc.fl
  obtain ⟨hDz, hkz⟩ := hDc.put (.slice ad T.length T.length)
  have hoz := owns_of_block hoc fun g hg => hkz.block g (hoc.lt g hg).2 (by have := (hoc.lt g hg).1; omega)
  obtain ⟨hDv, hkv⟩ := hDz.putE .nilIface
  have hov := owns_of_block hoz fun g hg => hkv.block g (hoz.lt g hg).2 (by have := (hoz.lt g hg).1; omega)
  have HDv := Lib.hid (And.intro hDv hov)
  have y1 := hDz.e
  have y2 := hDz.fe
  clear hkc hDc hoc hDz hkz hoz hDv hkv hov r0 HB
  go_wp2
  exact door_return _ HDv.out.1 HVt.out rfl rfl (owns_base HDv.out.2 (by omega)) HF.out

end Go.Proofs.Ytbiifeahdinjjaa
