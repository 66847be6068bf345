/- VolO, VolT, VolX. -/
import Derived.Test.YtlgdfalbhpgllaaGreatDoorJ30
import Derived.Test.YtlgdfalbhpgllaaGreatDoorJ24
import Derived.BigQuiet
import Derived.Test.YtlgdfalbhpgllaaGreatDoorJ19
import Derived.Test.YtlgdfalbhpgllaaGreatDoorJ25
import Derived.Test.YtlgdfalbhpgllaaGreatDoorJ27
import Derived.Test.YtlgdfalbhpgllaaGreatDoorJ28

/- Package volume: Open, Format. -/
namespace Go.Proofs.YtlgdfalbhpgllaaGreatDoor
open Go.RowKit Go.Proofs Go.Proofs.Pk
set_option maxRecDepth 10000
attribute [local simp] mk_get wrap64_u8 mk_extract ByteArray.mk_append_mk get_1k

theorem dec_right {T : Int} {b : List UInt8} (h : (decV T b).2 = 0) : rightN T (decV T b).1 = true := by
  exact (dec_back h).1
theorem got_right (S : Dsk) (a : Nat) : placeV S a = none ∧ gotR S a = rootZ ∨ ∃ r, placeV S a = some r ∧ gotR S a = r ∧ rightN S.L.length r = true ∧ 1 ≤ r.1 := by
  unfold gotR
  cases hp : placeV S a with
  | none => exact .inl ⟨rfl, rfl⟩
  | some r =>
    refine .inr ⟨r, rfl, rfl, ?_⟩
    have hr : rightN S.L.length r = true := by
      unfold placeV at hp
      simp only at hp
      split at hp
      · cases hp
      · split at hp
        · rename_i h1
          injection hp with hp
          rw [← hp]
          exact dec_right h1.1
        · cases hp
    exact ⟨hr, (right_few hr).2.2.2.2.2.1⟩
/-- The root after so many slots. -/
def foldR (S : Dsk) : Nat → RootN
  | 0 => rootZ
  | j + 1 => if (foldR S j).1 < (gotR S (9 * j)).1 then gotR S (9 * j) else foldR S j
theorem fold_right (S : Dsk) : ∀ j, rightN S.L.length (foldR S j) = true ∨ foldR S j = rootZ
  | 0 => .inr rfl
  | j + 1 => by
    unfold foldR
    split
    · rcases got_right S (9 * j) with ⟨_, h⟩ | ⟨r, _, h, hr, _⟩
      · exact .inr h
      · rw [h]; exact .inl hr
    · exact fold_right S j
theorem open_fold (S : Dsk) : openV S = if (foldR S 2).1 = 0 then none else some (foldR S 2) := by
  have e : foldR S 2 = if (if 0 < (gotR S 0).1 then gotR S 0 else rootZ).1 < (gotR S 9).1 then gotR S 9 else if 0 < (gotR S 0).1 then gotR S 0 else rootZ := rfl
  rw [e]
  unfold openV
  rcases got_right S 0 with ⟨p0, g0⟩ | ⟨r, p0, g0, _, h0⟩
  · rcases got_right S 9 with ⟨p9, g9⟩ | ⟨t, p9, g9, _, h9⟩
    · rw [p0, g0, p9, g9]; simp [rootZ]
    · rw [p0, g0, p9, g9]
      simp only [ite_self]
      rw [if_pos (show rootZ.1 < t.1 by show 0 < t.1; omega), if_neg (by omega)]
  · rcases got_right S 9 with ⟨p9, g9⟩ | ⟨t, p9, g9, _, h9⟩
    · rw [p0, g0, p9, g9]
      rw [if_pos (show 0 < r.1 by omega)]
      have e1 : (if r.1 < rootZ.1 then rootZ else r) = r := if_neg (by show ¬r.1 < 0; omega)
      rw [e1, if_neg (by omega)]
    · rw [p0, g0, p9, g9]
      rw [if_pos (show 0 < r.1 by omega)]
      by_cases hlt : r.1 < t.1
      · simp only [if_pos hlt]
        rw [if_neg (by omega)]
      · simp only [if_neg hlt]
        rw [if_neg (by omega)]

/-- What Open answers. -/
def OpenQ (w : World) (B pd : Nat) (S : Dsk) (Xd : Nat → Prop) (e : Ending) (w' : World) : Prop :=
  Kept (fun _ => False) w w' ∧ ((∃ R q vF X', openV S = some R ∧ e = .returned (.tuple #[.pointer (some ⟨q, 0, none⟩), .nilIface]) ∧ VlP w' B q pd ⟨S, R, false⟩ vF X' ∧ w.heap.size ≤ q ∧ (∀ k, X' k ↔ k = q ∨ Xd k) ∧ (∀ b, vF.ownBlock = some b → w.heap.size ≤ b)) ∨
    (openV S = none ∧ ∃ v, e = .returned (.tuple #[.pointer none, v]) ∧ ErF w' v 8 false ∧ FreshV w v))

set_option maxHeartbeats 2000000 in
theorem openP (w : World) (B pd : Nat) (S : Dsk) (Xd : Nat → Prop) (h : DskP w B pd S Xd) (hok : S.Ok) (hoff : S.off = false) (hroom : 18 ≤ S.L.length) (hBw : B ≤ w.heap.size) :
    Calls Tryz.prog 15 #[.pointer (some ⟨pd, 0, none⟩)] w (OpenQ w B pd S Xd) := by
  have HSZ := Lib.hid (pSize w B pd S Xd h)
  have hfew := hok.few
  have h18 : ¬(S.L.length : Int) < 18 := by omega
  go_enter Tryz.func15, Tryz.ntmps15
  go_wp2_with fail
  refine HSZ.out.mono ?_
  clear HSZ
  rintro e w1 ⟨rfl, m, rfl⟩
  have hk1 : Kept (fun _ => False) w (w.drewN m) := (Kept.refl _ _).drewN m
  have hd1 := h.drewN m
  have hN2 := Holds.new (w.drewN m) (cellsV pd rootZ (.slice none 0 0) false) 65
  change Holds ((w.drewN m).alloc (.cells #[.pointer (some ⟨pd, 0, none⟩), .int .i64 0, .int .i64 0, .int .i64 0, .slice none 0 0, .bool false] 65)) w.heap.size _ _ at hN2
  have hk2 : Kept (fun _ => False) w ((w.drewN m).alloc (.cells #[.pointer (some ⟨pd, 0, none⟩), .int .i64 0, .int .i64 0, .int .i64 0, .slice none 0 0, .bool false] 65)) := hk1.alloc _
  have hd2 : DskP ((w.drewN m).alloc (.cells #[.pointer (some ⟨pd, 0, none⟩), .int .i64 0, .int .i64 0, .int .i64 0, .slice none 0 0, .bool false] 65)) B pd S Xd := hd1.kept (Kept.alloc (Kept.refl (fun _ => False) (w.drewN m)) _) (fun _ _ hf => hf)
  go_wp2
  obtain ⟨p, hp⟩ : ∃ p, Hid (p = w.heap.size) := ⟨_, rfl⟩
  rw [← hp.out] at hN2 ⊢
  generalize (w.drewN m).alloc (.cells #[.pointer (some ⟨pd, 0, none⟩), .int .i64 0, .int .i64 0, .int .i64 0, .slice none 0 0, .bool false] 65) = w2 at hN2 hk2 hd2 ⊢
  have hdlt := h.lt
  have hV2 : VlP w2 B p pd ⟨S, foldR S 0, false⟩ (.slice none 0 0) (fun k => k = p ∨ Xd k) :=
    ⟨Xd, ⟨hN2, hd2, World.ownsRow_nil _ _ _ _, by have := hp.out; omega, fun hx => by have := (hdlt p hx).2; have := hp.out; omega, fun b hb => by simp [Value.ownBlock] at hb, hok, hroom, .inr rfl⟩, fun _ => Iff.rfl⟩
  have HI : Hid (∃ vF, VlP w2 B p pd ⟨S, foldR S 0, false⟩ vF (fun k => k = p ∨ Xd k) ∧ (∀ b, vF.ownBlock = some b → w.heap.size ≤ b) ∧ Kept (fun _ => False) w w2) := ⟨_, hV2, fun b hb => by simp [Value.ownBlock] at hb, hk2⟩
  have hpw : Hid (w.heap.size ≤ p) := by show _ ≤ _; have := hp.out; omega
  clear hN2 hk2 hd2 hV2 hd1 hk1 h
  go_loopw [5, 6, 7, 15] (fun _ _ _ i wr => ∃ j : Nat, j ≤ 2 ∧ i = .int .i64 (j : Int) ∧ Hid (∃ vF, VlP wr B p pd ⟨S, foldR S j, false⟩ vF (fun k => k = p ∨ Xd k) ∧ (∀ b, vF.ownBlock = some b → w.heap.size ≤ b) ∧ Kept (fun _ => False) w wr)) (fun _ _ _ i _ => 2 - (intOf i).toNat)
  case atStart => exact ⟨0, by omega, rfl, HI⟩
  case round =>
    obtain ⟨j, hj, rfl, hI⟩ := hrel
    by_cases hlt : (j : Int) < 2
    · have hj2 : j < 2 := by omega
      obtain ⟨vF, hv, hvf, hk⟩ := hI.out
      have hL := loadP wr B p pd ⟨S, foldR S j, false⟩ vF _ hv hoff (9 * j) (by simp only; omega)
      rw [show ((9 * j : Nat) : Int) = (j : Int) * 9 from by omega] at hL
      have HL := Lib.hid hL
      have HS := Lib.hid (And.intro hv (And.intro hvf hk))
      have hw9 : IntKind.i64.wrap ((j : Int) * 9) = (j : Int) * 9 := IntWalk.i64_in _ (by omega)
      have hwj : IntKind.i64.wrap ((j : Int) + 1) = (j : Int) + 1 := IntWalk.i64_in _ (by omega)
      clear hL hv hvf hk hI
      go_wp2_with fail
      refine HL.out.mono ?_
      clear HL
      rintro e w3 ⟨vR, rfl, ho3, hk3⟩
      simp only at ho3 ⊢
      have hgr := got_right S (9 * j)
      obtain ⟨⟨g1, g2, g3, fs⟩, hg⟩ : ∃ g, Hid (g = gotR S (9 * j)) := ⟨_, rfl⟩
      rw [← hg.out] at ho3 hgr ⊢
      simp only at ho3 ⊢
      obtain ⟨ad, cap, rfl⟩ : ∃ ad cap, vR = .slice ad fs.length cap := by
        rcases ho3.2 with ⟨rfl, h0⟩ | ⟨g, c', cur, rfl, _⟩
        · exact ⟨none, 0, by rw [h0]⟩
        · exact ⟨_, c', rfl⟩
      obtain ⟨nf, hnf⟩ : ∃ nf, Hid (nf = fs.length) := ⟨_, rfl⟩
      rw [← hnf.out] at ho3 ⊢
      have hN4 := Holds.new w3 [.int .i64 (g1 : Int), .int .i64 (g2 : Int), .int .i64 (g3 : Int), .slice ad nf cap] 40
      change Holds (w3.alloc (.cells #[.int .i64 (g1 : Int), .int .i64 (g2 : Int), .int .i64 (g3 : Int), .slice ad nf cap] 40)) _ _ _ at hN4
      have hk4 : Kept (fun _ => False) w (w3.alloc (.cells #[.int .i64 (g1 : Int), .int .i64 (g2 : Int), .int .i64 (g3 : Int), .slice ad nf cap] 40)) := (HS.out.2.2.trans hk3 (fun _ hf => hf.elim)).alloc _
      have hk34 : Kept (fun _ => False) wr (w3.alloc (.cells #[.int .i64 (g1 : Int), .int .i64 (g2 : Int), .int .i64 (g3 : Int), .slice ad nf cap] 40)) := hk3.alloc _
      have ho4 := ho3.alloc (.cells #[.int .i64 (g1 : Int), .int .i64 (g2 : Int), .int .i64 (g3 : Int), .slice ad nf cap] 40)
      have hws := HS.out.2.2.size
      obtain ⟨b, hb⟩ : ∃ b, Hid (b = w3.heap.size) := ⟨_, rfl⟩
      have ho3lt := ho3.lt
      clear hk3 ho3
      go_upto_region 10 with (fail)
      rw [← hb.out] at hN4 ⊢
      generalize w3.alloc (.cells #[.int .i64 (g1 : Int), .int .i64 (g2 : Int), .int .i64 (g3 : Int), .slice ad nf cap] 40) = w4 at hN4 hk4 hk34 ho4 ⊢
      have hV4 := HS.out.1.still hk34
      have b0 := hN4.cell 0 _ rfl
      obtain ⟨⟨o1, o2, o3, os⟩, ho⟩ : ∃ o, Hid (o = foldR S j) := ⟨_, rfl⟩
      rw [← ho.out] at hV4
      have c1 := hV4.obj.cell 1 _ rfl
      simp only at c1
      have HV4 := Lib.hid (And.intro hV4 (And.intro hN4 (And.intro hk4 ho4)))
      clear hV4 hN4 hk4 ho4 hk34
      go_quiet (fail)
      have hk5 : Kept (fun _ => False) w4 (w4.drewN nq) := (Kept.refl _ _).drewN nq
      obtain ⟨hV4, hN4, hk4, ho4⟩ := HV4.out
      have hV5 := hV4.still hk5
      have hN5 := hN4.of_block (hk5.block b hN4.lt (fun hf => hf))
      have ho5 := owns_of_block ho4 fun g hgb => hk5.block g (ho4.lt g hgb).2 (fun hf => hf)
      have hkw5 := hk4.trans hk5 (fun _ hf => hf.elim)
      generalize w4.drewN nq = w5 at hV5 hN5 ho5 hkw5 ⊢
      clear hk5 hV4 hN4 hk4 ho4 HV4 b0 c1
      by_cases hgt : o1 < g1
      · have hfold : Hid (foldR S (j + 1) = (g1, g2, g3, fs)) := by
          show _ = _
          unfold foldR
          rw [← ho.out, ← hg.out, if_pos hgt]
        have hgi : (o1 : Int) < (g1 : Int) := by omega
        have hr : rightN S.L.length (g1, g2, g3, fs) = true ∨ ((g1, g2, g3, fs) : RootN) = rootZ := by
          rcases hgr with ⟨_, h⟩ | ⟨r, _, h, h2, _⟩
          · exact .inr h
          · rw [h]; exact .inl h2
        have b0 := hN5.cell 0 _ rfl
        have b1 := hN5.cell 1 _ rfl
        have b2 := hN5.cell 2 _ rfl
        have b3 := hN5.cell 3 _ rfl
        have hob := hV5.obj
        have c1 := hob.cell 1 _ rfl
        have c2 := hob.cell 2 _ rfl
        have c3 := hob.cell 3 _ rfl
        have c4 := hob.cell 4 _ rfl
        have f1 := hob.free 1
        have f2 := hob.free 2
        have f3 := hob.free 3
        have f4 := hob.free 4
        have hnX : ∀ k, (Value.slice ad nf cap).ownBlock = some k → ¬(k = p ∨ Xd k) := fun k hk hx => by
          have h1 := (ho3lt k hk).1
          have h2 := (HS.out.1.lt k (.inl hx)).2
          omega
        have hV6 := hV5.reroot (g1, g2, g3, fs) false (vF' := .slice ad nf cap) (by rw [← hnf.out]; exact owns_base ho5 (by omega)) hnX hr _ heap_rooted (obj_rooted (R' := (g1, g2, g3, fs)) (vF' := .slice ad nf cap) hob)
        have hk6 := (((hkw5.setNew (p := ⟨p, 1, none⟩) hpw.out (.int .i64 (g1 : Int))).setNew (p := ⟨p, 2, none⟩) hpw.out (.int .i64 (g2 : Int))).setNew (p := ⟨p, 3, none⟩) hpw.out (.int .i64 (g3 : Int))).setNew (p := ⟨p, 4, none⟩) hpw.out (.slice ad nf cap)
        have HF : Hid (∃ vF, VlP ((((w5.setCell ⟨p, 1, none⟩ (.int .i64 (g1 : Int))).setCell ⟨p, 2, none⟩ (.int .i64 (g2 : Int))).setCell ⟨p, 3, none⟩ (.int .i64 (g3 : Int))).setCell ⟨p, 4, none⟩ (.slice ad nf cap)) B p pd ⟨S, foldR S (j + 1), false⟩ vF (fun k => k = p ∨ Xd k) ∧ (∀ b, vF.ownBlock = some b → w.heap.size ≤ b) ∧ Kept (fun _ => False) w ((((w5.setCell ⟨p, 1, none⟩ (.int .i64 (g1 : Int))).setCell ⟨p, 2, none⟩ (.int .i64 (g2 : Int))).setCell ⟨p, 3, none⟩ (.int .i64 (g3 : Int))).setCell ⟨p, 4, none⟩ (.slice ad nf cap))) :=
          ⟨.slice ad nf cap, by rw [hfold.out]; exact hV6, fun k hk => by have h1 := (ho3lt k hk).1; omega, hk6⟩
        clear hV6 hk6 hnX hob hr hV5 hN5 ho5 hkw5 hgr hgt
        go_wp2
        go_roundw
        case rel => exact ⟨j + 1, by omega, by first | rfl | go_num, HF⟩
        case measure => simp [intOf]; omega
      · have hfold : Hid (foldR S (j + 1) = (o1, o2, o3, os)) := by
          show _ = _
          unfold foldR
          rw [← ho.out, ← hg.out, if_neg hgt]
        have hgi : ¬(o1 : Int) < (g1 : Int) := by omega
        have HF : Hid (∃ vF, VlP w5 B p pd ⟨S, foldR S (j + 1), false⟩ vF (fun k => k = p ∨ Xd k) ∧ (∀ b, vF.ownBlock = some b → w.heap.size ≤ b) ∧ Kept (fun _ => False) w w5) :=
          ⟨vF, by rw [hfold.out]; exact hV5, HS.out.2.1, hkw5⟩
        clear hV5 hN5 ho5 hkw5 hgr hgt
        go_wp2
        go_roundw
        case rel => exact ⟨j + 1, by omega, by first | rfl | go_num, HF⟩
        case measure => simp [intOf]; omega
    · obtain rfl : j = 2 := by omega
      obtain ⟨vF, hv, hvf, hk⟩ := hI.out
      have hof := open_fold S
      obtain ⟨⟨o1, o2, o3, os⟩, ho⟩ : ∃ o, Hid (o = foldR S 2) := ⟨_, rfl⟩
      rw [← ho.out] at hv hof
      have c1 := hv.obj.cell 1 _ rfl
      simp only at c1 hof
      by_cases hz : o1 = 0
      · rw [if_pos hz] at hof
        subst hz
        have HF := Lib.hid (faultPN 8 (by decide) wr)
        have HE := Lib.hid (And.intro hof hk)
        clear hof hv hvf hk hI
        go_wp2_with fail
        refine HF.out.mono ?_
        clear HF
        rintro e w3 ⟨v, rfl, he, hfr, hk3⟩
        have HE3 := Lib.hid (And.intro he (And.intro hfr hk3))
        clear he hfr hk3
        go_wp2
        go_ret2
        exact ⟨HE.out.2.trans HE3.out.2.2 (fun _ hf => hf.elim), .inr ⟨HE.out.1, _, rfl, HE3.out.1, fun b hb => Nat.le_trans HE.out.2.size (HE3.out.2.1 b hb)⟩⟩
      · rw [if_neg hz] at hof
        have hzi : ((o1 : Int) == 0) = false := by simp; exact hz
        have HE := Lib.hid (And.intro hof (And.intro hv (And.intro hvf hk)))
        clear hof hv hvf hk hI hz
        go_wp2
        go_ret2
        exact ⟨HE.out.2.2.2, .inl ⟨_, p, vF, _, HE.out.1, rfl, HE.out.2.1, hpw.out, fun _ => Iff.rfl, HE.out.2.2.1⟩⟩

end Go.Proofs.YtlgdfalbhpgllaaGreatDoor

/- Package volume: Format of a new disk. -/
namespace Go.Proofs.YtlgdfalbhpgllaaGreatDoor
open Go.RowKit Go.Proofs Go.Proofs.Pk
set_option maxRecDepth 10000
attribute [local simp] mk_get wrap64_u8 mk_extract ByteArray.mk_append_mk get_1k

/-- The disk of so many sectors behind Format's first writes. -/
def fmt1 (N : Nat) : Dsk := ((Dsk.new N).write 0 []).1
def fmt2 (N : Nat) : Dsk := ((fmt1 N).write 9 []).1
def fmt3 (N : Nat) : Dsk := (fmt2 N).sync.1
theorem fmt_codes {N : Nat} (h18 : 18 ≤ N) : ((Dsk.new N).write 0 []).2 = 0 ∧ ((fmt1 N).write 9 []).2 = 0 ∧ (fmt2 N).sync.2 = 0 ∧ (fmt1 N).off = false ∧ (fmt2 N).off = false ∧ (fmt3 N).C = [] ∧ (fmt3 N).n ≤ 2 ∧ (fmt3 N).L.length = N ∧ (fmt2 N).C.length ≤ 2 ∧ (fmt2 N).n ≤ 2 ∧ (fmt1 N).C.length ≤ 1 ∧ (fmt1 N).n ≤ 1 := by
  have hl0 : (Dsk.new N).L.length = N := by simp [Dsk.new]
  rcases write_alive (S := Dsk.new N) rfl 0 (by omega) [] (by simp) with ⟨hf, _⟩ | ⟨_, e0⟩
  · simp [Dsk.new] at hf
  rw [show ((0 : Nat) : Int) = 0 from rfl] at e0
  have e1' : fmt1 N = { Dsk.new N with fuse := if 0 < (Dsk.new N).fuse then (Dsk.new N).fuse - 1 else (Dsk.new N).fuse, n := (Dsk.new N).n + 1, C := (Dsk.new N).C ++ [(0, padL [])] } := by unfold fmt1; rw [e0]
  rcases write_alive (S := fmt1 N) (by rw [e1']; rfl) 9 (by rw [e1']; simp only; omega) [] (by simp) with ⟨hf, _⟩ | ⟨_, e1⟩
  · rw [e1'] at hf; simp [Dsk.new] at hf
  rw [show ((9 : Nat) : Int) = 9 from rfl] at e1
  have e2' : fmt2 N = { fmt1 N with fuse := if 0 < (fmt1 N).fuse then (fmt1 N).fuse - 1 else (fmt1 N).fuse, n := (fmt1 N).n + 1, C := (fmt1 N).C ++ [(9, padL [])] } := by unfold fmt2; rw [e1]
  have ho2 : (fmt2 N).off = false := by rw [e2', e1']; rfl
  have e3 := sync_on ho2
  have e3' : fmt3 N = { fmt2 N with L := syncL (fmt2 N).L (fmt2 N).C, C := [] } := by unfold fmt3; rw [e3]
  refine ⟨by rw [e0], by rw [e1], by rw [e3], by rw [e1']; rfl, ho2, by rw [e3'], by rw [e3', e2', e1']; simp [Dsk.new], by rw [e3']; simp only; rw [syncL_length, e2', e1']; exact hl0, by rw [e2', e1']; simp [Dsk.new], by rw [e2', e1']; simp [Dsk.new], by rw [e1']; simp [Dsk.new], by rw [e1']; simp [Dsk.new]⟩
theorem fmt_is {N : Nat} (h18 : 18 ≤ N) : formatV (Dsk.new N) = layV ⟨fmt3 N, rootZ, false⟩ (1, 1, 0, []) := by
  obtain ⟨a, b, c, _⟩ := fmt_codes h18
  unfold formatV
  simp only
  rw [if_neg (fun hh => hh a), if_neg (fun hh => hh b), if_neg (fun hh => hh c)]
  rfl
theorem fmt_ok {N : Nat} (hN : N ≤ 4000) : (fmt1 N).Ok ∧ (fmt2 N).Ok ∧ (fmt3 N).Ok :=
  ⟨Dsk.write_ok (Dsk.new_ok N hN) _ _, Dsk.write_ok (Dsk.write_ok (Dsk.new_ok N hN) _ _) _ _, Dsk.sync_ok (Dsk.write_ok (Dsk.write_ok (Dsk.new_ok N hN) _ _) _ _)⟩
theorem sync_len (S : Dsk) : S.sync.1.L.length = S.L.length := by
  unfold Dsk.sync
  split
  · rfl
  · simp only; rw [syncL_length]

set_option maxHeartbeats 2000000 in
theorem formatP (w : World) (B pd : Nat) (N : Nat) (Xd : Nat → Prop) (h : DskP w B pd (Dsk.new N) Xd) (h18 : 18 ≤ N) (hN : N ≤ 4000) (hBw : B ≤ w.heap.size) (hg : ErrTy w) (hB : 0 < B) :
    Calls Tryz.prog 8 #[.pointer (some ⟨pd, 0, none⟩)] w fun e w' => ∃ q vF X', e = .returned (.tuple #[.pointer (some ⟨q, 0, none⟩), .nilIface]) ∧ VlP w' B q pd (formatV (Dsk.new N)).1 vF X' ∧ Grows w Xd X' ∧ (∀ b, vF.ownBlock = some b → w.heap.size ≤ b) ∧ Kept Xd w w' := by
  obtain ⟨z0, z1, z2, o1, o2, c3, n3, l3, k2, m2, k1, m1⟩ := fmt_codes h18
  obtain ⟨ok1, ok2, ok3⟩ := fmt_ok hN
  have hz : (layV ⟨fmt3 N, rootZ, false⟩ (1, 1, 0, [])).2 = 0 := by rw [← fmt_is h18]; exact (format_new h18 hN).1
  have hl0 : (Dsk.new N).L.length = N := by simp [Dsk.new]
  have hSZ := pSize w B pd (Dsk.new N) Xd h
  rw [hl0] at hSZ
  have HSZ := Lib.hid hSZ
  have h18' : ¬(N : Int) < 18 := by omega
  have hdlt := h.lt
  rw [fmt_is h18]
  go_enter Tryz.func8, Tryz.ntmps8
  go_wp2_with fail
  refine HSZ.out.mono ?_
  clear HSZ hSZ
  rintro e w1 ⟨rfl, m, rfl⟩
  have hd1 := h.drewN m
  have hN2 := Holds.new (w.drewN m) (cellsV pd rootZ (.slice none 0 0) false) 65
  change Holds ((w.drewN m).alloc (.cells #[.pointer (some ⟨pd, 0, none⟩), .int .i64 0, .int .i64 0, .int .i64 0, .slice none 0 0, .bool false] 65)) w.heap.size _ _ at hN2
  have hk2 : Kept (fun _ => False) w ((w.drewN m).alloc (.cells #[.pointer (some ⟨pd, 0, none⟩), .int .i64 0, .int .i64 0, .int .i64 0, .slice none 0 0, .bool false] 65)) := ((Kept.refl _ _).drewN m).alloc _
  have hd2 : DskP ((w.drewN m).alloc (.cells #[.pointer (some ⟨pd, 0, none⟩), .int .i64 0, .int .i64 0, .int .i64 0, .slice none 0 0, .bool false] 65)) B pd (Dsk.new N) Xd := hd1.kept (Kept.alloc (Kept.refl (fun _ => False) (w.drewN m)) _) (fun _ _ hf => hf)
  go_wp2
  obtain ⟨p, hp⟩ : ∃ p, Hid (p = w.heap.size) := ⟨_, rfl⟩
  rw [← hp.out] at hN2 ⊢
  generalize (w.drewN m).alloc (.cells #[.pointer (some ⟨pd, 0, none⟩), .int .i64 0, .int .i64 0, .int .i64 0, .slice none 0 0, .bool false] 65) = w2 at hN2 hk2 hd2 ⊢
  have hA2 : VlAt w2 B p pd ⟨Dsk.new N, rootZ, false⟩ (.slice none 0 0) Xd :=
    ⟨hN2, hd2, World.ownsRow_nil _ _ _ _, by have := hp.out; omega, fun hx => by have := (hdlt p hx).2; have := hp.out; omega, fun b hb => by simp [Value.ownBlock] at hb, Dsk.new_ok N hN, by simp only; omega, .inr rfl⟩
  have hE2 := hg.kept hk2 (fun hf => hf)
  have HW := Lib.hid (pWr 0 [] w2 B pd (Dsk.new N) Xd hd2 (Dsk.new_ok N hN) (by simp [Dsk.new]) (by simp [Dsk.new]))
  have HA := Lib.hid (And.intro hA2 (And.intro hk2 hE2))
  clear hN2 hk2 hd2 hd1 h hA2 hE2 hg
  refine wp_loop_rounds 3 ?_
  rw [rounds_succ]
  go_wp2_with fail
  refine HW.out.mono ?_
  clear HW
  rintro e w3 ⟨rfl, Xd3, hd3, hgr3, hk3⟩
  have G2 : Grows w Xd (fun k => k = p ∨ Xd k) := fun k hk => hk.elim (fun e => .inr (by have := hp.out; omega)) .inl
  have K2 : Kept Xd w w2 := HA.out.2.1.mono (fun _ hf => hf.elim)
  have hne : ∀ (X : Nat → Prop), Grows w Xd X → ¬X 0 := fun X hX hx => by
    rcases hX _ hx with h | h
    · have := (hdlt _ h).1; omega
    · omega
  obtain ⟨hv3, hg3, hkx3⟩ := VlP.disk HA.out.1 (X := fun k => k = p ∨ Xd k) (fun _ => Iff.rfl) hd3 hgr3 hk3 ok1 (write_len _ _ _)
  have G3 := G2.trans hg3 K2.size
  have K3 := K2.trans hkx3 G2
  have hE3 := HA.out.2.2.kept hkx3 (hne _ G2)
  change VlP w3 B p pd ⟨fmt1 N, rootZ, false⟩ _ _ at hv3
  rw [z0]
  have HB3 := Lib.hid (belowP w3 B p pd _ _ _ hv3 hE3 hB 0)
  have H3 := Lib.hid (And.intro G3 (And.intro K3 hE3))
  clear hd3 hgr3 hk3 hv3 hg3 hkx3 G3 K3 hE3 G2 K2
  go_wp2_with fail
  refine HB3.out.mono ?_
  clear HB3
  rintro e w4 ⟨v, rfl, he, hv4, hk4⟩
  rcases he with ⟨_, rfl⟩ | ⟨h0, _⟩
  rotate_left
  · exact absurd rfl h0
  rw [downV_zero] at hv4
  have K4 := H3.out.2.1.trans hk4 H3.out.1
  have hE4 := H3.out.2.2.kept hk4 (hne _ H3.out.1)
  have hF4 : ∀ b, (downF (.slice none 0 0) 0).ownBlock = some b → w.heap.size ≤ b := fun b hb => by simp [downF, Value.ownBlock] at hb
  obtain ⟨Xd4, hA4, hX4⟩ := hv4
  have HW4 := Lib.hid (pWr 9 [] w4 B pd (fmt1 N) Xd4 hA4.dsk ok1 (by omega) (by omega))
  have H4 := Lib.hid (And.intro hA4 (And.intro hX4 (And.intro H3.out.1 (And.intro K4 hE4))))
  clear hA4 hX4 K4 hE4 hk4
  go_wp2
  rw [rounds_succ]
  go_wp2_with fail
  refine HW4.out.mono ?_
  clear HW4
  rintro e w5 ⟨rfl, Xd5, hd5, hgr5, hk5⟩
  obtain ⟨hv5, hg5, hkx5⟩ := VlP.disk H4.out.1 H4.out.2.1 hd5 hgr5 hk5 ok2 (write_len _ _ _)
  have G5 := H4.out.2.2.1.trans hg5 H4.out.2.2.2.1.size
  have K5 := H4.out.2.2.2.1.trans hkx5 H4.out.2.2.1
  have hE5 := H4.out.2.2.2.2.kept hkx5 (hne _ H4.out.2.2.1)
  change VlP w5 B p pd ⟨fmt2 N, rootZ, false⟩ _ _ at hv5
  rw [z1]
  have HB5 := Lib.hid (belowP w5 B p pd _ _ _ hv5 hE5 hB 0)
  have H5 := Lib.hid (And.intro G5 (And.intro K5 hE5))
  clear hd5 hgr5 hk5 hv5 hg5 hkx5 G5 K5 hE5
  go_wp2_with fail
  refine HB5.out.mono ?_
  clear HB5
  rintro e w6 ⟨v, rfl, he, hv6, hk6⟩
  rcases he with ⟨_, rfl⟩ | ⟨h0, _⟩
  rotate_left
  · exact absurd rfl h0
  rw [downV_zero] at hv6
  have K6 := H5.out.2.1.trans hk6 H5.out.1
  have hE6 := H5.out.2.2.kept hk6 (hne _ H5.out.1)
  have hS := syncP w6 B p pd _ _ _ hv6 hE6 hB rfl
  rw [z2] at hS
  have HS := Lib.hid hS
  have H6 := Lib.hid (And.intro H5.out.1 (And.intro K6 hE6))
  clear hv6 hk6 K6 hE6 hS
  go_wp2
  rw [rounds_succ]
  go_wp2_with fail
  refine HS.out.mono ?_
  clear HS
  rintro e w7 ⟨v, rfl, he, X7, vF7, hv7, hg7, hf7, hk7⟩
  rcases he with ⟨_, rfl⟩ | ⟨h0, _⟩
  rotate_left
  · exact absurd rfl h0
  rw [downV_zero] at hv7
  change VlP w7 B p pd ⟨fmt3 N, rootZ, false⟩ _ _ at hv7
  have G7 := H6.out.1.trans hg7 H6.out.2.1.size
  have K7 := H6.out.2.1.trans hk7 H6.out.1
  have hE7 := H6.out.2.2.kept hk7 (hne _ H6.out.1)
  have hF7 : ∀ b, vF7.ownBlock = some b → w.heap.size ≤ b := fun b hb => by
    rcases hf7 b hb with h | h
    · simp [downF, Value.ownBlock] at h
    · have := H6.out.2.1.size; omega
  have hSt := storeP w7 B p pd _ vF7 X7 hv7 hE7 hB rfl (1, 1, 0, []) (.slice none 0 0) (World.ownsRow_nil _ _ _ _) (fun b hb => by simp [Value.ownBlock] at hb)
    (by simp only; rw [l3, right_p]; exact right_first hN) (by simp only; rw [c3]; simp) (by simp only; omega)
  rw [hz] at hSt
  have HSt := Lib.hid hSt
  have H7 := Lib.hid (And.intro G7 (And.intro K7 hF7))
  clear hv7 hg7 hf7 hk7 G7 K7 hE7 hF7 hSt
  go_wp2_with fail
  refine HSt.out.mono ?_
  clear HSt
  rintro e w8 ⟨v, rfl, he, X8, vF8, hv8, hg8, hf8, hk8⟩
  rcases he with ⟨_, rfl⟩ | ⟨h0, _⟩
  rotate_left
  · exact absurd rfl h0
  have H8 := Lib.hid (And.intro hv8 (And.intro hg8 (And.intro hf8 hk8)))
  clear hv8 hg8 hf8 hk8
  go_wp2
  go_ret2
  obtain ⟨hv8, hg8, hf8, hk8⟩ := H8.out
  refine ⟨p, vF8, X8, rfl, hv8, H7.out.1.trans hg8 H7.out.2.1.size, fun b hb => ?_, H7.out.2.1.trans hk8 H7.out.1⟩
  rcases hf8 b hb with h | h | h
  · exact H7.out.2.2 b h
  · simp [Value.ownBlock] at h
  · have := H7.out.2.1.size; omega

end Go.Proofs.YtlgdfalbhpgllaaGreatDoor

/- The program's volume meets the contract that the laws want; a deed of the laws'; how much is written. -/
namespace Go.Proofs.YtlgdfalbhpgllaaGreatDoor
open Go.RowKit Go.Proofs Go.Proofs.Pk
set_option maxRecDepth 10000

def AtV (pd : Nat) : VolAt := fun w B p V X F => (∃ vF, VlP w B p pd V vF X ∧ F = vF.ownBlock) ∧ 0 < B
theorem left_of {w w' : World} {B p pd : Nat} {V' : Vol} {vF : Value} {X : Nat → Prop} (h : VlLeft w B p pd V' vF X w') (hB : 0 < B) : Left (AtV pd) w B p V' X vF.ownBlock w' := by
  obtain ⟨X', vF', hv, hg, hf, hk⟩ := h
  exact ⟨X', vF'.ownBlock, ⟨⟨vF', hv, rfl⟩, hB⟩, hg, hf, hk⟩
theorem fit_small (m : Nat) (h : m ≤ 1000000) : Fit (m : Int) := by unfold Fit; omega
theorem volK (pd : Nat) : VolK (AtV pd) where
  lt := by rintro w B p V X F ⟨⟨vF, hv, rfl⟩, hB⟩; exact hv.lt
  off := by rintro w B p V X F ⟨⟨vF, hv, rfl⟩, hB⟩; exact hv.off
  kept := by rintro w w' B p V X F Y ⟨⟨vF, hv, rfl⟩, hB⟩ hk hd; exact ⟨⟨vF, hv.kept hk hd, rfl⟩, hB⟩
  wide := by rintro w B p V X F ⟨⟨vF, hv, rfl⟩, hB⟩ f hf; exact (hv.few.2.2.2.2 f hf).2.1
  few := by rintro w B p V X F ⟨⟨vF, hv, rfl⟩, hB⟩; exact hv.few.1
  root := by
    rintro w B p V X F ⟨⟨vF, hv, rfl⟩, hB⟩
    refine (rootP w B p pd V vF X hv).mono ?_
    rintro e w' ⟨hk, vR, rfl, ho⟩
    obtain ⟨ad, cap, rfl, hFs⟩ := own_files ho rfl (fun f hf => (hv.few.2.2.2.2 f hf).1)
    exact ⟨hk, ad, cap, rfl, hFs, fun a ha => by subst ha; exact (ho.lt a.block rfl).1⟩
  make := by
    rintro w B p V X F ⟨⟨vF, hv, rfl⟩, hB⟩ hs hg m h1 h2
    refine (makeP w B p pd V vF X hv hg hB hs.2.1 hs.1 hs.2.2 (m : Int) (fit_small m (by omega))).mono ?_
    rintro e w' ⟨v, rfl, _, hl⟩
    exact ⟨⟨v, rfl⟩, left_of hl hB⟩
  drop := by
    rintro w B p V X F ⟨⟨vF, hv, rfl⟩, hB⟩ hs hg b id hb hbX _
    refine (dropP w B p pd V vF X hv hg hB hs.2.1 hs.1 hs.2.2 b (id : Int) hb hbX).mono ?_
    rintro e w' ⟨v, rfl, _, hl⟩
    exact ⟨⟨v, rfl⟩, left_of hl hB⟩
  point := by
    rintro w B p V X F ⟨⟨vF, hv, rfl⟩, hB⟩ hs hg id
    refine (pointP w B p pd V vF X hv hg hB hs.2.1 hs.1 hs.2.2 (id : Int)).mono ?_
    rintro e w' ⟨v, rfl, _, hl⟩
    exact ⟨⟨v, rfl⟩, left_of hl hB⟩
  write := by
    rintro w B p V X F ⟨⟨vF, hv, rfl⟩, hB⟩ hs hg id k s hk _
    refine (writeP w B p pd V vF X hv hg hB hs.2.1 hs.1 (id : Int) (k : Int) (fit_small k (by omega)) s).mono ?_
    rintro e w' ⟨v, rfl, _, hl⟩
    exact ⟨⟨v, rfl⟩, left_of hl hB⟩

/-- A deed of the laws', whatever it is. -/
theorem act_all {At : VolAt} (K : VolK At) {w : World} {B p : Nat} {V : Vol} {X : Nat → Prop} {F : Option Nat} (h : At w B p V X F) (hs : Small V) (hg : ErrTy w) (hB : B > 0) (u : DeedW) (hf : FitI u.kind) (hfa : FitI u.a) (hfb : FitI u.b) (hus : (u.s.length : Int) ≤ 9223372036854775807) :
    Calls Tryz.prog 9 #[.pointer (some ⟨p, 0, none⟩), .agg (dcW u).toArray] w fun e w' => (∃ v, e = .returned v) ∧ Left At w B p (actV V u) X F w' := by
  by_cases h0 : pickN u.kind 4 = 0
  · exact act_make K h hs hg u hf hfa hB h0
  by_cases hl : V.R.2.2.2 = []
  · exact act_none K h u hf h0 hl
  have hlen : 0 < V.R.2.2.2.length := by
    cases hc : V.R.2.2.2 with
    | nil => exact absurd hc hl
    | cons a l => simp
  have hj := pickN_lt u.a hlen
  have hgf : V.R.2.2.2[pickN u.a V.R.2.2.2.length]? = some (V.R.2.2.2[pickN u.a V.R.2.2.2.length]) := List.getElem?_eq_getElem hj
  have h4 := pickN_lt u.kind (n := 4) (by decide)
  rcases (show pickN u.kind 4 = 1 ∨ pickN u.kind 4 = 2 ∨ pickN u.kind 4 = 3 by omega) with h1 | h1 | h1
  · exact act_drop K h hs hg u hf hfa h1 _ hgf
  · exact act_point K h hs hg u hf hfa h1 _ hgf
  · exact act_write K h hs hg u hf hfa hfb hus h1 _ hgf

/-- How much a call writes. -/
theorem flat_len (l : List Nat) : (l.flatMap numL).length ≤ 8 * l.length := by
  induction l with
  | nil => simp
  | cons n l ih => have := numL_len_le n; simp only [List.flatMap_cons, List.length_append, List.length_cons]; omega
theorem rootBN_bound (R : RootN) : (rootBN R).length ≤ 8 * (4 + 3 * R.2.2.2.length) := by
  unfold rootBN rootB
  refine Nat.le_trans (flat_len _) ?_
  unfold rootN
  rw [List.length_append, filesN_length]
  simp only [List.length_cons, List.length_nil]
  omega
theorem lay_bound (V : Vol) (R : RootN) (h : R.2.2.2.length ≤ 25) : (layV V R).1.D.C.length ≤ V.D.C.length + 20 ∧ (layV V R).1.D.n ≤ V.D.n + 20 ∧ (layV V R).1.D.L.length = V.D.L.length := by
  have hb := rootBN_bound R
  have hn : nch (rootBN R).length ≤ 10 := by unfold nch; omega
  obtain ⟨a1, a2, a3⟩ := putV_bound V (slotOf R.1 + 1) (rootBN R)
  obtain ⟨b1, b2, b3⟩ := putV_bound (putV V (slotOf R.1 + 1) (rootBN R)).1 (slotOf R.1) (headB R.1 (rootBN R).length)
  have hh : nch (headB R.1 (rootBN R).length).length = 1 := by rw [headB_length]; rfl
  rw [hh] at b1 b2
  rw [lay_put]
  split
  · exact ⟨by omega, by omega, a3⟩
  · split
    · exact ⟨by omega, by omega, by omega⟩
    · exact ⟨by simp only; omega, by simp only; omega, by simp only; omega⟩
def Bound (V V' : Vol) : Prop := V'.D.C.length ≤ V.D.C.length + 20 ∧ V'.D.n ≤ V.D.n + 20 ∧ V'.D.L.length = V.D.L.length
theorem Bound.refl (V : Vol) : Bound V V := ⟨by omega, by omega, rfl⟩
theorem make_bound (V : Vol) (m : Int) : Bound V (makeV V m).1 := by
  unfold makeV
  split
  · exact Bound.refl V
  split
  · exact Bound.refl V
  split
  · exact Bound.refl V
  split
  · exact Bound.refl V
  rename_i h0 h1 h2 h3
  have := lay_bound V (V.R.1 + 1, V.R.2.1 + 1, V.R.2.2.1, V.R.2.2.2 ++ [(V.R.2.1, (fitV V m).1.toNat, m.toNat)]) (by simp; have := fun h => h2 (.inl h); omega)
  simp only
  split
  · exact this
  · exact this
theorem point_bound (V : Vol) (h : V.R.2.2.2.length ≤ 24) (id : Int) : Bound V (pointV V id).1 := by
  unfold pointV
  split
  · exact Bound.refl V
  split
  · exact Bound.refl V
  split
  · exact Bound.refl V
  exact lay_bound V _ (by simp only; omega)
theorem drop_bound (V : Vol) (h : V.R.2.2.2.length ≤ 24) (ids : List Int) : Bound V (dropV V ids).1 := by
  unfold dropV
  split
  · exact Bound.refl V
  split
  · exact Bound.refl V
  split
  · exact Bound.refl V
  split
  · exact Bound.refl V
  split
  · exact Bound.refl V
  exact lay_bound V _ (Nat.le_trans (List.length_filter_le _ _) (by omega))
theorem write_bound (V : Vol) (id k : Int) (s : List UInt8) : Bound V (writeV V id k s).1 := by
  unfold writeV
  split
  · exact Bound.refl V
  · have h1 := write_more V.D (sectorV V id k).1 s
    have h2 := write_len V.D (sectorV V id k).1 s
    unfold cameV
    simp only
    split <;> exact ⟨by simp only; omega, by simp only; omega, h2⟩
theorem act_bound (V : Vol) (h : V.R.2.2.2.length ≤ 24) (u : DeedW) : Bound V (actV V u) := by
  unfold actV
  split
  · exact make_bound V _
  split
  · exact Bound.refl V
  split
  · exact drop_bound V h _
  split
  · exact point_bound V h _
  split
  · exact Bound.refl V
  exact write_bound V _ _ _

end Go.Proofs.YtlgdfalbhpgllaaGreatDoor
