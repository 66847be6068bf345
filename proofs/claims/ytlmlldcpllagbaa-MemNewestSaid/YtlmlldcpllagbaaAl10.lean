/- Package mem: All; the landed table keeps the contract that the laws want. -/
import Derived.Test.YtlmlldcpllagbaaPt10
import Derived.Test.YtlmlldcpllagbaaSkI
namespace Go.Proofs.Ytlmlldcpllagbaa
open Go.RowKit Go.Proofs Go.Proofs.Pk
set_option maxRecDepth 10000
attribute [local simp] mk_get wrap64_u8 mk_extract ByteArray.mk_append_mk get_1k

/-- A row that is filled entry by entry: the first j stand. -/
def FillM (w3 : World) (q n : Nat) (T : List MEnt) (j : Nat) (wr : World) : Prop := (∃ C, Holds wr q C 34 ∧ C.length = n * 4 ∧ C.take (j * 4) = cellsM (T.take j)) ∧ Kept (fun k => k = q) w3 wr
theorem FillM.next {w3 wr w4 : World} {q n : Nat} {T : List MEnt} {j : Nat} (h : FillM w3 q n T j wr) (hn : n = T.length) (hj : j < T.length) (hk : Kept (fun _ => False) wr w4) : w4.there q (j * 4) 4 ∧ FillM w3 q n T (j + 1) (w4.setCells q (j * 4) (entC T[j])) := by
  obtain ⟨⟨C, h1, h2, h3⟩, h4⟩ := h
  have g1 := h1.of_block (hk.block q h1.lt (fun f => f))
  refine ⟨g1.there _ 4 (by omega), ⟨_, g1.setCells (entC T[j]) (j * 4) w4 C (by rw [show (entC T[j]).length = 4 from rfl]; omega), ?_, ?_⟩, ?_⟩
  · rw [lay_length _ _ _ (by rw [show (entC T[j]).length = 4 from rfl]; omega)]; exact h2
  · unfold lay
    have e1 : (C.take (j * 4) ++ entC T[j]).length = (j + 1) * 4 := by rw [List.length_append, List.length_take, show (entC T[j]).length = 4 from rfl]; omega
    rw [← List.append_assoc, List.take_append_of_le_length (by omega), List.take_of_length_le (by omega), h3, List.take_succ_eq_append_getElem hj, cellsM_append]
    simp [cellsM]
  · exact Kept.setCells (X := fun k => k = q) (show q = q from rfl) _ _ _ (h4.trans hk (fun _ f => f.elim))
theorem FillM.full {w w3 wr : World} {q n : Nat} {T : List MEnt} (h : FillM w3 q n T n wr) (hn : n = T.length) (hl : n ≤ 1000) (hk : Kept (fun _ => False) w w3) (hq : w.heap.size ≤ q) : wr.ownsRow w.heap.size 34 4 (.slice (some ⟨q, 0, none⟩) n n) T.length (cellsM T) ∧ Kept (fun _ => False) w wr := by
  obtain ⟨⟨C, h1, h2, h3⟩, h4⟩ := h
  subst hn
  rw [List.take_of_length_le (by omega), List.take_of_length_le (Nat.le_refl _)] at h3
  subst h3
  exact ⟨⟨cellsM_length T, .inr ⟨q, T.length, (cellsM T).toArray, rfl, hq, h1, Nat.le_refl _, by unfold maxLen; omega, by simp [cellsM_length], by rw [List.take_of_length_le (by show (cellsM T).length ≤ _; omega)]⟩⟩, hk.trans h4 (fun k e => .inr (e ▸ hq))⟩

set_option maxHeartbeats 4000000 in
theorem allT {At : SkOf} (K : SkJ At) {w : World} {B t l g n cap : Nat} {T : List MEnt} {E : List Ent} {hs : List Int} {Xl : Nat → Prop} (h : TbRaw At w B t l g n cap T E hs Xl) (hl : T.length ≤ 201) :
    Calls Try.prog 18 #[.pointer (some ⟨t, 0, none⟩)] w fun r w' => ∃ v, r = .returned v ∧ w'.ownsRow w.heap.size 34 4 v T.length (cellsM T) ∧ Kept (fun _ => False) w w' := by
  obtain ⟨iE, hiE, hzE, hsE, hbE⟩ := info_parts ent_info
  have c0 : w.cell? ⟨t, 0, none⟩ = some (.pointer (some ⟨l, 0, none⟩)) := h.obj.cell 0 _ rfl
  have hL := K.lane h.list (by rw [h.lens]; omega) 0 (by unfold FitH; omega)
  rw [(K.ok h.list).lane0 0 (Int.le_refl _), h.keys] at hL
  obtain ⟨m, hm⟩ : ∃ m, Hid (m = T.length) := ⟨_, rfl⟩
  rw [List.length_map, ← hm.out] at hL
  have HL := Lib.hid hL
  have HR := Lib.hid h.ok.right
  have hm200 : m ≤ 201 := by rw [hm.out]; exact hl
  clear h hL hl
  go_enter Try.func18, Try.ntmps18
  go_wp2_with fail
  refine HL.out.mono ?_
  clear HL
  rintro r w2 ⟨v, rfl, hown, hk2⟩
  obtain ⟨ad, cp, rfl⟩ : ∃ ad cp, v = .slice ad m cp := by
    rcases hown.2 with ⟨rfl, h0⟩ | ⟨gl, cp, cur, rfl, _⟩
    · exact ⟨none, 0, by rw [h0]⟩
    · exact ⟨_, cp, rfl⟩
  have hmk := run_make (P := Try.prog) w2 23 34 iE _ Try.underlying23 hiE hzE .i64 .i64 m m (by omega) (Int.le_refl _) (by rw [hbE]; omega) (by omega)
  rw [hsE, Int.toNat_natCast] at hmk
  obtain ⟨C0, hC0⟩ : ∃ C0 : List Value, Hid (C0.toArray = madeCells (Value.agg (entC zeroM).toArray).cells (m * 4)) := ⟨(madeCells (Value.agg (entC zeroM).toArray).cells (m * 4)).toList, by show _ = _; simp⟩
  have hC0l : C0.length = m * 4 := by
    have := congrArg Array.size hC0.out
    rw [size_madeCells] at this
    simpa using this
  rw [← hC0.out] at hmk
  have hH := Holds.new w2 C0 34
  go_upto_region 2 with (fail)
  refine wp_region_lit ?_
  iterate 2
    refine wpList_plain rfl fun K hK => ?_
    go_simp
    refine hK _ _ ?_
    clear hK K
  refine wpList_of_run rfl (some 14) rfl (exec_make (l := .tmp 13) (c := .tmp 13) hmk rfl rfl rfl) ?_
  obtain ⟨q, hq⟩ : ∃ q, Hid (q = w2.heap.size) := ⟨_, rfl⟩
  obtain ⟨w3, hw3⟩ : ∃ w3, Hid (w3 = w2.alloc (.cells C0.toArray 34)) := ⟨_, rfl⟩
  have hk3 : Kept (fun _ => False) w2 w3 := by rw [hw3.out]; exact (Kept.refl _ w2).alloc _
  rw [← hq.out, ← hw3.out] at hH
  rw [← hq.out, ← hw3.out]
  have HI : Hid (FillM w3 q m T 0 w3) := ⟨⟨C0, hH, hC0l, by simp [cellsM]⟩, Kept.refl _ _⟩
  have HQ : Hid (w.heap.size ≤ q ∧ Kept (fun _ => False) w w3) := by
    have := hk2.size
    exact ⟨by rw [hq.out]; exact this, hk2.trans hk3 (fun _ f => f.elim)⟩
  have HLn : Hid (∀ W, Kept (fun k => k = q) w3 W → ∀ j (hj : j < T.length), ∃ gl, ad = some ⟨gl, 0, none⟩ ∧ W.cell? ⟨gl, j, none⟩ = some (.string ⟨(writeS T[j]).toArray⟩)) := fun W hk j hj => by
    rcases hown.2 with ⟨hv, h0⟩ | ⟨gl, cp2, cur, hv, _⟩
    · have := hm.out; omega
    · have hgl := hown.lt gl (by rw [hv]; rfl)
      have hc := hown.cells (g := gl) (by rw [hv]; rfl) j (.string ⟨(writeS T[j]).toArray⟩) (by
        rw [List.getElem?_map, List.getElem?_map, List.getElem?_eq_getElem hj]; rfl)
      rw [add0] at hc
      have had : ad = some ⟨gl, 0, none⟩ := by injection hv
      refine ⟨gl, had, ?_⟩
      rw [World.cell?_of_block (w := w3) (hk.block gl (Nat.lt_of_lt_of_le hgl.2 hk3.size) (fun e => by have := hq.out; omega)), World.cell?_of_block (w := w2) (hk3.block gl hgl.2 (fun f => f))]
      exact hc
  clear hH hC0l hmk hown hk2 hk3 hw3 hq hC0 c0
  go_wp2
  obtain ⟨wq, hwq⟩ : ∃ wq, wq = w3 := ⟨_, rfl⟩
  have HI0 : Hid (FillM w3 q m T 0 wq) := by rw [hwq]; exact HI
  rw [← hwq]
  clear hwq HI
  go_loopw [17] (fun i wr => ∃ j : Nat, j ≤ m ∧ i = .int .i64 (j : Int) ∧ Hid (FillM w3 q m T j wr)) (fun i _ => m - (intOf i).toNat)
  case atStart => exact ⟨0, Nat.zero_le _, rfl, HI0⟩
  case round =>
    obtain ⟨j, hj, rfl, hI⟩ := hrel
    clear HI0
    by_cases hlt : j < m
    · have hjT : j < T.length := by rw [← hm.out]; exact hlt
      obtain ⟨gl, rfl, cL⟩ := HLn.out wr hI.out.2 j hjT
      have HRd := Lib.hid (fun (W : World) => readP T[j] W (HR.out _ (List.getElem_mem hjT)))
      have j0 : (0 : Int) ≤ (j : Int) := by omega
      have jn : (j : Int) < (m : Int) := by omega
      have hwj : IntKind.i64.wrap ((j : Int) + 1) = (j : Int) + 1 := IntWalk.i64_in _ (by omega)
      have HNx := Lib.hid (fun (W : World) (hk : Kept (fun _ => False) wr W) => hI.out.next hm.out hjT hk)
      obtain ⟨x, hx⟩ : ∃ x, x = T[j] := ⟨_, rfl⟩
      rw [← hx] at cL HRd HNx
      obtain ⟨S, hS⟩ : ∃ S, Hid (S = writeS x) := ⟨writeS x, rfl⟩
      rw [← hS.out] at cL HRd
      clear hx hjT hI
      go_wp2_with fail
      refine (HRd.out _).mono ?_
      clear HRd
      rintro r w4 ⟨rfl, hk4⟩
      obtain ⟨hth, hF⟩ := HNx.out w4 hk4
      have HF := Lib.hid hF
      clear HNx hF hk4
      go_wp2_with (refine wpList_store_mid rfl 34 (.tmp 26) (.tmp 25) rfl q (j * 4) (entC x).toArray rfl rfl hth (by rw [ent_size]; rfl) (all_oneCell_toArray (entC_one _)) ?_)
      refine ⟨⟨j + 1, hlt, by first | rfl | go_num, HF⟩, ?_⟩
      simp [intOf]
      omega
    · obtain rfl : j = m := by omega
      have jn : ¬(j : Int) < (j : Int) := by omega
      have HF := Lib.hid (hI.out.full (w := w) hm.out (by omega) HQ.out.2 HQ.out.1)
      clear hI hlt
      go_wp2
      go_ret
      exact ⟨_, rfl, HF.out⟩

/-- The landed table keeps the contract that the laws of layer 10 want. -/
theorem memK : MmK (TbAt SkAt) where
  lt := by
    rintro w B t T X ⟨l, g, n, cap, E, hs, Xl, h, rfl⟩ k hk
    exact h.lt skJ k hk
  ok := by
    rintro w B t T X ⟨l, g, n, cap, E, hs, Xl, h, rfl⟩
    exact h.ok
  kept := by
    rintro w w' B t T X Y ⟨l, g, n, cap, E, hs, Xl, h, rfl⟩ hk hd
    exact ⟨l, g, n, cap, E, hs, Xl, h.kept skJ hk hd, rfl⟩
  new := fun w B ad len cap hs hB hI hf _ h8 _ => newT skJ w B ad len cap hs hB hI hf h8
  put := by
    rintro w B t T X ⟨l, g, n, cap, E, hs, Xl, h, rfl⟩ hl e hf
    exact putT skJ h hl e hf
  get := by
    rintro w B t T X ⟨l, g, n, cap, E, hs, Xl, h, rfl⟩ hl k s _
    exact getT skJ h (by omega) k s
  all := by
    rintro w B t T X ⟨l, g, n, cap, E, hs, Xl, h, rfl⟩ hl
    exact allT skJ h hl
  size := by
    rintro w B t T X ⟨l, g, n, cap, E, hs, Xl, h, rfl⟩ _
    exact sizeT h
  len := by
    rintro w B t T X ⟨l, g, n, cap, E, hs, Xl, h, rfl⟩ hl
    exact lenT skJ h (by omega)
  right := fun e w _ => rightP e w
  before := fun a b w _ _ => beforeM a b w

end Go.Proofs.Ytlmlldcpllagbaa
