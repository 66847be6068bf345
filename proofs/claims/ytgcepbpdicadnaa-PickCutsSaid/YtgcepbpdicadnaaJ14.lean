/- Ya16, Yb16, MtG. -/
import Derived.Test.YtgcepbpdicadnaaJ08
import Derived.Test.YtgcepbpdicadnaaProg
import Derived.Sort.Walk0
import Derived.BigQuiet

/- The program of layer 16: Limit; the bytes of some tables together. -/
namespace Go.Proofs.Ytgcepbpdicadnaa
open Go.RowKit Go.Proofs Go.Proofs.Pk
set_option maxRecDepth 10000
attribute [local simp] mk_get wrap64_u8 mk_extract ByteArray.mk_append_mk

set_option maxHeartbeats 2000000 in
theorem pLimit (n : Int) (w : World) (hn : FitV n) : Calls Try.prog 12 #[.int .i64 n] w fun e w' => e = .returned (.int .i64 (limM n)) ∧ Kept (fun _ => False) w w' := by
  unfold FitV at hn
  by_cases h1 : n = 1
  · subst h1
    go_enter Try.func12, Try.ntmps12
    go_wp2
    go_ret
    exact ⟨rfl, Kept.refl _ _⟩
  have b1 : (n == 1) = false := by simpa using h1
  by_cases h2 : n = 2
  · subst h2
    go_enter Try.func12, Try.ntmps12
    go_wp2
    go_ret
    exact ⟨rfl, Kept.refl _ _⟩
  have b2 : (n == 2) = false := by simpa using h2
  have hl : limM n = 0 := by unfold limM; rw [if_neg h1, if_neg h2]
  rw [hl]
  go_enter Try.func12, Try.ntmps12
  go_wp2
  go_ret
  exact ⟨rfl, Kept.refl _ _⟩

set_option maxHeartbeats 2000000 in
theorem pSize (w : World) (a : Option Addr) (len cap : Nat) (l : List MetaV) (h0 : MetasW w a len l) (hl : len ≤ 1000) (hok : ∀ m ∈ l, metaOk m = true) :
    Calls Try.prog 22 #[.slice a len cap] w fun e w' => e = .returned (.int .i64 (sizeT l)) ∧ Kept (fun _ => False) w w' := by
  have hlen := h0.1
  have H0 := Lib.hid h0
  have HS := Lib.hid (sizeT_le hok)
  have HZ : Hid (sizeT (l.take 0) = 0) := by show _ = _; simp [sizeT]
  clear h0 hok
  go_enter Try.func22, Try.ntmps22
  go_wp2
  go_loopw [3, 8] (fun s i wr => ∃ (j : Nat) (z : Int), j ≤ len ∧ s = .int .i64 z ∧ i = .int .i64 (j : Int) ∧ Hid (z = sizeT (l.take j)) ∧ Hid (Kept (fun _ => False) w wr)) (fun _ i _ => len - (intOf i).toNat)
  case atStart => exact ⟨0, 0, Nat.zero_le _, rfl, rfl, HZ.out.symm, Kept.refl _ _⟩
  case round =>
    obtain ⟨j, z, hj, rfl, rfl, hz, hk⟩ := hrel
    clear HZ
    have j0 : (0 : Int) ≤ (j : Int) := by omega
    have hwj : IntKind.i64.wrap ((j : Int) + 1) = (j : Int) + 1 := IntWalk.i64_in _ (by omega)
    by_cases hlt : j < len
    case neg =>
      obtain rfl : j = len := by omega
      have jN : ¬(j : Int) < (j : Int) := by omega
      have HE : Hid (z = sizeT l) := by
        have := hz.out
        rw [List.take_of_length_le (by omega)] at this
        exact this
      clear hz
      go_wp2
      go_ret
      exact ⟨ret_int HE.out, hk.out⟩
    have jN : (j : Int) < (len : Int) := by omega
    have hjl : j < l.length := by omega
    obtain ⟨b, off, rfl, hbl, e0, e1, e2, e3, e4, -⟩ := (metas_kept H0.out hk.out).at j hjl
    have hb1 := HS.out j
    have hb2 := HS.out (j + 1)
    rw [sizeT_take hjl] at hb2
    have HN0 := sizeT_take hjl
    rw [← hz.out] at hb1 hb2 HN0
    generalize l[j] = m at e0 e1 e2 e3 e4 hb2 HN0
    obtain ⟨x, lv, y, u, c⟩ := m
    simp only at e0 e1 e2 e3 e4 hb2 HN0
    obtain ⟨z2, hz2⟩ : ∃ z2, z2 = z + c := ⟨_, rfl⟩
    have hws : IntKind.i64.wrap (z + c) = z2 := by rw [hz2]; exact IntWalk.i64_in _ (by omega)
    rw [← hz2] at HN0
    have HN : Hid (z2 = sizeT (l.take (j + 1))) := HN0.symm
    have HK : Hid (Kept (fun _ => False) w (wr.alloc (.cells #[.int .i64 x, .int .i64 lv, .string ⟨y.toArray⟩, .string ⟨u.toArray⟩, .int .i64 c] 49))) := hk.out.alloc _
    clear hz2 HN0 hb1 hb2 hz hk
    go_wp2
    go_roundw
    case rel => exact ⟨j + 1, z2, hlt, rfl, by first | rfl | go_num, HN, HK⟩
    case measure => simp [intOf]; omega

end Go.Proofs.Ytgcepbpdicadnaa

/- The program of layer 16: the numbers of some tables. -/
namespace Go.Proofs.Ytgcepbpdicadnaa
open Go.RowKit Go.Proofs Go.Proofs.Pk
set_option maxRecDepth 10000
attribute [local simp] mk_get wrap64_u8 mk_extract ByteArray.mk_append_mk

set_option maxHeartbeats 2000000 in
theorem pIds (w : World) (a : Option Addr) (len cap : Nat) (l : List MetaV) (h0 : MetasW w a len l) (hl : len ≤ 1000) :
    Calls Try.prog 26 #[.slice a len cap] w fun e w' => ∃ ia ic, e = .returned (.slice ia len ic) ∧ Ints w' ia len (l.map (·.1)) ∧ BndI ia len ic (l.map (·.1)) ∧ (∀ b off, ia = some ⟨b, off, none⟩ → w.heap.size ≤ b) ∧ Kept (fun _ => False) w w' := by
  obtain ⟨i0, hi, hz0, hz1, hz2⟩ := parts_of int_info
  have hlen := h0.1
  have H0 := Lib.hid h0
  have HI : Hid (w.ownsRow w.heap.size 3 1 (.slice none 0 0) 0 (((l.take 0).map (·.1)).map intC) ∧ Kept (fun _ => False) w w) := ⟨World.ownsRow_nil _ _ _ _, Kept.refl _ _⟩
  clear h0
  go_enter Try.func26, Try.ntmps26
  go_wp2
  obtain ⟨wq, hwq⟩ : ∃ wq, wq = w := ⟨_, rfl⟩
  go_loopw [3, 8] (fun v i wr => ∃ k : Nat, i = .int .i64 (k : Int) ∧ k ≤ len ∧ Hid (wr.ownsRow w.heap.size 3 1 v k (((l.take k).map (·.1)).map intC) ∧ Kept (fun _ => False) w wr)) (fun _ i _ => len - (intOf i).toNat)
  case atStart => exact ⟨0, rfl, Nat.zero_le _, HI⟩
  case round =>
    obtain ⟨k, rfl, hk, hI⟩ := hrel
    clear HI
    have k0 : (0 : Int) ≤ (k : Int) := by omega
    have hwk : IntKind.i64.wrap ((k : Int) + 1) = (k : Int) + 1 := IntWalk.i64_in _ (by omega)
    by_cases hlt : k < len
    case neg =>
      obtain rfl : k = len := by omega
      have kN : ¬(k : Int) < (k : Int) := by omega
      have HE : Hid (∃ ia ic, u3 = .slice ia k ic ∧ Ints wr ia k (l.map (·.1)) ∧ BndI ia k ic (l.map (·.1)) ∧ (∀ b off, ia = some ⟨b, off, none⟩ → w.heap.size ≤ b) ∧ Kept (fun _ => False) w wr) := by
        have ho := hI.out.1
        rw [List.take_of_length_le (by omega)] at ho
        obtain ⟨ia, ic, h1, h2, h3, h4⟩ := owns_ints ho (by rw [List.length_map, hlen])
        refine ⟨ia, ic, h1, h2, ⟨fun x hx => ?_, h3, by omega, h4⟩, fun b off hb => (hI.out.1.lt b (by rw [h1, hb]; rfl)).1, hI.out.2⟩
        obtain ⟨m, hm, rfl⟩ := List.mem_map.1 hx
        obtain ⟨i, hi, rfl⟩ := List.mem_iff_getElem.1 hm
        obtain ⟨_, _, _, _, _, _, _, _, _, hf⟩ := MetasW.at H0.out i hi
        exact hf.1
      clear hI
      go_wp2
      go_ret
      obtain ⟨ia, ic, h1, h2⟩ := HE.out
      exact ⟨ia, ic, by show Ending.returned u3 = _; rw [h1], h2⟩
    have kN : (k : Int) < (len : Int) := by omega
    have hkl : k < l.length := by omega
    obtain ⟨b, off, rfl, hbl, e0, e1, e2, e3, e4, -⟩ := (metas_kept H0.out hI.out.2).at k hkl
    have hst : Hid (((l.take (k + 1)).map (·.1)).map intC = ((l.take k).map (·.1)).map intC ++ [intC l[k].1]) := by
      show _ = _
      rw [List.take_succ_eq_append_getElem hkl, List.map_append, List.map_append]; rfl
    generalize l[k] = m at e0 e1 e2 e3 e4 hst
    obtain ⟨x, lv, y, z, c⟩ := m
    simp only at e0 e1 e2 e3 e4 hst
    have hNb := Lib.hid (Holds.new (wr.alloc (.cells #[.int .i64 x, .int .i64 lv, .string ⟨y.toArray⟩, .string ⟨z.toArray⟩, .int .i64 c] 49)) [.int .i64 x] 3)
    go_wp2_with (at_builtin; refine wpList_append_own _ rfl (.tmp 12) (.tmp 15) 23 rfl w.heap.size 3 i0 (.int .i64 0) 1 8 Try.underlying23 hi hz0 hz1 hz2 rfl (by decide) _ k _ rfl ((hI.out.1.alloc _).alloc _) ⟨wr.heap.size + 1, 0, none⟩ 1 1 [intC x] rfl rfl ?d1 ?d2 ?d3 ?d4 ?d5 ?_)
    case d1 =>
      intro q u hq
      rw [add0]
      have := hNb.out.cell q u hq
      rwa [show (wr.alloc (.cells #[.int .i64 x, .int .i64 lv, .string ⟨y.toArray⟩, .string ⟨z.toArray⟩, .int .i64 c] 49)).heap.size = wr.heap.size + 1 from Array.size_push _] at this
    case d2 => intro u hu; rw [List.mem_singleton] at hu; subst hu; rfl
    case d3 => unfold maxLen; omega
    case d4 => omega
    case d5 => have := hI.out.2.size; simp; omega
    intro v2 wB hown hgr _
    have hkB : Kept (fun k => u3.ownBlock = some k) wr wB := kept_grown (((Kept.refl _ wr).alloc _).alloc _) hgr (fun b hb => .inl hb)
    have HN : Hid (wB.ownsRow w.heap.size 3 1 v2 (k + 1) (((l.take (k + 1)).map (·.1)).map intC) ∧ Kept (fun _ => False) w wB) :=
      Lib.hid ⟨by rw [hst.out, List.map_map, List.map_take]; exact hown, hI.out.2.trans hkB (fun q hq => .inr (hI.out.1.lt q hq).1)⟩
    clear hown hgr hkB hI hst hNb
    go_wp2
    go_roundw
    case rel => exact ⟨k + 1, by first | rfl | go_num, by omega, HN⟩
    case measure => simp [intOf]; omega

end Go.Proofs.Ytgcepbpdicadnaa

/- Tables' descriptions in memory, cell by cell (layer 14). No condition. -/
namespace Go.Proofs.Ytgcepbpdicadnaa
open Go.RowKit Go.Proofs Go.Proofs.Pk
set_option maxRecDepth 10000

theorem metas_get {w : World} {b off : Nat} {T : List MetaV} (h : ∀ i (h : i < T.length), MetaAt w b (off + i * 5) T[i]) : ∀ j u, (T.flatMap metaC)[j]? = some u → w.cell? ⟨b, off + j, none⟩ = some u := by
  intro j u hj
  have hl := metasC_length T
  have hjl : j < T.length * 5 := by rw [← hl]; exact (List.getElem?_eq_some_iff.1 hj).1
  have hi : j / 5 < T.length := by omega
  have ht : j % 5 < (metaC T[j / 5]).length := by show j % 5 < 5; omega
  have h1 := metasC_get T (j / 5) hi (j % 5) _ (List.getElem?_eq_getElem ht)
  rw [show j / 5 * 5 + j % 5 = j from by omega, hj] at h1
  injection h1 with h1
  have h2 := (h (j / 5) hi).row (j % 5) u (by rw [List.getElem?_eq_getElem ht, ← h1])
  rw [show off + j / 5 * 5 + j % 5 = off + j from by omega] at h2
  exact h2
theorem metas_one (T : List MetaV) : ∀ u ∈ T.flatMap metaC, u.oneCell' = true := fun u hu => by
  obtain ⟨m, _, hm⟩ := List.mem_flatMap.1 hu
  exact meta_one m u hm

end Go.Proofs.Ytgcepbpdicadnaa
