/- The law MergeSees (layer 15), walked over the contracts of the program's merge and blocks. -/
import Derived.Test.YthkejfhcdodggaaKp15
import Derived.Test.YthkejfhcdodggaaJ10
import Derived.Sort.Walk0
import Derived.Deep.CutRange
import Derived.BigQuiet
namespace Go.Proofs.Ythkejfhcdodggaa
open Go.RowKit Go.Proofs Go.Proofs.Pk
set_option maxRecDepth 10000
attribute [local simp] mk_get wrap64_u8 mk_extract ByteArray.mk_append_mk get_1k

theorem leq_no {x p : Txt} (h : p < x) : (Op.bytesLess x p || x == p) = false := by
  have h1 : ¬x < p := fun k => List.lt_irrefl p (List.lt_trans h k)
  have h2 : ¬x = p := fun k => by subst k; exact List.lt_irrefl _ h
  have h3 : (x == p) = false := by simpa using h2
  rw [bytesLess_eq, h3, decide_eq_false h1]; rfl
theorem ent_eql (x y : MEnt) (h : ¬x = y) (w : World) :
    (binOp .eql 34 (.agg #[.string ⟨x.1.toArray⟩, .int .i64 x.2.1, .bool x.2.2.1, .string ⟨x.2.2.2.toArray⟩]) (.agg #[.string ⟨y.1.toArray⟩, .int .i64 y.2.1, .bool y.2.2.1, .string ⟨y.2.2.2.toArray⟩])).run Try.prog w = .ok (.bool false) w := by
  have hn := ent_neq x y h w
  rw [run_neq_struct] at hn
  rw [run_eql_struct]
  generalize (Op.equalIn 10000 34 (.agg #[.string ⟨x.1.toArray⟩, .int .i64 x.2.1, .bool x.2.2.1, .string ⟨x.2.2.2.toArray⟩]) (.agg #[.string ⟨y.1.toArray⟩, .int .i64 y.2.1, .bool y.2.2.1, .string ⟨y.2.2.2.toArray⟩])).run Try.prog w = r at hn ⊢
  cases r <;> simp_all [Result.andThen]
/-- What a Find tells of a place of the list. -/
theorem seen_get {l : List MEnt} (s : Int) (x : MEnt) : (getM l x.1 s).2 = false ∧ seenB l s x = false ∨ (getM l x.1 s).2 = true ∧ ((getM l x.1 s).1 = x ∧ seenB l s x = !x.2.2.1 ∨ ¬(getM l x.1 s).1 = x ∧ seenB l s x = false) := by
  unfold getM seenB
  cases hf : findM l x.1 s with
  | none => exact .inl ⟨rfl, by simp⟩
  | some y =>
    refine .inr ⟨rfl, ?_⟩
    by_cases h : y = x
    · subst h; exact .inl ⟨rfl, by simp⟩
    · exact .inr ⟨h, by simp [h]⟩
theorem see_get {l : List MEnt} {s : Int} {x : MEnt} (h : x ∈ seeM l s) : getM l x.1 s = (x, true) := by
  unfold getM; rw [(see_mem h).1]
theorem seen_snoc {l : List MEnt} (s : Int) {j : Nat} (hj : j < l.length) : ((l.take (j + 1)).filter (seenB l s)).length = ((l.take j).filter (seenB l s)).length + if seenB l s l[j] = true then 1 else 0 := by
  rw [see_take s hj, List.length_append]
  congr 1
  split <;> rfl
theorem ents_row {w : World} {ad : Option Addr} {len : Nat} {l : List MEnt} (h : EntsW w ad len l) {j : Nat} (hj : j < l.length) : ∃ b off, ad = some ⟨b, off, none⟩ ∧ ∀ (i : Nat) (hi : i < l.length) (W : World), Kept (fun _ => False) w W → W.rangeAt b (off + i * 4) (entC l[i]) := by
  rcases h.2 with h0 | ⟨b, off, h1, h2, h3⟩
  · rw [h0] at hj; simp at hj
  · exact ⟨b, off, h1, fun i hi W hk k v hv => (hk.cell (p := ⟨b, off + i * 4 + k, none⟩) h2 (fun f => f)).trans ((h3 i hi).row k v hv)⟩

set_option maxHeartbeats 20000000 in
theorem sees_go (K : MgK) (J : BkJ) (ad : Option Addr) (len cap n cap2 : Nat) (s : Int) (T : List MEnt) (w : World) (HE : ExH15 w) (hsl : CutS ad len cap n cap2 80) (hfs : FitN s) (HI : Hid (EntsW w ad n T ∧ n ≤ 100)) :
    Calls Try.prog 8 #[.slice ad len cap, .int .i64 s] w fun e w' => e = .returned (.bool true) ∧ Kept (fun _ => False) w w' := by
  have kn : (0 : Int) ≤ (n : Int) := Int.natCast_nonneg n
  have HQ := Lib.hid hfs
  clear hfs
  have HJ : Hid (∀ (cap : Nat) (k : Txt), (k.length : Int) ≤ 140737488351232 → ∀ W, Kept (fun _ => False) w W → Calls Try.prog 20 #[.slice ad n cap, .string ⟨k.toArray⟩, .int .i64 s] W fun r w' => r = .returned (.tuple #[.agg (entC (getM T k s).1).toArray, .bool (getM T k s).2]) ∧ Kept (fun _ => False) W w') := fun cap k hk W hW =>
    J.find W ad n cap T k s (ents_keptK HI.out.1 hW) (by have := HI.out.2; omega) hk HQ.out
  go_enter Try.func8, Try.ntmps8
  go_wp2_with fail
  refine HE.out.mono ?_
  clear HE
  rintro e w1 ⟨rfl, hk1⟩
  go_upto_region 2 with fail
  go_cut [0] from 16 (fun s0 wx => s0 = .slice ad n cap2 ∧ wx = w1)
  case first =>
    clear HI HJ HQ
    rcases hsl with ⟨b0, off, rfl, k1, k2, k3, rfl⟩ | ⟨rfl, rfl, rfl, rfl, rfl⟩
    all_goals
      go_wp2
      go_meet
      case rel => exact ⟨rfl, rfl⟩
  case rest =>
    obtain ⟨rfl, hwc⟩ := hcut
    rw [hwc]
    have hnc : n ≤ cap2 := by rcases hsl with ⟨_, _, _, _, k2, _, rfl⟩ | ⟨_, _, _, rfl, rfl⟩ <;> omega
    clear hwc hsl
    have HK1 := Lib.hid hk1
    have h1 := K.see w1 ad n cap2 T s (ents_keptK HI.out.1 hk1) (by have := HI.out.2; omega) hnc HQ.out
    clear hk1
    by_cases hs : sortB T = true
    rotate_left
    · rw [seeR_no hs] at h1
      have H1 := Lib.hid h1
      clear h1 HI hs HJ HQ
      go_wp2_with fail
      refine H1.out.mono ?_
      clear H1
      intro e w2 h
      obtain ⟨ad2, c2, rfl, hk2⟩ := h.bad
      have HK2 := Lib.hid (HK1.out.trans hk2 (fun _ h => h.elim))
      clear h hk2 HK1
      go_wp2
      go_ret
      exact ⟨rfl, HK2.out⟩
    rw [seeR_ok hs] at h1
    have H1 := Lib.hid h1
    have HU := Lib.hid hs
    clear h1 hs
    go_wp2_with fail
    refine H1.out.mono ?_
    clear H1
    intro e w2 h
    obtain ⟨ad2, c2, rfl, hA, hk2⟩ := h.ok
    have HK2 := Lib.hid (HK1.out.trans hk2 (fun _ h => h.elim))
    have hlS := see_len T s
    obtain ⟨S, hS⟩ : ∃ S, S = seeM T s := ⟨_, rfl⟩
    rw [← hS] at hlS hA ⊢
    have HSE := Lib.hid hS
    have HA := Lib.hid hA
    obtain ⟨m, hm⟩ : ∃ m, Hid (m = S.length) := ⟨_, rfl⟩
    have HM : Hid (m ≤ 100) := by show m ≤ 100; rw [hm.out]; have := HI.out.1.1; have := HI.out.2; omega
    rw [← hm.out]
    have HKW : Hid (Kept (fun _ => False) w2 w2) := Kept.refl _ _
    clear h hk2 HK1 hlS hS hA
    go_wp2
    go_loopw [8] (fun i wr => ∃ j : Nat, j ≤ m ∧ i = .int .i64 (j : Int) ∧ Hid (Kept (fun _ => False) w2 wr)) (fun i _ => m - (intOf i).toNat)
    case atStart => exact ⟨0, Nat.zero_le _, rfl, HKW⟩
    case round =>
      rename World => w9
      clear HKW
      obtain ⟨j, hj, rfl, hK⟩ := hrel
      have j0 : (0 : Int) ≤ (j : Int) := by omega
      by_cases hlt : j < m
      case neg =>
        obtain rfl : j = m := by omega
        have jn : ¬(j : Int) < (j : Int) := by omega
        have HK9 : Hid (Kept (fun _ => False) w w9 ∧ 0 = ((T.take 0).filter (seenB T s)).length) := ⟨HK2.out.trans hK.out (fun _ h => h.elim), by simp⟩
        clear hK HK2 HA
        go_wp2
        go_loopw [11, 12] (fun y i wr => ∃ (k c : Nat), (k ≤ n ∧ c ≤ k) ∧ y = .int .i64 (c : Int) ∧ i = .int .i64 (k : Int) ∧ Hid (Kept (fun _ => False) w wr ∧ c = ((T.take k).filter (seenB T s)).length)) (fun _ i _ => n - (intOf i).toNat)
        case atStart => exact ⟨0, 0, ⟨Nat.zero_le _, Nat.zero_le _⟩, rfl, rfl, HK9⟩
        case round =>
          clear HK9
          obtain ⟨k, c, ⟨hk, hck⟩, rfl, rfl, hL⟩ := hrel
          have k0 : (0 : Int) ≤ (k : Int) := by omega
          by_cases hlt : k < n
          case neg =>
            obtain rfl : k = n := by omega
            have kN : ¬(k : Int) < (k : Int) := by omega
            obtain rfl : c = j := by
              have h1 := hL.out.2
              rw [List.take_of_length_le (by have := HI.out.1.1; omega)] at h1
              have h2 := hm.out
              rw [HSE.out] at h2
              rw [h1, h2]; rfl
            have HKK : Hid (Kept (fun _ => False) w wr) := hL.out.1
            clear hL
            go_wp2
            go_ret
            exact ⟨rfl, HKK.out⟩
          have kN : (k : Int) < (n : Int) := by omega
          have hn1 : n ≤ 100 := HI.out.2
          have hwk : IntKind.i64.wrap ((k : Int) + 1) = (k : Int) + 1 := IntWalk.i64_in _ (by omega)
          have hwc : IntKind.i64.wrap ((c : Int) + 1) = (c : Int) + 1 := IntWalk.i64_in _ (by omega)
          have hkT : k < T.length := by have := HI.out.1.1; omega
          obtain ⟨b, off, hb, hat⟩ := ents_row HI.out.1 hkT
          obtain ⟨x, hx⟩ : ∃ x, x = T[k] := ⟨_, rfl⟩
          have HR : Hid (∀ W, Kept (fun _ => False) w W → W.rangeAt b (off + k * 4) (entC x)) := fun W hk => by rw [hx]; exact hat k hkT W hk
          have hgt := seen_get (l := T) s x
          have hsn := seen_snoc s hkT
          rw [← hx, ← hL.out.2] at hsn
          have hkl : (x.1.length : Int) ≤ 140737488351232 := by
            have := (sort_iff.1 HU.out).2 x (by rw [hx]; exact List.getElem_mem hkT)
            unfold rightM at this
            simp only [decide_eq_true_eq] at this
            omega
          have HF := Lib.hid (fun cap W (hk : Kept (fun _ => False) w W) => HJ.out cap x.1 hkl W hk)
          obtain ⟨y, hy⟩ : ∃ y, y = (getM T x.1 s).1 := ⟨_, rfl⟩
          obtain ⟨o, ho⟩ : ∃ o, o = (getM T x.1 s).2 := ⟨_, rfl⟩
          rw [← hy, ← ho] at HF hgt
          have HKr : Hid (Kept (fun _ => False) w wr) := hL.out.1
          have HG := Lib.hid hgt
          have HS := Lib.hid hsn
          subst hb
          clear hgt hsn hkl hx hat hkT hy ho hL
          have rx := HR.out wr HKr.out
          have x0 : wr.cell? ⟨b, off + k * 4, none⟩ = some (.string ⟨x.1.toArray⟩) := rx 0 _ rfl
          clear rx
          go_wp2_with fail
          refine (HF.out _ _ HKr.out).mono ?_
          rintro r wv ⟨rfl, hkv⟩
          have HKv := Lib.hid (HKr.out.trans hkv (fun _ h => h.elim))
          clear hkv HF x0 HKr
          unfold entC
          rcases HG.out with ⟨rfl, hse⟩ | ⟨rfl, ⟨rfl, hse⟩ | ⟨hne, hse⟩⟩
          · have HC : Hid (c = ((T.take (k + 1)).filter (seenB T s)).length) := by show _ = _; rw [HS.out, hse]; simp
            clear HG HS hse
            go_wp2_with fail
            obtain ⟨wx, hwx⟩ : ∃ wx, wx = wv.alloc (.cells #[.string ⟨y.1.toArray⟩, .int .i64 y.2.1, .bool y.2.2.1, .string ⟨y.2.2.2.toArray⟩] 34) := ⟨_, rfl⟩
            obtain ⟨eb, heb⟩ : ∃ eb, eb = wv.heap.size := ⟨_, rfl⟩
            have hHe : Holds wx eb (entC y) 34 := by
              rw [hwx, heb]
              exact Holds.new wv _ _
            have HKx : Hid (Kept (fun _ => False) w wx) := by rw [hwx]; exact HKv.out.alloc _
            rw [← hwx, ← heb]
            have e0 : wx.cell? ⟨eb, 0, none⟩ = some (.string ⟨y.1.toArray⟩) := hHe.cell 0 _ rfl
            have e1 : wx.cell? ⟨eb, 1, none⟩ = some (.int .i64 y.2.1) := hHe.cell 1 _ rfl
            have e2 : wx.cell? ⟨eb, 2, none⟩ = some (.bool y.2.2.1) := hHe.cell 2 _ rfl
            have e3 : wx.cell? ⟨eb, 3, none⟩ = some (.string ⟨y.2.2.2.toArray⟩) := hHe.cell 3 _ rfl
            clear HR hwx heb hHe HKv
            go_quiet (fail)
            go_wp2
            go_roundw
            case rel => exact ⟨k + 1, c, ⟨hlt, by omega⟩, rfl, by first | rfl | go_num, HKx.out.drewN _, HC.out⟩
            case measure => simp [intOf]; omega
          · obtain ⟨d, hd⟩ : ∃ d, Hid (d = y.2.2.1) := ⟨_, rfl⟩
            go_wp2_with fail
            obtain ⟨wx, hwx⟩ : ∃ wx, wx = wv.alloc (.cells #[.string ⟨y.1.toArray⟩, .int .i64 y.2.1, .bool y.2.2.1, .string ⟨y.2.2.2.toArray⟩] 34) := ⟨_, rfl⟩
            obtain ⟨eb, heb⟩ : ∃ eb, eb = wv.heap.size := ⟨_, rfl⟩
            have hHe : Holds wx eb (entC y) 34 := by
              rw [hwx, heb]
              exact Holds.new wv _ _
            have HKx : Hid (Kept (fun _ => False) w wx) := by rw [hwx]; exact HKv.out.alloc _
            rw [← hwx, ← heb]
            have e0 : wx.cell? ⟨eb, 0, none⟩ = some (.string ⟨y.1.toArray⟩) := hHe.cell 0 _ rfl
            have e1 : wx.cell? ⟨eb, 1, none⟩ = some (.int .i64 y.2.1) := hHe.cell 1 _ rfl
            have e2 : wx.cell? ⟨eb, 2, none⟩ = some (.bool y.2.2.1) := hHe.cell 2 _ rfl
            have e3 : wx.cell? ⟨eb, 3, none⟩ = some (.string ⟨y.2.2.2.toArray⟩) := hHe.cell 3 _ rfl
            have rx := HR.out wx HKx.out
            have x0 : wx.cell? ⟨b, off + k * 4, none⟩ = some (.string ⟨y.1.toArray⟩) := rx 0 _ rfl
            have x1 : wx.cell? ⟨b, off + k * 4 + 1, none⟩ = some (.int .i64 y.2.1) := rx 1 _ rfl
            have x2 : wx.cell? ⟨b, off + k * 4 + 2, none⟩ = some (.bool y.2.2.1) := rx 2 _ rfl
            have x3 : wx.cell? ⟨b, off + k * 4 + 3, none⟩ = some (.string ⟨y.2.2.2.toArray⟩) := rx 3 _ rfl
            rw [← hd.out] at e2 x2 hse
            clear rx hwx heb hHe HKv HR HG
            cases d with
            | true =>
              have HC : Hid (c = ((T.take (k + 1)).filter (seenB T s)).length) := by show _ = _; rw [HS.out, hse]; simp
              clear HS hse
              go_quiet (fail)
              go_wp2
              go_roundw
              case rel => exact ⟨k + 1, c, ⟨hlt, by omega⟩, rfl, by first | rfl | go_num, HKx.out.drewN _, HC.out⟩
              case measure => simp [intOf]; omega
            | false =>
              have HC : Hid (c + 1 = ((T.take (k + 1)).filter (seenB T s)).length) := by show _ = _; rw [HS.out, hse]; simp
              clear HS hse
              go_quiet (fail)
              go_wp2
              go_roundw
              case rel => exact ⟨k + 1, c + 1, ⟨hlt, by omega⟩, by first | rfl | go_num, by first | rfl | go_num, HKx.out.drewN _, HC.out⟩
              case measure => simp [intOf]; omega
          · have HC : Hid (c = ((T.take (k + 1)).filter (seenB T s)).length) := by show _ = _; rw [HS.out, hse]; simp
            have hQ := ent_eql y x hne
            clear HG HS hse hne
            go_wp2_with fail
            obtain ⟨wx, hwx⟩ : ∃ wx, wx = wv.alloc (.cells #[.string ⟨y.1.toArray⟩, .int .i64 y.2.1, .bool y.2.2.1, .string ⟨y.2.2.2.toArray⟩] 34) := ⟨_, rfl⟩
            obtain ⟨eb, heb⟩ : ∃ eb, eb = wv.heap.size := ⟨_, rfl⟩
            have hHe : Holds wx eb (entC y) 34 := by
              rw [hwx, heb]
              exact Holds.new wv _ _
            have HKx : Hid (Kept (fun _ => False) w wx) := by rw [hwx]; exact HKv.out.alloc _
            rw [← hwx, ← heb]
            have e0 : wx.cell? ⟨eb, 0, none⟩ = some (.string ⟨y.1.toArray⟩) := hHe.cell 0 _ rfl
            have e1 : wx.cell? ⟨eb, 1, none⟩ = some (.int .i64 y.2.1) := hHe.cell 1 _ rfl
            have e2 : wx.cell? ⟨eb, 2, none⟩ = some (.bool y.2.2.1) := hHe.cell 2 _ rfl
            have e3 : wx.cell? ⟨eb, 3, none⟩ = some (.string ⟨y.2.2.2.toArray⟩) := hHe.cell 3 _ rfl
            have rx := HR.out wx HKx.out
            have x0 : wx.cell? ⟨b, off + k * 4, none⟩ = some (.string ⟨x.1.toArray⟩) := rx 0 _ rfl
            have x1 : wx.cell? ⟨b, off + k * 4 + 1, none⟩ = some (.int .i64 x.2.1) := rx 1 _ rfl
            have x2 : wx.cell? ⟨b, off + k * 4 + 2, none⟩ = some (.bool x.2.2.1) := rx 2 _ rfl
            have x3 : wx.cell? ⟨b, off + k * 4 + 3, none⟩ = some (.string ⟨x.2.2.2.toArray⟩) := rx 3 _ rfl
            clear rx hwx heb hHe HKv HR
            go_quiet (fail)
            go_wp2
            go_roundw
            case rel => exact ⟨k + 1, c, ⟨hlt, by omega⟩, rfl, by first | rfl | go_num, HKx.out.drewN _, HC.out⟩
            case measure => simp [intOf]; omega
      have jn : (j : Int) < (m : Int) := by omega
      have hwj : IntKind.i64.wrap ((j : Int) + 1) = (j : Int) + 1 := IntWalk.i64_in _ (by have := HM.out; omega)
      have hjS : j < S.length := by have := hm.out; omega
      obtain ⟨b, off2, hb2, hat⟩ := ents_row HA.out (show j < S.length from hjS)
      obtain ⟨x, hx⟩ : ∃ x, x = S[j] := ⟨_, rfl⟩
      have hmem : x ∈ seeM T s := by rw [hx, ← HSE.out]; exact List.getElem_mem hjS
      have hsm := see_mem hmem
      have hget := see_get hmem
      have HR : Hid (∀ W, Kept (fun _ => False) w2 W → W.rangeAt b (off2 + j * 4) (entC x)) := fun W hk => by rw [hx]; exact hat j hjS W hk
      have hprev : ¬0 < j ∨ (0 < j ∧ ∃ p : MEnt, p.1 < x.1 ∧ ∀ W, Kept (fun _ => False) w2 W → W.rangeAt b (off2 + (j - 1) * 4) (entC p)) := by
        by_cases h0 : 0 < j
        · refine .inr ⟨h0, S[j - 1]'(by omega), ?_, fun W hk => hat (j - 1) (by omega) W hk⟩
          rw [hx]
          have hr := List.pairwise_iff_getElem.1 (see_rise HU.out s)
          have := hr (j - 1) j (by rw [← HSE.out]; omega) (by rw [← HSE.out]; exact hjS) (by omega)
          simpa only [← HSE.out] using this
        · exact .inl h0
      have HPv := Lib.hid hprev
      have hkl : (x.1.length : Int) ≤ 140737488351232 := by
        have := (sort_iff.1 HU.out).2 x (List.filter_sublist.subset hmem)
        unfold rightM at this
        simp only [decide_eq_true_eq] at this
        omega
      have HF : Hid (∀ cap W, Kept (fun _ => False) w2 W → Calls Try.prog 20 #[.slice ad n cap, .string ⟨x.1.toArray⟩, .int .i64 s] W fun r w' => r = .returned (.tuple #[.agg (entC x).toArray, .bool true]) ∧ Kept (fun _ => False) W w') := fun cap W hk => by
        have := HJ.out cap x.1 hkl W (HK2.out.trans hk (fun _ h => h.elim))
        rw [hget] at this; exact this
      have hxs : ¬s < x.2.1 := by omega
      have hxd := hsm.2.1
      subst hb2
      clear hprev hkl hsm hget hmem hx hat hjS
      have rx := HR.out w9 hK.out
      have x0 : w9.cell? ⟨b, off2 + j * 4, none⟩ = some (.string ⟨x.1.toArray⟩) := rx 0 _ rfl
      have x1 : w9.cell? ⟨b, off2 + j * 4 + 1, none⟩ = some (.int .i64 x.2.1) := rx 1 _ rfl
      have x2 : w9.cell? ⟨b, off2 + j * 4 + 2, none⟩ = some (.bool false) := by rw [← hxd]; exact rx 2 _ rfl
      clear rx
      go_upto_region 9 with fail
      go_cut [72] from 35 to 93 (fun s72 wx => s72 = .bool false ∧ Hid (Kept (fun _ => False) w2 wx))
      case first =>
        have HKq : Hid (∀ z, Kept (fun _ => False) w2 (w9.drewN z)) := fun z => hK.out.drewN z
        rcases HPv.out with hjp | ⟨hjp, p, hpx, hpr⟩
        · obtain rfl : j = 0 := by omega
          have x0 : w9.cell? ⟨b, off2, none⟩ = some (.string ⟨x.1.toArray⟩) := by simpa using x0
          have x1 : w9.cell? ⟨b, off2 + 1, none⟩ = some (.int .i64 x.2.1) := by simpa using x1
          have x2 : w9.cell? ⟨b, off2 + 2, none⟩ = some (.bool false) := by simpa using x2
          have hxsd : decide (s < x.2.1) = false := decide_eq_false hxs
          clear HPv HR HF hjp hj hwj
          go_wp2
          go_quiet (fail)
          go_wp2
          go_meet
          case rel => exact ⟨rfl, HKq.out _⟩
        · have hjpI : (0 : Int) < (j : Int) := by omega
          obtain ⟨q, hq⟩ : ∃ q, q = j - 1 := ⟨_, rfl⟩
          have q1 : IntKind.i64.wrap ((j : Int) - 1) = (q : Int) := by have := HM.out; rw [IntWalk.i64_in _ (by omega)]; omega
          have hxsd : decide (s < x.2.1) = false := decide_eq_false hxs
          have q2 : (q : Int) < (m : Int) := by omega
          have q3 : (0 : Int) ≤ (q : Int) := by omega
          have hl := leq_no hpx
          rw [← hq] at hpr
          have p0 : w9.cell? ⟨b, off2 + q * 4, none⟩ = some (.string ⟨p.1.toArray⟩) := hpr w9 hK.out 0 _ rfl
          clear HPv HR HF hpr hpx hq
          go_wp2
          go_quiet (fail)
          go_wp2
          go_meet
          case rel => exact ⟨rfl, HKq.out _⟩
      case rest =>
        obtain ⟨rfl, hKc⟩ := hcut
        clear hK x0 x1 x2 HPv
        have rx := HR.out wc hKc.out
        have x0 : wc.cell? ⟨b, off2 + j * 4, none⟩ = some (.string ⟨x.1.toArray⟩) := rx 0 _ rfl
        clear rx
        go_wp2_with fail
        refine (HF.out _ _ hKc.out).mono ?_
        rintro r wv ⟨rfl, hkv⟩
        have HKv := Lib.hid (hKc.out.trans hkv (fun _ h => h.elim))
        clear hkv HF x0
        unfold entC
        go_wp2_with fail
        obtain ⟨wx, hwx⟩ : ∃ wx, wx = wv.alloc (.cells #[.string ⟨x.1.toArray⟩, .int .i64 x.2.1, .bool false, .string ⟨x.2.2.2.toArray⟩] 34) := ⟨_, rfl⟩
        obtain ⟨eb, heb⟩ : ∃ eb, eb = wv.heap.size := ⟨_, rfl⟩
        have hHe : Holds wx eb (entC x) 34 := by
          rw [hwx, heb]
          unfold entC
          rw [hxd]
          exact Holds.new wv _ _
        have HKx : Hid (Kept (fun _ => False) w2 wx) := by rw [hwx]; exact HKv.out.alloc _
        rw [← hwx, ← heb]
        have e0 : wx.cell? ⟨eb, 0, none⟩ = some (.string ⟨x.1.toArray⟩) := hHe.cell 0 _ rfl
        have e1 : wx.cell? ⟨eb, 1, none⟩ = some (.int .i64 x.2.1) := hHe.cell 1 _ rfl
        have e2 : wx.cell? ⟨eb, 2, none⟩ = some (.bool false) := by rw [← hxd]; exact hHe.cell 2 _ rfl
        have e3 : wx.cell? ⟨eb, 3, none⟩ = some (.string ⟨x.2.2.2.toArray⟩) := hHe.cell 3 _ rfl
        have rx := HR.out wx HKx.out
        have x0 : wx.cell? ⟨b, off2 + j * 4, none⟩ = some (.string ⟨x.1.toArray⟩) := rx 0 _ rfl
        have x1 : wx.cell? ⟨b, off2 + j * 4 + 1, none⟩ = some (.int .i64 x.2.1) := rx 1 _ rfl
        have x2 : wx.cell? ⟨b, off2 + j * 4 + 2, none⟩ = some (.bool false) := by rw [← hxd]; exact rx 2 _ rfl
        have x3 : wx.cell? ⟨b, off2 + j * 4 + 3, none⟩ = some (.string ⟨x.2.2.2.toArray⟩) := rx 3 _ rfl
        clear rx hwx heb hHe HKv HR
        go_quiet (fail)
        go_wp2
        go_roundw
        case rel => exact ⟨j + 1, hlt, by first | rfl | go_num, HKx.out.drewN _⟩
        case measure => simp [intOf]; omega

theorem sees15 (K : MgK) (J : BkJ) (ad : Option Addr) (len cap : Nat) (l : List MEnt) (s : Int) (w : World) (h0 : EntsW w ad len l) (hb : FlatE ad ∧ len ≤ cap ∧ (len : Int) * 48 ≤ 140737488351232 ∧ (ad = none → len = 0 ∧ cap = 0)) (hs : FitN s) :
    Calls Try.prog 8 #[.slice ad len cap, .int .i64 s] w fun e w' => e = .returned (.bool true) ∧ Kept (fun _ => False) w w' := by
  obtain ⟨n, cap2, hc, h1, _, h2⟩ := cut_in h0 hb 80
  exact sees_go K J ad len cap n cap2 s (l.take n) w (Lib.hid (examples15 K w)) hc hs (Lib.hid ⟨h2, by omega⟩)

end Go.Proofs.Ythkejfhcdodggaa
