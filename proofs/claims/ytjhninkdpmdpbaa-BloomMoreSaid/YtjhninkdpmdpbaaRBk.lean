/- The reference of layer 11: Make. -/
import Derived.Test.YtjhninkdpmdpbaaRBh
import Derived.Test.YtjhninkdpmdpbaaAppend
import Derived.Test.YtjhninkdpmdpbaaMid
import Derived.Laws.MakeOwn
import Derived.Laws.BytesArg
import Derived.Lib.UnsafeStr
import Derived.StillTailTactics
import Derived.Sort.Walk0
namespace Go.Proofs.Ytjhninkdpmdpbaa
open Go.RowKit Go.Proofs Go.Proofs.Pk
set_option maxRecDepth 10000
attribute [local simp] mk_get wrap64_u8 mk_extract ByteArray.mk_append_mk get_1k

theorem byte_infoB : (Try.prog.info? 5).map (fun i => (i.zero, i.size, i.bytes)) = some (some (.int .u8 0), 1, 1) := by kernel_rfl
theorem made_repB (v : Value) (n : Nat) : madeCells #[v] n = (List.replicate n v).toArray := by
  apply Array.ext
  · rw [size_madeCells]; simp
  · intro i h1 h2
    simp [madeCells, Nat.mod_one]
theorem run_make_bytesB (m : Nat) (hm : m ≤ 8192) (w : World) : (Instr.makeSlice 36 (.int .i64 (m : Int)) (.int .i64 (m : Int))).run Try.prog w =
    .ok (.slice (some ⟨w.heap.size, 0, none⟩) m m) (w.alloc (.cells (Lib.byteCells (List.replicate m 0)).toArray 5)) := by
  obtain ⟨i, hi, hz, hs, hb⟩ := info_parts byte_infoB
  have := run_make (P := Try.prog) w 36 5 i _ Try.underlying36 hi hz .i64 .i64 m m (by omega) (Int.le_refl _) (by rw [hb]; omega) (by omega)
  rw [this, hs]
  simp only [Int.toNat_natCast, Value.cells, Nat.mul_one]
  rw [made_repB, show Lib.byteCells (List.replicate m 0) = List.replicate m (.int .u8 0) from by simp [Lib.byteCells]]
theorem conv_holds (w : World) (g cap : Nat) (T : List UInt8) (N : Nat) (hN : N = T.length) (h : Holds w g (Lib.byteCells T) 5) :
    (convert 36 9 (.slice (some ⟨g, 0, none⟩) N cap)).run Try.prog w = .ok (.string ⟨T.toArray⟩) w := by
  have := run_convert_bytes_arg (P := Try.prog) w 36 5 Try.underlying36 Try.underlying5 g 0 N cap (T.map fun c => (c.toNat : Int)) (by simp [hN]) (fun i hi => by
    have hiT : i < T.length := by omega
    have := h.cell i (.int .u8 ((T[i]).toNat)) (by simp [Lib.byteCells, hiT])
    rw [Nat.zero_add]
    simpa [hiT, List.getD] using this) 9 Try.underlying9
  rw [str_nums] at this
  exact this
theorem bc_set (l : TxtB) (i : Nat) (c : UInt8) : (Lib.byteCells l).set i (.int .u8 c.toNat) = Lib.byteCells (l.set i c) := by
  unfold Lib.byteCells
  rw [List.map_set]
theorem mark_succ (k : TxtB) (m : Nat) : ∀ n j l, markN k m j (n + 1) l = setB (markN k m j n l) (placeN k (j + n) m)
  | 0, j, l => rfl
  | n + 1, j, l => by
    rw [markN, mark_succ k m n (j + 1), markN]
    rw [show j + 1 + n = j + (n + 1) from by omega]
theorem fill_take (ks : List TxtB) (m kk : Nat) (l : TxtB) {i : Nat} (hi : i < ks.length) : fillN (ks.take (i + 1)) m kk l = markN ks[i] m 0 kk (fillN (ks.take i) m kk l) := by
  unfold fillN
  rw [List.take_succ_eq_append_getElem hi, List.foldl_append, List.foldl_cons, List.foldl_nil]

/-- What Make answers. -/
def MkR (w : World) (r : TxtB × Nat) (e : Ending) (w' : World) : Prop := e = .returned (.tuple #[.string ⟨r.1.toArray⟩, .int .i64 (r.2 : Int)]) ∧ Kept (fun _ => False) w w'
set_option maxHeartbeats 4000000 in
theorem rMake (ad : Option Addr) (len cap : Nat) (ks : List TxtB) (bits : Int) (w : World) (h : Strs w ad len ks) (hs : ∀ s ∈ ks, s.length ≤ 140737488351232) (hb : -9223372036854775808 ≤ bits ∧ bits ≤ 9223372036854775807) (hl : (len : Int) ≤ 140737488351232) :
    Calls Try.prog 10 #[.slice ad len cap, .int .i64 bits] w (MkR w (makeN ks bits)) := by
  have hlen := h.1
  by_cases h1 : bits < 1
  · have HV : Hid (makeN ks bits = ([], 1)) := by show _ = _; unfold makeN; rw [if_pos (.inl h1)]
    rw [HV.out]
    go_enter Try.func10, Try.ntmps10
    go_wp2
    go_ret2
    exact ⟨rfl, Kept.refl _ _⟩
  by_cases h2 : 20 < bits
  · have HV : Hid (makeN ks bits = ([], 1)) := by show _ = _; unfold makeN; rw [if_pos (.inr h2)]
    rw [HV.out]
    go_enter Try.func10, Try.ntmps10
    go_wp2
    go_ret2
    exact ⟨rfl, Kept.refl _ _⟩
  by_cases h3 : (2000 : Int) < (len : Int)
  · have HV : Hid (makeN ks bits = ([], 5)) := by show _ = _; unfold makeN; rw [if_neg (by omega), if_pos (by omega)]
    rw [HV.out]
    go_enter Try.func10, Try.ntmps10
    go_wp2
    go_ret2
    exact ⟨rfl, Kept.refl _ _⟩
  obtain ⟨b, rfl⟩ := Int.eq_ofNat_of_zero_le (show 0 ≤ bits by omega)
  obtain ⟨sz, hsz⟩ : ∃ sz : Nat, sz = sizeB len b := ⟨_, rfl⟩
  obtain ⟨kk, hkk⟩ : ∃ kk : Nat, kk = manyB b := ⟨_, rfl⟩
  have hks := manyB_in (bits := b) (by omega) (by omega)
  rw [← hkk] at hks
  have HV : Hid (makeN ks (b : Int) = (fillN ks (8 * sz) kk (List.replicate sz 0) ++ [UInt8.ofNat kk], 0)) := by
    show _ = _
    unfold makeN; rw [if_neg (by omega), if_neg (by omega), Int.toNat_natCast, hlen, ← hsz, ← hkk]
  have hlb : len * b ≤ 40000 := Nat.mul_le_mul (show len ≤ 2000 by omega) (show b ≤ 20 by omega)
  obtain ⟨M0, hM0⟩ : ∃ M0 : Nat, M0 = len * b := ⟨_, rfl⟩
  rw [← hM0] at hlb
  have m0 : IntKind.i64.wrap ((len : Int) * (b : Int)) = (M0 : Int) := by rw [← Int.natCast_mul, ← hM0]; exact IntWalk.i64_in _ (by omega)
  have m1 : max 64 (M0 : Int) = ((max 64 M0 : Nat) : Int) := by omega
  have hsz8 : (max 64 M0 + 7) / 8 = sz := by rw [hsz, hM0]; rfl
  obtain ⟨M1, hM1⟩ : ∃ M1 : Nat, M1 = max 64 M0 := ⟨_, rfl⟩
  rw [← hM1] at m1 hsz8
  have m2 : IntKind.i64.wrap ((M1 : Int) + 7) = (M1 : Int) + 7 := IntWalk.i64_in _ (by omega)
  have m3 : ((M1 : Int) + 7).tdiv 8 = (sz : Int) := by rw [Int.tdiv_eq_ediv_of_nonneg (by omega)]; omega
  have hszb : 8 ≤ sz ∧ sz ≤ 5001 := by omega
  have k0 : IntKind.i64.wrap ((b : Int) * 69) = (b : Int) * 69 := IntWalk.i64_in _ (by omega)
  have k1 : ((b : Int) * 69).tdiv 100 = ((b * 69 / 100 : Nat) : Int) := by rw [Int.tdiv_eq_ediv_of_nonneg (by omega)]; omega
  obtain ⟨K0, hK0⟩ : ∃ K0 : Nat, K0 = b * 69 / 100 := ⟨_, rfl⟩
  rw [← hK0] at k1
  have k2 : max 1 (K0 : Int) = (kk : Int) := by rw [hkk]; unfold manyB; omega
  have s1 : IntKind.i64.wrap ((sz : Int) + 1) = (sz : Int) + 1 := IntWalk.i64_in _ (by omega)
  have s8 : IntKind.i64.wrap (8 * (sz : Int)) = 8 * (sz : Int) := IntWalk.i64_in _ (by omega)
  have hmk := run_make_bytesB (sz + 1) (by omega) w
  have hH := Holds.new w (Lib.byteCells (List.replicate (sz + 1) 0)) 5
  have hk0 : Kept (fun _ => False) w (w.alloc (.cells (Lib.byteCells (List.replicate (sz + 1) 0)).toArray 5)) := (Kept.refl _ w).alloc _
  have HST := Lib.hid (And.intro h hs)
  have hl2 : len ≤ 2000 := by omega
  clear h hs hsz hM0 hM1 hK0 hsz8 hkk hb hl hlen hlb
  go_enter Try.func10, Try.ntmps10
  go_upto_region 7 with (fail)
  refine wp_region_lit ?_
  iterate 2
    refine wpList_plain rfl fun K hK => ?_
    go_simp
    refine hK _ _ ?_
    clear hK K
  have hmk2 : (Instr.makeSlice 36 (.int .i64 ((sz : Int) + 1)) (.int .i64 ((sz : Int) + 1))).run Try.prog w = .ok (.slice (some ⟨w.heap.size, 0, none⟩) (sz + 1) (sz + 1)) (w.alloc (.cells (Lib.byteCells (List.replicate (sz + 1) 0)).toArray 5)) := hmk
  refine wpList_of_run rfl (some 34) rfl (exec_make (l := .tmp 33) (c := .tmp 33) hmk2 rfl rfl rfl) ?_
  obtain ⟨g, hg⟩ : ∃ g, Hid (g = w.heap.size) := ⟨_, rfl⟩
  rw [← hg.out] at hH ⊢
  change Holds (w.alloc (.cells (Lib.byteCells (List.replicate (sz + 1) 0)).toArray 5)) g _ _ at hH
  generalize w.alloc (.cells (Lib.byteCells (List.replicate (sz + 1) 0)).toArray 5) = w1 at hH hk0 ⊢
  have HI : Hid (Holds w1 g (Lib.byteCells (fillN (ks.take 0) (8 * sz) kk (List.replicate sz 0) ++ [0])) 5 ∧ Kept (fun _ => False) w w1) := ⟨by
    rw [List.replicate_succ'] at hH
    exact hH, hk0⟩
  clear hH hk0 hmk hmk2 m0 m1 m2 m3 k0 k1 k2 s1
  have s81 : IntKind.i64.wrap ((sz : Int) + 1) = (sz : Int) + 1 := IntWalk.i64_in _ (by omega)
  go_wp2
  go_loopw [9] (fun i wr => ∃ j : Nat, j ≤ len ∧ i = .int .i64 (j : Int) ∧ Hid (Holds wr g (Lib.byteCells (fillN (ks.take j) (8 * sz) kk (List.replicate sz 0) ++ [0])) 5 ∧ Kept (fun _ => False) w wr)) (fun i _ => len - (intOf i).toNat)
  case atStart => exact ⟨0, Nat.zero_le _, rfl, HI⟩
  case round =>
    obtain ⟨j, hj, rfl, hI⟩ := hrel
    clear HI
    have j0 : (0 : Int) ≤ (j : Int) := by omega
    have hwj : IntKind.i64.wrap ((j : Int) + 1) = (j : Int) + 1 := IntWalk.i64_in _ (by omega)
    by_cases hlt : j < len
    · have hjk : j < ks.length := by rw [HST.out.1.1]; exact hlt
      obtain ⟨ba, oa, rfl, hba, hca⟩ : ∃ ba oa, ad = some ⟨ba, oa, none⟩ ∧ ba < w.heap.size ∧ w.cell? ⟨ba, oa + j, none⟩ = some (.string ⟨(ks[j]).toArray⟩) := by
        rcases HST.out.1.2 with h0 | ⟨ba, oa, h1, h2, h3⟩
        · rw [h0] at hjk; simp at hjk
        · exact ⟨ba, oa, h1, h2, h3 j hjk⟩
      have hft := fill_take ks (8 * sz) kk (List.replicate sz 0) hjk
      have hksl := HST.out.2 ks[j] (List.getElem_mem hjk)
      obtain ⟨key, hkey⟩ : ∃ key, key = ks[j] := ⟨_, rfl⟩
      rw [← hkey] at hca hft hksl
      obtain ⟨F0, hF0⟩ : ∃ F0, F0 = fillN (ks.take j) (8 * sz) kk (List.replicate sz 0) := ⟨_, rfl⟩
      have hF0l : F0.length = sz := by rw [hF0, fillN_length, List.length_replicate]
      rw [← hF0] at hft hI
      have HFT := Lib.hid (And.intro hft hF0l)
      have jn : (j : Int) < (len : Int) := by omega
      have HP := Lib.hid (fun (i : Nat) (hi : i ≤ 30) (W : World) => rPlace key i (8 * sz) W (by omega) hi (by omega) (by omega))
      have HCA : Hid (∀ W, Kept (fun _ => False) w W → W.cell? ⟨ba, oa + j, none⟩ = some (.string ⟨key.toArray⟩)) := fun W hk => (hk.cell (p := ⟨ba, oa + j, none⟩) hba (fun f => f)).trans hca
      have HI2 : Hid (Holds wr g (Lib.byteCells (markN key (8 * sz) 0 0 F0 ++ [0])) 5 ∧ Kept (fun _ => False) w wr) := hI
      clear hI hft hF0l hF0 hkey hca hba hjk hksl
      obtain ⟨wp, hwp⟩ : ∃ wp, wp = wr := ⟨_, rfl⟩
      rw [← hwp] at HI2 ⊢
      clear hwp
      go_wp2
      go_loopw [10] (fun i wr => ∃ q : Nat, q ≤ kk ∧ i = .int .i64 (q : Int) ∧ Hid (Holds wr g (Lib.byteCells (markN key (8 * sz) 0 q F0 ++ [0])) 5 ∧ Kept (fun _ => False) w wr)) (fun i _ => kk - (intOf i).toNat)
      case atStart => exact ⟨0, Nat.zero_le _, rfl, HI2⟩
      case round =>
        obtain ⟨q, hq, rfl, hI⟩ := hrel
        clear HI2
        have q0 : (0 : Int) ≤ (q : Int) := by omega
        have hwq : IntKind.i64.wrap ((q : Int) + 1) = (q : Int) + 1 := IntWalk.i64_in _ (by omega)
        by_cases hlq : q < kk
        · have qn : (q : Int) < (kk : Int) := by omega
          have hca := HCA.out wr hI.out.2
          have hPl := HP.out q (by omega) wr
          have hPm := placeN_lt key q (m := 8 * sz) (by omega)
          have hms := mark_succ key (8 * sz) q 0 F0
          rw [Nat.zero_add] at hms
          have hFl : (markN key (8 * sz) 0 q F0).length = sz := by rw [markN_length]; exact HFT.out.2
          obtain ⟨P, hP⟩ : ∃ P : Nat, P = placeN key q (8 * sz) := ⟨_, rfl⟩
          rw [← hP] at hPl hPm hms
          rw [show (((8 * sz : Nat)) : Int) = 8 * (sz : Int) from by omega] at hPl
          have HPl := Lib.hid hPl
          obtain ⟨Q, hQ⟩ : ∃ Q : Nat, Hid (Q = P / 8) := ⟨_, rfl⟩
          obtain ⟨R, hR⟩ : ∃ R : Nat, Hid (R = P % 8) := ⟨_, rfl⟩
          have hQl : Q < sz := by rw [hQ.out]; omega
          have hR8 : R < 8 := by rw [hR.out]; omega
          have hmin : min R 8 = R := by omega
          obtain ⟨F, hF⟩ : ∃ F, F = markN key (8 * sz) 0 q F0 := ⟨_, rfl⟩
          rw [← hF] at hI hms hFl
          have hQF : Q < F.length := by omega
          obtain ⟨c, hc⟩ : ∃ c, c = F[Q] := ⟨_, rfl⟩
          have hget : (Lib.byteCells (F ++ [0]))[Q]? = some (.int .u8 (c.toNat : Int)) := by
            unfold Lib.byteCells
            rw [List.getElem?_map, List.getElem?_append_left hQF, List.getElem?_eq_getElem hQF, ← hc]; rfl
          have c0 := hI.out.1.cell Q _ hget
          have f0 := hI.out.1.free Q
          obtain ⟨V, hV⟩ : ∃ V : Nat, Hid (V = c.toNat ||| 2 ^ R) := ⟨_, rfl⟩
          have hp2 : 2 ^ R < 256 := by have := Nat.pow_lt_pow_right (a := 2) (by omega) hR8; simpa using this
          have hV256 : V < 256 := by rw [hV.out]; exact or_byte_lt c.toNat_lt hR8
          have hor : bits .or .u8 (c.toNat : Int) ((2 : Int) ^ R % 256) = (V : Int) := by
            have e : (2 : Int) ^ R % 256 = ((2 ^ R : Nat) : Int) := by
              rw [show (2 : Int) ^ R = ((2 ^ R : Nat) : Int) from by simp, show (256 : Int) = ((256 : Nat) : Int) from rfl, ← Int.natCast_emod, Nat.mod_eq_of_lt hp2]
            rw [e, hV.out]; exact u8_or_nat _ _ c.toNat_lt hp2
          have hset : markN key (8 * sz) 0 (q + 1) F0 ++ [0] = (F ++ [0]).set Q (UInt8.ofNat V) := by
            rw [hms]
            unfold setB
            rw [← hQ.out, ← hR.out, List.set_append_left _ _ hQF, List.getD_eq_getElem?_getD, List.getElem?_eq_getElem hQF, Option.getD_some, ← hc, ← hV.out]
          have HNx : Hid (∀ W, Kept (fun _ => False) wr W → Holds (W.setCell ⟨g, Q, none⟩ (.int .u8 (V : Int))) g (Lib.byteCells (markN key (8 * sz) 0 (q + 1) F0 ++ [0])) 5 ∧ Kept (fun _ => False) w (W.setCell ⟨g, Q, none⟩ (.int .u8 (V : Int)))) := fun W hk => by
            refine ⟨?_, (hI.out.2.trans hk (fun _ f => f.elim)).setNew (p := ⟨g, Q, none⟩) (Nat.le_of_eq hg.out.symm) _⟩
            have h1 := (hI.out.1.of_block (hk.block g hI.out.1.lt (fun f => f))).set Q (.int .u8 (V : Int))
            rw [hset, ← bc_set, show ((UInt8.ofNat V).toNat : Int) = (V : Int) from by simp; omega]
            exact h1
          have d1 : (P : Int).tdiv 8 = (Q : Int) := by have := hQ.out; rw [Int.tdiv_eq_ediv_of_nonneg (by omega)]; omega
          have d2 : (P : Int).tmod 8 = (R : Int) := by have := hR.out; rw [Int.tmod_eq_emod_of_nonneg (by omega)]; omega
          have hQi : (Q : Int) < (sz : Int) + 1 := by omega
          have hQ0 : (0 : Int) ≤ (Q : Int) := by omega
          have hQi2 : (Q : Int) < ((sz + 1 : Nat) : Int) := by omega
          have hQi3 : Q < sz + 1 := by omega
          have hwQ : IntKind.i64.wrap (Q : Int) = (Q : Int) := IntWalk.i64_in _ (by omega)
          have hwR : IntKind.i64.wrap (R : Int) = (R : Int) := IntWalk.i64_in _ (by omega)
          clear hPl hget hset hms hFl hF hQF hc hP hQ hR hI hPm
          go_wp2_with fail
          refine HPl.out.mono ?_
          clear HPl
          rintro e wx ⟨rfl, rfl⟩
          go_upto_region 15 with (fail)
          go_still_tail 13, (by kernel_rfl)
          change wpList _ _ _ _ _ wr.drew
          have c0' : wr.drew.cell? ⟨g, Q, none⟩ = some (.int .u8 (c.toNat : Int)) := c0
          have f0' : wr.drew.frozen? ⟨g, Q, none⟩ = false := f0
          have HN2 : Hid (Holds ((wr.setCell ⟨g, Q, none⟩ (.int .u8 (V : Int))).drew) g (Lib.byteCells (markN key (8 * sz) 0 (q + 1) F0 ++ [0])) 5 ∧ Kept (fun _ => False) w ((wr.setCell ⟨g, Q, none⟩ (.int .u8 (V : Int))).drew)) := HNx.out wr.drew ((Kept.refl _ wr).drewN 1)
          clear HNx
          go_wp2
          go_roundw
          case rel => exact ⟨q + 1, by omega, by first | rfl | go_num, HN2⟩
          case measure => simp [intOf]; omega
        · obtain rfl : q = kk := by omega
          have qn : ¬(q : Int) < (q : Int) := by omega
          have HN2 : Hid (Holds wr g (Lib.byteCells (fillN (ks.take (j + 1)) (8 * sz) q (List.replicate sz 0) ++ [0])) 5 ∧ Kept (fun _ => False) w wr) := by
            show _ ∧ _
            rw [HFT.out.1]; exact hI.out
          clear hI hlq
          go_wp2
          go_roundw
          case rel => exact ⟨j + 1, by omega, by first | rfl | go_num, HN2⟩
          case measure => simp [intOf]; omega
    · obtain rfl : j = len := by omega
      have jn : ¬(j : Int) < (j : Int) := by omega
      have hall : ks.take j = ks := List.take_of_length_le (by rw [HST.out.1.1]; exact Nat.le_refl _)
      rw [hall] at hI
      obtain ⟨F, hF⟩ : ∃ F, F = fillN ks (8 * sz) kk (List.replicate sz 0) := ⟨_, rfl⟩
      have hFl : F.length = sz := by rw [hF, fillN_length, List.length_replicate]
      have HV2 : Hid (makeN ks (b : Int) = (F ++ [UInt8.ofNat kk], 0)) := by show _ = _; rw [hF]; exact HV.out
      rw [← hF] at hI
      have hget : (Lib.byteCells (F ++ [0]))[sz]? = some (.int .u8 0) := by
        unfold Lib.byteCells
        rw [List.getElem?_map, ← hFl, List.getElem?_append_right (Nat.le_refl _), Nat.sub_self]; rfl
      have c0 := hI.out.1.cell sz _ hget
      have f0 := hI.out.1.free sz
      have hset : (F ++ [0]).set sz (UInt8.ofNat kk) = F ++ [UInt8.ofNat kk] := by
        rw [← hFl, List.set_append_right _ _ (Nat.le_refl _), Nat.sub_self]; rfl
      have hk8 : (kk : Int) % 256 = (kk : Int) := by omega
      have hHN := hI.out.1.set sz (.int .u8 (kk : Int))
      have hcs : (Lib.byteCells (F ++ [0])).set sz (.int .u8 (kk : Int)) = Lib.byteCells (F ++ [UInt8.ofNat kk]) := by
        rw [← hset, ← bc_set, show (((UInt8.ofNat kk).toNat : Nat) : Int) = (kk : Int) from by simp; omega]
      rw [hcs] at hHN
      have hkN := hI.out.2.setNew (p := ⟨g, sz, none⟩) (Nat.le_of_eq hg.out.symm) (.int .u8 (kk : Int))
      have hconv := conv_holds (wr.setCell ⟨g, sz, none⟩ (.int .u8 (kk : Int))) g (sz + 1) (F ++ [UInt8.ofNat kk]) (sz + 1) (by rw [List.length_append, hFl]; rfl) hHN
      have HK := Lib.hid hkN
      obtain ⟨Z, hZ⟩ : ∃ Z, Hid (Z = F ++ [UInt8.ofNat kk]) := ⟨F ++ [UInt8.ofNat kk], rfl⟩
      rw [← hZ.out] at hconv HV2
      clear hI hall hF hFl hget hset hHN hkN hcs
      have z0 : (0 : Int) ≤ (sz : Int) := by omega
      have z1 : (sz : Int) < (sz : Int) + 1 := by omega
      go_wp2
      go_ret2
      exact ⟨by rw [HV2.out]; rfl, HK.out⟩

end Go.Proofs.Ytjhninkdpmdpbaa
