/- The program of layer 11: Make, whose loop over the keys holds a loop over the function of positions. -/
import Derived.Test.YtjhninkdpmdpbaaRy11
import Derived.Test.YtjhninkdpmdpbaaRBk
import Derived.Test.YtjhninkdpmdpbaaRnd
namespace Go.Proofs.Ytjhninkdpmdpbaa
open Go.RowKit Go.Shelf Go.Proofs Go.Proofs.Pk
set_option maxRecDepth 10000
attribute [local simp] mk_get wrap64_u8 mk_extract ByteArray.mk_append_mk get_1k
attribute [local go_sem] Oper.semAt_some

/-- What Make answers. -/
def MkP (w : World) (r : TxtB × Nat) (e : Ending) (w' : World) : Prop := e = .returned (.tuple #[.string ⟨r.1.toArray⟩, errV 38 r.2]) ∧ Kept (fun _ => False) w w'
/-- The marks that the loops over the function leave. -/
def marksD (Ds : List Nat) : List Deferred := Ds.map fun D => { target := .collected D, args := #[] }
/-- What holds between two keys: the filter so far, nothing else turned, the box of the filter's slice, the marks' blocks. -/
def MkI (w : World) (g sz : Nat) (F : TxtB) (Ds : List Nat) (W : World) : Prop :=
  Holds W g (Lib.byteCells (F ++ [0])) 5 ∧ Kept (fun _ => False) w W ∧ W.cell? ⟨g + 1, 0, none⟩ = some (.slice (some ⟨g, 0, none⟩) (sz + 1) (sz + 1)) ∧ g + 2 ≤ W.heap.size ∧ Ds.Nodup ∧ ∀ D ∈ Ds, w.heap.size ≤ D ∧ W.heap[D]? = some (.deferred (some []))
theorem leave_marks {n : Nat} {P : Program} {fn : Func} {tmps : Array Value} {R : Ending → World → Prop} (w : World) (hR : ∀ W, Kept (fun _ => False) w W → LeavesIn Fence.wide n P fn tmps R [] .returning W) :
    ∀ (Ds : List Nat) (W : World), Kept (fun _ => False) w W → Ds.Nodup → (∀ D ∈ Ds, w.heap.size ≤ D ∧ W.heap[D]? = some (.deferred (some []))) → LeavesInM Fence.wide n P fn tmps R (marksD Ds) .returning W
  | [], W, hk, _, _ => hR W hk
  | D :: Ds, W, hk, hn, hD => by
    obtain ⟨h1, h2⟩ := hD D (by simp)
    rw [List.nodup_cons] at hn
    refine ⟨by simp, .inl ⟨D, _, rfl, run_takeDeferred h2, ?_⟩⟩
    refine leave_marks w hR Ds _ (kept_grown hk (grownBy_putObj' W D (.deferred none)) (fun b e => by cases e; exact .inr h1)) hn.2 (fun E hE => ⟨(hD E (by simp [hE])).1, ?_⟩)
    exact (World.putObj_heap_other (fun e => hn.1 (by first | (rw [e]; exact hE) | (rw [← e]; exact hE)))).trans (hD E (by simp [hE])).2
/-- What holds in the midst of a key. -/
def InI (w2 : World) (g : Nat) (F : TxtB) (W : World) : Prop := Holds W g (Lib.byteCells (F ++ [0])) 5 ∧ Kept (fun x => x = g) w2 W
/-- The positions that have come, set. -/
def setAll {m : Nat} (l : TxtB) (pre : List { p : Nat // p < m }) : TxtB := pre.foldl (fun l x => setB l x.1) l
theorem inI_own {w2 : World} {g m : Nat} {F0 : TxtB} (hg : g < w2.heap.size) : OwnFrom w2.heap.size (fun (pre : List { p : Nat // p < m }) W => InI w2 g (setAll F0 pre) W) :=
  fun _ _ _ _ hs hgr hr => ⟨hs.1.of_block (hgr.block g hs.1.lt (fun e => by have := (hr g e.symm).1; omega)), kept_grown hs.2 hgr (fun b e => .inr (hr b e).1)⟩
theorem setAll_snoc {m : Nat} (l : TxtB) (pre : List { p : Nat // p < m }) (x : { p : Nat // p < m }) : setAll l (pre ++ [x]) = setB (setAll l pre) x.1 := by simp [setAll]
theorem setAll_length {m : Nat} : ∀ (pre : List { p : Nat // p < m }) (l : TxtB), (setAll l pre).length = l.length
  | [], _ => rfl
  | x :: pre, l => by show (setAll (setB l x.1) pre).length = _; rw [setAll_length pre, setB_length]
theorem setAll_upto (k : TxtB) {m : Nat} (hm : 0 < m) (l : TxtB) : ∀ n, setAll l (uptoP k m hm n) = markN k m 0 n l
  | 0 => rfl
  | n + 1 => by rw [uptoP_succ, setAll_snoc, setAll_upto k hm l n, mark_succ, Nat.zero_add]

set_option maxHeartbeats 4000000 in
theorem pMake (ad : Option Addr) (len cap : Nat) (ks : List TxtB) (bits : Int) (w : World) (h : Strs w ad len ks) (hs : ∀ s ∈ ks, s.length ≤ 140737488351232) (hb : -9223372036854775808 ≤ bits ∧ bits ≤ 9223372036854775807) (hl : (len : Int) ≤ 140737488351232) :
    Calls Try.prog 9 #[.slice ad len cap, .int .i64 bits] w (MkP w (makeN ks bits)) := by
  have hlen := h.1
  by_cases h1 : bits < 1
  · have HV : Hid (makeN ks bits = ([], 1)) := by show _ = _; unfold makeN; rw [if_pos (.inl h1)]
    rw [HV.out]
    go_enter Try.func9, Try.ntmps9
    go_wp2
    go_ret2
    exact ⟨rfl, Kept.refl _ _⟩
  by_cases h2 : 20 < bits
  · have HV : Hid (makeN ks bits = ([], 1)) := by show _ = _; unfold makeN; rw [if_pos (.inr h2)]
    rw [HV.out]
    go_enter Try.func9, Try.ntmps9
    go_wp2
    go_ret2
    exact ⟨rfl, Kept.refl _ _⟩
  by_cases h3 : (2000 : Int) < (len : Int)
  · have HV : Hid (makeN ks bits = ([], 5)) := by show _ = _; unfold makeN; rw [if_neg (by omega), if_pos (by omega)]
    rw [HV.out]
    go_enter Try.func9, Try.ntmps9
    go_wp2
    go_ret2
    exact ⟨rfl, Kept.refl _ _⟩
  obtain ⟨b, rfl⟩ := Int.eq_ofNat_of_zero_le (show 0 ≤ bits by omega)
  obtain ⟨sz, hsz⟩ : ∃ sz : Nat, sz = sizeB len b := ⟨_, rfl⟩
  obtain ⟨kk, hkk⟩ : ∃ kk : Nat, kk = manyB b := ⟨_, rfl⟩
  have hks := manyB_in (bits := b) (by omega) (by omega)
  rw [← hkk] at hks
  have HV : Hid (makeN ks (b : Int) = (fillN ks (8 * sz) kk (List.replicate sz 0) ++ [UInt8.ofNat kk], 0)) := by
    show _ = _
    unfold makeN; rw [if_neg (by omega), if_neg (by omega), Int.toNat_natCast, hlen, ← hsz, ← hkk]
  have hlb : len * b ≤ 40000 := Nat.mul_le_mul (show len ≤ 2000 by omega) (show b ≤ 20 by omega)
  obtain ⟨M0, hM0⟩ : ∃ M0 : Nat, M0 = len * b := ⟨_, rfl⟩
  rw [← hM0] at hlb
  have m0 : IntKind.i64.wrap ((len : Int) * (b : Int)) = (M0 : Int) := by rw [← Int.natCast_mul, ← hM0]; exact IntWalk.i64_in _ (by omega)
  have m1 : max 64 (M0 : Int) = ((max 64 M0 : Nat) : Int) := by omega
  have hsz8 : (max 64 M0 + 7) / 8 = sz := by rw [hsz, hM0]; rfl
  obtain ⟨M1, hM1⟩ : ∃ M1 : Nat, M1 = max 64 M0 := ⟨_, rfl⟩
  rw [← hM1] at m1 hsz8
  have m2 : IntKind.i64.wrap ((M1 : Int) + 7) = (M1 : Int) + 7 := IntWalk.i64_in _ (by omega)
  have m3 : ((M1 : Int) + 7).tdiv 8 = (sz : Int) := by rw [Int.tdiv_eq_ediv_of_nonneg (by omega)]; omega
  have hszb : 8 ≤ sz ∧ sz ≤ 5001 := by omega
  have k0 : IntKind.i64.wrap ((b : Int) * 69) = (b : Int) * 69 := IntWalk.i64_in _ (by omega)
  have k1 : ((b : Int) * 69).tdiv 100 = ((b * 69 / 100 : Nat) : Int) := by rw [Int.tdiv_eq_ediv_of_nonneg (by omega)]; omega
  obtain ⟨K0, hK0⟩ : ∃ K0 : Nat, K0 = b * 69 / 100 := ⟨_, rfl⟩
  rw [← hK0] at k1
  have k2 : max 1 (K0 : Int) = (kk : Int) := by rw [hkk]; unfold manyB; omega
  have s1 : IntKind.i64.wrap ((sz : Int) + 1) = (sz : Int) + 1 := IntWalk.i64_in _ (by omega)
  have s8 : IntKind.i64.wrap (8 * (sz : Int)) = 8 * (sz : Int) := IntWalk.i64_in _ (by omega)
  have s8 : IntKind.i64.wrap ((sz : Int) * 8) = ((8 * sz : Nat) : Int) := by rw [IntWalk.i64_in _ (by omega)]; omega
  have HST := Lib.hid (And.intro h hs)
  have hl2 : len ≤ 2000 := by omega
  have hmk : (Instr.makeSlice 36 (.int .i64 ((sz : Int) + 1)) (.int .i64 ((sz : Int) + 1))).run Try.prog w = .ok (.slice (some ⟨w.heap.size, 0, none⟩) (sz + 1) (sz + 1)) (w.alloc (.cells (Lib.byteCells (List.replicate (sz + 1) 0)).toArray 5)) := run_make_bytesB (sz + 1) (by omega) w
  obtain ⟨w1, hw1⟩ : ∃ w1, Hid (w1 = w.alloc (.cells (Lib.byteCells (List.replicate (sz + 1) 0)).toArray 5)) := ⟨_, rfl⟩
  rw [← hw1.out] at hmk
  clear h hs hsz hM0 hM1 hK0 hsz8 hkk hb hl hlen hlb
  refine (callsIn_wide (n := 8)).1 ?_
  refine callsIn_of_wp_marks Try.func9 rfl trivial ?_ rfl
  simp only [Try.ntmps9, List.size_toArray, List.length_cons, List.length_nil, Nat.reduceAdd, Nat.reduceSub, Array.replicate_succ, Array.replicate_zero, List.push_toArray, List.append_toArray, List.nil_append, List.cons_append]
  gi_wp2_with (fail)
  obtain ⟨g, hg⟩ : ∃ g, Hid (g = w.heap.size) := ⟨_, rfl⟩
  obtain ⟨B8, hB8⟩ : ∃ B8, Hid (B8 = w1.heap.size) := ⟨_, rfl⟩
  have hz1 : B8 = g + 1 := by rw [hB8.out, hw1.out, hg.out]; simp
  have cb := cell_fz w1 (.slice (some ⟨g, 0, none⟩) (sz + 1) (sz + 1)) 36
  have hH := Holds.new w (Lib.byteCells (List.replicate (sz + 1) 0)) 5
  have hk0 := (Kept.refl (fun _ => False) w).alloc (.cells (Lib.byteCells (List.replicate (sz + 1) 0)).toArray 5)
  rw [← hw1.out] at hH hk0
  rw [← hg.out] at hH
  have hH1 := hH.alloc (.cells #[.slice (some ⟨g, 0, none⟩) (sz + 1) (sz + 1)] 36)
  have hk1 := hk0.alloc (.cells #[.slice (some ⟨g, 0, none⟩) (sz + 1) (sz + 1)] 36)
  rw [← hB8.out] at cb
  rw [← hg.out, ← hB8.out]
  have hz3 : (w1.alloc (.cells #[.slice (some ⟨g, 0, none⟩) (sz + 1) (sz + 1)] 36)).heap.size = g + 2 := by rw [World.size_alloc, ← hB8.out, hz1]
  subst hz1
  generalize w1.alloc (.cells #[.slice (some ⟨g, 0, none⟩) (sz + 1) (sz + 1)] 36) = w3 at cb hH1 hk1 hz3 ⊢
  have HI : Hid (MkI w g sz (fillN (ks.take 0) (8 * sz) kk (List.replicate sz 0)) [] w3) := ⟨(by
    rw [List.replicate_succ'] at hH1
    exact hH1), hk1, cb.1, Nat.le_of_eq hz3.symm, List.nodup_nil, fun _ h => (by cases h)⟩
  clear hH hk0 hH1 hk1 cb hmk hw1 m0 m1 m2 m3 k0 k1 k2
  refine wpIn_loop (fun a W => ∃ (j : Nat) (Ds : List Nat) (u10 u11 u40 u41 u42 u43 u44 u45 u46 u47 u48 u49 u50 u51 u52 u53 u54 u55 u56 u57 u58 : Value), (j ≤ len ∧ Hid (MkI w g sz (fillN (ks.take j) (8 * sz) kk (List.replicate sz 0)) Ds W)) ∧ a = { tmps := #[.slice ad len cap, .int .i64 (b : Int), undef, undef, .string ⟨#[]⟩, .nilIface, .int .i64 (sz : Int), .int .i64 (kk : Int), .pointer (some ⟨g + 1, 0, none⟩), undef, u10, u11, .int .i64 (b : Int), .bool false, .bool false, .int .i64 (b : Int), .bool false, .bool false, undef, .slice ad len cap, .int .i64 (len : Int), .bool false, undef, .slice ad len cap, .int .i64 (len : Int), .int .i64 (b : Int), .int .i64 (M0 : Int), .int .i64 (M1 : Int), .int .i64 ((M1 : Int) + 7), .int .i64 (sz : Int), .int .i64 (b : Int), .int .i64 ((b : Int) * 69), .int .i64 (K0 : Int), .int .i64 (kk : Int), .int .i64 (sz : Int), .int .i64 ((sz : Int) + 1), .slice (some ⟨g, 0, none⟩) (sz + 1) (sz + 1), .slice ad len cap, .int .i64 (len : Int), .int .i64 (j : Int), u40, u41, u42, u43, u44, u45, u46, u47, u48, u49, u50, u51, u52, u53, u54, u55, u56, u57, u58, undef, undef, undef, undef, undef, undef, undef], defers := marksD Ds }) (fun a _ => len - (intOf (a.tmps.getD 39 undef)).toNat) ?start ?round
  case start =>
    refine ⟨0, [], ?_⟩
    repeat apply Exists.intro
    refine ⟨⟨Nat.zero_le _, HI⟩, rfl⟩
  case round =>
    rintro a wr ⟨j, Ds, u10, u11, u40, u41, u42, u43, u44, u45, u46, u47, u48, u49, u50, u51, u52, u53, u54, u55, u56, u57, u58, ⟨hj, hI⟩, rfl⟩
    clear HI
    have j0 : (0 : Int) ≤ (j : Int) := by omega
    have hwj : IntKind.i64.wrap ((j : Int) + 1) = (j : Int) + 1 := IntWalk.i64_in _ (by omega)
    by_cases hlt : j < len
    · have jn : (j : Int) < (len : Int) := by omega
      have hjk : j < ks.length := by rw [HST.out.1.1]; exact hlt
      obtain ⟨ba, oa, rfl, hba, hca⟩ : ∃ ba oa, ad = some ⟨ba, oa, none⟩ ∧ ba < w.heap.size ∧ w.cell? ⟨ba, oa + j, none⟩ = some (.string ⟨(ks[j]).toArray⟩) := by
        rcases HST.out.1.2 with h0 | ⟨ba, oa, h1, h2, h3⟩
        · rw [h0] at hjk; simp at hjk
        · exact ⟨ba, oa, h1, h2, h3 j hjk⟩
      have hft := fill_take ks (8 * sz) kk (List.replicate sz 0) hjk
      have hksl := HST.out.2 ks[j] (List.getElem_mem hjk)
      obtain ⟨key, hkey⟩ : ∃ key, key = ks[j] := ⟨_, rfl⟩
      rw [← hkey] at hca hft hksl
      obtain ⟨F0, hF0⟩ : ∃ F0, F0 = fillN (ks.take j) (8 * sz) kk (List.replicate sz 0) := ⟨_, rfl⟩
      have hF0l : F0.length = sz := by rw [hF0, fillN_length, List.length_replicate]
      rw [← hF0] at hft hI
      have HFT := Lib.hid (And.intro hft hF0l)
      have hca1 := (hI.out.2.1.cell (p := ⟨ba, oa + j, none⟩) hba (fun f => f)).trans hca
      have hM0 : 0 < 8 * sz := by omega
      have hM2 : 8 * sz ≤ 2251799813685248 := by omega
      obtain ⟨M, hM⟩ : ∃ M : Nat, Hid (M = 8 * sz) := ⟨_, rfl⟩
      rw [← hM.out] at s8 hM0 hM2
      have HPP := Lib.hid (fun W : World => posP key sz kk W)
      have hkl : (key.length : Int) ≤ 140737488351232 := by omega
      clear hft hF0l hF0 hkey hca hba hjk hksl
      gi_wp2_with (refine ⟨trivial, ?_⟩; gi_at_call 16; refine (callsIn_wide.2 (HPP.out _)).mono ?_; rintro e w2 ⟨rfl, hP2, hB2, hZ2⟩)
      have hgw : g < wr.heap.size := hI.out.1.lt
      have hg2 := hI.out.2.2.2.1
      have hH2 := hI.out.1.of_block (hB2.block g hgw)
      have hb2 := (hB2.cell (p := ⟨g + 1, 0, none⟩) (show g + 1 < wr.heap.size by omega)).trans hI.out.2.2.1
      refine wpIn_rangeFunc_ownF rfl (by decide) (gf := 18) (lb := #[.pointer (some ⟨wr.heap.size, 0, none⟩), .pointer (some ⟨wr.heap.size + 2, 0, none⟩), .pointer (some ⟨wr.heap.size + 1, 0, none⟩)]) rfl trivial (enters_of Try.func18 (by kernel_rfl) rfl)
        (pos_stops 7 (by decide) wr.heap.size key kk sz M hkl hM0 hM2 hM.out (by omega) w2 (by omega) hP2) KpB.trans (KpB.putObj (by omega)) (Below.refl _ _) (fun _ => rfl)
        (fun pre W => InI w2 g (setAll F0 pre) W) (fun _ _ _ => False) (inI_own (by omega)) (fun _ _ _ _ _ hs _ _ => hs) ⟨hH2, Kept.refl _ _⟩ ?a1 ?assign ?body ?done ?stop
      case assign =>
        intro l x W K hK
        gi_wp2
        exact hK
      case body =>
        rintro l pre ⟨P, hPM⟩ W hI2 _
        obtain ⟨F, hF⟩ : ∃ F, F = setAll F0 pre := ⟨_, rfl⟩
        have hFl : F.length = sz := by rw [hF, setAll_length]; exact HFT.out.2
        have hMz := hM.out
        obtain ⟨Q, hQ⟩ : ∃ Q : Nat, Hid (Q = P / 8) := ⟨_, rfl⟩
        obtain ⟨R, hR⟩ : ∃ R : Nat, Hid (R = P % 8) := ⟨_, rfl⟩
        have hQl : Q < sz := by rw [hQ.out]; omega
        have hR8 : R < 8 := by rw [hR.out]; omega
        have hmin : min R 8 = R := by omega
        rw [← hF] at hI2
        have hQF : Q < F.length := by omega
        obtain ⟨c, hc⟩ : ∃ c, c = F[Q] := ⟨_, rfl⟩
        have hget : (Lib.byteCells (F ++ [0]))[Q]? = some (.int .u8 (c.toNat : Int)) := by
          unfold Lib.byteCells
          rw [List.getElem?_map, List.getElem?_append_left hQF, List.getElem?_eq_getElem hQF, ← hc]; rfl
        have c0 := hI2.1.cell Q _ hget
        have f0 := hI2.1.free Q
        have cb := (hI2.2.cell (p := ⟨g + 1, 0, none⟩) (show g + 1 < w2.heap.size by omega) (show ¬g + 1 = g by omega)).trans hb2
        obtain ⟨V, hV⟩ : ∃ V : Nat, Hid (V = c.toNat ||| 2 ^ R) := ⟨_, rfl⟩
        have hp2 : 2 ^ R < 256 := by have := Nat.pow_lt_pow_right (a := 2) (by omega) hR8; simpa using this
        have hV256 : V < 256 := by rw [hV.out]; exact or_byte_lt c.toNat_lt hR8
        have hor : bits .or .u8 (c.toNat : Int) ((2 : Int) ^ R % 256) = (V : Int) := by
          have e : (2 : Int) ^ R % 256 = ((2 ^ R : Nat) : Int) := by
            rw [show (2 : Int) ^ R = ((2 ^ R : Nat) : Int) from by simp, show (256 : Int) = ((256 : Nat) : Int) from rfl, ← Int.natCast_emod, Nat.mod_eq_of_lt hp2]
          rw [e, hV.out]; exact u8_or_nat _ _ c.toNat_lt hp2
        have hset : setAll F0 (pre ++ [⟨P, hPM⟩]) ++ [0] = (F ++ [0]).set Q (UInt8.ofNat V) := by
          rw [setAll_snoc, ← hF]
          unfold setB
          rw [← hQ.out, ← hR.out, List.set_append_left _ _ hQF, List.getD_eq_getElem?_getD, List.getElem?_eq_getElem hQF, Option.getD_some, ← hc, ← hV.out]
        have HN : Hid (InI w2 g (setAll F0 (pre ++ [⟨P, hPM⟩])) ((W.setCell ⟨g, Q, none⟩ (.int .u8 (V : Int))).drew)) := by
          refine ⟨?_, (hI2.2.setCell (p := ⟨g, Q, none⟩) rfl _).drewN 1⟩
          have h1 := hI2.1.set Q (.int .u8 (V : Int))
          rw [hset, ← bc_set, show ((UInt8.ofNat V).toNat : Int) = (V : Int) from by simp; omega]
          exact h1
        have HKp : Hid (KpB wr.heap.size W ((W.setCell ⟨g, Q, none⟩ (.int .u8 (V : Int))).drew)) := fun b h1 _ => Below.heap_setCell _ _ _ _ (show b ≠ g by omega)
        have d1 : (P : Int).tdiv 8 = (Q : Int) := by have := hQ.out; rw [Int.tdiv_eq_ediv_of_nonneg (by omega)]; omega
        have d2 : (P : Int).tmod 8 = (R : Int) := by have := hR.out; rw [Int.tmod_eq_emod_of_nonneg (by omega)]; omega
        have hQi : (Q : Int) < (sz : Int) + 1 := by omega
        have hQ0 : (0 : Int) ≤ (Q : Int) := by omega
        have hQi2 : (Q : Int) < ((sz + 1 : Nat) : Int) := by omega
        have hQi3 : Q < sz + 1 := by omega
        have hwQ : IntKind.i64.wrap (Q : Int) = (Q : Int) := IntWalk.i64_in _ (by omega)
        have hwR : IntKind.i64.wrap (R : Int) = (R : Int) := IntWalk.i64_in _ (by omega)
        clear hget hset hFl hF hQF hc hQ hR hI2 hMz
        gi_wp2_with (fail)
        refine still_round 10 (by kernel_rfl) (by kernel_rfl) (by kernel_rfl) ?_
        simp only [List.take_succ_cons, List.take_zero, List.drop_succ_cons, List.drop_zero]
        repeat still_step
        try refine wpStill_nil ?_
        change wpList _ _ _ _ _ W.drew
        have c0' : W.drew.cell? ⟨g, Q, none⟩ = some (.int .u8 (c.toNat : Int)) := c0
        have f0' : W.drew.frozen? ⟨g, Q, none⟩ = false := f0
        go_wp2
        show _ ∧ _ ∧ _
        rw [hor]
        exact ⟨(KeepsOthers.setCell _ _ _).trans (KeepsOthers.drew _), HKp.out, HN.out⟩
      case done =>
        rintro D ys W hD rfl hI3 hK
        have hHW := hI3.1
        rw [setAll_upto, hM.out, ← HFT.out.1] at hHW
        have HN : Hid (MkI w g sz (fillN (ks.take (j + 1)) (8 * sz) kk (List.replicate sz 0)) (D :: Ds) W) := by
          obtain ⟨_, q2, q3, q4, q5, q6⟩ := hI.out
          have hlt2 : ∀ E ∈ Ds, E < wr.heap.size := fun E hE => (Array.getElem?_eq_some_iff.1 (q6 E hE).2).1
          refine ⟨hHW, ((q2.trans (Kept.of_below (fun _ => False) hB2) (fun _ h => h.elim)).trans hI3.2 (fun n hn => .inr (by rw [hn, hg.out]; exact Nat.le_refl _))), (hI3.2.cell (p := ⟨g + 1, 0, none⟩) (show g + 1 < w2.heap.size by omega) (show ¬g + 1 = g by omega)).trans hb2, by have := hI3.2.size; omega, List.nodup_cons.2 ⟨fun hE => by have := hlt2 D hE; omega, q5⟩, ?_⟩
          intro E hE
          rcases List.mem_cons.1 hE with rfl | hE
          · exact ⟨by have := q2.size; omega, hK⟩
          · have h1 := hlt2 E hE
            obtain ⟨h2, h3⟩ := q6 E hE
            refine ⟨h2, (hI3.2.block E (by omega) (fun e => ?_)).trans ((hB2.block E h1).trans h3)⟩
            have h4 := hI.out.1
            unfold Holds at h4
            rw [show g = E from e.symm, h3] at h4
            cases h4
        clear hI hI3 hHW hK hH2 hb2
        gi_wp2_with (fail)
        refine ⟨⟨j + 1, D :: Ds, ?_⟩, ?_⟩
        · repeat apply Exists.intro
          exact ⟨⟨by omega, HN⟩, rfl⟩
        · show len - ((j : Int) + 1).toNat < len - (j : Int).toNat
          omega
      case stop =>
        rintro D c pre W _ _ h _
        exact h.elim
    · obtain rfl : j = len := by omega
      have jn : ¬(j : Int) < (j : Int) := by omega
      have hall : ks.take j = ks := List.take_of_length_le (by rw [HST.out.1.1]; exact Nat.le_refl _)
      rw [hall] at hI
      obtain ⟨F, hF⟩ : ∃ F, F = fillN ks (8 * sz) kk (List.replicate sz 0) := ⟨_, rfl⟩
      have hFl : F.length = sz := by rw [hF, fillN_length, List.length_replicate]
      have HV2 : Hid (makeN ks (b : Int) = (F ++ [UInt8.ofNat kk], 0)) := by show _ = _; rw [hF]; exact HV.out
      rw [← hF] at hI
      have hget : (Lib.byteCells (F ++ [0]))[sz]? = some (.int .u8 0) := by
        unfold Lib.byteCells
        rw [List.getElem?_map, ← hFl, List.getElem?_append_right (Nat.le_refl _), Nat.sub_self]; rfl
      have c0 := hI.out.1.cell sz _ hget
      have f0 := hI.out.1.free sz
      have cb := hI.out.2.2.1
      have hset : (F ++ [0]).set sz (UInt8.ofNat kk) = F ++ [UInt8.ofNat kk] := by
        rw [← hFl, List.set_append_right _ _ (Nat.le_refl _), Nat.sub_self]; rfl
      have hk8 : (kk : Int) % 256 = (kk : Int) := by omega
      have hHN := hI.out.1.set sz (.int .u8 (kk : Int))
      have hcs : (Lib.byteCells (F ++ [0])).set sz (.int .u8 (kk : Int)) = Lib.byteCells (F ++ [UInt8.ofNat kk]) := by
        rw [← hset, ← bc_set, show (((UInt8.ofNat kk).toNat : Nat) : Int) = (kk : Int) from by simp; omega]
      rw [hcs] at hHN
      have hkN := hI.out.2.1.setNew (p := ⟨g, sz, none⟩) (Nat.le_of_eq hg.out.symm) (.int .u8 (kk : Int))
      have hconv := conv_holds (wr.setCell ⟨g, sz, none⟩ (.int .u8 (kk : Int))) g (sz + 1) (F ++ [UInt8.ofNat kk]) (sz + 1) (by rw [List.length_append, hFl]; rfl) hHN
      have HK := Lib.hid hkN
      have HDs : Hid (Ds.Nodup ∧ ∀ D ∈ Ds, w.heap.size ≤ D ∧ (wr.setCell ⟨g, sz, none⟩ (.int .u8 (kk : Int))).heap[D]? = some (.deferred (some []))) := by
        obtain ⟨h4, _, _, _, h5, h6⟩ := hI.out
        refine ⟨h5, fun E hE => ⟨(h6 E hE).1, (Below.heap_setCell _ _ _ _ (fun e => ?_)).trans (h6 E hE).2⟩⟩
        have h3 := (h6 E hE).2
        unfold Holds at h4
        rw [show g = E from e.symm, h3] at h4
        cases h4
      obtain ⟨Z, hZ⟩ : ∃ Z, Hid (Z = F ++ [UInt8.ofNat kk]) := ⟨F ++ [UInt8.ofNat kk], rfl⟩
      rw [← hZ.out] at hconv HV2
      clear hI hall hF hFl hget hset hHN hkN hcs
      have z0 : (0 : Int) ≤ (sz : Int) := by omega
      have z1 : (sz : Int) < (sz : Int) + 1 := by omega
      have hne : ¬g + 1 = g := by omega
      gi_wp2_with (fail)
      refine leave_marks w (fun W hk => ?_) Ds _ HK.out HDs.out.1 HDs.out.2
      refine ⟨.tuple #[.string ⟨Z.toArray⟩, .nilIface], ?_, by rw [HV2.out]; rfl, hk⟩
      simp [results, Try.f9, go_sem]

end Go.Proofs.Ytjhninkdpmdpbaa
