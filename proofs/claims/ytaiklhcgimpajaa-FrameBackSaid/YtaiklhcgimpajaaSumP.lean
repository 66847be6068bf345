/- The table's method sum, and frame.Sum: what they return. -/
import Derived.Test.YtaiklhcgimpajaaTab
import Derived.Deep.QuietTactic
import Derived.BigQuiet
namespace Go.Proofs.Ytaiklhcgimpajaa
open Go.RowKit Go.Proofs Go.Proofs.Pk
set_option maxRecDepth 10000
attribute [local simp] mk_get wrap64_u8 mk_extract ByteArray.mk_append_mk get_1k

theorem xor_u8c (a : Nat) (c : UInt8) (ha : a < 256) : ∃ d : UInt8, d.toNat = a ^^^ c.toNat ∧ bits .xor .u8 (a : Int) (c.toNat : Int) = (d.toNat : Int) := by
  have hc := c.toNat_lt
  have hx : a ^^^ c.toNat < 2 ^ 8 := Nat.xor_lt_two_pow (by omega) (by omega)
  have hd : (UInt8.ofNat (a ^^^ c.toNat)).toNat = a ^^^ c.toNat := by
    rw [UInt8.toNat_ofNat']; exact Nat.mod_eq_of_lt hx
  refine ⟨UInt8.ofNat (a ^^^ c.toNat), hd, ?_⟩
  rw [hd]
  have e1 : (BitVec.ofInt 8 (a : Int)).toNat = a := by
    rw [BitVec.ofInt_natCast, BitVec.toNat_ofNat]; exact Nat.mod_eq_of_lt (by omega)
  have e2 : (BitVec.ofInt 8 (c.toNat : Int)).toNat = c.toNat := by
    rw [BitVec.ofInt_natCast, BitVec.toNat_ofNat]; exact Nat.mod_eq_of_lt (by omega)
  show IntKind.u8.wrap ((BitVec.ofInt 8 (a : Int) ^^^ BitVec.ofInt 8 (c.toNat : Int)).toNat : Int) = _
  rw [BitVec.toNat_xor, e1, e2, IntKind.wrap_u8]
  omega

set_option maxHeartbeats 1000000 in
/-- The sum by a table that is there. -/
theorem pSumAt (g : Nat) (s : List UInt8) (w : World) (hs : (s.length : Int) ≤ 281474976710656) (hT : TabAt w g) :
    Calls Try.prog 24 #[.pointer (some ⟨g, 0, none⟩), .string ⟨s.toArray⟩] w fun e w' => e = .returned (.int .u32 (crcSum s)) ∧ ∃ n, w' = w.drewN n := by
  have HT := Lib.hid hT
  clear hT
  go_enter Try.func24, Try.ntmps24
  go_wp2
  go_loopw [5, 9] (fun v i wr => ∃ k : Nat, k ≤ s.length ∧ v = .int .u32 (crcRun 4294967295 (s.take k)) ∧ i = .int .i64 k ∧ Hid (∃ n, wr = w.drewN n)) (fun _ i _ => s.length - (intOf i).toNat)
  case atStart => exact ⟨0, by omega, rfl, rfl, ⟨0, rfl⟩⟩
  case round =>
    obtain ⟨k, hk, rfl, rfl, hd⟩ := hrel
    have hh : Hid (Holds wr g tabC 62) := by
      obtain ⟨n, rfl⟩ := hd.out
      exact HT.out
    obtain ⟨x, hx⟩ : ∃ x, x = crcRun 4294967295 (s.take k) := ⟨_, rfl⟩
    rw [← hx]
    have hx0 : x < 4294967296 := hx ▸ crcRun_lt _ _ (by omega)
    by_cases hlt : (k : Int) < s.length
    · have hkl : k < s.length := by omega
      have hc8 := (s[k]).toNat_lt
      obtain ⟨y, hy, hyx0⟩ := xor_u8c (x % 256) (s[k]) (by omega)
      have hyx : bits .xor .u8 ((x : Int) % 256) ((s[k]).toNat : Int) = (y.toNat : Int) := hyx0
      clear hyx0
      have hcell := hh.out.cell y.toNat _ (tabF_get (stk 8) y.toNat y.toNat_lt)
      have hz0 := stk_lt 8 y.toNat (by have := y.toNat_lt; omega)
      have hx2 : bits .xor .u32 ((stk 8 y.toNat : Nat) : Int) ((x : Int) / 256) = ((stk 8 y.toNat ^^^ x / 256 : Nat) : Int) := xor_u32 (stk 8 y.toNat) (x / 256) hz0 (by omega)
      have HN : Hid (stk 8 y.toNat ^^^ x / 256 = crcRun 4294967295 (s.take (k + 1))) := by
        show stk 8 y.toNat ^^^ x / 256 = _
        rw [List.take_succ_eq_append_getElem hkl, crcRun_snoc, ← hx, crcUp_table, hy]
      have hyl : (y.toNat : Int) < 256 := by have := y.toNat_lt; omega
      clear hx hy
      go_wp2_with fail
      go_quiet (fail)
      go_wp2
      go_roundw
      case rel =>
        refine ⟨k + 1, by omega, by rw [HN.out], by go_num, ?_⟩
        obtain ⟨n, hn⟩ := hd.out
        exact ⟨n + nq, by rw [hn, World.drewN_drewN]⟩
      case measure => simp [intOf]; omega
    · have hks : k = s.length := by omega
      have HX : Hid (crcSum s = x ^^^ 4294967295) := by
        show crcSum s = _
        rw [hx, hks, List.take_length]; rfl
      have e1 := xor_u32F x hx0
      have e2 : bits .xor .u32 IntKind.u32.max (x : Int) = ((x ^^^ 4294967295 : Nat) : Int) := by
        have := xor_u32 4294967295 x (by omega) hx0
        rw [Nat.xor_comm] at this; exact this
      clear hx hks
      go_wp2
      go_ret
      exact ⟨ret_int (by rw [HX.out]), hd.out⟩

theorem pSumAtB (g : Nat) (s : List UInt8) (w : World) (hs : (s.length : Int) ≤ 281474976710656) (hT : TabAt w g) :
    Calls Try.prog 24 #[.pointer (some ⟨g, 0, none⟩), .string ⟨s.toArray⟩] w fun e w' => e = .returned (.int .u32 (crcSum s)) ∧ Below w.heap.size w w' :=
  (pSumAt g s w hs hT).mono fun _ _ ⟨he, n, hn⟩ => ⟨he, by rw [hn]; exact belowN (Below.refl _ _) n⟩

theorem TabAt.below {w w' : World} {g : Nat} (h : TabAt w g) (hb : Below w.heap.size w w') : TabAt w' g := Holds.of_block h (hb.block g h.lt)

set_option maxHeartbeats 400000 in
theorem pSum (s : List UInt8) (w : World) (hs : (s.length : Int) ≤ 281474976710656) :
    Calls Try.prog 12 #[.string ⟨s.toArray⟩] w fun e w' => e = .returned (.int .u32 (crcSum s)) ∧ Below w.heap.size w w' := by
  have HT := Lib.hid (fun w => pTable w)
  have HS := Lib.hid (fun g w h => pSumAtB g s w hs h)
  go_enter Try.func12, Try.ntmps12
  go_wp2_with fail
  refine (HT.out _).mono ?_
  rintro e w1 ⟨g, hg, rfl, ht, b1⟩
  have HA := Lib.hid ht
  clear ht hg
  go_wp2_with fail
  refine (HS.out g _ ?_).mono ?_
  · exact HA.out
  rintro e w2 ⟨rfl, b2⟩
  go_wp2
  go_ret
  exact ⟨rfl, belowT b1 b2⟩

end Go.Proofs.Ytaiklhcgimpajaa
