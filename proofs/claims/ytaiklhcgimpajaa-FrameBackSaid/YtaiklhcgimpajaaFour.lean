/- The reference's four: what it returns. -/
import Derived.Test.YtaiklhcgimpajaaSumR
import Derived.Test.YtaiklhcgimpajaaRefN
namespace Go.Proofs.Ytaiklhcgimpajaa
open Go.RowKit Go.Proofs Go.Proofs.Pk
set_option maxRecDepth 10000
attribute [local simp] mk_get wrap64_u8 mk_extract ByteArray.mk_append_mk get_1k

theorem new_owns (wr : World) (l : List UInt8) (hm : l.length ≤ maxLen) : (wr.alloc (.cells (Lib.byteCells l).toArray 5)).ownsRow wr.heap.size 5 1 (.slice (some ⟨wr.heap.size, 0, none⟩) l.length l.length) l.length (Lib.byteCells l) :=
  ⟨by simp [Lib.byteCells], .inr ⟨wr.heap.size, l.length, (Lib.byteCells l).toArray, rfl, Nat.le_refl _, heap_alloc_new wr _, by simp, hm, by simp [Lib.byteCells], by rw [List.take_of_length_le (by simp [Lib.byteCells])]⟩⟩

theorem conv_new (w : World) (l : List UInt8) (hm : l.length ≤ maxLen) : (convert 43 9 (.slice (some ⟨w.heap.size, 0, none⟩) l.length l.length)).run Try.prog (w.alloc (.cells (Lib.byteCells l).toArray 5)) = .ok (.string ⟨l.toArray⟩) (w.alloc (.cells (Lib.byteCells l).toArray 5)) :=
  conv_own _ w.heap.size w.heap.size l.length l l.length rfl (new_owns w l hm)

theorem byte_int (n : Nat) : (((UInt8.ofNat n).toNat : Nat) : Int) = (n : Int) % 256 := by simp

theorem conv_four (w : World) (v : Nat) (hv : (v : Int) < 4294967296) : (convert 43 9 (.slice (some ⟨w.heap.size, 0, none⟩) 4 4)).run Try.prog (w.alloc (.cells #[.int .u8 ((v : Int) / 16777216), .int .u8 ((v : Int) / 65536 % 256), .int .u8 ((v : Int) / 256 % 256), .int .u8 ((v : Int) % 256)] 5)) = .ok (.string ⟨(big 4 v).toArray⟩) (w.alloc (.cells #[.int .u8 ((v : Int) / 16777216), .int .u8 ((v : Int) / 65536 % 256), .int .u8 ((v : Int) / 256 % 256), .int .u8 ((v : Int) % 256)] 5)) := by
  have h := conv_new w (big 4 v) (by rw [big_length]; decide)
  rw [big_length] at h
  have e : (Lib.byteCells (big 4 v)).toArray = #[.int .u8 ((v : Int) / 16777216), .int .u8 ((v : Int) / 65536 % 256), .int .u8 ((v : Int) / 256 % 256), .int .u8 ((v : Int) % 256)] := by
    simp only [big, List.nil_append, Lib.byteCells, List.cons_append, List.map_cons, List.map_nil, byte_int]
    congr 3
    · omega
    · congr 2; omega
  rw [e] at h
  exact h

set_option maxHeartbeats 400000 in
theorem rFour (v : Nat) (w : World) (hv : (v : Int) < 4294967296) :
    Calls Try.prog 22 #[.int .u32 v] w fun e w' => e = .returned (.string ⟨(big 4 v).toArray⟩) ∧ Below w.heap.size w w' := by
  have HC := conv_four w v hv
  go_enter Try.func22, Try.ntmps22
  go_wp2
  go_ret
  exact ⟨rfl, (Below.refl _ _).alloc (Nat.le_refl _) _⟩
end Go.Proofs.Ytaiklhcgimpajaa
