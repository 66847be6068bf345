/- Package frame: what each call returns. -/
import Derived.Test.YtaiklhcgimpajaaAllP
namespace Go.Proofs.Ytaiklhcgimpajaa
open Go.RowKit Go.Proofs Go.Proofs.Pk
set_option maxRecDepth 10000
attribute [local simp] mk_get wrap64_u8 mk_extract ByteArray.mk_append_mk get_1k

theorem fSum (s : List UInt8) (w : World) (hs : (s.length : Int) ≤ 281474976710656) :
    Calls Try.prog 12 #[.string ⟨s.toArray⟩] w fun e w' => e = .returned (.int .u32 (crcSum s)) ∧ Below w.heap.size w w' := pSum s w hs
theorem fPut (s : List UInt8) (w : World) :
    Calls Try.prog 10 #[.string ⟨s.toArray⟩] w (R2 w (.string ⟨(encF s).1.toArray⟩) (errV 49 (encF s).2)) := by
  unfold encF
  by_cases h : s.length ≤ MaxT
  · rw [if_pos h]; exact pPut_ok s w (by unfold MaxT at h; omega)
  · rw [if_neg h]; exact pPut_long s w (by unfold MaxT at h; omega)
theorem fPut_ok (s : List UInt8) (h : s.length ≤ MaxT) (w : World) : Calls Try.prog 10 #[.string ⟨s.toArray⟩] w (R2 w (.string ⟨(frmL s).toArray⟩) .nilIface) := by
  have := fPut s w; unfold encF at this; rw [if_pos h] at this; exact this
theorem fPut_no (s : List UInt8) (h : ¬s.length ≤ MaxT) (w : World) : Calls Try.prog 10 #[.string ⟨s.toArray⟩] w (R2 w (.string ⟨#[]⟩) (.iface 49 (.int .i64 5))) := by
  have := fPut s w; unfold encF at this; rw [if_neg h] at this; exact this
theorem fTake (b : List UInt8) (w : World) (hb : b.length ≤ maxLen) :
    Calls Try.prog 15 #[.string ⟨b.toArray⟩] w (R3 w (.string ⟨(rdFrm b).1.toArray⟩) (.string ⟨(rdFrm b).2.1.toArray⟩) (errV 49 (rdFrm b).2.2)) := pTake b w hb
theorem fAll (b : List UInt8) (w : World) (h : (b.length : Int) ≤ 4398046511104) :
    Calls Try.prog 18 #[.string ⟨b.toArray⟩] w (RR3 w (rdEvery b).1 (.int .i64 ((b.length : Int) - (rdEvery b).2.1.length)) (errV 49 (rdEvery b).2.2)) := pAll b w h

theorem fAll_is (b : List UInt8) (T : List (List UInt8)) (r : List UInt8) (c : Nat) (n : Nat) (he : rdEvery b = (T, r, c)) (h : (b.length : Int) ≤ 4398046511104) (hn : b.length = n + r.length) (w : World) :
    Calls Try.prog 18 #[.string ⟨b.toArray⟩] w (RR3 w T (.int .i64 n) (errV 49 c)) := by
  have := fAll b w h
  rw [he] at this
  rw [show (n : Int) = (b.length : Int) - (r.length : Int) from by omega]
  exact this

end Go.Proofs.Ytaiklhcgimpajaa
