/- A slice of texts among a law's arguments, opened: it reads as a list of texts, each within the form's own reach. -/
import Derived.Test.YtjhninkdpmdpbaaGen
import Derived.Test.YtjhninkdpmdpbaaProg
import Derived.SizedLaws
import Derived.SliceStrings
import Derived.ProofKit
namespace Go.Proofs.Ytjhninkdpmdpbaa
open Go.ChangeShapes Go.WideShapes Go.ChangeAt Go.RowKit Go.Proofs.Pk
set_option maxRecDepth 10000

theorem mem_weightsAll {H : Type} {P : Program} {e : TypeId} {d : DataW H} {n : Nat} (hn : n ∈ d.weights P e) : ∀ {l : List (DataW H)}, d ∈ l → n ∈ DataW.weightsAll P e l
  | a :: l, h => by
    rw [DataW.weightsAll, List.mem_append]
    rcases List.mem_cons.1 h with rfl | h
    · exact .inl hn
    · exact .inr (mem_weightsAll hn h)

theorem openStrs {H : Type} {enc : TypeId × Value → H} {W : World} {base : Nat} {spare : Nat → Bool} {held : Bool} {fuel : Nat} {ad : Option Addr} {len cap : Nat} {d : DataW H} {p : List MemPlace} {ts : List TypeId} {ds : List (DataW H)} {j : Nat}
    (hf : DataW.trod enc Try.prog W base spare held fuel 22 (Value.slice ad len cap).cells.toList = some (d, p))
    (hsz : (DataW.weightsEach Try.prog ts ds).all (· ≤ reachBytes) = true) (ht : ts[j]? = some 22) (hd : ds[j]? = some d) :
    ∃ l, Strs W ad len l ∧ ((len : Int) ≤ 140737488351232 ∧ ∀ s ∈ l, s.length ≤ 140737488351232) := by
  rcases open_strings Try.underlying22 Try.underlying9 (by kernel_rfl) hf with ⟨hcs, _⟩ | ⟨a, len', cap', ss, hcs, _, hl, hm, hz, hx, hcell, hws⟩
  · simp [Value.cells] at hcs
    obtain ⟨rfl, rfl, rfl⟩ := hcs
    exact ⟨[], ⟨rfl, .inl rfl⟩, by simp, by simp⟩
  · simp [Value.cells] at hcs
    obtain ⟨rfl, rfl, rfl⟩ := hcs
    obtain ⟨rfl, rfl⟩ := Prod.mk.inj hx
    have hlen : len ≤ ss.length := by
      rw [hz]; split <;> omega
    have hb : (Try.prog.bytesOf 9) = 16 := by kernel_rfl
    have hbig := sized_slice hsz ht hd Try.underlying22
    rw [hb] at hbig
    simp only [strs, List.length_map, List.length_take, List.length_drop, reachBytes] at hbig
    refine ⟨(ss.take len).map (fun x : ByteArray => x.data.toList), ⟨by simp; omega, ?_⟩, by omega, ?_⟩
    · by_cases h0 : len = 0
      · subst h0; exact .inl (by simp)
      · right
        obtain ⟨b, off, spot⟩ := a
        have hc := hcell 0 (by omega)
        have hspot : spot = none := by simpa [Addr.add] using World.cell?_spot hc
        subst hspot
        have hblk := World.block_lt_of_cell? W _ hc
        refine ⟨b, off, rfl, by simpa [Addr.add] using hblk, fun i hi => ?_⟩
        have hi' : i < len := by simp at hi; omega
        have hci := hcell i (by omega)
        have hi2 : i < ss.length := by omega
        have e : (some (Value.string (ss.getD i ByteArray.empty))) = some (.string ⟨(((ss.take len).map (fun x : ByteArray => x.data.toList))[i]'hi).toArray⟩) := by
          simp [List.getD, hi2]
        rw [e] at hci
        have hadd : (⟨b, off, none⟩ : Addr).add i = ⟨b, off + i, none⟩ := by unfold Addr.add; split <;> simp_all
        rw [hadd] at hci
        exact hci
    · intro s hs
      obtain ⟨x, hx, rfl⟩ := List.mem_map.1 hs
      have hmem : (DataW.lit (.string x.data.toList) : DataW H) ∈ strs (ss.take len) := List.mem_map.2 ⟨x, hx, rfl⟩
      have hw : x.data.toList.length ∈ (DataW.slice (strs (ss.take len)) (strs (ss.drop len)) : DataW H).weights Try.prog 22 := by
        rw [DataW.weights, Try.underlying22]
        simp only [List.mem_cons, List.mem_append]
        exact .inr (.inl (mem_weightsAll (by simp [DataW.weights]) hmem))
      have := List.all_eq_true.1 hsz _ (DataW.weights_mem_each ht hd _ hw)
      exact of_decide_eq_true this
theorem openStrsC {H : Type} {enc : TypeId × Value → H} {W : World} {base : Nat} {spare : Nat → Bool} {held : Bool} {fuel : Nat} {ad : Option Addr} {len cap : Nat} {d : DataW H} {p : List MemPlace} {ts : List TypeId} {ds : List (DataW H)} {j : Nat}
    (hf : DataW.trod enc Try.prog W base spare held fuel 22 (Value.slice ad len cap).cells.toList = some (d, p))
    (hsz : (DataW.weightsEach Try.prog ts ds).all (· ≤ reachBytes) = true) (ht : ts[j]? = some 22) (hd : ds[j]? = some d) :
    ∃ l, Strs W ad len l ∧ ((len : Int) ≤ 140737488351232 ∧ (∀ s ∈ l, s.length ≤ 140737488351232) ∧ len ≤ cap) := by
  rcases open_strings Try.underlying22 Try.underlying9 (by kernel_rfl) hf with ⟨hcs, _⟩ | ⟨a, len', cap', ss, hcs, _, hlc, hm, hz, hx, hcell, hws⟩
  · simp [Value.cells] at hcs
    obtain ⟨rfl, rfl, rfl⟩ := hcs
    exact ⟨[], ⟨rfl, .inl rfl⟩, by simp, by simp, Nat.le_refl _⟩
  · simp [Value.cells] at hcs
    obtain ⟨rfl, rfl, rfl⟩ := hcs
    obtain ⟨rfl, rfl⟩ := Prod.mk.inj hx
    have hlen : len ≤ ss.length := by
      rw [hz]; split <;> omega
    have hb : (Try.prog.bytesOf 9) = 16 := by kernel_rfl
    have hbig := sized_slice hsz ht hd Try.underlying22
    rw [hb] at hbig
    simp only [strs, List.length_map, List.length_take, List.length_drop, reachBytes] at hbig
    refine ⟨(ss.take len).map (fun x : ByteArray => x.data.toList), ⟨by simp; omega, ?_⟩, by omega, ?_, hlc⟩
    · by_cases h0 : len = 0
      · subst h0; exact .inl (by simp)
      · right
        obtain ⟨b, off, spot⟩ := a
        have hc := hcell 0 (by omega)
        have hspot : spot = none := by simpa [Addr.add] using World.cell?_spot hc
        subst hspot
        have hblk := World.block_lt_of_cell? W _ hc
        refine ⟨b, off, rfl, by simpa [Addr.add] using hblk, fun i hi => ?_⟩
        have hi' : i < len := by simp at hi; omega
        have hci := hcell i (by omega)
        have hi2 : i < ss.length := by omega
        have e : (some (Value.string (ss.getD i ByteArray.empty))) = some (.string ⟨(((ss.take len).map (fun x : ByteArray => x.data.toList))[i]'hi).toArray⟩) := by
          simp [List.getD, hi2]
        rw [e] at hci
        have hadd : (⟨b, off, none⟩ : Addr).add i = ⟨b, off + i, none⟩ := by unfold Addr.add; split <;> simp_all
        rw [hadd] at hci
        exact hci
    · intro s hs
      obtain ⟨x, hx, rfl⟩ := List.mem_map.1 hs
      have hmem : (DataW.lit (.string x.data.toList) : DataW H) ∈ strs (ss.take len) := List.mem_map.2 ⟨x, hx, rfl⟩
      have hw : x.data.toList.length ∈ (DataW.slice (strs (ss.take len)) (strs (ss.drop len)) : DataW H).weights Try.prog 22 := by
        rw [DataW.weights, Try.underlying22]
        simp only [List.mem_cons, List.mem_append]
        exact .inr (.inl (mem_weightsAll (by simp [DataW.weights]) hmem))
      have := List.all_eq_true.1 hsz _ (DataW.weights_mem_each ht hd _ hw)
      exact of_decide_eq_true this
end Go.Proofs.Ytjhninkdpmdpbaa
