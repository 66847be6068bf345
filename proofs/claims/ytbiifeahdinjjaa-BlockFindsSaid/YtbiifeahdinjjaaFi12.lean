/- The law BlockFinds (layer 12), walked over the contract of the program's blocks. -/
import Derived.Test.YtbiifeahdinjjaaEx12
import Derived.Test.YtbiifeahdinjjaaR2f
namespace Go.Proofs.Ytbiifeahdinjjaa
open Go.RowKit Go.Proofs Go.Proofs.Pk
set_option maxRecDepth 10000
attribute [local simp] mk_get wrap64_u8 mk_extract ByteArray.mk_append_mk get_1k

set_option maxHeartbeats 4000000 in
theorem finds12 (K : BkK) (ad : Option Addr) (len cap : Nat) (l : List MEnt) (key : Txt) (seq : Int) (w : World) (h0 : EntsW w ad len l) (hl : (len : Int) ≤ 140737488351232) (hk : (key.length : Int) ≤ 140737488351232) (hf : FitN seq) :
    Calls Try.prog 4 #[.slice ad len cap, .string ⟨key.toArray⟩, .int .i64 seq] w fun e w' => e = .returned (.bool true) ∧ Kept (fun _ => False) w w' := by
  have HE := Lib.hid (examples12 K w)
  have HF := Lib.hid (fun (W : World) (h : Kept (fun _ => False) w W) => K.find W ad len cap l key seq (ents_keptK h0 h) hl hk hf)
  have HR := Lib.hid (fun (W : World) (h : Kept (fun _ => False) w W) => rFind12 W ad len cap l key seq (ents_keptK h0 h) hl)
  obtain ⟨x, hx⟩ : ∃ x, Hid (x = getM l key seq) := ⟨_, rfl⟩
  rw [← hx.out] at HF HR
  clear h0 hl hk hf hx
  obtain ⟨⟨k, q, d, v⟩, ok⟩ := x
  simp only [entC] at HF HR
  go_enter Try.func4, Try.ntmps4
  go_wp2_with fail
  refine HE.out.mono ?_
  clear HE
  rintro e w1 ⟨rfl, hk1⟩
  have HF1 := Lib.hid (HF.out w1 hk1)
  have HK1 := Lib.hid hk1
  clear hk1 HF
  go_wp2_with fail
  refine HF1.out.mono ?_
  clear HF1
  rintro e w2 ⟨rfl, hk2⟩
  have HK2 := Lib.hid (HK1.out.trans hk2 (fun _ h => h.elim))
  clear hk2 HK1
  obtain ⟨C, hC⟩ : ∃ C : List Value, C = [.string ⟨k.toArray⟩, .int .i64 q, .bool d, .string ⟨v.toArray⟩] := ⟨_, rfl⟩
  have hk3 : Kept (fun _ => False) w2 (w2.alloc (.cells C.toArray 37)) := (Kept.refl _ w2).alloc _
  have hH := Holds.new w2 C 37
  have HR1 := HR.out _ (HK2.out.trans hk3 (fun _ h => h.elim))
  obtain ⟨g, hg⟩ : ∃ g, g = w2.heap.size := ⟨_, rfl⟩
  rw [← hg] at hH
  have HR1 := Lib.hid HR1
  have HH := Lib.hid (And.intro (HK2.out.trans hk3 (fun _ h => h.elim)) hH)
  clear hk3 hH HR
  subst hC
  go_wp2_with fail
  refine HR1.out.mono ?_
  clear HR1
  rintro e w3 ⟨rfl, hk3⟩
  have hH := HH.out.2.of_block (hk3.block g HH.out.2.lt (fun h => h))
  have HK3 := Lib.hid (HH.out.1.trans hk3 (fun _ h => h.elim))
  have hH2 := hH.alloc (.cells #[.string ⟨k.toArray⟩, .int .i64 q, .bool d, .string ⟨v.toArray⟩] 37)
  have c0 := hH2.cell 0 _ rfl
  have c1 := hH2.cell 1 _ rfl
  have c2 := hH2.cell 2 _ rfl
  have c3 := hH2.cell 3 _ rfl
  subst hg
  have HKA := Lib.hid (HK3.out.alloc (.cells #[.string ⟨k.toArray⟩, .int .i64 q, .bool d, .string ⟨v.toArray⟩] 37))
  clear hH hH2 hk3 HH HK2 HK3
  go_wp2
  go_ret
  exact ⟨rfl, HKA.out⟩

end Go.Proofs.Ytbiifeahdinjjaa
