/- Layer 14's landed program: tables' descriptions sorted in place. -/
import Derived.Test.YtjdolimeibpacaaGreatVt14
namespace Go.Proofs.YtjdolimeibpacaaGreat
open Go.RowKit Go.Proofs Go.Proofs.Pk
set_option maxRecDepth 10000

theorem sortMetas (B : Nat) (v : Value) (T : List MetaV) (w : World) (h : w.ownsRow B 45 5 v T.length (T.flatMap metaC)) (hf : ∀ m ∈ T, FitMV m) (hlen : T.length < 4611686018427387904) :
    Calls Tryz.prog 37 #[v, .func (.func 38) #[] #[]] w fun e w' =>
      e = .returned (.tuple #[]) ∧ ∃ ad cap L, v = .slice ad T.length cap ∧ MetasW w' ad T.length L ∧ L.Perm T ∧ SortedTb L ∧ Kept (fun k => v.ownBlock = some k) w w' := by
  rcases h.2 with ⟨h1, h2⟩ | ⟨g, cap, cur, h1, h2, h3, h4, h5, h6, h7⟩
  · have : T = [] := List.length_eq_zero_iff.1 h2
    subst this
    subst h1
    refine Calls.mono (AnyF.slices_SortFunc_none Tryz.sortMeta none 0 _ w) ?_
    rintro e w' ⟨rfl, rfl⟩
    exact ⟨rfl, none, 0, [], rfl, ⟨rfl, .inl rfl⟩, List.Perm.refl _, List.Pairwise.nil, Kept.refl _ _⟩
  · subst h1
    have hgl : g < w.heap.size := (Array.getElem?_eq_some_iff.1 h3).1
    have hsz : T.toArray.size = T.length := by simp
    have hH : Go.Sort.HoldsK metaC 5 w g 0 T.toArray := by
      intro j hj
      rw [Go.Sort.size_flatK, hsz] at hj
      refine ⟨?_, by have := h.frozenAt (0 + j); simpa using this⟩
      have hi : j / 5 < T.length := by omega
      have ht : j % 5 < (metaC T[j / 5]).length := by show j % 5 < 5; omega
      have h8 := metasC_get T (j / 5) hi (j % 5) _ (List.getElem?_eq_getElem ht)
      rw [show j / 5 * 5 + j % 5 = j from by omega] at h8
      have h9 := World.ownsRow.cells h (g := g) rfl j _ h8
      rw [Addr.add_mid] at h9
      rw [h9, Go.Sort.get_flatK _ _ _ _ (by rw [hsz]; exact hj)]
      have h10 : T.toArray[j / 5]! = T[j / 5] := by rw [getElem!_pos T.toArray (j / 5) (by rw [hsz]; exact hi)]; simp
      rw [h10, getElem!_pos (metaC T[j / 5]) (j % 5) ht]; rfl
    have hcmp : CmpLays Tryz.prog 38 #[] metaC 5 cmpT g 0 T.toArray.size w := fun _ _ _ _ x y => closure14 x y _
    have eg : ∀ args w, (callFunc 38 args).run Tryz.prog w = .ok (.enter 38 args) w := enters_of Tryz.func38 (by kernel_rfl) rfl
    have HC := AnyQ.slices_SortFunc Tryz.sortMeta 5 Tryz.isAgg45 Tryz.sizeOf45 metaC (fun _ => rfl) (fun x v hv => meta_one x v hv) cmpT cmpT_swo 38 #[] g 0 cap T.toArray w eg hcmp hH hgl (by omega)
    rw [hsz] at HC
    refine Calls.mono HC ?_
    rintro e w' ⟨rfl, d, n, os, ⟨hd1, _, hd3⟩, hs, rfl⟩
    rw [hsz] at hd1
    have hdl : d.toList.length = T.length := by simpa using hd1
    have hperm : d.toList.Perm T := by
      have e1 : d.extract 0 T.length = d := by rw [← hd1]; exact Array.extract_size
      have e2 : T.toArray.extract 0 T.length = T.toArray := by rw [← hsz]; exact Array.extract_size
      rw [e1, e2] at hd3
      simpa using hd3
    have hHK := holdsK_sortWorldK_c metaC 5 w g 0 T.toArray d n os hH hgl (by rw [hsz]; exact hd1)
    refine ⟨rfl, some ⟨g, 0, none⟩, cap, d.toList, rfl, ⟨hdl, .inr ⟨g, 0, rfl, ?_, fun i hi => ⟨fun t u hu => ?_, hf _ (hperm.mem_iff.1 (List.getElem_mem hi))⟩⟩⟩, hperm, ?_, ?_⟩
    · exact Nat.lt_of_lt_of_le hgl (size_sortWorldK_c metaC 5 w g 0 n d os)
    · have ht : t < 5 := by have := (List.getElem?_eq_some_iff.1 hu).1; simpa [metaC] using this
      have h1 := (hHK.cell (i := i) (c := t) (by omega) ht).1
      rw [h1, getElem!_pos d i (by omega)]
      have e1 : d.toList[i] = d[i]'(by omega) := by simp
      rw [e1] at hu
      have ht' : t < (metaC (d[i]'(by omega))).length := ht
      rw [List.getElem?_eq_getElem ht'] at hu
      rw [getElem!_pos (metaC (d[i]'(by omega))) t ht', hu]
    · unfold SortedTb
      rw [List.pairwise_iff_getElem]
      intro i j hi hj hij
      have := hs i j (Nat.zero_le _) hij (by omega)
      rw [cmpT_lt, getElem!_pos d i (by omega), getElem!_pos d j (by omega)] at this
      simpa using this
    · refine ⟨rfl, rfl, rfl, size_sortWorldK_c metaC 5 w g 0 n d os, fun k hk hx => ?_⟩
      show (w.heap.modify g _ ++ os)[k]? = _
      rw [Array.getElem?_append_left (by simp; omega), Array.getElem?_modify, if_neg (fun e => hx (by rw [e]; rfl))]

end Go.Proofs.YtjdolimeibpacaaGreat
