/- Layer 6 as mathematics: a root that is written is read as it was, what was read is written as it stood; heads too. -/
import Derived.Test.YtbfdhonmmoikdaaRtD
import Derived.Test.YtbfdhonmmoikdaaRtH
namespace Go.Proofs.Ytbfdhonmmoikdaa
open Go.RowKit Go.Proofs Go.Proofs.Pk
set_option maxRecDepth 10000

theorem rdNums_flat : ∀ (l : List Nat) (t : List UInt8), (∀ n ∈ l, n ≤ MaxN) → rdNums l.length (l.flatMap numL ++ t) = (l, t, 0)
  | [], t, _ => rfl
  | n :: l, t, h => by
    have e : (n :: l).flatMap numL ++ t = numL n ++ (l.flatMap numL ++ t) := by simp
    rw [e, List.length_cons, rdNums, rdNum_numL n (h n (by simp)), rdNums_flat l t fun m hm => h m (by simp [hm])]
    simp
theorem rdNums_back : ∀ (k : Nat) (b : List UInt8), (rdNums k b).2.2 = 0 → (rdNums k b).1.flatMap numL ++ (rdNums k b).2.1 = b
  | 0, b, _ => by simp [rdNums]
  | k + 1, b, h => by
    rw [rdNums] at h ⊢
    split at h
    · rename_i h1; exact absurd h h1
    · rename_i h1
      rw [if_neg h1]
      split at h
      · rename_i h2; exact absurd h h2
      · rename_i h2
        rw [if_neg h2]
        have h1' : (rdNum b).2.2 = 0 := by simpa using h1
        have h2' : (rdNums k (rdNum b).2.1).2.2 = 0 := by simpa using h2
        have := rdNums_back k _ h2'
        simp only [List.flatMap_cons, List.append_assoc]
        rw [this, rdNum_back b h1']
theorem group_filesN : ∀ l : List FileN, group (filesN l) = l
  | [] => rfl
  | (a, b, c) :: l => by
    have := group_filesN l
    unfold filesN at this ⊢
    simp only [List.flatMap_cons, List.cons_append, List.nil_append, group, this]
theorem filesN_group : ∀ (n : Nat) (l : List Nat), l.length = 3 * n → filesN (group l) = l
  | 0, l, h => by have : l = [] := List.length_eq_zero_iff.1 (by omega); subst this; rfl
  | n + 1, l, h => by
    match l, h with
    | a :: b :: c :: l, h =>
      have := filesN_group n l (by simp at h; omega)
      unfold filesN at this ⊢
      simp only [group, List.flatMap_cons, List.cons_append, List.nil_append, this]

theorem nb_4000 {n : Nat} (h : n ≤ 4000) : nb n ≤ 2 := by
  unfold nb; repeat' split
  all_goals omega
theorem filesB_len : ∀ l : List FileN, (∀ f ∈ l, f.2.1 ≤ 4000 ∧ f.2.2 ≤ 4000) → ((filesN l).flatMap numL).length ≤ l.length * 14
  | [], _ => by simp [filesN]
  | (a, b, c) :: l, h => by
    have ih := filesB_len l fun f hf => h f (by simp [hf])
    have : b ≤ 4000 ∧ c ≤ 4000 := h (a, b, c) (by simp)
    have h1 := numL_len_le a
    have h2 : (numL b).length ≤ 3 := by rw [numL_length]; have := nb_4000 this.1; omega
    have h3 : (numL c).length ≤ 3 := by rw [numL_length]; have := nb_4000 this.2; omega
    unfold filesN at ih ⊢
    simp only [List.flatMap_cons, List.cons_append, List.nil_append, List.length_append, List.length_cons]
    omega
theorem right_small {T : Int} {s n c : Nat} {fs : List FileN} (hr : rightV T s n c (fs.map fileI) = true) : s ≤ MaxN ∧ n ≤ MaxN ∧ c ≤ MaxN ∧ fs.length ≤ 24 ∧ ∀ f ∈ fs, f.1 ≤ MaxN ∧ f.2.1 ≤ 4000 ∧ f.2.2 ≤ 4000 := by
  obtain ⟨h1, h2, h3, _, _, _⟩ := rightV_iff hr
  obtain ⟨h4, h5⟩ := right_cur hr
  have hf := right_files hr
  refine ⟨by unfold MaxN; omega, by unfold MaxN; omega, by unfold MaxN; omega, by simpa using h3, fun f hm => ?_⟩
  have := hf (fileI f) (List.mem_map_of_mem hm)
  unfold fileI at this
  unfold MaxN
  simp only at this
  omega
theorem root_len {T : Int} {s n c : Nat} {fs : List FileN} (hr : rightV T s n c (fs.map fileI) = true) : (rootB s n c fs).length ≤ 512 := by
  obtain ⟨_, _, _, h4, h5⟩ := right_small hr
  have h6 := filesB_len fs fun f hf => (h5 f hf).2
  have a1 := numL_len_le s
  have a2 := numL_len_le n
  have a3 := numL_len_le c
  have a4 := numL_len_le fs.length
  have e : rootB s n c fs = numL s ++ (numL n ++ (numL c ++ (numL fs.length ++ (filesN fs).flatMap numL))) := by simp [rootB, rootN]
  rw [e]
  simp only [List.length_append]
  omega
theorem dec_root {T : Int} {s n c : Nat} {fs : List FileN} (hr : rightV T s n c (fs.map fileI) = true) : decV T (rootB s n c fs) = ((s, n, c, fs), 0) := by
  have hlen := root_len hr
  obtain ⟨h1, h2, h3, h4, h5⟩ := right_small hr
  have e : rootB s n c fs = [s, n, c, fs.length].flatMap numL ++ (filesN fs).flatMap numL := by simp [rootB, rootN]
  have e1 : rdNums 4 (rootB s n c fs) = ([s, n, c, fs.length], (filesN fs).flatMap numL, 0) := by
    rw [e]
    refine rdNums_flat [s, n, c, fs.length] _ fun m hm => ?_
    simp only [List.mem_cons, List.not_mem_nil, or_false] at hm
    rcases hm with rfl | rfl | rfl | rfl <;> first | assumption | (unfold MaxN; omega)
  have e2 : rdNums (3 * fs.length) ((filesN fs).flatMap numL) = (filesN fs, [], 0) := by
    have := rdNums_flat (filesN fs) [] fun m hm => by
      unfold filesN at hm
      obtain ⟨f, hf, hm⟩ := List.mem_flatMap.1 hm
      have := h5 f hf
      have hM : (4000 : Nat) ≤ MaxN := by decide
      simp only [List.mem_cons, List.not_mem_nil, or_false] at hm
      rcases hm with rfl | rfl | rfl <;> omega
    rw [filesN_length, Nat.mul_comm] at this
    simpa using this
  unfold decV
  rw [if_neg (by omega), e1]
  simp only [List.getD_cons_zero, List.getD_cons_succ, ne_eq, not_true_eq_false, if_false]
  rw [if_neg (by omega), e2]
  simp only [ne_eq, not_true_eq_false, if_false, group_filesN]
  rw [if_pos hr]
theorem dec_back {T : Int} {b : List UInt8} (h : (decV T b).2 = 0) : rightV T (decV T b).1.1 (decV T b).1.2.1 (decV T b).1.2.2.1 ((decV T b).1.2.2.2.map fileI) = true ∧ rootB (decV T b).1.1 (decV T b).1.2.1 (decV T b).1.2.2.1 (decV T b).1.2.2.2 = b := by
  have hd : ∀ x, decV T b = x → x.2 = 0 → rightV T x.1.1 x.1.2.1 x.1.2.2.1 (x.1.2.2.2.map fileI) = true ∧ rootB x.1.1 x.1.2.1 x.1.2.2.1 x.1.2.2.2 = b := by
    intro x hx h0
    unfold decV at hx
    split at hx
    · subst hx; simp at h0
    simp only at hx
    split at hx
    · rename_i h1; subst hx; exact absurd h0 h1
    rename_i h1
    split at hx
    · subst hx; simp at h0
    rename_i h24
    split at hx
    · rename_i h2; subst hx; exact absurd h0 h2
    rename_i h2
    split at hx
    · subst hx; simp at h0
    rename_i h3
    split at hx
    · rename_i hr
      subst hx
      refine ⟨hr, ?_⟩
      have h1' : (rdNums 4 b).2.2 = 0 := by simpa using h1
      have b1 := rdNums_back 4 b h1'
      have l1 := rdNums_length 4 b h1'
      generalize hR : rdNums 4 b = R at *
      obtain ⟨ns, rest, code⟩ := R
      match ns, l1 with
      | [s, n, c, k], _ =>
        simp only [List.getD_cons_zero, List.getD_cons_succ] at *
        have h2' : (rdNums (3 * k) rest).2.2 = 0 := by simpa using h2
        have b2 := rdNums_back _ rest h2'
        have l2 := rdNums_length _ rest h2'
        have h3' : (rdNums (3 * k) rest).2.1 = [] := by simpa using h3
        rw [h3', List.append_nil] at b2
        have hg := filesN_group k _ l2
        have hgl := group_length k _ l2
        unfold rootB rootN
        rw [hg, hgl, ← b1, List.flatMap_append, b2]
    · subst hx; simp at h0
  exact hd _ rfl h

theorem head_parts (s z : Nat) (hs : s ≤ MaxN) (hz : z ≤ 512) : val (((headB s z).drop 2).take 7) = s ∧ 256 * ((headB s z).getD 9 0).toNat + ((headB s z).getD 10 0).toNat = z := by
  have hl := big_length 7 s
  have hv := val_big 7 s
  have hm : s % 256 ^ 7 = s := Nat.mod_eq_of_lt (by unfold MaxN at hs; omega)
  rw [hm] at hv
  unfold headB
  generalize big 7 s = B at hl hv
  match B, hl with
  | [b0, b1, b2, b3, b4, b5, b6], _ =>
    refine ⟨hv, ?_⟩
    show 256 * (UInt8.ofNat (z / 256)).toNat + (UInt8.ofNat (z % 256)).toNat = z
    simp only [UInt8.toNat_ofNat']
    omega
theorem head_read (s z : Nat) (h1 : 1 ≤ s) (hs : s ≤ MaxN) (hz : z ≤ 512) : rdHead (headB s z) = (s, z, 0) := by
  have hl := headB_length s z
  obtain ⟨e1, e2⟩ := head_parts s z hs hz
  unfold rdHead
  rw [if_neg (by omega), if_neg (by omega), e1, e2, if_pos ⟨h1, hs, hz, rfl⟩]

theorem head_tail (s z : Nat) : (headB s z).drop 56 = big 7 s ++ [69] := by
  have hl := big_length 7 s
  unfold headB
  generalize big 7 s = B at hl
  match B, hl with
  | [b0, b1, b2, b3, b4, b5, b6], _ => rfl
theorem head_second (s z : Nat) (hs : s ≤ MaxN) : val (((headB s z).drop 56).take 7) = s := by
  rw [head_tail, List.take_append_of_le_length (by rw [big_length]; exact Nat.le_refl _), List.take_of_length_le (by rw [big_length]; exact Nat.le_refl _), val_big]
  exact Nat.mod_eq_of_lt (by unfold MaxN at hs; omega)
theorem rdHead_cases (t : List UInt8) (hl : t.length = 64) : rdHead t = (0, 0, 3) ∨ ∃ s z, 1 ≤ s ∧ s ≤ MaxN ∧ z ≤ 512 ∧ headB s z = t ∧ rdHead t = (s, z, 0) := by
  unfold rdHead
  rw [if_neg (by omega), if_neg (by omega)]
  split
  · rename_i h
    exact .inr ⟨_, _, h.1, h.2.1, h.2.2.1, h.2.2.2, rfl⟩
  · exact .inl rfl
theorem glue_low {X Y : List UInt8} {cut k : Nat} (hc : k ≤ cut) (hX : cut ≤ X.length) : (X.take cut ++ Y.drop cut).take k = X.take k := by
  rw [List.take_append_of_le_length (by rw [List.length_take]; omega), List.take_take, Nat.min_eq_left hc]
theorem glue_high {X Y : List UInt8} {cut k : Nat} (hc : cut ≤ k) (hX : cut ≤ X.length) : (X.take cut ++ Y.drop cut).drop k = Y.drop k := by
  rw [List.drop_append, List.drop_of_length_le (by rw [List.length_take]; omega), List.length_take, Nat.min_eq_left hX, List.nil_append, List.drop_drop, Nat.add_sub_cancel' hc]
theorem first_low (l : List UInt8) : (l.drop 2).take 7 = (l.take 9).drop 2 := by rw [List.take_drop]
theorem getD_take {l : List UInt8} {i k : Nat} (h : i < k) : (l.take k).getD i 0 = l.getD i 0 := by
  simp [List.getD, List.getElem?_take, h]
theorem getD_drop {l : List UInt8} {i k : Nat} : (l.drop k).getD i 0 = l.getD (k + i) 0 := by
  simp [List.getD, List.getElem?_drop]
/-- A head of which only some bytes at the beginning lie over another one, or over nothing. -/
theorem head_torn (one a two b cut : Nat) (over : Bool) (h1 : one ≤ MaxN) (ha : a ≤ 512) (h2 : two ≤ MaxN) (hb : b ≤ 512) (hne : one ≠ two) (hc : cut ≤ 64) :
    rdHead ((headB one a).take cut ++ (if over then headB two b else List.replicate 64 0).drop cut) = (0, 0, 3) ∨ rdHead ((headB one a).take cut ++ (if over then headB two b else List.replicate 64 0).drop cut) = (one, a, 0) ∨
      over = true ∧ rdHead ((headB one a).take cut ++ (if over then headB two b else List.replicate 64 0).drop cut) = (two, b, 0) := by
  have lX := headB_length one a
  have lY : (if over then headB two b else List.replicate 64 0).length = 64 := by cases over <;> simp [headB_length]
  have hlen : ((headB one a).take cut ++ (if over then headB two b else List.replicate 64 0).drop cut).length = 64 := by
    rw [List.length_append, List.length_take, List.length_drop]; omega
  rcases rdHead_cases _ hlen with h | ⟨s, z, hs1, hs2, hz, he, hr⟩
  · exact .inl h
  right
  rw [hr]
  obtain ⟨p1, p2⟩ := head_parts s z hs2 hz
  have p3 := head_second s z hs2
  obtain ⟨x1, x2⟩ := head_parts one a h1 ha
  obtain ⟨y1, y2⟩ := head_parts two b h2 hb
  have y3 := head_second two b h2
  have low : ∀ k, k ≤ cut → (headB s z).take k = (headB one a).take k := fun k hk => by rw [he]; exact glue_low hk (by omega)
  have high : ∀ k, cut ≤ k → (headB s z).drop k = (if over then headB two b else List.replicate 64 0).drop k := fun k hk => by rw [he]; exact glue_high hk (by omega)
  clear he hr hlen
  have fromX : 9 ≤ cut → s = one := fun h => by
    rw [first_low, low 9 h, ← first_low] at p1
    omega
  have sizeX : 11 ≤ cut → z = a := fun h => by
    have e9 : (headB s z).getD 9 0 = (headB one a).getD 9 0 := by rw [← getD_take (k := 11) (by omega), low 11 h, getD_take (by omega)]
    have e10 : (headB s z).getD 10 0 = (headB one a).getD 10 0 := by rw [← getD_take (k := 11) (by omega), low 11 h, getD_take (by omega)]
    rw [e9, e10] at p2
    omega
  by_cases h57 : 57 ≤ cut
  · left; rw [fromX (by omega), sizeX (by omega)]
  · right
    have hov : over = true := by
      cases over with
      | true => rfl
      | false =>
        have := high 63 (by omega)
        have t1 : (headB s z).drop 63 = [69] := by
          have := congrArg (List.drop 7) (head_tail s z)
          rw [List.drop_drop] at this
          rw [show (63 : Nat) = 56 + 7 from rfl, this, List.drop_append, big_length, List.drop_of_length_le (by rw [big_length]; exact Nat.le_refl _)]
          rfl
        rw [t1] at this
        simp only [Bool.false_eq_true, if_false] at this
        exact absurd this (by decide)
    subst hov
    simp only [if_true] at high
    have hs : s = two := by
      rw [high 56 (by omega)] at p3
      omega
    refine ⟨rfl, ?_⟩
    have h9 : cut ≤ 8 := by
      by_cases h : 9 ≤ cut
      · exact absurd ((fromX h).symm.trans hs) hne
      · omega
    have e9 : (headB s z).getD 9 0 = (headB two b).getD 9 0 := by
      have := congrArg (fun l => l.getD 0 0) (high 9 (by omega))
      simpa only [getD_drop, Nat.add_zero] using this
    have e10 : (headB s z).getD 10 0 = (headB two b).getD 10 0 := by
      have := congrArg (fun l => l.getD 1 0) (high 9 (by omega))
      simpa only [getD_drop] using this
    rw [e9, e10] at p2
    rw [hs, show z = b from by omega]

end Go.Proofs.Ytbfdhonmmoikdaa
