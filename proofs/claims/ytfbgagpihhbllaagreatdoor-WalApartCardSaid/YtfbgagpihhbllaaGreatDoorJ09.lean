/- RtJ, RtB, RtS. -/
import Derived.Test.YtfbgagpihhbllaaGreatDoorJ05
import Derived.Test.YtfbgagpihhbllaaGreatDoorJ03
import Derived.Test.YtfbgagpihhbllaaGreatDoorJ08

/- Layer 6: heads (mathematics; no reference) -/
namespace Go.Proofs.YtfbgagpihhbllaaGreatDoor
open Go.RowKit Go.Proofs Go.Proofs.Pk
set_option maxRecDepth 10000
attribute [local simp] mk_get wrap64_u8 mk_extract ByteArray.mk_append_mk get_1k

theorem u8_wrap (x : Nat) : IntKind.u8.wrap (x : Int) = ((UInt8.ofNat x).toNat : Int) := by
  simp [IntKind.wrap, IntKind.bits, IntKind.signed]
/-- A head's bytes. -/
def headB (seq size : Nat) : List UInt8 := [80, 76] ++ big 7 seq ++ [UInt8.ofNat (size / 256), UInt8.ofNat (size % 256)] ++ List.replicate 45 0 ++ big 7 seq ++ [69]
theorem headB_length (seq size : Nat) : (headB seq size).length = 64 := by simp [headB, big_length]
theorem byte_infoH : (Tryz.prog.info? 5).map (fun i => (i.zero, i.size, i.bytes)) = some (some (.int .u8 0), 1, 1) := by kernel_rfl
theorem made_rep1 (v : Value) (n : Nat) : madeCells #[v] n = (List.replicate n v).toArray := by
  apply Array.ext
  · rw [size_madeCells]; simp
  · intro i h1 h2
    simp [madeCells, Nat.mod_one]
/-- What bytes are as a head: the numbers, the error. -/
def rdHead (b : List UInt8) : Nat × Nat × Nat :=
  if b.length < 64 then (0, 0, 2) else if 64 < b.length then (0, 0, 5) else
  if 1 ≤ val ((b.drop 2).take 7) ∧ val ((b.drop 2).take 7) ≤ MaxN ∧ 256 * (b.getD 9 0).toNat + (b.getD 10 0).toNat ≤ 512 ∧ headB (val ((b.drop 2).take 7)) (256 * (b.getD 9 0).toNat + (b.getD 10 0).toNat) = b then
    (val ((b.drop 2).take 7), 256 * (b.getD 9 0).toNat + (b.getD 10 0).toNat, 0) else (0, 0, 3)

end Go.Proofs.YtfbgagpihhbllaaGreatDoor

/- Layer 6 as mathematics: a root that is written is read as it was, what was read is written as it stood; heads too. -/
namespace Go.Proofs.YtfbgagpihhbllaaGreatDoor
open Go.RowKit Go.Proofs Go.Proofs.Pk
set_option maxRecDepth 10000

theorem rdNums_flat : ∀ (l : List Nat) (t : List UInt8), (∀ n ∈ l, n ≤ MaxN) → rdNums l.length (l.flatMap numL ++ t) = (l, t, 0)
  | [], t, _ => rfl
  | n :: l, t, h => by
    have e : (n :: l).flatMap numL ++ t = numL n ++ (l.flatMap numL ++ t) := by simp
    rw [e, List.length_cons, rdNums, rdNum_numL n (h n (by simp)), rdNums_flat l t fun m hm => h m (by simp [hm])]
    simp
theorem rdNums_back : ∀ (k : Nat) (b : List UInt8), (rdNums k b).2.2 = 0 → (rdNums k b).1.flatMap numL ++ (rdNums k b).2.1 = b
  | 0, b, _ => by simp [rdNums]
  | k + 1, b, h => by
    rw [rdNums] at h ⊢
    split at h
    · rename_i h1; exact absurd h h1
    · rename_i h1
      rw [if_neg h1]
      split at h
      · rename_i h2; exact absurd h h2
      · rename_i h2
        rw [if_neg h2]
        have h1' : (rdNum b).2.2 = 0 := by simpa using h1
        have h2' : (rdNums k (rdNum b).2.1).2.2 = 0 := by simpa using h2
        have := rdNums_back k _ h2'
        simp only [List.flatMap_cons, List.append_assoc]
        rw [this, rdNum_back b h1']
theorem group_filesN : ∀ l : List FileN, group (filesN l) = l
  | [] => rfl
  | (a, b, c) :: l => by
    have := group_filesN l
    unfold filesN at this ⊢
    simp only [List.flatMap_cons, List.cons_append, List.nil_append, group, this]
theorem filesN_group : ∀ (n : Nat) (l : List Nat), l.length = 3 * n → filesN (group l) = l
  | 0, l, h => by have : l = [] := List.length_eq_zero_iff.1 (by omega); subst this; rfl
  | n + 1, l, h => by
    match l, h with
    | a :: b :: c :: l, h =>
      have := filesN_group n l (by simp at h; omega)
      unfold filesN at this ⊢
      simp only [group, List.flatMap_cons, List.cons_append, List.nil_append, this]

theorem nb_4000 {n : Nat} (h : n ≤ 4000) : nb n ≤ 2 := by
  unfold nb; repeat' split
  all_goals omega
theorem filesB_len : ∀ l : List FileN, (∀ f ∈ l, f.2.1 ≤ 4000 ∧ f.2.2 ≤ 4000) → ((filesN l).flatMap numL).length ≤ l.length * 14
  | [], _ => by simp [filesN]
  | (a, b, c) :: l, h => by
    have ih := filesB_len l fun f hf => h f (by simp [hf])
    have : b ≤ 4000 ∧ c ≤ 4000 := h (a, b, c) (by simp)
    have h1 := numL_len_le a
    have h2 : (numL b).length ≤ 3 := by rw [numL_length]; have := nb_4000 this.1; omega
    have h3 : (numL c).length ≤ 3 := by rw [numL_length]; have := nb_4000 this.2; omega
    unfold filesN at ih ⊢
    simp only [List.flatMap_cons, List.cons_append, List.nil_append, List.length_append, List.length_cons]
    omega
theorem right_small {T : Int} {s n c : Nat} {fs : List FileN} (hr : rightV T s n c (fs.map fileI) = true) : s ≤ MaxN ∧ n ≤ MaxN ∧ c ≤ MaxN ∧ fs.length ≤ 24 ∧ ∀ f ∈ fs, f.1 ≤ MaxN ∧ f.2.1 ≤ 4000 ∧ f.2.2 ≤ 4000 := by
  obtain ⟨h1, h2, h3, _, _, _⟩ := rightV_iff hr
  obtain ⟨h4, h5⟩ := right_cur hr
  have hf := right_files hr
  refine ⟨by unfold MaxN; omega, by unfold MaxN; omega, by unfold MaxN; omega, by simpa using h3, fun f hm => ?_⟩
  have := hf (fileI f) (List.mem_map_of_mem hm)
  unfold fileI at this
  unfold MaxN
  simp only at this
  omega
theorem root_len {T : Int} {s n c : Nat} {fs : List FileN} (hr : rightV T s n c (fs.map fileI) = true) : (rootB s n c fs).length ≤ 512 := by
  obtain ⟨_, _, _, h4, h5⟩ := right_small hr
  have h6 := filesB_len fs fun f hf => (h5 f hf).2
  have a1 := numL_len_le s
  have a2 := numL_len_le n
  have a3 := numL_len_le c
  have a4 := numL_len_le fs.length
  have e : rootB s n c fs = numL s ++ (numL n ++ (numL c ++ (numL fs.length ++ (filesN fs).flatMap numL))) := by simp [rootB, rootN]
  rw [e]
  simp only [List.length_append]
  omega
theorem dec_root {T : Int} {s n c : Nat} {fs : List FileN} (hr : rightV T s n c (fs.map fileI) = true) : decV T (rootB s n c fs) = ((s, n, c, fs), 0) := by
  have hlen := root_len hr
  obtain ⟨h1, h2, h3, h4, h5⟩ := right_small hr
  have e : rootB s n c fs = [s, n, c, fs.length].flatMap numL ++ (filesN fs).flatMap numL := by simp [rootB, rootN]
  have e1 : rdNums 4 (rootB s n c fs) = ([s, n, c, fs.length], (filesN fs).flatMap numL, 0) := by
    rw [e]
    refine rdNums_flat [s, n, c, fs.length] _ fun m hm => ?_
    simp only [List.mem_cons, List.not_mem_nil, or_false] at hm
    rcases hm with rfl | rfl | rfl | rfl <;> first | assumption | (unfold MaxN; omega)
  have e2 : rdNums (3 * fs.length) ((filesN fs).flatMap numL) = (filesN fs, [], 0) := by
    have := rdNums_flat (filesN fs) [] fun m hm => by
      unfold filesN at hm
      obtain ⟨f, hf, hm⟩ := List.mem_flatMap.1 hm
      have := h5 f hf
      have hM : (4000 : Nat) ≤ MaxN := by decide
      simp only [List.mem_cons, List.not_mem_nil, or_false] at hm
      rcases hm with rfl | rfl | rfl <;> omega
    rw [filesN_length, Nat.mul_comm] at this
    simpa using this
  unfold decV
  rw [if_neg (by omega), e1]
  simp only [List.getD_cons_zero, List.getD_cons_succ, ne_eq, not_true_eq_false, if_false]
  rw [if_neg (by omega), e2]
  simp only [ne_eq, not_true_eq_false, if_false, group_filesN]
  rw [if_pos hr]
theorem dec_back {T : Int} {b : List UInt8} (h : (decV T b).2 = 0) : rightV T (decV T b).1.1 (decV T b).1.2.1 (decV T b).1.2.2.1 ((decV T b).1.2.2.2.map fileI) = true ∧ rootB (decV T b).1.1 (decV T b).1.2.1 (decV T b).1.2.2.1 (decV T b).1.2.2.2 = b := by
  have hd : ∀ x, decV T b = x → x.2 = 0 → rightV T x.1.1 x.1.2.1 x.1.2.2.1 (x.1.2.2.2.map fileI) = true ∧ rootB x.1.1 x.1.2.1 x.1.2.2.1 x.1.2.2.2 = b := by
    intro x hx h0
    unfold decV at hx
    split at hx
    · subst hx; simp at h0
    simp only at hx
    split at hx
    · rename_i h1; subst hx; exact absurd h0 h1
    rename_i h1
    split at hx
    · subst hx; simp at h0
    rename_i h24
    split at hx
    · rename_i h2; subst hx; exact absurd h0 h2
    rename_i h2
    split at hx
    · subst hx; simp at h0
    rename_i h3
    split at hx
    · rename_i hr
      subst hx
      refine ⟨hr, ?_⟩
      have h1' : (rdNums 4 b).2.2 = 0 := by simpa using h1
      have b1 := rdNums_back 4 b h1'
      have l1 := rdNums_length 4 b h1'
      generalize hR : rdNums 4 b = R at *
      obtain ⟨ns, rest, code⟩ := R
      match ns, l1 with
      | [s, n, c, k], _ =>
        simp only [List.getD_cons_zero, List.getD_cons_succ] at *
        have h2' : (rdNums (3 * k) rest).2.2 = 0 := by simpa using h2
        have b2 := rdNums_back _ rest h2'
        have l2 := rdNums_length _ rest h2'
        have h3' : (rdNums (3 * k) rest).2.1 = [] := by simpa using h3
        rw [h3', List.append_nil] at b2
        have hg := filesN_group k _ l2
        have hgl := group_length k _ l2
        unfold rootB rootN
        rw [hg, hgl, ← b1, List.flatMap_append, b2]
    · subst hx; simp at h0
  exact hd _ rfl h

theorem head_parts (s z : Nat) (hs : s ≤ MaxN) (hz : z ≤ 512) : val (((headB s z).drop 2).take 7) = s ∧ 256 * ((headB s z).getD 9 0).toNat + ((headB s z).getD 10 0).toNat = z := by
  have hl := big_length 7 s
  have hv := val_big 7 s
  have hm : s % 256 ^ 7 = s := Nat.mod_eq_of_lt (by unfold MaxN at hs; omega)
  rw [hm] at hv
  unfold headB
  generalize big 7 s = B at hl hv
  match B, hl with
  | [b0, b1, b2, b3, b4, b5, b6], _ =>
    refine ⟨hv, ?_⟩
    show 256 * (UInt8.ofNat (z / 256)).toNat + (UInt8.ofNat (z % 256)).toNat = z
    simp only [UInt8.toNat_ofNat']
    omega
theorem head_read (s z : Nat) (h1 : 1 ≤ s) (hs : s ≤ MaxN) (hz : z ≤ 512) : rdHead (headB s z) = (s, z, 0) := by
  have hl := headB_length s z
  obtain ⟨e1, e2⟩ := head_parts s z hs hz
  unfold rdHead
  rw [if_neg (by omega), if_neg (by omega), e1, e2, if_pos ⟨h1, hs, hz, rfl⟩]

theorem head_tail (s z : Nat) : (headB s z).drop 56 = big 7 s ++ [69] := by
  have hl := big_length 7 s
  unfold headB
  generalize big 7 s = B at hl
  match B, hl with
  | [b0, b1, b2, b3, b4, b5, b6], _ => rfl
theorem head_second (s z : Nat) (hs : s ≤ MaxN) : val (((headB s z).drop 56).take 7) = s := by
  rw [head_tail, List.take_append_of_le_length (by rw [big_length]; exact Nat.le_refl _), List.take_of_length_le (by rw [big_length]; exact Nat.le_refl _), val_big]
  exact Nat.mod_eq_of_lt (by unfold MaxN at hs; omega)
theorem rdHead_cases (t : List UInt8) (hl : t.length = 64) : rdHead t = (0, 0, 3) ∨ ∃ s z, 1 ≤ s ∧ s ≤ MaxN ∧ z ≤ 512 ∧ headB s z = t ∧ rdHead t = (s, z, 0) := by
  unfold rdHead
  rw [if_neg (by omega), if_neg (by omega)]
  split
  · rename_i h
    exact .inr ⟨_, _, h.1, h.2.1, h.2.2.1, h.2.2.2, rfl⟩
  · exact .inl rfl
theorem glue_low {X Y : List UInt8} {cut k : Nat} (hc : k ≤ cut) (hX : cut ≤ X.length) : (X.take cut ++ Y.drop cut).take k = X.take k := by
  rw [List.take_append_of_le_length (by rw [List.length_take]; omega), List.take_take, Nat.min_eq_left hc]
theorem glue_high {X Y : List UInt8} {cut k : Nat} (hc : cut ≤ k) (hX : cut ≤ X.length) : (X.take cut ++ Y.drop cut).drop k = Y.drop k := by
  rw [List.drop_append, List.drop_of_length_le (by rw [List.length_take]; omega), List.length_take, Nat.min_eq_left hX, List.nil_append, List.drop_drop, Nat.add_sub_cancel' hc]
theorem first_low (l : List UInt8) : (l.drop 2).take 7 = (l.take 9).drop 2 := by rw [List.take_drop]
theorem getD_take {l : List UInt8} {i k : Nat} (h : i < k) : (l.take k).getD i 0 = l.getD i 0 := by
  simp [List.getD, List.getElem?_take, h]
theorem getD_drop {l : List UInt8} {i k : Nat} : (l.drop k).getD i 0 = l.getD (k + i) 0 := by
  simp [List.getD, List.getElem?_drop]
/-- A head of which only some bytes at the beginning lie over another one, or over nothing. -/
theorem head_torn (one a two b cut : Nat) (over : Bool) (h1 : one ≤ MaxN) (ha : a ≤ 512) (h2 : two ≤ MaxN) (hb : b ≤ 512) (hne : one ≠ two) (hc : cut ≤ 64) :
    rdHead ((headB one a).take cut ++ (if over then headB two b else List.replicate 64 0).drop cut) = (0, 0, 3) ∨ rdHead ((headB one a).take cut ++ (if over then headB two b else List.replicate 64 0).drop cut) = (one, a, 0) ∨
      over = true ∧ rdHead ((headB one a).take cut ++ (if over then headB two b else List.replicate 64 0).drop cut) = (two, b, 0) := by
  have lX := headB_length one a
  have lY : (if over then headB two b else List.replicate 64 0).length = 64 := by cases over <;> simp [headB_length]
  have hlen : ((headB one a).take cut ++ (if over then headB two b else List.replicate 64 0).drop cut).length = 64 := by
    rw [List.length_append, List.length_take, List.length_drop]; omega
  rcases rdHead_cases _ hlen with h | ⟨s, z, hs1, hs2, hz, he, hr⟩
  · exact .inl h
  right
  rw [hr]
  obtain ⟨p1, p2⟩ := head_parts s z hs2 hz
  have p3 := head_second s z hs2
  obtain ⟨x1, x2⟩ := head_parts one a h1 ha
  obtain ⟨y1, y2⟩ := head_parts two b h2 hb
  have y3 := head_second two b h2
  have low : ∀ k, k ≤ cut → (headB s z).take k = (headB one a).take k := fun k hk => by rw [he]; exact glue_low hk (by omega)
  have high : ∀ k, cut ≤ k → (headB s z).drop k = (if over then headB two b else List.replicate 64 0).drop k := fun k hk => by rw [he]; exact glue_high hk (by omega)
  clear he hr hlen
  have fromX : 9 ≤ cut → s = one := fun h => by
    rw [first_low, low 9 h, ← first_low] at p1
    omega
  have sizeX : 11 ≤ cut → z = a := fun h => by
    have e9 : (headB s z).getD 9 0 = (headB one a).getD 9 0 := by rw [← getD_take (k := 11) (by omega), low 11 h, getD_take (by omega)]
    have e10 : (headB s z).getD 10 0 = (headB one a).getD 10 0 := by rw [← getD_take (k := 11) (by omega), low 11 h, getD_take (by omega)]
    rw [e9, e10] at p2
    omega
  by_cases h57 : 57 ≤ cut
  · left; rw [fromX (by omega), sizeX (by omega)]
  · right
    have hov : over = true := by
      cases over with
      | true => rfl
      | false =>
        have := high 63 (by omega)
        have t1 : (headB s z).drop 63 = [69] := by
          have := congrArg (List.drop 7) (head_tail s z)
          rw [List.drop_drop] at this
          rw [show (63 : Nat) = 56 + 7 from rfl, this, List.drop_append, big_length, List.drop_of_length_le (by rw [big_length]; exact Nat.le_refl _)]
          rfl
        rw [t1] at this
        simp only [Bool.false_eq_true, if_false] at this
        exact absurd this (by decide)
    subst hov
    simp only [if_true] at high
    have hs : s = two := by
      rw [high 56 (by omega)] at p3
      omega
    refine ⟨rfl, ?_⟩
    have h9 : cut ≤ 8 := by
      by_cases h : 9 ≤ cut
      · exact absurd ((fromX h).symm.trans hs) hne
      · omega
    have e9 : (headB s z).getD 9 0 = (headB two b).getD 9 0 := by
      have := congrArg (fun l => l.getD 0 0) (high 9 (by omega))
      simpa only [getD_drop, Nat.add_zero] using this
    have e10 : (headB s z).getD 10 0 = (headB two b).getD 10 0 := by
      have := congrArg (fun l => l.getD 1 0) (high 9 (by omega))
      simpa only [getD_drop] using this
    rw [e9, e10] at p2
    rw [hs, show z = b from by omega]

end Go.Proofs.YtfbgagpihhbllaaGreatDoor

/- Layer 6 as mathematics: when a root is right, in so many words; a file more; a file that is not right. -/
namespace Go.Proofs.YtfbgagpihhbllaaGreatDoor
open Go.RowKit Go.Proofs Go.Proofs.Pk
set_option maxRecDepth 10000

theorem takenO_iff (T : Int) (l : List (Int × Int)) : (takenO T l).isSome = true ↔ ∃ N : Nat, T = (N : Int) ∧ N ≤ 4000 ∧ l.length ≤ 200 ∧ (∀ r ∈ l, Pk.Good N r) ∧ (l.map natR).Pairwise Apart := by
  constructor
  · intro h
    obtain ⟨t, ht⟩ := Option.isSome_iff_exists.1 h
    obtain ⟨N, e, h1, h2, h3, _⟩ := takenO_some ht
    obtain ⟨g1, g2, _⟩ := takeAll_some l N _ t (by simp) h3
    exact ⟨N, e, h1, h2, g1, g2⟩
  · rintro ⟨N, rfl, h1, h2, h3, h4⟩
    rw [takenO_nat h1 h2]
    obtain ⟨t, ht⟩ := takeAll_ok l N (List.replicate N false) (by simp) h3 h4 (fun r _ i _ _ => by
      simp only [List.getD, List.getElem?_replicate]; split <;> rfl)
    rw [ht]; rfl
theorem okF_iff (next : Int) : ∀ (l : List FileV) (last : Int), okF next last l = true ↔ (∀ f ∈ l, last < f.1 ∧ f.1 < next ∧ 18 ≤ f.2.1) ∧ l.Pairwise (fun f g => f.1 < g.1)
  | [], last => by simp [okF]
  | f :: l, last => by
    have ih := okF_iff next l f.1
    rw [okF, Bool.and_eq_true, ih, List.pairwise_cons]
    simp only [Bool.not_eq_true', Bool.or_eq_false_iff, decide_eq_false_iff_not, List.mem_cons, forall_eq_or_imp]
    constructor
    · rintro ⟨⟨⟨h1, h2⟩, h3⟩, h4, h5⟩
      exact ⟨⟨⟨by omega, by omega, by omega⟩, fun g hg => by have := h4 g hg; omega⟩, fun g hg => (h4 g hg).1, h5⟩
    · rintro ⟨⟨⟨h1, h2, h3⟩, h4⟩, h5, h6⟩
      exact ⟨⟨⟨by omega, by omega⟩, by omega⟩, fun g hg => ⟨h5 g hg, (h4 g hg).2⟩, h6⟩
theorem curF_iff (cur : Int) (l : List FileV) : curF cur l = true ↔ cur = 0 ∨ ∃ f ∈ l, f.1 = cur := by
  unfold curF; simp [List.any_eq_true]
/-- When a root is right. -/
structure RightP (T seq next cur : Int) (l : List FileV) : Prop where
  aSeq : 1 ≤ seq ∧ seq ≤ 9007199254740991
  aNext : 1 ≤ next ∧ next ≤ 9007199254740991
  few : l.length ≤ 24
  each : ∀ f ∈ l, 0 < f.1 ∧ f.1 < next ∧ 18 ≤ f.2.1
  up : l.Pairwise (fun f g => f.1 < g.1)
  aCur : cur = 0 ∨ ∃ f ∈ l, f.1 = cur
  runs : ∃ N : Nat, T = (N : Int) ∧ N ≤ 4000 ∧ (∀ r ∈ usedF l, Pk.Good N r) ∧ ((usedF l).map natR).Pairwise Apart
theorem right_prop (T seq next cur : Int) (l : List FileV) : rightV T seq next cur l = true ↔ RightP T seq next cur l := by
  have hu : (usedF l).length = l.length := by unfold usedF; simp
  unfold rightV headF
  simp only [Bool.and_eq_true, decide_eq_true_eq, okF_iff, curF_iff, takenO_iff]
  constructor
  · rintro ⟨⟨⟨⟨⟨⟨⟨h1, h2⟩, h3⟩, h4⟩, h5⟩, h6, h7⟩, h8⟩, N, e, h9, _, h10, h11⟩
    exact ⟨⟨h1, h2⟩, ⟨h3, h4⟩, by omega, h6, h7, h8, N, e, h9, h10, h11⟩
  · rintro ⟨⟨h1, h2⟩, ⟨h3, h4⟩, h5, h6, h7, h8, N, e, h9, h10, h11⟩
    exact ⟨⟨⟨⟨⟨⟨⟨h1, h2⟩, h3⟩, h4⟩, by omega⟩, h6, h7⟩, h8⟩, N, e, h9, by omega, h10, h11⟩

/-- A file more behind all. -/
theorem right_next {T seq next cur at_ many : Int} {l : List FileV} (h : RightP T seq next cur l) (hs : seq < 9007199254740991) (hn : next < 9007199254740991) (h18 : 18 ≤ at_) (hend : ∀ f ∈ l, f.2.1 + f.2.2 ≤ at_) :
    rightV T (seq + 1) (next + 1) cur (l ++ [(next, at_, many)]) = true ↔ 1 ≤ many ∧ at_ ≤ T ∧ many ≤ T - at_ ∧ l.length + 1 ≤ 24 := by
  obtain ⟨q1, q2, q3, q4, q5, q6, N, e, q7, q8, q9⟩ := h
  rw [right_prop]
  constructor
  · rintro ⟨_, _, p3, _, _, _, N', e', _, p8, _⟩
    have g := p8 (at_, many) (by unfold usedF; simp)
    unfold Pk.Good at g
    simp only at g
    simp only [List.length_append, List.length_cons, List.length_nil] at p3
    omega
  · rintro ⟨m1, m2, m3, m4⟩
    refine ⟨by omega, by omega, by simp; omega, fun f hf => ?_, ?_, ?_, N, e, q7, fun r hr => ?_, ?_⟩
    · rcases List.mem_append.1 hf with hf | hf
      · have := q4 f hf; omega
      · simp at hf; subst hf; simp only; omega
    · rw [List.pairwise_append]
      refine ⟨q5, by simp, fun f hf g hg => ?_⟩
      simp at hg; subst hg
      exact (q4 f hf).2.1
    · rcases q6 with q6 | ⟨f, hf, q6⟩
      · exact .inl q6
      · exact .inr ⟨f, by simp [hf], q6⟩
    · rw [usedF_snoc] at hr
      rcases List.mem_append.1 hr with hr | hr
      · exact q8 r hr
      · simp at hr; subst hr; unfold Pk.Good; simp only; omega
    · rw [usedF_snoc, List.map_append, List.pairwise_append]
      refine ⟨q9, by simp, fun r hr s hs => ?_⟩
      simp at hs; subst hs
      obtain ⟨u, hu, rfl⟩ := List.mem_map.1 hr
      unfold usedF at hu
      obtain ⟨f, hf, rfl⟩ := List.mem_map.1 hu
      have h1 := hend f hf
      have h2 := q8 f.2 (by unfold usedF; exact List.mem_map_of_mem hf)
      unfold Pk.Good at h2
      left
      unfold natR
      simp only
      omega
theorem right_bare {T seq next cur : Int} {l : List FileV} (h : RightP T seq next cur l) : rightV T seq next 0 [] = true := by
  obtain ⟨q1, q2, q3, q4, q5, q6, N, e, q7, q8, q9⟩ := h
  rw [right_prop]
  exact ⟨q1, q2, by simp, by simp, by simp, .inl rfl, N, e, q7, by simp [usedF], by simp [usedF]⟩

theorem mem_set_self {α : Type} {l : List α} {i : Nat} {a : α} (h : i < l.length) : a ∈ l.set i a := by
  have := List.getElem_mem (l := l.set i a) (n := i) (by rw [List.length_set]; exact h)
  rwa [List.getElem_set_self] at this
theorem not_right {T seq next cur : Int} {l : List FileV} (h : ¬RightP T seq next cur l) : rightV T seq next cur l = false := by
  cases e : rightV T seq next cur l with
  | false => rfl
  | true => exact absurd ((right_prop ..).1 e) h
/-- A file that lies among the first sectors. -/
theorem spoil_low {T seq next cur : Int} {l : List FileV} {i : Nat} (hi : i < l.length) (f : FileV) : rightV T seq next cur (l.set i (f.1, 17, f.2.2)) = false :=
  not_right fun h => by have := (h.each _ (mem_set_self hi)).2.2; simp only at this; omega
/-- A file without a sector. -/
theorem spoil_none {T seq next cur : Int} {l : List FileV} {i : Nat} (hi : i < l.length) (f : FileV) : rightV T seq next cur (l.set i (f.1, f.2.1, 0)) = false :=
  not_right fun h => by
    obtain ⟨N, _, _, h8, _⟩ := h.runs
    have := h8 (f.2.1, 0) (by unfold usedF; exact List.mem_map.2 ⟨_, mem_set_self hi, rfl⟩)
    unfold Pk.Good at this; simp only at this; omega
/-- A file's number once more. -/
theorem spoil_twice {T seq next cur at_ many : Int} {l : List FileV} {i : Nat} (hi : i < l.length) : rightV T seq next cur (l ++ [((l[i]).1, at_, many)]) = false :=
  not_right fun h => by
    have := h.up
    rw [List.pairwise_append] at this
    have := this.2.2 l[i] (List.getElem_mem hi) ((l[i]).1, at_, many) (by simp)
    simp only at this; omega
/-- A file with the next number. -/
theorem spoil_next {T seq next cur : Int} {l : List FileV} {i : Nat} (hi : i < l.length) (f : FileV) : rightV T seq next cur (l.set i (next, f.2.1, f.2.2)) = false :=
  not_right fun h => by have := (h.each _ (mem_set_self hi)).2.1; simp only at this; omega
/-- The next number as the current one. -/
theorem spoil_cur {T seq next : Int} {l : List FileV} : rightV T seq next next l = false :=
  not_right fun h => by
    rcases h.aCur with h0 | ⟨f, hf, h0⟩
    · have := h.aNext; omega
    · have := h.each f hf; omega

end Go.Proofs.YtfbgagpihhbllaaGreatDoor
