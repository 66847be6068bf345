/- The reference of layer 5: Fit and Room. -/
import Derived.Test.YtcjomigngmmjkaaSpcF
namespace Go.Proofs.Ytcjomigngmmjkaa
open Go.RowKit Go.Proofs Go.Proofs.Pk
set_option maxRecDepth 10000
attribute [local simp] mk_get wrap64_u8 mk_extract ByteArray.mk_append_mk get_1k

theorem flatR_length : ∀ F : List (Nat × Nat), (flatR F).length = F.length * 2
  | [] => rfl
  | x :: F => by have := flatR_length F; simp only [flatR, List.flatMap_cons, List.length_append, List.length_cons] at *; simp only [runN, List.length_cons, List.length_nil]; omega
theorem flatR_get : ∀ (F : List (Nat × Nat)) (k : Nat) (hk : k < F.length), (flatR F)[k * 2]? = some (.int .i64 (F[k].1 : Int)) ∧ (flatR F)[k * 2 + 1]? = some (.int .i64 (F[k].2 : Int))
  | x :: F, 0, _ => ⟨rfl, rfl⟩
  | x :: F, k + 1, hk => by
    have := flatR_get F k (by simpa using hk)
    simpa [flatR, runN, show (k + 1) * 2 = k * 2 + 1 + 1 from by omega] using this
theorem own_at {w : World} {B : Nat} {e : TypeId} {v : Value} {F : List (Nat × Nat)} (h : w.ownsRow B e 2 v F.length (flatR F)) :
    ∃ ad cap, v = .slice ad F.length cap ∧ ∀ k (hk : k < F.length), ∃ g, ad = some ⟨g, 0, none⟩ ∧ w.cell? ⟨g, k * 2, none⟩ = some (.int .i64 (F[k].1 : Int)) ∧ w.cell? ⟨g, k * 2 + 1, none⟩ = some (.int .i64 (F[k].2 : Int)) := by
  by_cases h0 : 0 < F.length
  · obtain ⟨g, cap, rfl, _, _⟩ := h.form h0
    exact ⟨_, _, rfl, fun k hk => ⟨g, rfl, by rw [h.cellAt _ (by omega)]; exact (flatR_get F k hk).1, by rw [h.cellAt _ (by omega)]; exact (flatR_get F k hk).2⟩⟩
  · rcases h.2 with ⟨rfl, hz⟩ | ⟨g, cap, cur, rfl, _⟩
    · exact ⟨none, 0, by rw [hz], fun k hk => by omega⟩
    · exact ⟨_, _, rfl, fun k hk => by omega⟩

/-- Where there is room: the place, the error. -/
def fitL : List (Nat × Nat) → Int → Int × Int
  | [], _ => (0, 7)
  | r :: l, n => if n ≤ (r.2 : Int) then ((r.1 : Int), 0) else fitL l n
def fitO (o : Option (List (Nat × Nat))) (n : Int) : Int × Int :=
  match o with
  | none => (0, 1)
  | some l => if n < 1 then (0, 1) else fitL l n
def roomL (l : List (Nat × Nat)) : Nat := (l.map (·.2)).sum
theorem roomL_succ (F : List (Nat × Nat)) (k : Nat) (hk : k < F.length) : roomL (F.take (k + 1)) = roomL (F.take k) + F[k].2 := by
  unfold roomL
  rw [List.take_succ_eq_append_getElem hk]
  simp only [List.map_append, List.sum_append, List.map_cons, List.map_nil, List.sum_cons, List.sum_nil, Nat.add_zero]
theorem roomL_le (F : List (Nat × Nat)) (k : Nat) : roomL (F.take k) ≤ roomL F := by
  have : roomL F = roomL (F.take k ++ F.drop k) := by rw [List.take_append_drop]
  rw [this]; unfold roomL; rw [List.map_append, List.sum_append]; omega

set_option maxHeartbeats 1000000 in
theorem rFit (total : Int) (ad : Option Addr) (len cap : Nat) (l : List (Int × Int)) (many : Int) (w : World) (ht : Fit total) (h : Runs w ad len l) :
    Calls Try.prog 12 #[.int .i64 total, .slice ad len cap, .int .i64 many] w (fun e w' => Below w.heap.size w w' ∧ e = .returned (.tuple #[.int .i64 (fitO ((takenO total l).map freeL) many).1, .int .i64 (fitO ((takenO total l).map freeL) many).2])) := by
  have HT := Lib.hid (rFree total ad len cap l w ht h)
  have hlen : ∀ F, (takenO total l).map freeL = some F → F.length ≤ 4000 := by
    intro F h
    obtain ⟨t, h1, rfl⟩ := Option.map_eq_some_iff.1 h
    unfold takenO at h1
    split at h1
    · cases h1
    · have := (takeAll_some l total.toNat _ t (by simp) h1).2.2.2.1
      have := freeL_length t
      omega
  clear ht h
  generalize (takenO total l).map freeL = o at *
  cases o with
  | none =>
    clear hlen
    go_enter Try.func12, Try.ntmps12
    go_wp2_with fail
    refine HT.out.mono ?_
    rintro e w2 ⟨hb, rfl⟩
    go_wp2
    go_ret2
    exact ⟨hb, rfl⟩
  | some F =>
    have hF4 := hlen F rfl
    clear hlen
    by_cases hm : many < 1
    · have HZ : Hid (fitO (some F) many = (0, 1)) := by show fitO _ _ = _; unfold fitO; simp only; rw [if_pos hm]
      rw [HZ.out]
      go_enter Try.func12, Try.ntmps12
      go_wp2_with fail
      refine HT.out.mono ?_
      rintro e w2 ⟨hb, v, rfl, ho⟩
      clear HT
      go_wp2
      go_ret2
      exact ⟨hb, rfl⟩
    · have HZ : Hid (fitO (some F) many = fitL F many) := by show fitO _ _ = _; unfold fitO; simp only; rw [if_neg hm]
      rw [HZ.out]
      go_enter Try.func12, Try.ntmps12
      go_wp2_with fail
      refine HT.out.mono ?_
      rintro e w2 ⟨hb, v, rfl, ho⟩
      obtain ⟨ad2, cap2, rfl, hat⟩ := own_at ho
      have HAT := Lib.hid hat
      have HB := Lib.hid hb
      clear HT ho hat hb
      obtain ⟨n, hn⟩ : ∃ n, Hid (n = F.length) := ⟨_, rfl⟩
      rw [← hn.out] at hF4 ⊢
      go_wp2
      obtain ⟨wq, hwq⟩ : ∃ wq, wq = w2 := ⟨_, rfl⟩
      rw [← hwq] at HAT HB ⊢
      clear hwq
      go_loopw [10] (fun i wr => ∃ k : Nat, k ≤ n ∧ i = .int .i64 k ∧ Hid (fitL F many = fitL (F.drop k) many) ∧ Hid (wr = wq)) (fun i _ => n - (intOf i).toNat)
      case atStart => exact ⟨0, Nat.zero_le _, rfl, rfl, rfl⟩
      case round =>
        obtain ⟨k, hk, rfl, hr, hww⟩ := hrel
        obtain rfl := hww.out
        clear hww
        by_cases hlt : (k : Int) < n
        · have hkF : k < F.length := by have := hn.out; omega
          have hk0 : (0 : Int) ≤ (k : Int) := Int.natCast_nonneg _
          obtain ⟨g, rfl, d0, d1⟩ := HAT.out k hkF
          have hd : F.drop k = F[k] :: F.drop (k + 1) := List.drop_eq_getElem_cons hkF
          have HR : Hid (fitL F many = if many ≤ ((F[k].2 : Nat) : Int) then ((F[k].1 : Int), 0) else fitL (F.drop (k + 1)) many) := by show _ = _; rw [hr.out, hd]; rfl
          clear hr hd
          generalize F[k].1 = x1 at *
          generalize F[k].2 = x2 at *
          by_cases hx : many ≤ (x2 : Int)
          · have HRR : Hid (fitL F many = ((x1 : Int), 0)) := by show _ = _; rw [HR.out, if_pos hx]
            clear HR
            go_wp2
            go_ret2
            rw [HRR.out]
            exact ⟨HB.out, rfl⟩
          · have HRR : Hid (fitL F many = fitL (F.drop (k + 1)) many) := by show _ = _; rw [HR.out, if_neg hx]
            clear HR
            go_wp2
            go_roundw
            case rel => exact ⟨k + 1, by omega, by go_num, HRR, (by first | exact rfl | exact Lib.hid trivial)⟩
            case measure => simp [intOf]; omega
        · have HRR : Hid (fitL F many = (0, 7)) := by show _ = _; rw [hr.out, List.drop_eq_nil_of_le (by have := hn.out; omega)]; rfl
          clear hr
          go_wp2
          go_ret2
          rw [HRR.out]
          exact ⟨HB.out, rfl⟩

set_option maxHeartbeats 1000000 in
theorem rRoom (total : Int) (ad : Option Addr) (len cap : Nat) (l : List (Int × Int)) (w : World) (ht : Fit total) (h : Runs w ad len l) :
    Calls Try.prog 14 #[.int .i64 total, .slice ad len cap] w (fun e w' => Below w.heap.size w w' ∧ e = .returned (.tuple (match (takenO total l).map freeL with
      | none => #[.int .i64 0, .bool false]
      | some F => #[.int .i64 (roomL F : Int), .bool true]))) := by
  have HT := Lib.hid (rFree total ad len cap l w ht h)
  have hlen : ∀ F, (takenO total l).map freeL = some F → F.length ≤ 4000 ∧ roomL F ≤ 4000 := by
    intro F h
    obtain ⟨t, h1, rfl⟩ := Option.map_eq_some_iff.1 h
    unfold takenO at h1
    split at h1
    · cases h1
    · have := (takeAll_some l total.toNat _ t (by simp) h1).2.2.2.1
      have := freeL_length t
      have h2 := freeL_sum t
      have h3 : t.count false ≤ t.length := List.count_le_length
      unfold roomL
      omega
  clear ht h
  generalize (takenO total l).map freeL = o at *
  cases o with
  | none =>
    clear hlen
    go_enter Try.func14, Try.ntmps14
    go_wp2_with fail
    refine HT.out.mono ?_
    rintro e w2 ⟨hb, rfl⟩
    go_wp2
    obtain ⟨wq, hwq⟩ : ∃ wq, wq = w2 := ⟨_, rfl⟩
    rw [← hwq] at hb ⊢
    clear hwq
    have HB := Lib.hid hb
    clear hb
    go_loopw [8, 9] (fun s i wr => s = .int .i64 0 ∧ i = .int .i64 0 ∧ Hid (wr = wq)) (fun i _ _ => 0)
    case atStart => exact ⟨rfl, rfl, rfl⟩
    case round =>
      obtain ⟨rfl, rfl, hww⟩ := hrel
      obtain rfl := hww.out
      clear hww
      go_wp2
      go_ret2
      exact ⟨HB.out, rfl⟩
  | some F =>
    have hF4 := (hlen F rfl).1
    have hR4 := (hlen F rfl).2
    clear hlen
    go_enter Try.func14, Try.ntmps14
    go_wp2_with fail
    refine HT.out.mono ?_
    rintro e w2 ⟨hb, v, rfl, ho⟩
    obtain ⟨ad2, cap2, rfl, hat⟩ := own_at ho
    have HAT := Lib.hid hat
    have HB := Lib.hid hb
    clear HT ho hat hb
    obtain ⟨n, hn⟩ : ∃ n, Hid (n = F.length) := ⟨_, rfl⟩
    rw [← hn.out] at hF4 ⊢
    go_wp2
    obtain ⟨wq, hwq⟩ : ∃ wq, wq = w2 := ⟨_, rfl⟩
    rw [← hwq] at HAT HB ⊢
    clear hwq
    go_loopw [8, 9] (fun s i wr => ∃ k : Nat, k ≤ n ∧ s = .int .i64 (roomL (F.take k) : Nat) ∧ i = .int .i64 k ∧ Hid (wr = wq)) (fun _ i _ => n - (intOf i).toNat)
    case atStart => exact ⟨0, Nat.zero_le _, rfl, rfl, rfl⟩
    case round =>
      obtain ⟨k, hk, rfl, rfl, hww⟩ := hrel
      obtain rfl := hww.out
      clear hww
      by_cases hlt : (k : Int) < n
      · have hkF : k < F.length := by have := hn.out; omega
        have hk0 : (0 : Int) ≤ (k : Int) := Int.natCast_nonneg _
        obtain ⟨g, rfl, d0, d1⟩ := HAT.out k hkF
        have h1 := roomL_succ F k hkF
        have h2 := roomL_le F (k + 1)
        generalize roomL (F.take k) = S at *
        generalize hS1 : roomL (F.take (k + 1)) = S1 at *
        generalize F[k].1 = x1 at *
        generalize F[k].2 = x2 at *
        have hw7 : IntKind.i64.wrap ((S : Int) + (x2 : Int)) = (S1 : Int) := by rw [IntWalk.i64_in _ (by omega)]; omega
        go_wp2
        go_roundw
        case rel => exact ⟨k + 1, by omega, by rw [hS1]; first | rfl | (congr 1; omega), by go_num, (by first | exact rfl | exact Lib.hid trivial)⟩
        case measure => simp [intOf]; omega
      · have HRR : Hid (roomL (F.take k) = roomL F) := by show _ = _; rw [List.take_of_length_le (by have := hn.out; omega)]
        generalize roomL (F.take k) = S at *
        go_wp2
        go_ret2
        rw [← HRR.out]
        exact ⟨HB.out, rfl⟩

end Go.Proofs.Ytcjomigngmmjkaa
