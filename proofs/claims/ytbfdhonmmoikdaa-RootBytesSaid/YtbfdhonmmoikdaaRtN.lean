/- The reference of layer 6: numbers, some of a text. -/
import Derived.Test.YtbfdhonmmoikdaaRtM
import Derived.Test.YtbfdhonmmoikdaaRead
namespace Go.Proofs.Ytbfdhonmmoikdaa
open Go.RowKit Go.Proofs Go.Proofs.Pk
set_option maxRecDepth 10000
attribute [local simp] mk_get wrap64_u8 mk_extract ByteArray.mk_append_mk get_1k

/-- Some numbers of a text, the rest; the error. -/
def rdNums : Nat → List UInt8 → List Nat × List UInt8 × Nat
  | 0, b => ([], b, 0)
  | k + 1, b => if (rdNum b).2.2 ≠ 0 then ([], [], (rdNum b).2.2) else
      if (rdNums k (rdNum b).2.1).2.2 ≠ 0 then ([], [], (rdNums k (rdNum b).2.1).2.2) else ((rdNum b).1 :: (rdNums k (rdNum b).2.1).1, (rdNums k (rdNum b).2.1).2.1, 0)
/-- Numbers read before, and what the rest gives. -/
def addN (P : List Nat) (r : List Nat × List UInt8 × Nat) : List Nat × List UInt8 × Nat := if r.2.2 ≠ 0 then ([], [], r.2.2) else (P ++ r.1, r.2.1, 0)
theorem addN_nil (k : Nat) (b : List UInt8) : rdNums k b = addN [] (rdNums k b) := by
  cases k with
  | zero => rfl
  | succ k =>
    by_cases h1 : (rdNum b).2.2 = 0
    · by_cases h2 : (rdNums k (rdNum b).2.1).2.2 = 0 <;> simp [rdNums, addN, h1, h2]
    · simp [rdNums, addN, h1]
theorem addN_step (P : List Nat) (k : Nat) (b : List UInt8) (h : (rdNum b).2.2 = 0) : addN P (rdNums (k + 1) b) = addN (P ++ [(rdNum b).1]) (rdNums k (rdNum b).2.1) := by
  by_cases h2 : (rdNums k (rdNum b).2.1).2.2 = 0 <;> simp [rdNums, addN, h, h2]
theorem addN_err (P : List Nat) (k : Nat) (b : List UInt8) (h : (rdNum b).2.2 ≠ 0) : addN P (rdNums (k + 1) b) = ([], [], (rdNum b).2.2) := by
  simp [rdNums, addN, h]
theorem rdNum_rest (b : List UInt8) : (rdNum b).2.1.length ≤ b.length := by
  by_cases h : (rdNum b).2.2 = 0
  · have := congrArg List.length (rdNum_back b h)
    rw [List.length_append] at this; omega
  · rw [(rdNum_err b h).2]; simp
theorem rdNums_length (k : Nat) : ∀ (b : List UInt8), (rdNums k b).2.2 = 0 → (rdNums k b).1.length = k := by
  induction k with
  | zero => intro b _; rfl
  | succ k ih =>
    intro b h
    rw [rdNums] at h ⊢
    split at h
    · rename_i h1; exact absurd h h1
    · rename_i h1
      rw [if_neg h1]
      split at h
      · rename_i h2; exact absurd h h2
      · rename_i h2
        rw [if_neg h2, List.length_cons, ih _ (by simpa using h2)]
theorem rdNums_rest (k : Nat) : ∀ (b : List UInt8), (rdNums k b).2.1.length ≤ b.length := by
  induction k with
  | zero => intro b; exact Nat.le_refl _
  | succ k ih =>
    intro b
    rw [rdNums]
    split
    · simp
    · split
      · simp
      · have := ih (rdNum b).2.1
        have := rdNum_rest b
        simp only; omega
theorem rdNums_le (k : Nat) : ∀ (b : List UInt8), ∀ n ∈ (rdNums k b).1, n ≤ MaxN := by
  induction k with
  | zero => intro b n hn; simp [rdNums] at hn
  | succ k ih =>
    intro b n hn
    rw [rdNums] at hn
    split at hn
    · simp at hn
    · split at hn
      · simp at hn
      · rcases List.mem_cons.1 hn with rfl | hn
        · exact rdNum_le b
        · exact ih _ n hn
theorem rdNums_code (k : Nat) : ∀ (b : List UInt8), (rdNums k b).2.2 = 0 ∨ (rdNums k b).2.2 = 2 ∨ (rdNums k b).2.2 = 3 := by
  induction k with
  | zero => intro b; exact .inl rfl
  | succ k ih =>
    intro b
    rw [rdNums]
    split
    · exact rdNum_code b
    · split
      · exact ih _
      · exact .inl rfl
theorem rdNums_err (k : Nat) (b : List UInt8) (h : (rdNums k b).2.2 ≠ 0) : (rdNums k b).1 = [] ∧ (rdNums k b).2.1 = [] := by
  rw [addN_nil] at h ⊢
  unfold addN at h ⊢
  by_cases h2 : (rdNums k b).2.2 ≠ 0
  · rw [if_pos h2]; exact ⟨rfl, rfl⟩
  · rw [if_neg h2] at h; exact absurd rfl h

/-- Numbers as cells. -/
def intsN (l : List Nat) : List Value := l.map fun (n : Nat) => Value.int .i64 (n : Int)
theorem int_infoN : (Try.prog.info? 3).map (fun i => (i.zero, i.size, i.bytes)) = some (some (.int .i64 0), 1, 8) := by kernel_rfl

set_option maxHeartbeats 1000000 in
theorem rNumbers (b : List UInt8) (K : Nat) (w : World) (hb : b.length ≤ 4096) (hK : K ≤ 4096) :
    Calls Try.prog 25 #[.string ⟨b.toArray⟩, .int .i64 K] w fun e w' => Below w.heap.size w w' ∧ ∃ v, e = .returned (.tuple #[v, .string ⟨(rdNums K b).2.1.toArray⟩, .int .i64 (rdNums K b).2.2]) ∧ w'.ownsRow w.heap.size 3 1 v (rdNums K b).1.length (intsN (rdNums K b).1) := by
  obtain ⟨iI, hiI, hzI, hsI, hbI⟩ := info_parts int_infoN
  obtain ⟨R, hR⟩ : ∃ R, Hid (R = rdNums K b) := ⟨_, rfl⟩
  rw [← hR.out]
  have H0 : Hid (R = addN [] (rdNums (K - 0) b)) := by show _ = _; rw [hR.out, Nat.sub_zero]; exact addN_nil K b
  clear hR
  go_enter Try.func25, Try.ntmps25
  go_wp2
  obtain ⟨wq, hwq⟩ : ∃ wq, wq = w := ⟨_, rfl⟩
  have HS : Hid (Below w.heap.size w wq) := by rw [hwq]; exact Below.refl _ _
  rw [← hwq]
  clear hwq
  go_loopw [0, 7, 8] (fun s v i wr => ∃ (j : Nat) (c : List UInt8) (P : List Nat), j ≤ K ∧ s = .string ⟨c.toArray⟩ ∧ i = .int .i64 j ∧ c.length ≤ 4096 ∧ P.length = j ∧ Hid (R = addN P (rdNums (K - j) c)) ∧ Hid (wr.ownsRow w.heap.size 3 1 v j (intsN P)) ∧ Hid (Below w.heap.size w wr)) (fun _ _ i _ => K - (intOf i).toNat)
  case atStart => exact ⟨0, b, [], Nat.zero_le _, rfl, rfl, hb, rfl, H0, World.ownsRow_nil _ _ _ _, HS⟩
  case round =>
    obtain ⟨j, c, P, hj, rfl, rfl, hc, hP, hr, ho, hbw⟩ := hrel
    by_cases hlt : (j : Int) < K
    · have hjK : j < K := by omega
      have hwj : IntKind.i64.wrap ((j : Int) + 1) = ((j + 1 : Nat) : Int) := by rw [IntWalk.i64_in _ (by omega)]; omega
      have HC := Lib.hid (rRead c wr (by unfold maxLen; omega))
      have hr2 := hr.out
      rw [show K - j = (K - (j + 1)) + 1 from by omega] at hr2
      have hrest := rdNum_rest c
      by_cases hz : (rdNum c).2.2 = 0
      · rw [addN_step P _ c hz] at hr2
        have HR := Lib.hid hr2
        rw [hz] at HC
        generalize (rdNum c).1 = n at *
        generalize (rdNum c).2.1 = r at *
        clear hr hr2 hz
        go_wp2_with fail
        refine HC.out.mono ?_
        rintro e w2 ⟨rfl, hb2⟩
        have HB2 := Lib.hid (hbw.out.trans (hb2.mono hbw.out.size))
        have ho2 : w2.ownsRow w.heap.size 3 1 u7 j (intsN P) := by
          refine owns_of_block ho.out fun g hg => hb2.block g ?_
          rcases ho.out.2 with ⟨h1, _⟩ | ⟨g', cap, cur, h1, _, h2, _⟩
          · rw [h1] at hg; cases hg
          · rw [h1] at hg
            have := Option.some.inj hg
            simp only at this
            subst this
            exact (Array.getElem?_eq_some_iff.1 h2).1
        clear HC hb2 hbw ho
        go_upto_region 8 with (fail)
        refine wp_region_lit ?_
        iterate 2
          refine wpList_plain rfl fun K hK => ?_
          go_simp
          refine hK _ _ ?_
          clear hK K
        have HQ := Holds.new w2 [.int .i64 (n : Int)] 3
        have HBd := HB2.out.alloc HB2.out.size (.cells [Value.int .i64 (n : Int)].toArray 3)
        have HOw := ho2.alloc (.cells [Value.int .i64 (n : Int)].toArray 3)
        obtain ⟨q, hq⟩ : ∃ q, Hid (q = w2.heap.size) := ⟨_, rfl⟩
        refine wpList_plain rfl fun K hK => ?_
        go_simp
        refine hK _ _ ?_
        clear hK K
        rw [← hq.out] at HQ ⊢
        change Holds (w2.alloc (.cells #[Value.int .i64 (n : Int)] 3)) _ _ _ at HQ
        change Below _ _ (w2.alloc (.cells #[Value.int .i64 (n : Int)] 3)) at HBd
        change (w2.alloc (.cells #[Value.int .i64 (n : Int)] 3)).ownsRow _ _ _ _ _ _ at HOw
        generalize w2.alloc (.cells #[Value.int .i64 (n : Int)] 3) = wd at HQ HBd HOw ⊢
        refine wpList_append_at wd rfl (.tmp 26) (.tmp 28) 56 rfl w.heap.size 3 iI _ 1 8 Try.underlying56 hiI hzI hsI hbI (by rfl) (by omega) _ j (intsN P) (by rfl) HOw
          ⟨q, 0, none⟩ 1 1 [.int .i64 (n : Int)] (by rfl) (by simp) (fun j u hj => by rw [add0]; exact HQ.cell j u hj) (by simp [Value.oneCell']) (by unfold maxLen; omega) (by omega) HBd.size (by omega) ?_
        intro v' we ho3 hgr _
        have HB3 : Hid (Below w.heap.size w we) := HBd.grown hgr HBd.size (own_low HOw)
        have HO3 : Hid (we.ownsRow w.heap.size 3 1 v' (j + 1) (intsN (P ++ [n]))) := by
          show World.ownsRow _ _ _ _ _ _ _
          exact owns_len ho3 rfl (by simp [intsN])
        have hr4096 : r.length ≤ 4096 := by omega
        clear ho3 hgr HQ HBd HOw ho2
        go_wp2
        go_roundw
        case rel => exact ⟨j + 1, r, P ++ [n], by omega, rfl, by go_num, hr4096, by simp; omega, HR, HO3, HB3⟩
        case measure => simp [intOf]; omega
      · rw [addN_err P _ c hz] at hr2
        have HR := Lib.hid hr2
        have hzi : ¬((rdNum c).2.2 : Int) = 0 := by omega
        have hzb : (((rdNum c).2.2 : Int) == 0) = false := by simpa using hz
        generalize (rdNum c).2.2 = z at *
        generalize (rdNum c).1 = n at *
        generalize (rdNum c).2.1 = r at *
        clear hr hr2
        go_wp2_with fail
        refine HC.out.mono ?_
        rintro e w2 ⟨rfl, hb2⟩
        have HB2 := Lib.hid (hbw.out.trans (hb2.mono hbw.out.size))
        clear HC hb2
        go_wp2
        go_ret3
        rw [HR.out]
        exact ⟨HB2.out, _, by rfl, World.ownsRow_nil _ _ _ _⟩
    · have hjK : j = K := by omega
      subst hjK
      have HR : Hid (R = (P, c, 0)) := by
        show _ = _
        rw [hr.out, Nat.sub_self]; simp [rdNums, addN]
      clear hr
      go_wp2
      go_ret3
      rw [HR.out]
      exact ⟨hbw.out, _, by rfl, owns_len ho.out hP.symm rfl⟩

end Go.Proofs.Ytbfdhonmmoikdaa
