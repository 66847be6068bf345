/- The reference of layer 6: Head and ReadHead. -/
import Derived.Test.YtbfdhonmmoikdaaSpcB
import Derived.Test.YtbfdhonmmoikdaaRefN
import Derived.BigRegion
namespace Go.Proofs.Ytbfdhonmmoikdaa
open Go.RowKit Go.Proofs Go.Proofs.Pk
set_option maxRecDepth 10000
attribute [local simp] mk_get wrap64_u8 mk_extract ByteArray.mk_append_mk get_1k

theorem u8_wrap (x : Nat) : IntKind.u8.wrap (x : Int) = ((UInt8.ofNat x).toNat : Int) := by
  simp [IntKind.wrap, IntKind.bits, IntKind.signed]
theorem byte_at (n j : Nat) (hj : j < 7) : IntKind.u8.wrap ((n : Int).fdiv (2 ^ min (IntKind.i64.wrap ((8 * (6 - j) : Nat) : Int)).toNat 64)) = (((big 7 n)[j]'(by rw [big_length]; exact hj)).toNat : Int) := by
  have e : ∀ k : Nat, k ≤ 48 → (n : Int).fdiv (2 ^ min (IntKind.i64.wrap (k : Int)).toNat 64) = ((n / 2 ^ k : Nat) : Int) := by
    intro k hk
    rw [IntWalk.i64_in _ (by omega), Int.toNat_natCast, Nat.min_eq_left (by omega), Int.fdiv_eq_ediv_of_nonneg _ (by exact Int.le_of_lt (Int.pow_pos (by decide)))]
    simp
  rw [e _ (by omega), u8_wrap]
  have h : j = 0 ∨ j = 1 ∨ j = 2 ∨ j = 3 ∨ j = 4 ∨ j = 5 ∨ j = 6 := by omega
  rcases h with rfl | rfl | rfl | rfl | rfl | rfl | rfl <;> simp [big, Nat.div_div_eq_div_mul]

/-- A head's bytes. -/
def headB (seq size : Nat) : List UInt8 := [80, 76] ++ big 7 seq ++ [UInt8.ofNat (size / 256), UInt8.ofNat (size % 256)] ++ List.replicate 45 0 ++ big 7 seq ++ [69]
theorem headB_length (seq size : Nat) : (headB seq size).length = 64 := by simp [headB, big_length]

set_option maxHeartbeats 1000000 in
theorem r6Head_bad (seq size : Int) (w : World) (h : seq < 1 ∨ 9007199254740991 < seq ∨ size < 0 ∨ 512 < size) :
    Calls Try.prog 19 #[.int .i64 seq, .int .i64 size] w (R2 w (.string ⟨#[]⟩) (.bool false)) := by
  by_cases k1 : seq < 1
  case' neg =>
    by_cases k2 : 9007199254740991 < seq
    case' neg =>
      by_cases k3 : size < 0
      case' neg =>
        have k4 : 512 < size := by omega
  all_goals
    clear h
    go_enter Try.func19, Try.ntmps19
    go_wp2
    all_goals
      go_ret2
      exact R2.mk rfl rfl (Below.refl _ _)

theorem byte_infoH : (Try.prog.info? 5).map (fun i => (i.zero, i.size, i.bytes)) = some (some (.int .u8 0), 1, 1) := by kernel_rfl

theorem made_rep1 (v : Value) (n : Nat) : madeCells #[v] n = (List.replicate n v).toArray := by
  apply Array.ext
  · rw [size_madeCells]; simp
  · intro i h1 h2
    simp [madeCells, Nat.mod_one]
theorem pair_conv (W : World) (a b : UInt8) (o : Obj) : (convert 50 9 (.slice (some ⟨W.heap.size, 0, none⟩) 2 2)).run Try.prog (W.alloc (.cells #[.int .u8 (a.toNat : Int), .int .u8 (b.toNat : Int)] 5)) = .ok (.string ⟨[a, b].toArray⟩) (W.alloc (.cells #[.int .u8 (a.toNat : Int), .int .u8 (b.toNat : Int)] 5))
    ∧ (convert 50 9 (.slice (some ⟨W.heap.size, 0, none⟩) 2 2)).run Try.prog ((W.alloc (.cells #[.int .u8 (a.toNat : Int), .int .u8 (b.toNat : Int)] 5)).alloc o) = .ok (.string ⟨[a, b].toArray⟩) ((W.alloc (.cells #[.int .u8 (a.toNat : Int), .int .u8 (b.toNat : Int)] 5)).alloc o) := by
  have h := World.ownsRow_lit (e := 5) (base := W.heap.size) (size := 1) W #[.int .u8 (a.toNat : Int), .int .u8 (b.toNat : Int)] 2 (Nat.le_refl _) (by unfold maxLen; omega) rfl
  exact ⟨conv_own _ _ _ _ [a, b] 2 rfl h, conv_own _ _ _ _ [a, b] 2 rfl (h.alloc o)⟩
theorem zero_make (W : World) : (Instr.makeSlice 50 (.int .i64 45) (.int .i64 45)).run Try.prog W = .ok (.slice (some ⟨W.heap.size, 0, none⟩) 45 45) (W.alloc (.cells (List.replicate 45 (Value.int .u8 0)).toArray 5)) := by
  obtain ⟨i, hi, hz, hs, hb⟩ := info_parts byte_infoH
  have := run_make (P := Try.prog) W 50 5 i _ Try.underlying50 hi hz .i64 .i64 45 45 (by omega) (Int.le_refl _) (by rw [hb]; omega) (by omega)
  rw [this, hs]
  simp only [Value.cells]
  have e : madeCells #[Value.int .u8 0] 45 = (List.replicate 45 (Value.int .u8 0)).toArray := made_rep1 _ 45
  rw [show ((45 : Int).toNat * 1) = 45 from rfl, e]
  rfl
theorem zero_conv (W : World) (o : Obj) : (convert 50 9 (.slice (some ⟨W.heap.size, 0, none⟩) 45 45)).run Try.prog (W.alloc (.cells (List.replicate 45 (Value.int .u8 0)).toArray 5)) = .ok (.string ⟨(List.replicate 45 0).toArray⟩) (W.alloc (.cells (List.replicate 45 (Value.int .u8 0)).toArray 5))
    ∧ (convert 50 9 (.slice (some ⟨W.heap.size, 0, none⟩) 45 45)).run Try.prog ((W.alloc (.cells (List.replicate 45 (Value.int .u8 0)).toArray 5)).alloc o) = .ok (.string ⟨(List.replicate 45 0).toArray⟩) ((W.alloc (.cells (List.replicate 45 (Value.int .u8 0)).toArray 5)).alloc o) := by
  have h := World.ownsRow_lit (e := 5) (base := W.heap.size) (size := 1) W (List.replicate 45 (Value.int .u8 0)).toArray 45 (Nat.le_refl _) (by unfold maxLen; omega) (by simp)
  have e : (List.replicate 45 (Value.int .u8 0)).toArray.toList = Lib.byteCells (List.replicate 45 0) := by simp [Lib.byteCells]
  rw [e] at h
  exact ⟨conv_own _ _ _ _ (List.replicate 45 0) 45 (by simp) h, conv_own _ _ _ _ (List.replicate 45 0) 45 (by simp) (h.alloc o)⟩

set_option maxHeartbeats 1000000 in
theorem r6Head_ok (seq size : Nat) (w : World) (h1 : 1 ≤ seq) (h2 : seq ≤ MaxN) (h3 : size ≤ 512) :
    Calls Try.prog 19 #[.int .i64 (seq : Int), .int .i64 (size : Int)] w (R2 w (.string ⟨(headB seq size).toArray⟩) (.bool true)) := by
  obtain ⟨iB, hiB, hzB, hsB, hbB⟩ := info_parts byte_infoH
  have e1 : decide ((seq : Int) < 1) = false := by rw [decide_eq_false_iff_not]; omega
  have e2 : decide (9007199254740991 < (seq : Int)) = false := by rw [decide_eq_false_iff_not]; unfold MaxN at h2; omega
  have e3 : decide ((size : Int) < 0) = false := by rw [decide_eq_false_iff_not]; omega
  have e4 : decide (512 < (size : Int)) = false := by rw [decide_eq_false_iff_not]; omega
  go_enter Try.func19, Try.ntmps19
  go_wp2
  obtain ⟨wq, hwq⟩ : ∃ wq, wq = w := ⟨_, rfl⟩
  have HS : Hid (Below w.heap.size w wq) := by rw [hwq]; exact Below.refl _ _
  rw [← hwq]
  clear hwq
  go_loopw [6, 7] (fun v i wr => ∃ j : Nat, j ≤ 7 ∧ i = .int .i64 (6 - (j : Int)) ∧ Hid (wr.ownsRow w.heap.size 5 1 v j (Lib.byteCells ((big 7 seq).take j))) ∧ Hid (Below w.heap.size w wr)) (fun _ i _ => (intOf i + 1).toNat)
  case atStart => exact ⟨0, by omega, rfl, World.ownsRow_nil _ _ _ _, HS⟩
  case round =>
    obtain ⟨j, hj, rfl, ho, hb⟩ := hrel
    by_cases hj7 : j = 7
    · subst hj7
      have ho7 := ho.out
      rw [List.take_of_length_le (by rw [big_length]; exact Nat.le_refl 7)] at ho7
      obtain ⟨g, c7, rfl, hg1, hg2⟩ := ho7.form (by omega)
      clear hg1 hg2
      obtain ⟨BT, hBT⟩ : ∃ BT, Hid (BT = big 7 seq) := ⟨_, rfl⟩
      rw [← hBT.out] at ho7
      have hBl : BT.length = 7 := by rw [hBT.out, big_length]
      have cn0 : (convert 50 9 (.slice (some ⟨g, 0, none⟩) 7 c7)).run Try.prog wr.drew = .ok (.string ⟨BT.toArray⟩) wr.drew := conv_own _ _ _ _ BT 7 hBl.symm (owns_drewN (n := 1) ho7)
      have cn1 : ∀ o, (convert 50 9 (.slice (some ⟨g, 0, none⟩) 7 c7)).run Try.prog (wr.alloc o).drew = .ok (.string ⟨BT.toArray⟩) (wr.alloc o).drew := fun o => conv_own _ _ _ _ BT 7 hBl.symm ((owns_drewN (n := 1) ho7).alloc o)
      have cn2 : ∀ o o', (convert 50 9 (.slice (some ⟨g, 0, none⟩) 7 c7)).run Try.prog ((wr.alloc o).alloc o').drew = .ok (.string ⟨BT.toArray⟩) ((wr.alloc o).alloc o').drew := fun o o' => conv_own _ _ _ _ BT 7 hBl.symm (((owns_drewN (n := 1) ho7).alloc o).alloc o')
      have hq : (size : Int).tdiv 256 = ((size / 256 : Nat) : Int) := by rw [Int.tdiv_eq_ediv_of_nonneg (by omega)]; rfl
      have hr : (size : Int).tmod 256 = ((size % 256 : Nat) : Int) := by rw [Int.tmod_eq_emod_of_nonneg (by omega)]; rfl
      have hq2 : IntKind.u8.wrap ((size / 256 : Nat) : Int) = _ := u8_wrap (size / 256)
      have hr2 : IntKind.u8.wrap ((size % 256 : Nat) : Int) = _ := u8_wrap (size % 256)
      have hwq : IntKind.i64.wrap ((size / 256 : Nat) : Int) = ((size / 256 : Nat) : Int) := IntWalk.i64_in _ (by omega)
      have hwr : IntKind.i64.wrap ((size % 256 : Nat) : Int) = ((size % 256 : Nat) : Int) := IntWalk.i64_in _ (by omega)
      have HHB : Hid (headB seq size = 80 :: 76 :: (BT ++ UInt8.ofNat (size / 256) :: UInt8.ofNat (size % 256) :: (List.replicate 45 0 ++ (BT ++ [69])))) := by show _ = _; rw [hBT.out]; simp [headB]
      generalize size / 256 = sq at hq hq2 hwq HHB
      generalize size % 256 = sr at hr hr2 hwr HHB
      generalize UInt8.ofNat sq = uq at hq2 HHB
      generalize UInt8.ofNat sr = ur at hr2 HHB
      have P1 : ∀ W : World, (convert 50 9 (.slice (some ⟨W.heap.size, 0, none⟩) 2 2)).run Try.prog ((W.alloc (.cells #[.int .u8 (uq.toNat : Int), .int .u8 (ur.toNat : Int)] 5)).drew) = .ok (.string ⟨[uq, ur].toArray⟩) ((W.alloc (.cells #[.int .u8 (uq.toNat : Int), .int .u8 (ur.toNat : Int)] 5)).drew) := fun W => (pair_conv W.drew uq ur (.cells #[] 0)).1
      have P2 : ∀ (W : World) (o : Obj), (convert 50 9 (.slice (some ⟨W.heap.size, 0, none⟩) 2 2)).run Try.prog (((W.alloc (.cells #[.int .u8 (uq.toNat : Int), .int .u8 (ur.toNat : Int)] 5)).alloc o).drew) = .ok (.string ⟨[uq, ur].toArray⟩) (((W.alloc (.cells #[.int .u8 (uq.toNat : Int), .int .u8 (ur.toNat : Int)] 5)).alloc o).drew) := fun W o => (pair_conv W.drew uq ur o).2
      have Z0 := zero_make
      have Z1 : ∀ W : World, (convert 50 9 (.slice (some ⟨W.heap.size, 0, none⟩) 45 45)).run Try.prog ((W.alloc (.cells (List.replicate 45 (Value.int .u8 0)).toArray 5)).drew) = .ok (.string ⟨(List.replicate 45 0).toArray⟩) ((W.alloc (.cells (List.replicate 45 (Value.int .u8 0)).toArray 5)).drew) := fun W => (zero_conv W.drew (.cells #[] 0)).1
      have Z2 : ∀ (W : World) (o : Obj), (convert 50 9 (.slice (some ⟨W.heap.size, 0, none⟩) 45 45)).run Try.prog (((W.alloc (.cells (List.replicate 45 (Value.int .u8 0)).toArray 5)).alloc o).drew) = .ok (.string ⟨(List.replicate 45 0).toArray⟩) (((W.alloc (.cells (List.replicate 45 (Value.int .u8 0)).toArray 5)).alloc o).drew) := fun W o => (zero_conv W.drew o).2
      have hsz : ∀ o : Obj, (wr.alloc o).heap.size = wr.heap.size + 1 := fun o => by simp
      have P3 : ∀ o : Obj, (convert 50 9 (.slice (some ⟨wr.heap.size + 1, 0, none⟩) 2 2)).run Try.prog (((wr.alloc o).alloc (.cells #[.int .u8 (uq.toNat : Int), .int .u8 (ur.toNat : Int)] 5)).drew) = .ok (.string ⟨[uq, ur].toArray⟩) (((wr.alloc o).alloc (.cells #[.int .u8 (uq.toNat : Int), .int .u8 (ur.toNat : Int)] 5)).drew) := fun o => by have := P1 (wr.alloc o); rw [hsz] at this; exact this
      have Z3 : ∀ o : Obj, (convert 50 9 (.slice (some ⟨wr.heap.size + 1, 0, none⟩) 45 45)).run Try.prog (((wr.alloc o).alloc (.cells (List.replicate 45 (Value.int .u8 0)).toArray 5)).drew) = .ok (.string ⟨(List.replicate 45 0).toArray⟩) (((wr.alloc o).alloc (.cells (List.replicate 45 (Value.int .u8 0)).toArray 5)).drew) := fun o => by have := Z1 (wr.alloc o); rw [hsz] at this; exact this
      generalize hZZ : List.replicate 45 (Value.int .u8 0) = ZC at Z0 Z1 Z2 Z3
      generalize hZB : List.replicate 45 (0 : UInt8) = ZB at Z1 Z2 Z3 HHB
      have hZl : ZB.length = 45 := by rw [← hZB]; simp
      have HBW := Lib.hid hb.out
      clear hsz
      clear ho7 ho hb hj hZZ hZB hBT
      go_wp2
      go_region
      all_goals
        go_wp2
        go_ret2
        rw [HHB.out]
        refine R2.mk rfl rfl ?_
        have hqq : ∀ o o', Below w.heap.size w ((wr.alloc o).alloc o').drew := fun o o' => belowN ((HBW.out.alloc HBW.out.size o).alloc (HBW.out.alloc HBW.out.size o).size o') 1
        exact hqq _ _
    · have hc : j = 0 ∨ j = 1 ∨ j = 2 ∨ j = 3 ∨ j = 4 ∨ j = 5 ∨ j = 6 := by omega
      have HTK : ∀ j (hj : j < 7), Hid ((big 7 seq).take (j + 1) = (big 7 seq).take j ++ [(big 7 seq)[j]'(by rw [big_length]; exact hj)]) := fun j hj => List.take_succ_eq_append_getElem (by rw [big_length]; exact hj)
      rcases hc with rfl | rfl | rfl | rfl | rfl | rfl | rfl
      case' inl =>
        have hs : IntKind.u8.wrap ((seq : Int).fdiv (2 ^ min (IntKind.i64.wrap (48 : Int)).toNat 64)) = _ := byte_at seq 0 (by omega)
        have HT1 := HTK 0 (by omega)
        generalize (big 7 seq)[0]'(by rw [big_length]; omega) = c at hs HT1
      case' inr.inl =>
        have hs : IntKind.u8.wrap ((seq : Int).fdiv (2 ^ min (IntKind.i64.wrap (40 : Int)).toNat 64)) = _ := byte_at seq 1 (by omega)
        have HT1 := HTK 1 (by omega)
        generalize (big 7 seq)[1]'(by rw [big_length]; omega) = c at hs HT1
      case' inr.inr.inl =>
        have hs : IntKind.u8.wrap ((seq : Int).fdiv (2 ^ min (IntKind.i64.wrap (32 : Int)).toNat 64)) = _ := byte_at seq 2 (by omega)
        have HT1 := HTK 2 (by omega)
        generalize (big 7 seq)[2]'(by rw [big_length]; omega) = c at hs HT1
      case' inr.inr.inr.inl =>
        have hs : IntKind.u8.wrap ((seq : Int).fdiv (2 ^ min (IntKind.i64.wrap (24 : Int)).toNat 64)) = _ := byte_at seq 3 (by omega)
        have HT1 := HTK 3 (by omega)
        generalize (big 7 seq)[3]'(by rw [big_length]; omega) = c at hs HT1
      case' inr.inr.inr.inr.inl =>
        have hs : IntKind.u8.wrap ((seq : Int).fdiv (2 ^ min (IntKind.i64.wrap (16 : Int)).toNat 64)) = _ := byte_at seq 4 (by omega)
        have HT1 := HTK 4 (by omega)
        generalize (big 7 seq)[4]'(by rw [big_length]; omega) = c at hs HT1
      case' inr.inr.inr.inr.inr.inl =>
        have hs : IntKind.u8.wrap ((seq : Int).fdiv (2 ^ min (IntKind.i64.wrap (8 : Int)).toNat 64)) = _ := byte_at seq 5 (by omega)
        have HT1 := HTK 5 (by omega)
        generalize (big 7 seq)[5]'(by rw [big_length]; omega) = c at hs HT1
      case' inr.inr.inr.inr.inr.inr =>
        have hs : IntKind.u8.wrap ((seq : Int).fdiv (2 ^ min (IntKind.i64.wrap (0 : Int)).toNat 64)) = _ := byte_at seq 6 (by omega)
        have HT1 := HTK 6 (by omega)
        generalize (big 7 seq)[6]'(by rw [big_length]; omega) = c at hs HT1
      all_goals
        clear HTK hj hj7
        go_upto_region 7 with (fail)
        refine wp_region_lit ?_
        iterate 6
          refine wpList_plain rfl fun K hK => ?_
          go_simp
          refine hK _ _ ?_
          clear hK K
        have HQ := Holds.new wr [.int .u8 (c.toNat : Int)] 5
        have HBd := hb.out.alloc hb.out.size (.cells [Value.int .u8 (c.toNat : Int)].toArray 5)
        have HOw := ho.out.alloc (.cells [Value.int .u8 (c.toNat : Int)].toArray 5)
        obtain ⟨q, hq⟩ : ∃ q, Hid (q = wr.heap.size) := ⟨_, rfl⟩
        refine wpList_plain rfl fun K hK => ?_
        go_simp
        refine hK _ _ ?_
        clear hK K
        rw [← hq.out] at HQ ⊢
        change Holds (wr.alloc (.cells #[Value.int .u8 (c.toNat : Int)] 5)) _ _ _ at HQ
        change Below _ _ (wr.alloc (.cells #[Value.int .u8 (c.toNat : Int)] 5)) at HBd
        change (wr.alloc (.cells #[Value.int .u8 (c.toNat : Int)] 5)).ownsRow _ _ _ _ _ _ at HOw
        generalize wr.alloc (.cells #[Value.int .u8 (c.toNat : Int)] 5) = wd at HQ HBd HOw ⊢
        refine wpList_append_at wd rfl (.tmp 26) (.tmp 32) 50 rfl w.heap.size 5 iB _ 1 1 Try.underlying50 hiB hzB hsB hbB (by rfl) (by omega) _ _ _ (by rfl) HOw
          ⟨q, 0, none⟩ 1 1 [.int .u8 (c.toNat : Int)] (by rfl) (by simp) (fun j u hj => by rw [add0]; exact HQ.cell j u hj) (by simp [Value.oneCell']) (by unfold maxLen; omega) (by omega) HBd.size (by omega) ?_
        intro v' we ho3 hgr _
        have HB3 : Hid (Below w.heap.size w we) := HBd.grown hgr HBd.size (own_low HOw)
        have HO3 := Lib.hid (owns_len ho3 rfl (ys := Lib.byteCells (List.take _ (big 7 seq))) (by rw [HT1.out]; simp [Lib.byteCells]))
        clear ho3 hgr HQ HBd HOw ho hb
        go_wp2
        go_roundw
        case rel => exact ⟨_, (by omega), (by rfl), HO3, HB3⟩
        case measure => simp [intOf]

/-- The reference's Head, whatever the numbers. -/
theorem r6Head (seq size : Int) (w : World) : (seq < 1 ∨ 9007199254740991 < seq ∨ size < 0 ∨ 512 < size → Calls Try.prog 19 #[.int .i64 seq, .int .i64 size] w (R2 w (.string ⟨#[]⟩) (.bool false)))
    ∧ (∀ s z : Nat, seq = (s : Int) → size = (z : Int) → 1 ≤ s → s ≤ MaxN → z ≤ 512 → Calls Try.prog 19 #[.int .i64 seq, .int .i64 size] w (R2 w (.string ⟨(headB s z).toArray⟩) (.bool true))) :=
  ⟨fun h => r6Head_bad seq size w h, fun s z e1 e2 h1 h2 h3 => by subst e1 e2; exact r6Head_ok s z w h1 h2 h3⟩

/-- What bytes are as a head: the numbers, the error. -/
def rdHead (b : List UInt8) : Nat × Nat × Nat :=
  if b.length < 64 then (0, 0, 2) else if 64 < b.length then (0, 0, 5) else
  if 1 ≤ val ((b.drop 2).take 7) ∧ val ((b.drop 2).take 7) ≤ MaxN ∧ 256 * (b.getD 9 0).toNat + (b.getD 10 0).toNat ≤ 512 ∧ headB (val ((b.drop 2).take 7)) (256 * (b.getD 9 0).toNat + (b.getD 10 0).toNat) = b then
    (val ((b.drop 2).take 7), 256 * (b.getD 9 0).toNat + (b.getD 10 0).toNat, 0) else (0, 0, 3)

set_option maxHeartbeats 1000000 in
theorem r6ReadHead (b : List UInt8) (w : World) (hb : (b.length : Int) ≤ 140737488351232) :
    Calls Try.prog 21 #[.string ⟨b.toArray⟩] w (R3 w (.int .i64 ((rdHead b).1 : Int)) (.int .i64 ((rdHead b).2.1 : Int)) (.int .i64 ((rdHead b).2.2 : Int))) := by
  by_cases h1 : b.length < 64
  · have HV : Hid (rdHead b = (0, 0, 2)) := by show _ = _; unfold rdHead; rw [if_pos h1]
    rw [HV.out]
    have h1i : (b.length : Int) < 64 := by omega
    clear HV
    go_enter Try.func21, Try.ntmps21
    go_wp2
    go_ret3
    exact R3.mk rfl rfl rfl (Below.refl _ _)
  · by_cases h2 : 64 < b.length
    · have HV : Hid (rdHead b = (0, 0, 5)) := by show _ = _; unfold rdHead; rw [if_neg h1, if_pos h2]
      rw [HV.out]
      have h1i : ¬(b.length : Int) < 64 := by omega
      have h2i : (64 : Int) < (b.length : Int) := by omega
      clear HV
      go_enter Try.func21, Try.ntmps21
      go_wp2
      go_ret3
      exact R3.mk rfl rfl rfl (Below.refl _ _)
    · have hl : b.length = 64 := by omega
      have HL : Hid (b.length = 64) := hl
      have h1i : ¬(b.length : Int) < 64 := by omega
      have h2i : ¬(64 : Int) < (b.length : Int) := by omega
      clear hl h1 h2 hb
      go_enter Try.func21, Try.ntmps21
      go_wp2
      go_loopw [5, 6] (fun n i wr => ∃ j : Nat, j ≤ 7 ∧ i = .int .i64 ((j + 2 : Nat) : Int) ∧ n = .int .i64 (val ((b.drop 2).take j) : Nat) ∧ Hid (wr = w)) (fun _ i _ => 9 - (intOf i).toNat)
      case atStart => exact ⟨0, by omega, rfl, rfl, rfl⟩
      case round =>
        obtain ⟨j, hj, rfl, rfl, hww⟩ := hrel
        obtain rfl := hww.out
        by_cases hlt : ((j + 2 : Nat) : Int) < 9
        · obtain ⟨J, hJ⟩ : ∃ J, J = j + 2 := ⟨_, rfl⟩
          have hJl : J < b.length := by have := HL.out; omega
          have hJi : (J : Int) < (b.length : Int) := by omega
          have hJ0 : (0 : Int) ≤ (J : Int) := Int.natCast_nonneg _
          have hjt : j < (b.drop 2).length := by rw [List.length_drop]; have := HL.out; omega
          have hval := val_snoc ((b.drop 2).take j) ((b.drop 2)[j])
          rw [← List.take_succ_eq_append_getElem hjt] at hval
          have hlt7 := val_lt _ ((b.drop 2).take (j + 1)) rfl
          have hg : (b.drop 2)[j] = b[J] := by rw [List.getElem_drop]; simp only [hJ]; congr 1; omega
          rw [hg] at hval
          rw [← hJ] at hlt ⊢
          have hlen7 : ((b.drop 2).take (j + 1)).length ≤ 7 := by rw [List.length_take]; omega
          have hb56 : val ((b.drop 2).take (j + 1)) < 72057594037927936 := Nat.lt_of_lt_of_le hlt7 (Nat.le_trans (Nat.pow_le_pow_right (by decide) hlen7) (by decide))
          have hwJ : IntKind.i64.wrap ((J : Int) + 1) = ((j + 1 + 2 : Nat) : Int) := by rw [IntWalk.i64_in _ (by omega)]; omega
          obtain ⟨c, hc⟩ : ∃ c, b[J] = c := ⟨_, rfl⟩
          rw [hc] at hval
          have hgo : b[J]? = some c := by rw [List.getElem?_eq_getElem hJl, hc]
          have hcl := c.toNat_lt
          generalize hS1 : val ((b.drop 2).take (j + 1)) = S1 at hval hb56
          generalize val ((b.drop 2).take j) = S at hval ⊢
          have hw1 : IntKind.i64.wrap (256 * (S : Int)) = 256 * (S : Int) := IntWalk.i64_in _ (by omega)
          have hw2 : IntKind.i64.wrap (256 * (S : Int) + (c.toNat : Int)) = (S1 : Int) := by rw [IntWalk.i64_in _ (by omega)]; omega
          have hj1 : j + 1 ≤ 7 := by omega
          have HS1 := Lib.hid hS1
          have HJ := Lib.hid hJ
          clear hval hlt7 hg hjt hb56 hcl hlen7 hS1 hJ
          go_wp2
          refine ⟨⟨j + 1, hj1, by go_num, by rw [HS1.out], (by first | exact rfl | exact Lib.hid trivial)⟩, ?_⟩
          have hJ2 := HJ.out
          rw [hJ2]
          simp [intOf]; omega
        · have hj7 : j = 7 := by omega
          subst hj7
          have hb56 : val ((b.drop 2).take 7) < 72057594037927936 := by
            have h := val_lt _ ((b.drop 2).take 7) rfl
            have hl : ((b.drop 2).take 7).length ≤ 7 := by rw [List.length_take]; omega
            exact Nat.lt_of_lt_of_le h (Nat.le_trans (Nat.pow_le_pow_right (by decide) hl) (by decide))
          have hlb := HL.out
          obtain ⟨c9, h9⟩ : ∃ c, b[9]? = some c := ⟨b[9]'(by omega), List.getElem?_eq_getElem (by omega)⟩
          obtain ⟨c10, h10⟩ : ∃ c, b[10]? = some c := ⟨b[10]'(by omega), List.getElem?_eq_getElem (by omega)⟩
          have g9 : b[9]'(by omega) = c9 := by have := List.getElem?_eq_getElem (l := b) (i := 9) (by omega); rw [this] at h9; exact Option.some.inj h9
          have g10 : b[10]'(by omega) = c10 := by have := List.getElem?_eq_getElem (l := b) (i := 10) (by omega); rw [this] at h10; exact Option.some.inj h10
          have hr : Hid (rdHead b = if 1 ≤ val ((b.drop 2).take 7) ∧ val ((b.drop 2).take 7) ≤ MaxN ∧ 256 * c9.toNat + c10.toNat ≤ 512 ∧ headB (val ((b.drop 2).take 7)) (256 * c9.toNat + c10.toNat) = b then (val ((b.drop 2).take 7), 256 * c9.toNat + c10.toNat, 0) else (0, 0, 3)) := by
            show _ = _
            unfold rdHead
            rw [if_neg (by omega), if_neg (by omega)]
            simp only [List.getD, h9, h10, Option.getD_some]
          have hlb9 : (9 : Int) < (b.length : Int) := by omega
          have hlb10 : (10 : Int) < (b.length : Int) := by omega
          have hc9 := c9.toNat_lt
          have hc10 := c10.toNat_lt
          have hw1 : IntKind.i64.wrap (256 * (c9.toNat : Int)) = 256 * (c9.toNat : Int) := IntWalk.i64_in _ (by omega)
          obtain ⟨z, hz⟩ : ∃ z, z = 256 * c9.toNat + c10.toNat := ⟨_, rfl⟩
          rw [← hz] at hr
          have hw2 : IntKind.i64.wrap (256 * (c9.toNat : Int) + (c10.toNat : Int)) = (z : Int) := by rw [IntWalk.i64_in _ (by omega)]; omega
          generalize val ((b.drop 2).take 7) = S at hr hb56 ⊢
          clear hlb h9 h10 hc9 hc10 hz hww hj
          by_cases hok : 1 ≤ S ∧ S ≤ MaxN ∧ z ≤ 512
          · have HH := Lib.hid (fun w' => (r6Head (S : Int) (z : Int) w').2 S z rfl rfl hok.1 hok.2.1 hok.2.2)
            obtain ⟨hok1, hok2, hok3⟩ := hok
            clear hb56
            go_wp2_with fail
            go_quiet (fail)
            go_wp2_with fail
            refine (HH.out _).mono ?_
            rintro e w2 ⟨rfl, hb2⟩
            by_cases heq : headB S z = b
            · have HV : Hid (rdHead b = (S, z, 0)) := by show _ = _; rw [hr.out, if_pos ⟨hok1, hok2, hok3, heq⟩]
              rw [heq]
              clear heq hr hok1 hok2 hok3
              go_wp2
              go_ret3
              rw [HV.out]
              exact R3.mk rfl rfl rfl ((belowN (Below.refl _ _) _).trans hb2)
            · have HV : Hid (rdHead b = (0, 0, 3)) := by show _ = _; rw [hr.out, if_neg (fun h => heq h.2.2.2)]
              generalize headB S z = H at heq ⊢
              have hne : (H == b) = false := by simpa using heq
              clear hr hok1 hok2 hok3 heq
              go_wp2
              go_ret3
              rw [HV.out]
              exact R3.mk rfl rfl rfl ((belowN (Below.refl _ _) _).trans hb2)
          · have HH := Lib.hid (fun w' => (r6Head (S : Int) (z : Int) w').1 (by unfold MaxN at hok; omega))
            have HV : Hid (rdHead b = (0, 0, 3)) := by show _ = _; rw [hr.out, if_neg (fun h => hok ⟨h.1, h.2.1, h.2.2.1⟩)]
            clear hok hb56 hr
            go_wp2_with fail
            go_quiet (fail)
            go_wp2_with fail
            refine (HH.out _).mono ?_
            rintro e w2 ⟨rfl, hb2⟩
            go_wp2
            go_ret3
            rw [HV.out]
            exact R3.mk rfl rfl rfl ((belowN (Below.refl _ _) _).trans hb2)

end Go.Proofs.Ytbfdhonmmoikdaa
