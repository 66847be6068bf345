/- PSy, IsF, AsE. -/
import Derived.Test.YtfbgagpihhbllaaGreatDoorJ17
import Derived.Test.YtfbgagpihhbllaaGreatDoorPDk
import Derived.Stop.Asserts
import Derived.LaidEql
import Derived.Test.YtfbgagpihhbllaaGreatDoorJ03
import Derived.Test.YtfbgagpihhbllaaGreatDoorProg
import Derived.Lib.ReflectliteSlice

/- The program's Sync: what it does. -/
namespace Go.Proofs.YtfbgagpihhbllaaGreatDoor
open Go.RowKit Go.Proofs Go.Proofs.Pk
set_option maxRecDepth 10000
attribute [local simp] mk_get wrap64_u8 mk_extract ByteArray.mk_append_mk get_1k

set_option maxHeartbeats 400000 in
theorem pSy_off (w : World) (B p : Nat) (S : Dsk) (X : Nat → Prop) (h : DskP w B p S X) (ho : S.off = true) :
    Calls Tryz.prog 72 #[.pointer (some ⟨p, 0, none⟩)] w (W1P w B p X S (erV 6)) := by
  have HD := Lib.hid h
  obtain ⟨gD, gS, vC, h⟩ := h
  have c4 := h.obj.cell 4 _ rfl
  rw [ho] at c4
  clear h ho
  go_enter Tryz.func72, Tryz.ntmps72
  go_wp2
  go_ret
  exact ⟨rfl, X, HD.out, Grows.refl w X, Kept.refl X w⟩

theorem syncL_take (L : List (List UInt8)) (C : List (Nat × List UInt8)) (j : Nat) (h : j < C.length) : syncL L (C.take (j + 1)) = (syncL L (C.take j)).set (C[j]).1 (C[j]).2 := by
  rw [List.take_succ_eq_append_getElem h, syncL_snoc]

set_option maxHeartbeats 1000000 in
theorem pSy_on (w : World) (B p : Nat) (S : Dsk) (X : Nat → Prop) (h : DskP w B p S X) (hS : S.Ok) (ho : S.off = false) :
    Calls Tryz.prog 72 #[.pointer (some ⟨p, 0, none⟩)] w (W1P w B p X { S with L := syncL S.L S.C, C := [] } .nilIface) := by
  obtain ⟨gD, gS, vC, h⟩ := h
  obtain ⟨i67, hi67, hz67, hs67, hb67⟩ := info_parts write_info
  obtain ⟨L, C, fu, off, n⟩ := S
  simp only at ho
  subst ho
  simp only
  have HX : Hid (∀ b, Xof p gD gS vC b → X b) := fun b hb => (h.own b).2 hb
  have HR : Hid (RawAt w B p gD gS vC L (syncL L C) C fu false n) := h.raw
  have hsect := hS.sect
  have hcach := hS.cach
  simp only at hsect hcach
  have HOk := Lib.hid (And.intro hsect hcach)
  obtain ⟨ad, cap, hv⟩ : ∃ ad cap, vC = .slice ad C.length cap := by
    rcases h.cache.2 with ⟨hv, h0⟩ | ⟨g, cap, cur, hv, _⟩
    · exact ⟨none, 0, by rw [hv, h0]⟩
    · exact ⟨_, _, hv⟩
  subst hv
  have hC63 : (C.length : Int) ≤ 9223372036854775807 := by
    rcases h.cache.2 with ⟨_, h0⟩ | ⟨g, cap, cur, _, _, _, h1, h2, _⟩
    · simp only at h0; omega
    · simp only at h1; unfold maxLen at h2; omega
  have c4 := h.obj.cell 4 _ rfl
  have c2 := h.obj.cell 2 _ rfl
  simp only at c4 c2
  clear h hS hsect hcach
  go_enter Tryz.func72, Tryz.ntmps72
  go_wp2
  go_loopw [15] (fun i wr => ∃ j : Nat, j ≤ C.length ∧ i = .int .i64 j ∧ Hid (RawAt wr B p gD gS (.slice ad C.length cap) (syncL L (C.take j)) (syncL L C) C fu false n) ∧ Hid (Kept X w wr)) (fun i _ => C.length - (intOf i).toNat)
  case atStart => exact ⟨0, Nat.zero_le _, rfl, HR, Kept.refl X w⟩
  case round =>
    obtain ⟨j, hj, rfl, hr, hk⟩ := hrel
    by_cases hlt : (j : Int) < C.length
    · have hjC : j < C.length := by omega
      obtain ⟨y, hy⟩ : ∃ y, y = C[j] := ⟨_, rfl⟩
      have hy1 : y.1 < L.length := by rw [hy]; exact (HOk.out.2 _ (List.getElem_mem hjC)).1
      have hy2 : y.2.length = 64 := by rw [hy]; exact (HOk.out.2 _ (List.getElem_mem hjC)).2
      have hT := syncL_take L C j hjC
      rw [← hy] at hT
      have HT := Lib.hid hT
      obtain ⟨M, hM⟩ : ∃ M, Hid (M = syncL L (C.take j)) := ⟨_, rfl⟩
      rw [← hM.out] at hr hT
      have hML : M.length = L.length := by rw [hM.out, syncL_length]
      have hM64 : ∀ x ∈ M, x.length = 64 := by rw [hM.out]; exact syncL_64 HOk.out.1 (fun x hx => (HOk.out.2 x (List.mem_of_mem_take hx)).2)
      obtain ⟨gC, rfl⟩ : ∃ gC, ad = some ⟨gC, 0, none⟩ := by
        rcases hr.out.cache.2 with ⟨_, h0⟩ | ⟨g', cap', cur, hv, _⟩
        · omega
        · injection hv with e1; exact ⟨_, e1⟩
      have hrng : wr.rangeAt gC (j * 65) (cellW y) := fun i v hv => by
        have hi := (List.getElem?_eq_some_iff.1 hv).1
        have hc := hr.out.cache
        rw [cellW_length y hy2] at hi
        rw [hc.cellAt (j * 65 + i) (by omega)]
        rw [hy] at hv
        exact flatW_get C (fun x hx => (HOk.out.2 x hx).2) j hjC i v hv
      have hj0 : (0 : Int) ≤ (j : Int) := Int.natCast_nonneg _
      obtain ⟨g, hg⟩ : ∃ g, Hid (g = wr.heap.size) := ⟨_, rfl⟩
      have hXg : ¬Xof p gD gS (.slice (some ⟨gC, 0, none⟩) C.length cap) g := fun hx => by have := (hr.out.lt g hx).2; have := hg.out; omega
      have hy1' : (y.1 : Int) < M.length := by omega
      have hy1M : y.1 < M.length := by omega
      clear hT hy hML hy1
      go_upto_region 5 with (fail)
      refine wp_region_lit ?_
      refine wpList_plain rfl fun K hK => ?_
      go_simp
      refine hK _ _ ?_
      clear hK K
      refine wpList_load_mid rfl 90 (.tmp 17) rfl gC (j * 65) rfl (cellW y) _ hrng Tryz.underlying90 rfl (by rw [write_size, cellW_length y hy2]) ?_
      refine wpList_alloc_row rfl 90 rfl i67 (cellW (0, z64)) hi67 hz67 ?_
      rw [← hg.out]
      have HN := Holds.new wr (cellW (0, z64)) 90
      have HV1 := hr.out.alloc (.cells (cellW (0, z64)).toArray 90)
      have KV1 := hk.out.alloc (.cells (cellW (0, z64)).toArray 90)
      rw [← hg.out] at HN
      generalize wr.alloc (.cells (cellW (0, z64)).toArray 90) = wa at HN HV1 KV1 ⊢
      refine wpList_store_mid rfl 90 (.tmp 4) (.tmp 18) rfl g 0 (cellW y).toArray rfl rfl (HN.there 0 _ (by simp [cellW_z, cellW_length y hy2])) (by rw [write_size]; simp [cellW_length y hy2]) (all_oneCell_toArray (cellW_one _)) ?_
      have HN2 := Holds.setCells (cellW y) 0 wa _ HN (by simp [cellW_z, cellW_length y hy2])
      rw [lay_all _ _ (by simp [cellW_z, cellW_length y hy2])] at HN2
      have HV2 := HV1.setOther g 0 (cellW y) hXg
      have KV2 := Kept.setCellsN (X := X) (hg.out ▸ hk.out.size) (cellW y) 0 wa KV1
      refine wpList_nil ?_
      change Exit.then _ _ _ _ (wa.setCells g 0 (cellW y))
      generalize wa.setCells g 0 (cellW y) = wb at HN2 HV2 KV2 ⊢
      clear HN HV1 KV1
      have HE := Lib.hid (And.intro HN2 (And.intro HV2 KV2))
      have hy0 : (0 : Int) ≤ (y.1 : Int) := Int.natCast_nonneg _
      have c0 := HV2.drew.obj.cell 0 _ rfl
      have d0 := HN2.drew.cell 0 _ rfl
      clear HN2 HV2 KV2
      go_wp2_with fail
      refine wp_region_still_tail 9 (by kernel_rfl) (by kernel_rfl) ?_
      simp only [List.take_succ_cons, List.take_zero, List.drop_succ_cons, List.drop_zero]
      still_step
      still_step
      still_step
      still_step
      still_step
      still_step
      still_step
      refine wpStill_load_mid rfl 88 (.tmp 25) rfl g 1 (by kernel_rfl) (Lib.byteCells y.2) _ (HE.out.1.drew.range 1 _ (fun j v hv => by rw [Nat.add_comm]; simpa [cellW] using hv)) Tryz.underlying88 rfl (by rw [content_size, bc_length, hy2]) ?_
      still_step
      refine wpStill_nil ?_
      change wpList _ _ _ _ _ wb.drew
      have HM := HE.out.2.1.drew.setDur hM64 y.1 hy1M y.2 64 hy2 (Nat.le_refl _)
      rw [List.drop_eq_nil_of_le (by rw [hM64 _ (List.getElem_mem _)]; exact Nat.le_refl _), List.append_nil] at HM
      have KM := Kept.setCells (X := X) (g := gD) (HX.out gD (.inr (.inl rfl))) (Lib.byteCells y.2) (y.1 * 64) wb.drew (HE.out.2.2.drewN 1)
      refine wpList_store_mid rfl 88 (.tmp 27) (.tmp 26) rfl gD (y.1 * 64) (Lib.byteCells y.2).toArray (by kernel_rfl) (by kernel_rfl) (HE.out.2.1.drew.dur.there _ _ (by rw [cellsL_length _ hM64]; simp [bc_length, hy2]; omega)) (by rw [content_size]; simp [bc_length, hy2]) (all_oneCell_toArray (bc_one _)) ?_
      refine wpList_nil ?_
      change Exit.inBlock _ _ _ _ (wb.drew.setCells gD (y.1 * 64) (Lib.byteCells y.2))
      generalize wb.drew.setCells gD (y.1 * 64) (Lib.byteCells y.2) = wg at HM KM ⊢
      rw [hM.out, ← HT.out] at HM
      have HE2 := Lib.hid (And.intro HM KM)
      have hw2 : IntKind.i64.wrap ((j : Int) + 1) = ((j + 1 : Nat) : Int) := by rw [IntWalk.i64_in _ (by omega)]; omega
      clear c0 d0 HM KM hM64 hrng hy0 hy1' hy1M hy2
      go_wp2
      go_roundw
      case rel => exact ⟨j + 1, by omega, by first | rfl | go_num, HE2.out.1, HE2.out.2⟩
      case measure => simp [intOf]; omega
    · obtain rfl : j = C.length := by omega
      rw [List.take_length] at hr
      have c2' := hr.out.obj.cell 2 _ rfl
      have f2' := hr.out.obj.free 2
      have HO := Lib.hid hr.out.cache
      rcases HO.out.2 with ⟨hv, hz⟩ | ⟨gC, cap', cur, hv, hrest⟩
      · injection hv with e1 e2 e3
        subst e1 e3
        have HF := hr.out.setC (vC' := .slice none 0 0) (C' := []) ⟨rfl, .inl ⟨rfl, rfl⟩⟩ ⟨by simp [Value.ownBlock], by simp [Value.ownBlock], by simp [Value.ownBlock]⟩
        have HE := Lib.hid HF
        clear HF
        go_wp2
        all_goals
          go_ret
          exact ⟨rfl, _, RawAt.dsk (S := ⟨syncL L C, [], fu, false, n⟩) HE.out rfl, fun b hb => .inl (HX.out b hb), hk.out.setCell (p := ⟨p, 2, none⟩) (HX.out p (.inl rfl)) _⟩
      · injection hv with e1 e2 e3
        subst e1 e3
        have HF := hr.out.setC (vC' := .slice (some ⟨gC, 0, none⟩) 0 cap) (C' := []) (owns_cut HO.out) hr.out.neC
        have HE := Lib.hid HF
        clear HF
        go_wp2
        all_goals
          go_ret
          exact ⟨rfl, _, RawAt.dsk (S := ⟨syncL L C, [], fu, false, n⟩) HE.out rfl, fun b hb => .inl (HX.out b hb), hk.out.setCell (p := ⟨p, 2, none⟩) (HX.out p (.inl rfl)) _⟩

/-- Sync does what the chapter says. -/
theorem pSy (w : World) (B p : Nat) (S : Dsk) (X : Nat → Prop) (h : DskP w B p S X) (hS : S.Ok) :
    Calls Tryz.prog 72 #[.pointer (some ⟨p, 0, none⟩)] w (W1P w B p X S.sync.1 (erV S.sync.2)) := by
  cases ho : S.off with
  | true => rw [show S.sync = (S, 6) from by unfold Dsk.sync; rw [if_pos ho]]; exact pSy_off w B p S X h ho
  | false => rw [show S.sync = ({ S with L := syncL S.L S.C, C := [] }, 0) from by unfold Dsk.sync; rw [if_neg (by simp [ho])]]; exact pSy_on w B p S X h hS ho

end Go.Proofs.YtfbgagpihhbllaaGreatDoor

/- errors.Is of a Fault of api: Go's own text, walked; the law's own question (layers 7 on). -/
namespace Go.Proofs.YtfbgagpihhbllaaGreatDoor
open Go.RowKit Go.Proofs Go.Proofs.Pk Go.Extern.Stop Go.Stop Go.Extern
set_option maxRecDepth 10000
attribute [local simp] mk_get wrap64_u8 mk_extract ByteArray.mk_append_mk get_1k

/-- A Fault at the block b: its number and what it came from. -/
def FaultAt (w : World) (b : Nat) (layer c : Int) (inner : Value) : Prop :=
  w.cell? ⟨b, 0, none⟩ = some (.int .i64 layer) ∧ w.cell? ⟨b, 1, none⟩ = some (.int .i64 c) ∧ w.cell? ⟨b, 2, none⟩ = some inner

theorem assert_en (c : Int) (w : World) : (Instr.typeAssert (.iface 33 (.int .i64 c)) 24 33 true).run Tryz.prog w = .ok (.tuple #[.int .i64 c, .bool true]) w := by kernel_rfl

set_option maxHeartbeats 400000 in
theorem fault_is (b : Nat) (layer c k : Int) (inner : Value) (w : World) (h : FaultAt w b layer c inner) :
    Calls Tryz.prog 140 #[.pointer (some ⟨b, 0, none⟩), .iface 33 (.int .i64 k)] w (Q1 w (.bool (k == c))) := by
  obtain ⟨-, c1, -⟩ := h
  have hb := assert_en
  go_enter Tryz.func140, Tryz.ntmps140
  go_wp2
  go_ret
  exact ⟨rfl, 0, rfl⟩

set_option maxHeartbeats 400000 in
theorem fault_unwrap (b : Nat) (layer c : Int) (inner : Value) (w : World) (h : FaultAt w b layer c inner) :
    Calls Tryz.prog 141 #[.pointer (some ⟨b, 0, none⟩)] w (Q1 w inner) := by
  obtain ⟨-, -, c2⟩ := h
  go_enter Tryz.func141, Tryz.ntmps141
  go_wp2
  go_ret
  exact ⟨rfl, 0, rfl⟩

theorem fHasIs (v : Value) (xT : TypeId) (w : World) : (Instr.typeAssert (.iface 81 v) xT 148 true).run Tryz.prog w = .ok (.tuple #[.iface 81 v, .bool true]) w := run_typeAssert_hasB Tryz.underlying148 (by kernel_rfl) v xT w
theorem fHasUnwrap (v : Value) (xT : TypeId) (w : World) : (Instr.typeAssert (.iface 81 v) xT 151 true).run Tryz.prog w = .ok (.tuple #[.iface 81 v, .bool true]) w := run_typeAssert_hasB Tryz.underlying151 (by kernel_rfl) v xT w
theorem fMIs (v : Value) (w : World) : (Go.method 333 81 v "Is").run Tryz.prog w = .ok (140, v) w := by kernel_rfl
theorem fMUnwrap (v : Value) (w : World) : (Go.method 333 81 v "Unwrap").run Tryz.prog w = .ok (141, v) w := by kernel_rfl
theorem fEql (a : Value) (b : Int) (w : World) : (binOp .eql 24 (.iface 81 a) (.iface 33 (.int .i64 b))).run Tryz.prog w = .ok (.bool false) w := run_eql_iface_types _ _ _ _ Tryz.underlying24 (by decide) w
theorem fTypeOf (v : Value) (w : World) : (Extern.ReflectliteType.typeOf #[.iface 33 v]).run Tryz.prog w = .ok (.iface 146 (.agg #[.pointer (some ⟨1, 33, none⟩)])) w := by kernel_rfl
def fCmp : Array Value → Sem Value := Extern.ReflectliteType.method fun t => do Extern.Rtype.noPackHeld "Comparable" t; pure (.bool (← typeInfo t).comparable)
theorem fComparable (w : World) : (fCmp #[.agg #[.pointer (some ⟨1, 33, none⟩)]]).run Tryz.prog w = .ok (.bool true) w := by kernel_rfl
theorem fMethod (v : Value) (w : World) : (Go.method 333 146 v "Comparable").run Tryz.prog w = .ok (145, v) w := by kernel_rfl

set_option maxHeartbeats 1000000 in
/-- errors.is(a fault, its number). -/
theorem is_fault_in (b : Nat) (layer c : Int) (inner : Value) (w : World) (h : FaultAt w b layer c inner) :
    Calls Tryz.prog 64 #[.iface 81 (.pointer (some ⟨b, 0, none⟩)), .iface 33 (.int .i64 c), .bool true] w (Q1 w (.bool true)) := by
  have HI := Lib.hid (fault_is b layer c c inner w h)
  rw [show (c == c) = true by simp] at HI
  have nE := fHasIs
  have mI := fMIs
  have heq := fEql
  clear h
  go_enter Tryz.func64, Tryz.ntmps64
  go_wp2
  refine wp_loop_rounds 1 ?_
  rw [rounds_succ]
  go_wp2_with (go_at_call 140; refine HI.out.mono ?_; rintro e wn ⟨rfl, m, rfl⟩)
  go_wp2
  go_ret
  exact ⟨rfl, m, rfl⟩


set_option maxHeartbeats 1000000 in
/-- errors.Is(a fault, its number). -/
theorem is_fault (b : Nat) (layer c : Int) (inner : Value) (w : World) (h : FaultAt w b layer c inner) :
    Calls Tryz.prog 40 #[.iface 81 (.pointer (some ⟨b, 0, none⟩)), .iface 33 (.int .i64 c)] w (Q1 w (.bool true)) := by
  have h8 := @run_callFunc_extern Tryz.prog 63 _ Extern.ReflectliteType.typeOf Tryz.func63 (by kernel_rfl) (by kernel_rfl) (by kernel_rfl) (by kernel_rfl)
  have h32 := @run_callFunc_extern Tryz.prog 145 _ fCmp Tryz.func145 (by kernel_rfl) (by kernel_rfl) (by kernel_rfl) (by kernel_rfl)
  have HI := Lib.hid (is_fault_in b layer c inner w h)
  have tT := fTypeOf
  have cT := fComparable
  have mR := fMethod
  clear h
  go_enter Tryz.func40, Tryz.ntmps40
  go_wp2_with (go_at_call 64; refine HI.out.mono ?_; rintro e wn ⟨rfl, m, rfl⟩)
  go_wp2
  go_ret
  exact ⟨rfl, m, rfl⟩

theorem fAssert (v : Value) (w : World) : (Instr.typeAssert (.iface 81 v) 24 81 true).run Tryz.prog w = .ok (.tuple #[v, .bool true]) w := by kernel_rfl

end Go.Proofs.YtfbgagpihhbllaaGreatDoor

/- errors.As of a number of api, into a number of api: Go's own text, walked. -/
namespace Go.Proofs.YtfbgagpihhbllaaGreatDoor
open Go.RowKit Go.Proofs Go.Proofs.Pk Go.Extern.Stop Go.Stop Go.Extern
set_option maxRecDepth 10000

/-- What errors.errorType holds. -/
def ErrTy (w : World) : Prop := w.cell? ⟨0, 0, none⟩ = some (.iface 146 (.agg #[.pointer (some ⟨1, 24, none⟩)]))

theorem asValueP (t : Addr) (w : World) : (ReflectliteValue.unpack (.iface 134 (.pointer (some t)))).run Tryz.prog w
    = .ok (.agg #[.pointer (some ⟨1, 134, none⟩), .pointer (some ⟨w.heap.size, 0, none⟩), .int .u64 150]) (w.alloc (.cells #[.pointer (some t)] 134)) := by kernel_rfl
theorem asTypeP (a : Addr) (w : World) : (ReflectliteValue.methodAny (ReflectliteValue.valueError "reflectlite.Value.Type" 0) (fun t _ _ _ => ReflectliteType.toType t) #[.agg #[.pointer (some ⟨1, 134, none⟩), .pointer (some a), .int .u64 150]]).run Tryz.prog w
    = .ok (.iface 146 (.agg #[.pointer (some ⟨1, 134, none⟩)])) w := by kernel_rfl
theorem asMKind (h : Value) (w : World) : (Go.method 333 146 (.agg #[h]) "Kind").run Tryz.prog w = .ok (134, h) w := by kernel_rfl
theorem asMElem (h : Value) (w : World) : (Go.method 333 146 (.agg #[h]) "Elem").run Tryz.prog w = .ok (146, .agg #[h]) w := by kernel_rfl
theorem asMImpl (h : Value) (w : World) : (Go.method 333 146 (.agg #[h]) "Implements").run Tryz.prog w = .ok (147, .agg #[h]) w := by kernel_rfl
theorem asMAssign (h : Value) (w : World) : (Go.method 333 146 (.agg #[h]) "AssignableTo").run Tryz.prog w = .ok (144, .agg #[h]) w := by kernel_rfl
theorem asKindP (w : World) : ((ReflectliteType.abiMethod fun t => (fun a : Nat => Value.int IntKind.u8 (a : Int)) <$> Rtype.kind t) #[.pointer (some ⟨1, 134, none⟩)]).run Tryz.prog w = .ok (.int .u8 22) w := by kernel_rfl
theorem asKindE (w : World) : ((ReflectliteType.abiMethod fun t => (fun a : Nat => Value.int IntKind.u8 (a : Int)) <$> Rtype.kind t) #[.pointer (some ⟨1, 33, none⟩)]).run Tryz.prog w = .ok (.int .u8 2) w := by kernel_rfl
theorem asPartsP (a : Addr) (w : World) : (ReflectliteValue.parts (.agg #[.pointer (some ⟨1, 134, none⟩), .pointer (some a), .int .u64 150])).run Tryz.prog w = .ok (some (134, a, 150)) w := by kernel_rfl
theorem asIsNilP (a p : Addr) (W : World) (ha : W.cell? a = some (.pointer (some p))) :
    (ReflectliteValue.method (ReflectliteValue.valueError "reflectlite.Value.IsNil" 0) ReflectliteValue.isNil #[.agg #[.pointer (some ⟨1, 134, none⟩), .pointer (some a), .int .u64 150]]).run Tryz.prog W = .ok (.bool false) W := by
  rw [Go.Lib.rl_method]
  simp only [Sem.run_bind, asPartsP, Result.andThen]
  simp [ReflectliteValue.isNil, loadVar, isAgg, underlying, Tryz.underlying134, ha, Result.andThen]
theorem asElemP (w : World) : (ReflectliteType.method ReflectliteType.elem #[.agg #[.pointer (some ⟨1, 134, none⟩)]]).run Tryz.prog w = .ok (.iface 146 (.agg #[.pointer (some ⟨1, 33, none⟩)])) w := by kernel_rfl
theorem asImplE (w : World) : (ReflectliteType.relation "Implements" ReflectliteType.implements_ #[.agg #[.pointer (some ⟨1, 33, none⟩)], .iface 146 (.agg #[.pointer (some ⟨1, 24, none⟩)])]).run Tryz.prog w = .ok (.bool true) w := by kernel_rfl
theorem asTypeOfE (v : Value) (w : World) : (ReflectliteType.typeOf #[.iface 33 v]).run Tryz.prog w = .ok (.iface 146 (.agg #[.pointer (some ⟨1, 33, none⟩)])) w := by kernel_rfl
theorem asAssignE (w : World) : (ReflectliteType.relation "AssignableTo" ReflectliteType.assignableTo #[.agg #[.pointer (some ⟨1, 33, none⟩)], .iface 146 (.agg #[.pointer (some ⟨1, 33, none⟩)])]).run Tryz.prog w = .ok (.bool true) w := by kernel_rfl
theorem asValueE (c : Int) (w : World) : (ReflectliteValue.unpack (.iface 33 (.int .i64 c))).run Tryz.prog w
    = .ok (.agg #[.pointer (some ⟨1, 33, none⟩), .pointer (some ⟨w.heap.size, 0, none⟩), .int .u64 130]) (w.alloc (.cells #[.int .i64 c] 33)) := by kernel_rfl
theorem asElemOfP (w : World) : (Rtype.elem? 134).run Tryz.prog w = .ok (some 33) w := by kernel_rfl
theorem asMkE (p : Addr) (w : World) : (ReflectliteValue.mk 33 p ReflectliteValue.flagAddr).run Tryz.prog w = .ok (.agg #[.pointer (some ⟨1, 33, none⟩), .pointer (some p), .int .u64 386]) w := by kernel_rfl
theorem asElemVP (a p : Addr) (W : World) (ha : W.cell? a = some (.pointer (some p))) :
    (ReflectliteValue.method (ReflectliteValue.valueError "reflectlite.Value.Elem" 0) ReflectliteValue.elem #[.agg #[.pointer (some ⟨1, 134, none⟩), .pointer (some a), .int .u64 150]]).run Tryz.prog W
      = .ok (.agg #[.pointer (some ⟨1, 33, none⟩), .pointer (some p), .int .u64 386]) W := by
  rw [Go.Lib.rl_method]
  simp only [Sem.run_bind, asPartsP, Result.andThen]
  simp [ReflectliteValue.elem, loadVar, isAgg, underlying, Tryz.underlying134, ha, Result.andThen, asElemOfP, asMkE]
theorem asTwo {α : Type} (v x : Value) (a : Value → Value → α) (b : Array Value → α) : ReflectliteValue.set.match_3 (fun _ => α) #[v, x] a b = a v x := rfl
theorem asPartsEa (a : Addr) (w : World) : (ReflectliteValue.parts (.agg #[.pointer (some ⟨1, 33, none⟩), .pointer (some a), .int .u64 386])).run Tryz.prog w = .ok (some (33, a, 386)) w := by kernel_rfl
theorem asPartsE (a : Addr) (w : World) : (ReflectliteValue.parts (.agg #[.pointer (some ⟨1, 33, none⟩), .pointer (some a), .int .u64 130])).run Tryz.prog w = .ok (some (33, a, 130)) w := by kernel_rfl
theorem asDirectE (w : World) : (Rtype.directlyAssignable 33 33).run Tryz.prog w = .ok true w := by kernel_rfl
theorem asSetE (ta b : Addr) (c : Int) (old : Value) (W : World) (hb : W.cell? b = some (.int .i64 c)) (ht : W.cell? ta = some old) (hf : W.frozen? ta = false) :
    (ReflectliteValue.set #[.agg #[.pointer (some ⟨1, 33, none⟩), .pointer (some ta), .int .u64 386], .agg #[.pointer (some ⟨1, 33, none⟩), .pointer (some b), .int .u64 130]]).run Tryz.prog W
      = .ok (.tuple #[]) (W.setCell ta (.int .i64 c)) := by
  rw [ReflectliteValue.set.eq_def, asTwo]
  simp only [Sem.run_bind, asPartsEa, asPartsE, Result.andThen]
  simp [ReflectliteValue.flagAddr, loadVar, isAgg, underlying, Tryz.underlying33, hb, Result.andThen, asDirectE, storeVar, Value.cells, storeCells, Addr.add]
  rw [run_store Tryz.prog W ta _ _ (by rfl)]
  simp [ht, hf]

set_option maxHeartbeats 2000000 in
theorem as_in (c : Int) (t v0 : Addr) (old : Value) (w : World) (hv : w.cell? v0 = some (.pointer (some t))) (hvl : v0.block < w.heap.size) (ht : w.cell? t = some old) (htl : t.block < w.heap.size) (hf : w.frozen? t = false) :
    Calls Tryz.prog 85 #[.iface 33 (.int .i64 c), .iface 134 (.pointer (some t)), .agg #[.pointer (some ⟨1, 134, none⟩), .pointer (some v0), .int .u64 150], .iface 146 (.agg #[.pointer (some ⟨1, 33, none⟩)])] w fun e w' =>
      e = .returned (.bool true) ∧ w' = ((w.alloc (.cells #[.pointer (some ⟨1, 134, none⟩), .pointer (some v0), .int .u64 150] 160)).alloc (.cells #[.int .i64 c] 33)).setCell t (.int .i64 c) := by
  have h43 := @run_callFunc_extern Tryz.prog 63 _ (ReflectliteType.typeOf) Tryz.func63 (by kernel_rfl) (by kernel_rfl) (by kernel_rfl) (by kernel_rfl)
  have h45 := @run_callFunc_extern Tryz.prog 82 _ (fun args => ReflectliteValue.unpack (args.getD 0 (.tuple #[]))) Tryz.func82 (by kernel_rfl) (by kernel_rfl) (by kernel_rfl) (by kernel_rfl)
  have h56 := @run_callFunc_extern Tryz.prog 96 _ (ReflectliteValue.method (ReflectliteValue.valueError "reflectlite.Value.Elem" 0) ReflectliteValue.elem) Tryz.func96 (by kernel_rfl) (by kernel_rfl) (by kernel_rfl) (by kernel_rfl)
  have h57 := @run_callFunc_extern Tryz.prog 97 _ (ReflectliteValue.set) Tryz.func97 (by kernel_rfl) (by kernel_rfl) (by kernel_rfl) (by kernel_rfl)
  have h115 := @run_callFunc_extern Tryz.prog 144 _ (ReflectliteType.relation "AssignableTo" ReflectliteType.assignableTo) Tryz.func144 (by kernel_rfl) (by kernel_rfl) (by kernel_rfl) (by kernel_rfl)
  have tO := asTypeOfE
  have mA := asMAssign
  have aE := asAssignE
  have vE := asValueE
  have el := asElemVP v0 t (w.alloc (.cells #[.pointer (some ⟨1, 134, none⟩), .pointer (some v0), .int .u64 150] 160)) (by rw [World.cell?_alloc_lt _ _ v0 hvl]; exact hv)
  have st := asSetE t ⟨w.heap.size + 1, 0, none⟩ c old ((w.alloc (.cells #[.pointer (some ⟨1, 134, none⟩), .pointer (some v0), .int .u64 150] 160)).alloc (.cells #[.int .i64 c] 33))
    (by rw [World.cell?_alloc_at _ _ _ _ (by simp)]; rfl)
    (by rw [World.cell?_alloc_lt _ _ t (by simp <;> omega), World.cell?_alloc_lt _ _ t htl]; exact ht)
    (by rw [World.frozen?_alloc_old _ _ t (by simp <;> omega), World.frozen?_alloc_old _ _ t (Nat.ne_of_lt htl)]; exact hf)
  go_enter Tryz.func85, Tryz.ntmps85
  go_wp2
  refine wp_loop_rounds 1 ?_
  rw [rounds_succ]
  go_wp2
  go_ret
  exact ⟨rfl, rfl⟩

set_option maxHeartbeats 2000000 in
/-- errors.As(a number of api, a variable of that type): it is, and the variable has it. -/
theorem as_num (c : Int) (t : Addr) (old : Value) (w : World) (hg : ErrTy w) (ht : w.cell? t = some old) (hf : w.frozen? t = false) :
    Calls Tryz.prog 70 #[.iface 33 (.int .i64 c), .iface 134 (.pointer (some t))] w fun e w' =>
      e = .returned (.bool true) ∧ w' = ((((w.alloc (.cells #[.pointer (some t)] 134)).alloc (.cells #[.pointer (some ⟨1, 134, none⟩), .pointer (some ⟨w.heap.size, 0, none⟩), .int .u64 150] 160)).alloc (.cells #[.pointer (some ⟨1, 134, none⟩), .pointer (some ⟨w.heap.size, 0, none⟩), .int .u64 150] 160)).alloc (.cells #[.int .i64 c] 33)).setCell t (.int .i64 c) := by
  have hlt : 0 < w.heap.size := by
    rcases Nat.lt_or_ge 0 w.heap.size with h | h
    · exact h
    · unfold ErrTy at hg; simp [World.cell?, Array.getElem?_eq_none h] at hg
  have htl : t.block < w.heap.size := by
    rcases Nat.lt_or_ge t.block w.heap.size with h | h
    · exact h
    · simp [World.cell?, Array.getElem?_eq_none h] at ht
  have h45 := @run_callFunc_extern Tryz.prog 82 _ (fun args => ReflectliteValue.unpack (args.getD 0 (.tuple #[]))) Tryz.func82 (by kernel_rfl) (by kernel_rfl) (by kernel_rfl) (by kernel_rfl)
  have h46 := @run_callFunc_extern Tryz.prog 83 _ (ReflectliteValue.methodAny (ReflectliteValue.valueError "reflectlite.Value.Type" 0) (fun t _ _ _ => ReflectliteType.toType t)) Tryz.func83 (by kernel_rfl) (by kernel_rfl) (by kernel_rfl) (by kernel_rfl)
  have h47 := @run_callFunc_extern Tryz.prog 84 _ (ReflectliteValue.method (ReflectliteValue.valueError "reflectlite.Value.IsNil" 0) ReflectliteValue.isNil) Tryz.func84 (by kernel_rfl) (by kernel_rfl) (by kernel_rfl) (by kernel_rfl)
  have h103 := @run_callFunc_extern Tryz.prog 134 _ (ReflectliteType.abiMethod fun t => do pure (.int .u8 (← Rtype.kind t))) Tryz.func134 (by kernel_rfl) (by kernel_rfl) (by kernel_rfl) (by kernel_rfl)
  have h117 := @run_callFunc_extern Tryz.prog 146 _ (ReflectliteType.method ReflectliteType.elem) Tryz.func146 (by kernel_rfl) (by kernel_rfl) (by kernel_rfl) (by kernel_rfl)
  have h118 := @run_callFunc_extern Tryz.prog 147 _ (ReflectliteType.relation "Implements" ReflectliteType.implements_) Tryz.func147 (by kernel_rfl) (by kernel_rfl) (by kernel_rfl) (by kernel_rfl)
  have vP := asValueP
  have tP := asTypeP
  have mK := asMKind
  have mE := asMElem
  have mI := asMImpl
  have kP := asKindP
  have kE := asKindE
  have eP := asElemP
  have iE := asImplE
  have n8 := asIsNilP ⟨w.heap.size, 0, none⟩ t ((w.alloc (.cells #[.pointer (some t)] 134)).alloc (.cells #[.pointer (some ⟨1, 134, none⟩), .pointer (some ⟨w.heap.size, 0, none⟩), .int .u64 150] 160)) (by simp)
  have hg2 : ((w.alloc (.cells #[.pointer (some t)] 134)).alloc (.cells #[.pointer (some ⟨1, 134, none⟩), .pointer (some ⟨w.heap.size, 0, none⟩), .int .u64 150] 160)).cell? ⟨0, 0, none⟩ = some (.iface 146 (.agg #[.pointer (some ⟨1, 24, none⟩)])) := by
    rw [World.cell?_alloc_lt _ _ ⟨0, 0, none⟩ (by simp <;> omega), World.cell?_alloc_lt _ _ ⟨0, 0, none⟩ hlt]; exact hg
  have HIN := Lib.hid (as_in c t ⟨w.heap.size, 0, none⟩ old ((w.alloc (.cells #[.pointer (some t)] 134)).alloc (.cells #[.pointer (some ⟨1, 134, none⟩), .pointer (some ⟨w.heap.size, 0, none⟩), .int .u64 150] 160)) (by rw [World.cell?_alloc_lt _ _ ⟨w.heap.size, 0, none⟩ (by simp)]; simp) (by simp <;> omega)
    (by rw [World.cell?_alloc_lt _ _ t (by simp <;> omega), World.cell?_alloc_lt _ _ t htl]; exact ht) (by simp <;> omega)
    (by rw [World.frozen?_alloc_old _ _ t (by simp <;> omega), World.frozen?_alloc_old _ _ t (Nat.ne_of_lt htl)]; exact hf))
  go_enter Tryz.func70, Tryz.ntmps70
  go_wp2_with fail
  refine HIN.out.mono ?_
  rintro e w' ⟨rfl, rfl⟩
  go_wp2
  go_ret
  exact ⟨rfl, rfl⟩

end Go.Proofs.YtfbgagpihhbllaaGreatDoor
