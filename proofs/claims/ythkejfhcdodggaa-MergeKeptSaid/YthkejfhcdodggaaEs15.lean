/- The law's own comparison of two slices of entries (layer 15). -/
import Derived.Test.YthkejfhcdodggaaJ05
namespace Go.Proofs.Ythkejfhcdodggaa
open Go.RowKit Go.Proofs Go.Proofs.Pk
set_option maxRecDepth 10000
attribute [local simp] mk_get wrap64_u8 mk_extract ByteArray.mk_append_mk get_1k

set_option maxHeartbeats 1000000 in
theorem ent_neq (x y : MEnt) (h : ¬x = y) (w : World) :
    (binOp .neq 34 (.agg #[.string ⟨x.1.toArray⟩, .int .i64 x.2.1, .bool x.2.2.1, .string ⟨x.2.2.2.toArray⟩]) (.agg #[.string ⟨y.1.toArray⟩, .int .i64 y.2.1, .bool y.2.2.1, .string ⟨y.2.2.2.toArray⟩])).run Try.prog w = .ok (.bool true) w := by
  have hi := @run_equalIn_int Try.prog w 9998 3 .i64 .i64
  have hs := @run_equalIn_string Try.prog w 9998 9
  have hb := @run_equalIn_bool' Try.prog w 9998 4
  have hu : Try.prog.underlying 3 = some (.int .i64) := by kernel_rfl
  have hv : Try.prog.underlying 9 = some .string := by kernel_rfl
  have hw : Try.prog.underlying 4 = some .bool := by kernel_rfl
  obtain ⟨F, hF⟩ : ∃ F, F = (Try.prog.fieldsOf 34).toList.map (fun f => (f.name, f.type, f.offset)) := ⟨_, rfl⟩
  have hF' : F = [("Key", 9, 0), ("Seq", 3, 1), ("Drop", 4, 2), ("Value", 9, 3)] := by rw [hF]; kernel_rfl
  rw [run_neq_struct, show (10000 : Nat) = 9999 + 1 from rfl, run_equalIn_agg w 9999 _ _ _ (by kernel_rfl) (by kernel_rfl)]
  rw [hF] at hF'
  generalize (Try.prog.fieldsOf 34).toList = L at hF'
  have p0 : ∀ x y z u : Value, (part 9 #[x, y, z, u] 0).run Try.prog w = .ok x w := fun x y z u => by kernel_rfl
  have p1 : ∀ x y z u : Value, (part 3 #[x, y, z, u] 1).run Try.prog w = .ok y w := fun x y z u => by kernel_rfl
  have p2 : ∀ x y z u : Value, (part 4 #[x, y, z, u] 2).run Try.prog w = .ok z w := fun x y z u => by kernel_rfl
  have p3 : ∀ x y z u : Value, (part 9 #[x, y, z, u] 3).run Try.prog w = .ok u w := fun x y z u => by kernel_rfl
  obtain _ | ⟨a, _ | ⟨b, _ | ⟨c, _ | ⟨d, _ | ⟨e, L⟩⟩⟩⟩⟩ := L
  all_goals simp only [List.map_nil, List.map_cons, List.cons.injEq, Prod.mk.injEq, reduceCtorEq, and_true, and_false, true_and, List.nil_eq] at hF'
  obtain ⟨⟨an, at', ao⟩, ⟨bn, bt, bo⟩, ⟨cn, ct, co⟩, ⟨dn, dt, do'⟩⟩ := hF'
  have na : a.name ≠ "_" := by rw [an]; decide
  have nb : b.name ≠ "_" := by rw [bn]; decide
  have nc : c.name ≠ "_" := by rw [cn]; decide
  have nd : d.name ≠ "_" := by rw [dn]; decide
  have str : ∀ a : List UInt8, (⟨a.toArray⟩ : ByteArray).toList = a := fun a => by simp
  simp only [Op.eqFields, na, nb, nc, nd, ne_eq, not_false_eq_true, if_true, at', ao, bt, bo, ct, co, dt, do', Sem.run_bind, p0, p1, p2, p3, Result.andThen_ok, hi _ _ hu, hs _ _ hv, hb _ _ hw, Sem.run_ite, str]
  by_cases h0 : x.1 = y.1
  · by_cases h1 : x.2.1 = y.2.1
    · by_cases h2 : x.2.2.1 = y.2.2.1
      · have h3 : ¬x.2.2.2 = y.2.2.2 := fun h3 => h (Prod.ext h0 (Prod.ext h1 (Prod.ext h2 h3)))
        simp [h0, h1, h2, h3, Result.andThen]
      · simp [h0, h1, h2, Result.andThen]
    · simp [h0, h1, Result.andThen]
  · simp [h0, Result.andThen]

def SameP (T U : List MEnt) (w : World) (r : Ending) (w' : World) : Prop := ∃ x : Bool, r = .returned (.bool x) ∧ (x = true ↔ T = U) ∧ Kept (fun _ => False) w w'
set_option maxHeartbeats 4000000 in
theorem ents15 (w : World) (ad ae : Option Addr) (len ca ln cb : Nat) (T U : List MEnt) (h1 : EntsW w ad len T) (h2 : EntsW w ae ln U) (hl : T.length ≤ 20000) (hu : U.length ≤ 20000) :
    Calls Try.prog 13 #[.slice ad len ca, .slice ae ln cb] w (SameP T U w) := by
  have H := Lib.hid (And.intro h1 h2)
  have hlen := h1.1
  have hln := h2.1
  have hl2 : len ≤ 20000 := by omega
  have hn2 : ln ≤ 20000 := by omega
  clear h1 h2 hl hu
  go_enter Try.func13, Try.ntmps13
  by_cases hne : len = ln
  case neg =>
    have hneI : ((len : Int) != (ln : Int)) = true := by simp only [bne_iff_ne, ne_eq]; omega
    go_wp2
    go_ret
    exact ⟨false, rfl, ⟨fun h => (by cases h), fun h => by subst h; exact absurd (hlen.symm.trans hln) hne⟩, Kept.refl _ _⟩
  subst hne
  go_wp2
  obtain ⟨wq, hwq⟩ : ∃ wq, wq = w := ⟨_, rfl⟩
  have HK : Hid (Kept (fun _ => False) w wq) := by rw [hwq]; exact Kept.refl _ _
  rw [← hwq]
  have HW : Hid (wq = w) := hwq
  clear hwq
  go_loopw [5] (fun i wr => ∃ j : Nat, j ≤ len ∧ i = .int .i64 (j : Int) ∧ Hid (Kept (fun _ => False) w wr) ∧ Hid (T.take j = U.take j)) (fun i _ => len - (intOf i).toNat)
  case atStart => exact ⟨0, Nat.zero_le _, rfl, HK, by simp [Lib.hid, Hid]⟩
  case round =>
    obtain ⟨j, hj, rfl, hK, hpre⟩ := hrel
    clear HK
    have j0 : (0 : Int) ≤ (j : Int) := by omega
    have hwj : IntKind.i64.wrap ((j : Int) + 1) = (j : Int) + 1 := IntWalk.i64_in _ (by omega)
    by_cases hlt : j < len
    · have hjT : j < T.length := by omega
      have hjU : j < U.length := by omega
      obtain ⟨g, og, rfl, hg, d0, d1, d2, d3⟩ := (ents_keptK H.out.1 hK.out).atS j hjT
      obtain ⟨g2, og2, rfl, hg2, e0, e1, e2, e3⟩ := (ents_keptK H.out.2 hK.out).atS j hjU
      have jN : (j : Int) < (len : Int) := by omega
      by_cases hx : T[j] = U[j]
      · have hnext : Hid (T.take (j + 1) = U.take (j + 1)) := by
          show T.take (j + 1) = U.take (j + 1)
          rw [List.take_succ_eq_append_getElem hjT, List.take_succ_eq_append_getElem hjU, hpre.out, hx]
        rw [← hx] at e0 e1 e2 e3
        generalize T[j] = x at d0 d1 d2 d3 e0 e1 e2 e3
        clear hjT hjU hx hpre
        go_wp2
        go_quiet (fail)
        go_wp2
        go_roundw
        case rel => exact ⟨j + 1, hlt, by first | rfl | go_num, hK.out.drewN _, hnext⟩
        case measure => simp [intOf]; omega
      · have hno : Hid (¬T = U) := fun h => hx (by subst h; rfl)
        have hQ := ent_neq T[j] U[j] hx
        generalize T[j] = x at d0 d1 d2 d3 hQ
        generalize U[j] = y at e0 e1 e2 e3 hQ
        clear hjT hjU hx hpre
        go_wp2
        go_quiet (fail)
        go_wp2
        go_ret
        exact ⟨false, rfl, ⟨fun h => (by cases h), fun h => absurd h hno.out⟩, (by rw [HW.out]; exact hK.out.drewN _)⟩
    · obtain rfl : j = len := by omega
      have jN : ¬(j : Int) < (j : Int) := by omega
      go_wp2
      go_ret
      refine ⟨true, rfl, ⟨fun _ => ?_, fun _ => rfl⟩, hK.out⟩
      have := hpre.out
      rwa [List.take_of_length_le (by omega), List.take_of_length_le (by omega)] at this

end Go.Proofs.Ythkejfhcdodggaa
