/- Es16, OpenA, OutO. -/
import Derived.Test.YtgcepbpdicadnaaJ07
import Derived.BigQuiet
import Derived.Deep.Cut
import Derived.Test.YtgcepbpdicadnaaJ05
import Derived.Deep.Slices

/- The law's own comparison of two slices of entries (layer 16). -/
namespace Go.Proofs.Ytgcepbpdicadnaa
open Go.RowKit Go.Proofs Go.Proofs.Pk
set_option maxRecDepth 10000
attribute [local simp] mk_get wrap64_u8 mk_extract ByteArray.mk_append_mk get_1k

set_option maxHeartbeats 1000000 in
theorem ent_neq (x y : MEnt) (h : ¬x = y) (w : World) :
    (binOp .neq 45 (.agg #[.string ⟨x.1.toArray⟩, .int .i64 x.2.1, .bool x.2.2.1, .string ⟨x.2.2.2.toArray⟩]) (.agg #[.string ⟨y.1.toArray⟩, .int .i64 y.2.1, .bool y.2.2.1, .string ⟨y.2.2.2.toArray⟩])).run Try.prog w = .ok (.bool true) w := by
  have hi := @run_equalIn_int Try.prog w 9998 3 .i64 .i64
  have hs := @run_equalIn_string Try.prog w 9998 9
  have hb := @run_equalIn_bool' Try.prog w 9998 4
  have hu : Try.prog.underlying 3 = some (.int .i64) := by kernel_rfl
  have hv : Try.prog.underlying 9 = some .string := by kernel_rfl
  have hw : Try.prog.underlying 4 = some .bool := by kernel_rfl
  obtain ⟨F, hF⟩ : ∃ F, F = (Try.prog.fieldsOf 45).toList.map (fun f => (f.name, f.type, f.offset)) := ⟨_, rfl⟩
  have hF' : F = [("Key", 9, 0), ("Seq", 3, 1), ("Drop", 4, 2), ("Value", 9, 3)] := by rw [hF]; kernel_rfl
  rw [run_neq_struct, show (10000 : Nat) = 9999 + 1 from rfl, run_equalIn_agg w 9999 _ _ _ (by kernel_rfl) (by kernel_rfl)]
  rw [hF] at hF'
  generalize (Try.prog.fieldsOf 45).toList = L at hF'
  have p0 : ∀ x y z u : Value, (part 9 #[x, y, z, u] 0).run Try.prog w = .ok x w := fun x y z u => by kernel_rfl
  have p1 : ∀ x y z u : Value, (part 3 #[x, y, z, u] 1).run Try.prog w = .ok y w := fun x y z u => by kernel_rfl
  have p2 : ∀ x y z u : Value, (part 4 #[x, y, z, u] 2).run Try.prog w = .ok z w := fun x y z u => by kernel_rfl
  have p3 : ∀ x y z u : Value, (part 9 #[x, y, z, u] 3).run Try.prog w = .ok u w := fun x y z u => by kernel_rfl
  obtain _ | ⟨a, _ | ⟨b, _ | ⟨c, _ | ⟨d, _ | ⟨e, L⟩⟩⟩⟩⟩ := L
  all_goals simp only [List.map_nil, List.map_cons, List.cons.injEq, Prod.mk.injEq, reduceCtorEq, and_true, and_false, true_and, List.nil_eq] at hF'
  obtain ⟨⟨an, at', ao⟩, ⟨bn, bt, bo⟩, ⟨cn, ct, co⟩, ⟨dn, dt, do'⟩⟩ := hF'
  have na : a.name ≠ "_" := by rw [an]; decide
  have nb : b.name ≠ "_" := by rw [bn]; decide
  have nc : c.name ≠ "_" := by rw [cn]; decide
  have nd : d.name ≠ "_" := by rw [dn]; decide
  have str : ∀ a : List UInt8, (⟨a.toArray⟩ : ByteArray).toList = a := fun a => by simp
  simp only [Op.eqFields, na, nb, nc, nd, ne_eq, not_false_eq_true, if_true, at', ao, bt, bo, ct, co, dt, do', Sem.run_bind, p0, p1, p2, p3, Result.andThen_ok, hi _ _ hu, hs _ _ hv, hb _ _ hw, Sem.run_ite, str]
  by_cases h0 : x.1 = y.1
  · by_cases h1 : x.2.1 = y.2.1
    · by_cases h2 : x.2.2.1 = y.2.2.1
      · have h3 : ¬x.2.2.2 = y.2.2.2 := fun h3 => h (Prod.ext h0 (Prod.ext h1 (Prod.ext h2 h3)))
        simp [h0, h1, h2, h3, Result.andThen]
      · simp [h0, h1, h2, Result.andThen]
    · simp [h0, h1, Result.andThen]
  · simp [h0, Result.andThen]

def SameP (T U : List MEnt) (w : World) (r : Ending) (w' : World) : Prop := ∃ x : Bool, r = .returned (.bool x) ∧ (x = true ↔ T = U) ∧ Kept (fun _ => False) w w'
set_option maxHeartbeats 4000000 in
theorem ents16 (w : World) (ad ae : Option Addr) (len ca ln cb : Nat) (T U : List MEnt) (h1 : EntsW w ad len T) (h2 : EntsW w ae ln U) (hl : T.length ≤ 20000) (hu : U.length ≤ 20000) :
    Calls Try.prog 17 #[.slice ad len ca, .slice ae ln cb] w (SameP T U w) := by
  have H := Lib.hid (And.intro h1 h2)
  have hlen := h1.1
  have hln := h2.1
  have hl2 : len ≤ 20000 := by omega
  have hn2 : ln ≤ 20000 := by omega
  clear h1 h2 hl hu
  go_enter Try.func17, Try.ntmps17
  by_cases hne : len = ln
  case neg =>
    have hneI : ((len : Int) != (ln : Int)) = true := by simp only [bne_iff_ne, ne_eq]; omega
    go_wp2
    go_ret
    exact ⟨false, rfl, ⟨fun h => (by cases h), fun h => by subst h; exact absurd (hlen.symm.trans hln) hne⟩, Kept.refl _ _⟩
  subst hne
  go_wp2
  obtain ⟨wq, hwq⟩ : ∃ wq, wq = w := ⟨_, rfl⟩
  have HK : Hid (Kept (fun _ => False) w wq) := by rw [hwq]; exact Kept.refl _ _
  rw [← hwq]
  have HW : Hid (wq = w) := hwq
  clear hwq
  go_loopw [5] (fun i wr => ∃ j : Nat, j ≤ len ∧ i = .int .i64 (j : Int) ∧ Hid (Kept (fun _ => False) w wr) ∧ Hid (T.take j = U.take j)) (fun i _ => len - (intOf i).toNat)
  case atStart => exact ⟨0, Nat.zero_le _, rfl, HK, by simp [Lib.hid, Hid]⟩
  case round =>
    obtain ⟨j, hj, rfl, hK, hpre⟩ := hrel
    clear HK
    have j0 : (0 : Int) ≤ (j : Int) := by omega
    have hwj : IntKind.i64.wrap ((j : Int) + 1) = (j : Int) + 1 := IntWalk.i64_in _ (by omega)
    by_cases hlt : j < len
    · have hjT : j < T.length := by omega
      have hjU : j < U.length := by omega
      obtain ⟨g, og, rfl, hg, d0, d1, d2, d3⟩ := (ents_keptK H.out.1 hK.out).atS j hjT
      obtain ⟨g2, og2, rfl, hg2, e0, e1, e2, e3⟩ := (ents_keptK H.out.2 hK.out).atS j hjU
      have jN : (j : Int) < (len : Int) := by omega
      by_cases hx : T[j] = U[j]
      · have hnext : Hid (T.take (j + 1) = U.take (j + 1)) := by
          show T.take (j + 1) = U.take (j + 1)
          rw [List.take_succ_eq_append_getElem hjT, List.take_succ_eq_append_getElem hjU, hpre.out, hx]
        rw [← hx] at e0 e1 e2 e3
        generalize T[j] = x at d0 d1 d2 d3 e0 e1 e2 e3
        clear hjT hjU hx hpre
        go_wp2
        go_quiet (fail)
        go_wp2
        go_roundw
        case rel => exact ⟨j + 1, hlt, by first | rfl | go_num, hK.out.drewN _, hnext⟩
        case measure => simp [intOf]; omega
      · have hno : Hid (¬T = U) := fun h => hx (by subst h; rfl)
        have hQ := ent_neq T[j] U[j] hx
        generalize T[j] = x at d0 d1 d2 d3 hQ
        generalize U[j] = y at e0 e1 e2 e3 hQ
        clear hjT hjU hx hpre
        go_wp2
        go_quiet (fail)
        go_wp2
        go_ret
        exact ⟨false, rfl, ⟨fun h => (by cases h), fun h => absurd h hno.out⟩, (by rw [HW.out]; exact hK.out.drewN _)⟩
    · obtain rfl : j = len := by omega
      have jN : ¬(j : Int) < (j : Int) := by omega
      go_wp2
      go_ret
      refine ⟨true, rfl, ⟨fun _ => ?_, fun _ => rfl⟩, hK.out⟩
      have := hpre.out
      rwa [List.take_of_length_le (by omega), List.take_of_length_le (by omega)] at this

end Go.Proofs.Ytgcepbpdicadnaa

/- A slice of entries among a law's arguments, opened whole: its length is bounded, its address flat, and nothing lies behind no address. -/
namespace Go.Proofs.Ytgcepbpdicadnaa
open Go.ChangeShapes Go.WideShapes Go.ChangeAt Go.RowKit Go.Proofs.Pk
set_option maxRecDepth 10000

def FlatE (ad : Option Addr) : Prop := ad = none ∨ ∃ b off, ad = some ⟨b, off, none⟩
theorem flat_ofE {W : World} {base : Nat} {r : Reach} {ad : Option Addr} {len cap : Nat} (h : Value.okWide Try.prog W r base 34 (.slice ad len cap)) : FlatE ad ∧ len ≤ cap ∧ (ad = none → len = 0 ∧ cap = 0) := by
  simp only [Value.okWide, Try.underlying34, Cell.okWide] at h
  cases ad with
  | none =>
    refine ⟨.inl rfl, ?_⟩
    match len, cap, h with
    | 0, 0, _ => exact ⟨Nat.le_refl _, fun _ => ⟨rfl, rfl⟩⟩
  | some a =>
    simp only [Cell.ok, Try.underlying34] at h
    obtain ⟨h1, _, _, h2, _⟩ := h
    obtain ⟨b, off, spot⟩ := a
    simp only at h2
    subst h2
    exact ⟨.inr ⟨b, off, rfl⟩, h1, fun h => by cases h⟩
theorem openEntsA {H : Type} {enc : TypeId × Value → H} {W : World} {base bas : Nat} {r : Reach} {spare : Nat → Bool} {held : Bool} {fuel : Nat} {ad : Option Addr} {len cap : Nat} {d : DataW H} {p : List MemPlace} {ts : List TypeId} {ds : List (DataW H)} {j : Nat}
    (hf : DataW.trod enc Try.prog W base spare held fuel 34 (Value.slice ad len cap).cells.toList = some (d, p)) (hk : Value.okWide Try.prog W r bas 34 (.slice ad len cap))
    (hsz : (DataW.weightsEach Try.prog ts ds).all (· ≤ reachBytes) = true) (ht : ts[j]? = some 34) (hd : ds[j]? = some d) :
    ∃ l, EntsW W ad len l ∧ (FlatE ad ∧ len ≤ cap ∧ (len : Int) * 48 ≤ 140737488351232 ∧ (ad = none → len = 0 ∧ cap = 0)) := by
  obtain ⟨hfl, hlc, hn⟩ := flat_ofE hk
  obtain ⟨l, hl, _⟩ := openEnts hf
  refine ⟨l, hl, hfl, hlc, ?_, hn⟩
  rcases Go.Deep.open_slice Try.underlying34 hf with ⟨hcs, _⟩ | ⟨a, len', cap', m, n, D, Pl, hcs, _, hl, hm, hmm, hx, hel⟩
  · simp [Value.cells] at hcs
    obtain ⟨rfl, rfl, rfl⟩ := hcs
    simp
  · simp [Value.cells] at hcs
    obtain ⟨rfl, rfl, rfl⟩ := hcs
    obtain ⟨rfl, rfl⟩ := Prod.mk.inj hx
    have hlen : len ≤ m := by rw [hmm]; split <;> omega
    have hb : (Try.prog.bytesOf 45) = 48 := by kernel_rfl
    have hbig := sized_slice hsz ht hd Try.underlying34
    rw [hb] at hbig
    simp only [List.length_map, List.length_range, reachBytes] at hbig
    omega

end Go.Proofs.Ytgcepbpdicadnaa

/- A list of entries that grows in a row of its own. -/
namespace Go.Proofs.Ytgcepbpdicadnaa
open Go.RowKit Go.Proofs Go.Proofs.Pk
set_option maxRecDepth 10000

/-- A list that grows in a row of its own. -/
def OutO (w0 w : World) (ad : Option Addr) (n cap : Nat) (T : List MEnt) : Prop := T.length = n ∧ w.ownsRow w0.heap.size 45 4 (.slice ad n cap) n (cellsM T) ∧ Kept (fun _ => False) w0 w ∧ ∀ e ∈ T, FitN e.2.1
theorem OutO.nil {w0 w : World} (h : Kept (fun _ => False) w0 w) : OutO w0 w none 0 0 [] := ⟨rfl, World.ownsRow_nil _ _ _ _, h, fun _ h => (by cases h)⟩
theorem OutO.drewN {w0 w : World} {ad : Option Addr} {n cap : Nat} {T : List MEnt} (h : OutO w0 w ad n cap T) (k : Nat) : OutO w0 (w.drewN k) ad n cap T := ⟨h.1, owns_of_block h.2.1 fun _ _ => rfl, h.2.2.1.drewN k, h.2.2.2⟩
theorem OutO.kept {w0 w w' : World} {ad : Option Addr} {n cap : Nat} {T : List MEnt} (h : OutO w0 w ad n cap T) (hk : Kept (fun _ => False) w w') : OutO w0 w' ad n cap T :=
  ⟨h.1, owns_of_block h.2.1 fun g hg => hk.block g (h.2.1.lt g hg).2 (fun f => f), h.2.2.1.trans hk (fun _ f => f.elim), h.2.2.2⟩
theorem OutO.grown {w0 wx wy wB : World} {ad : Option Addr} {n cap : Nat} {T : List MEnt} {x : MEnt} {v : Value} (h : OutO w0 wx ad n cap T) (hf : FitN x.2.1) (hy : Kept (fun _ => False) wx wy) (h2 : wB.ownsRow w0.heap.size 45 4 v (n + 1) (cellsM T ++ entC x)) (hg : wy.grownBy wB (Value.slice ad n cap).ownBlock) :
    ∃ ad2 cap2, v = .slice ad2 (n + 1) cap2 ∧ OutO w0 wB ad2 (n + 1) cap2 (T ++ [x]) := by
  obtain ⟨ad2, cap2, rfl⟩ : ∃ ad2 cap2, v = .slice ad2 (n + 1) cap2 := by
    rcases h2.2 with ⟨_, h⟩ | ⟨g, cap, cur, h, _⟩
    · omega
    · exact ⟨_, _, h⟩
  refine ⟨ad2, cap2, rfl, by rw [List.length_append, h.1]; rfl, by rw [cellsM_append]; simpa [cellsM] using h2, kept_grown (h.2.2.1.trans hy (fun _ f => f.elim)) hg (fun b hb => .inr (h.2.1.lt b hb).1), fun e he => ?_⟩
  rcases List.mem_append.1 he with he | he
  · exact h.2.2.2 e he
  · rw [List.mem_singleton] at he; subst he; exact hf
theorem OutO.join {w0 wx wy wB : World} {ad : Option Addr} {n cap m : Nat} {T p : List MEnt} {v : Value} (h : OutO w0 wx ad n cap T) (hp : p.length = m) (hf : ∀ e ∈ p, FitN e.2.1) (hm : 0 < m) (hy : Kept (fun _ => False) wx wy) (h2 : wB.ownsRow w0.heap.size 45 4 v (n + m) (cellsM T ++ cellsM p)) (hg : wy.grownBy wB (Value.slice ad n cap).ownBlock) :
    ∃ ad2 cap2, v = .slice ad2 (n + m) cap2 ∧ OutO w0 wB ad2 (n + m) cap2 (T ++ p) := by
  obtain ⟨ad2, cap2, rfl⟩ : ∃ ad2 cap2, v = .slice ad2 (n + m) cap2 := by
    rcases h2.2 with ⟨_, h⟩ | ⟨g, cap, cur, h, _⟩
    · omega
    · exact ⟨_, _, h⟩
  refine ⟨ad2, cap2, rfl, by rw [List.length_append, h.1, hp], by rw [cellsM_append]; exact h2, kept_grown (h.2.2.1.trans hy (fun _ f => f.elim)) hg (fun b hb => .inr (h.2.1.lt b hb).1), fun e he => ?_⟩
  rcases List.mem_append.1 he with he | he
  · exact h.2.2.2 e he
  · exact hf e he

theorem ents_cells {W : World} {b off len : Nat} {l : List MEnt} (h : EntsW W (some ⟨b, off, none⟩) len l) (m : Nat) (u : Value) (hu : (cellsM l)[m]? = some u) : W.cell? ⟨b, off + m, none⟩ = some u := by
  rcases h.2 with h0 | ⟨b', off', h1, h2, h3⟩
  · rw [h0] at hu; simp [cellsM] at hu
  · cases h1
    have hm : m < l.length * 4 := by have := (List.getElem?_eq_some_iff.1 hu).1; rwa [cellsM_length] at this
    have hi : m / 4 < l.length := by omega
    have hr := (h3 (m / 4) hi).row (m % 4)
    have hx : ∃ v, (entC l[m / 4])[m % 4]? = some v := by
      have : m % 4 < (entC l[m / 4]).length := by simp [entC]; omega
      exact ⟨_, List.getElem?_eq_getElem this⟩
    obtain ⟨v, hv⟩ := hx
    have e1 := cellsM_get l (m / 4) hi (m % 4) v hv
    rw [show m / 4 * 4 + m % 4 = m from by omega, hu] at e1
    cases e1
    have := hr _ hv
    rwa [show off + m / 4 * 4 + m % 4 = off + m from by omega] at this

end Go.Proofs.Ytgcepbpdicadnaa
