/- WlH. -/
import Derived.Test.YtfbgagpihhbllaaGreatDoorJ34
import Derived.Test.YtfbgagpihhbllaaGreatDoorJ25

/- Package wal: read, a record. -/
namespace Go.Proofs.YtfbgagpihhbllaaGreatDoor
open Go.RowKit Go.Proofs Go.Proofs.Pk
set_option maxRecDepth 10000
attribute [local simp] mk_get wrap64_u8 mk_extract ByteArray.mk_append_mk get_1k

def gotW (r : List UInt8) (j : Nat) : List UInt8 := (List.range j).flatMap fun i => padL (chunk r i)
theorem gotW_succ (r : List UInt8) (j : Nat) : gotW r (j + 1) = gotW r j ++ padL (chunk r j) := by unfold gotW; rw [List.range_succ, List.flatMap_append]; simp
theorem gotW_length (r : List UInt8) : ∀ j, (∀ t, t < j → (padL (chunk r t)).length = 64) → (gotW r j).length = 64 * j
  | 0, _ => by simp [gotW]
  | j + 1, h => by rw [gotW_succ, List.length_append, gotW_length r j (fun t ht => h t (by omega)), h j (by omega)]; omega

set_option maxHeartbeats 2000000 in
theorem readHit (w : World) (B p pd : Nat) (V : Vol) (vF : Value) (X : Nat → Prop) (h : VlP w B p pd V vF X) (ha : Alive V) (g : FileN) (hg : g ∈ V.R.2.2.2) (pl e n : Nat) (hL : LgAt w pl p g.1 g.2.2 e n) (hn : n ≤ 4000) (s : List UInt8)
    (hmk : seenAt V.D (g.2.1 + e) = some (markN g.1 n s.length)) (hok : MarkOk g.1 n s.length) (htx : ∀ t, t < nch s.length → seenAt V.D (g.2.1 + e + 1 + t) = some (padL (chunk s t))) (hrm : e + 1 + nch s.length ≤ g.2.2) :
    Calls Tryz.prog 39 #[.pointer (some ⟨pl, 0, none⟩)] w fun r w' => r = .returned (.tuple #[.string ⟨s.toArray⟩, .bool true, .nilIface]) ∧ Kept (fun _ => False) w w' := by
  have he : e < g.2.2 := by omega
  obtain ⟨b, hbm⟩ : ∃ b, b = markN g.1 n s.length := ⟨_, rfl⟩
  have hb : seenAt V.D (g.2.1 + e) = some b := by rw [hbm]; exact hmk
  have ho := ha.gone
  have hm4 := (h.few.2.2.2.2 g hg).2.1
  obtain ⟨hb64, hRd⟩ := rdF w.drew B p pd V vF X (h.still ((Kept.refl _ w).drewN 1)) ha g hg e he b hb
  have HRd := Lib.hid hRd
  have HL := Lib.hid hL
  have HG : Hid (g.1 ≤ MaxN ∧ n ≤ 4000 ∧ g.2.2 ≤ 4000 ∧ e < g.2.2) := ⟨(h.few.2.2.2.2 g hg).2.2.2, hn, hm4, he⟩
  have hri : Hid (rdMarkI b (g.1 : Int) (n : Int) = some s.length) := by
    show _ = _
    unfold rdMarkI
    rw [if_pos ⟨by omega, by omega⟩, Int.toNat_natCast, Int.toNat_natCast, hbm]
    exact rd_mark hok
  have HSec : Hid (∀ t, t < nch s.length → (padL (chunk s t)).length = 64 ∧ ∀ W, Kept (fun _ => False) w W → Calls Tryz.prog 59 #[.pointer (some ⟨p, 0, none⟩), .int .i64 (g.1 : Int), .int .i64 ((e + 1 + t : Nat) : Int)] W fun e w' => e = .returned (.tuple #[.string ⟨(padL (chunk s t)).toArray⟩, .nilIface]) ∧ Kept (fun _ => False) W w') := fun t ht =>
    ⟨(rdF w B p pd V vF X h ha g hg (e + 1 + t) (by omega) _ (by rw [← htx t ht]; congr 1; omega)).1, fun W hk => (rdF W B p pd V vF X (h.still hk) ha g hg (e + 1 + t) (by omega) _ (by rw [← htx t ht]; congr 1; omega)).2⟩
  have HRM : Hid (e + 1 + nch s.length ≤ g.2.2) := hrm
  have hroom : (s.length : Int) ≤ roomW g.2.2 e := (room_iff (by omega) s.length).1 hrm
  obtain ⟨rm, hrmv⟩ : ∃ rm, rm = roomW g.2.2 e := ⟨_, rfl⟩
  rw [← hrmv] at hroom
  have HRV := Lib.hid hrmv
  have hsl : (s.length : Int) ≤ 256000 := by have := HG.out.2.2.1; unfold nch at hrm; omega
  have HJ := Lib.hid (rec_join s)
  clear h ha hg hL he hn hb ho hRd hm4 hmk hok htx hrm hbm hrmv
  go_enter Tryz.func39, Tryz.ntmps39
  go_upto_region 1 with (fail)
  refine wp_region_until (fun w' => w'.cell? ⟨pl, 0, none⟩ = some (.pointer (some ⟨p, 0, none⟩)) ∧ w'.cell? ⟨pl, 1, none⟩ = some (.int .i64 (g.1 : Int)) ∧ w'.cell? ⟨pl, 3, none⟩ = some (.int .i64 (e : Int)) ∧ w'.cell? ⟨pl, 4, none⟩ = some (.int .i64 (n : Int))) 18 (by kernel_rfl) ?_
  have hS0 : (fun w' => w'.cell? ⟨pl, 0, none⟩ = some (.pointer (some ⟨p, 0, none⟩)) ∧ w'.cell? ⟨pl, 1, none⟩ = some (.int .i64 (g.1 : Int)) ∧ w'.cell? ⟨pl, 3, none⟩ = some (.int .i64 (e : Int)) ∧ w'.cell? ⟨pl, 4, none⟩ = some (.int .i64 (n : Int))) w.drew := ⟨Holds.cell HL.out 0 _ rfl, Holds.cell HL.out 1 _ rfl, Holds.cell HL.out 3 _ rfl, Holds.cell HL.out 4 _ rfl⟩
  refine wpAnyU_take (i := 0) (v := (.pointer (some ⟨pl, 0, none⟩))) (some 12) rfl rfl (by kernel_rfl) (by kernel_rfl) (by kernel_rfl) (by kernel_rfl) (fun _ _ _ h => h) hS0 (yields_of (by kernel_rfl) (fun w ⟨h0, h1, h2, h3⟩ => by go_simp)) ?_
  refine wpAnyU_take (i := 1) (v := (.pointer (some ⟨pl, 0, none⟩))) (some 13) rfl rfl (by kernel_rfl) (by kernel_rfl) (by kernel_rfl) (by kernel_rfl) (fun _ _ _ h => h) hS0 (yields_of (by kernel_rfl) (fun w ⟨h0, h1, h2, h3⟩ => by go_simp)) ?_
  refine wpAnyU_take (i := 2) (v := (.pointer (some ⟨pl, 0, none⟩))) (some 14) rfl rfl (by kernel_rfl) (by kernel_rfl) (by kernel_rfl) (by kernel_rfl) (fun _ _ _ h => h) hS0 (yields_of (by kernel_rfl) (fun w ⟨h0, h1, h2, h3⟩ => by go_simp)) ?_
  refine wpAnyU_take (i := 3) (v := (.pointer (some ⟨p, 0, none⟩))) (some 15) rfl rfl (by kernel_rfl) (by kernel_rfl) (by kernel_rfl) (by kernel_rfl) (fun _ _ _ h => h) hS0 (yields_of (by kernel_rfl) (fun w ⟨h0, h1, h2, h3⟩ => by go_simp)) ?_
  refine wpAnyU_take (i := 4) (v := (.pointer (some ⟨pl, 0, none⟩))) (some 16) rfl rfl (by kernel_rfl) (by kernel_rfl) (by kernel_rfl) (by kernel_rfl) (fun _ _ _ h => h) hS0 (yields_of (by kernel_rfl) (fun w ⟨h0, h1, h2, h3⟩ => by go_simp)) ?_
  refine wpAnyU_take (i := 5) (v := (.pointer (some ⟨pl, 0, none⟩))) (some 17) rfl rfl (by kernel_rfl) (by kernel_rfl) (by kernel_rfl) (by kernel_rfl) (fun _ _ _ h => h) hS0 (yields_of (by kernel_rfl) (fun w ⟨h0, h1, h2, h3⟩ => by go_simp)) ?_
  refine wpAnyU_take (i := 6) (v := (.pointer (some ⟨pl, 1, none⟩))) (some 18) rfl rfl (by kernel_rfl) (by kernel_rfl) (by kernel_rfl) (by kernel_rfl) (fun _ _ _ h => h) hS0 (yields_of (by kernel_rfl) (fun w ⟨h0, h1, h2, h3⟩ => by go_simp)) ?_
  refine wpAnyU_take (i := 7) (v := (.int .i64 (g.1 : Int))) (some 19) rfl rfl (by kernel_rfl) (by kernel_rfl) (by kernel_rfl) (by kernel_rfl) (fun _ _ _ h => h) hS0 (yields_of (by kernel_rfl) (fun w ⟨h0, h1, h2, h3⟩ => by go_simp)) ?_
  refine wpAnyU_take (i := 8) (v := (.pointer (some ⟨pl, 0, none⟩))) (some 20) rfl rfl (by kernel_rfl) (by kernel_rfl) (by kernel_rfl) (by kernel_rfl) (fun _ _ _ h => h) hS0 (yields_of (by kernel_rfl) (fun w ⟨h0, h1, h2, h3⟩ => by go_simp)) ?_
  refine wpAnyU_take (i := 9) (v := (.pointer (some ⟨pl, 0, none⟩))) (some 21) rfl rfl (by kernel_rfl) (by kernel_rfl) (by kernel_rfl) (by kernel_rfl) (fun _ _ _ h => h) hS0 (yields_of (by kernel_rfl) (fun w ⟨h0, h1, h2, h3⟩ => by go_simp)) ?_
  refine wpAnyU_take (i := 10) (v := (.pointer (some ⟨pl, 3, none⟩))) (some 22) rfl rfl (by kernel_rfl) (by kernel_rfl) (by kernel_rfl) (by kernel_rfl) (fun _ _ _ h => h) hS0 (yields_of (by kernel_rfl) (fun w ⟨h0, h1, h2, h3⟩ => by go_simp)) ?_
  refine wpAnyU_take (i := 11) (v := (.int .i64 (e : Int))) (some 23) rfl rfl (by kernel_rfl) (by kernel_rfl) (by kernel_rfl) (by kernel_rfl) (fun _ _ _ h => h) hS0 (yields_of (by kernel_rfl) (fun w ⟨h0, h1, h2, h3⟩ => by go_simp)) ?_
  refine wpAnyU_call (i := 12) (f := 59) (args := #[.pointer (some ⟨p, 0, none⟩), .int .i64 (g.1 : Int), .int .i64 (e : Int)]) (some 24) rfl rfl (by kernel_rfl) (by kernel_rfl) (by kernel_rfl) ?_
  refine HRd.out.mono ?_
  clear HRd
  rintro r1 w2 ⟨rfl, hk2⟩
  have hk02 : Kept (fun _ => False) w w2 := ((Kept.refl _ w).drewN 1).trans hk2 (fun _ hf => hf.elim)
  have hL2 := HL.out.kept hk02 (fun h => h)
  refine ⟨_, rfl, fun _ => ⟨Holds.cell hL2 0 _ rfl, Holds.cell hL2 1 _ rfl, Holds.cell hL2 3 _ rfl, Holds.cell hL2 4 _ rfl⟩, ?_⟩
  refine wpAnyU_run (i := 13) (v := .tuple #[(.string ⟨b.toArray⟩), .nilIface]) (w' := w2) (some 11) rfl rfl (by kernel_rfl) (by kernel_rfl) (by kernel_rfl) (fun _ => ⟨Holds.cell hL2 0 _ rfl, Holds.cell hL2 1 _ rfl, Holds.cell hL2 3 _ rfl, Holds.cell hL2 4 _ rfl⟩) ?_
  refine wpAnyU_take (i := 14) (v := (.string ⟨b.toArray⟩)) (some 25) rfl rfl (by kernel_rfl) (by kernel_rfl) (by kernel_rfl) (by kernel_rfl) (fun _ _ _ h => h) ⟨Holds.cell hL2 0 _ rfl, Holds.cell hL2 1 _ rfl, Holds.cell hL2 3 _ rfl, Holds.cell hL2 4 _ rfl⟩ (yields_of (by kernel_rfl) (fun w ⟨h0, h1, h2, h3⟩ => by kernel_rfl)) ?_
  refine wpAnyU_take (i := 15) (v := .nilIface) (some 26) rfl rfl (by kernel_rfl) (by kernel_rfl) (by kernel_rfl) (by kernel_rfl) (fun _ _ _ h => h) ⟨Holds.cell hL2 0 _ rfl, Holds.cell hL2 1 _ rfl, Holds.cell hL2 3 _ rfl, Holds.cell hL2 4 _ rfl⟩ (yields_of (by kernel_rfl) (fun w ⟨h0, h1, h2, h3⟩ => by kernel_rfl)) ?_
  first
    | refine wpAnyU_run (i := 16) (v := (.string ⟨b.toArray⟩)) (w' := w2) (some 5) rfl rfl (by kernel_rfl) (by kernel_rfl) (by kernel_rfl) (fun _ => ⟨Holds.cell hL2 0 _ rfl, Holds.cell hL2 1 _ rfl, Holds.cell hL2 3 _ rfl, Holds.cell hL2 4 _ rfl⟩) ?_
    | refine wpAnyU_take (i := 16) (v := (.string ⟨b.toArray⟩)) (some 5) rfl rfl (by kernel_rfl) (by kernel_rfl) (by kernel_rfl) (by kernel_rfl) (fun _ _ _ h => h) ⟨Holds.cell hL2 0 _ rfl, Holds.cell hL2 1 _ rfl, Holds.cell hL2 3 _ rfl, Holds.cell hL2 4 _ rfl⟩ (yields_of (by kernel_rfl) (fun w ⟨h0, h1, h2, h3⟩ => by kernel_rfl)) ?_
  first
    | refine wpAnyU_run (i := 17) (v := .nilIface) (w' := w2) (some 4) rfl rfl (by kernel_rfl) (by kernel_rfl) (by kernel_rfl) (fun _ => ⟨Holds.cell hL2 0 _ rfl, Holds.cell hL2 1 _ rfl, Holds.cell hL2 3 _ rfl, Holds.cell hL2 4 _ rfl⟩) ?_
    | refine wpAnyU_take (i := 17) (v := .nilIface) (some 4) rfl rfl (by kernel_rfl) (by kernel_rfl) (by kernel_rfl) (by kernel_rfl) (fun _ _ _ h => h) ⟨Holds.cell hL2 0 _ rfl, Holds.cell hL2 1 _ rfl, Holds.cell hL2 3 _ rfl, Holds.cell hL2 4 _ rfl⟩ (yields_of (by kernel_rfl) (fun w ⟨h0, h1, h2, h3⟩ => by kernel_rfl)) ?_
  refine wpAnyU_done (by kernel_rfl) ?_ _
  simp only [put_lit, List.set_cons_succ, List.set_cons_zero]
  have HK2 := Lib.hid hk02
  have HL2 := Lib.hid hL2
  clear hS0 hk2 hk02 hL2
  have HMr := Lib.hid (markK.read b (g.1 : Int) (n : Int) w2.drew (by omega) (by have := HG.out.1; unfold MaxN at this; exact ⟨by omega, by omega⟩) (by have := HG.out.2.1; exact ⟨by omega, by omega⟩))
  go_upto_region 4 with (fail)
  refine wp_region_until (fun w' => w'.cell? ⟨pl, 0, none⟩ = some (.pointer (some ⟨p, 0, none⟩)) ∧ w'.cell? ⟨pl, 1, none⟩ = some (.int .i64 (g.1 : Int)) ∧ w'.cell? ⟨pl, 3, none⟩ = some (.int .i64 (e : Int)) ∧ w'.cell? ⟨pl, 4, none⟩ = some (.int .i64 (n : Int))) 15 (by kernel_rfl) ?_
  have hS0 : (fun w' => w'.cell? ⟨pl, 0, none⟩ = some (.pointer (some ⟨p, 0, none⟩)) ∧ w'.cell? ⟨pl, 1, none⟩ = some (.int .i64 (g.1 : Int)) ∧ w'.cell? ⟨pl, 3, none⟩ = some (.int .i64 (e : Int)) ∧ w'.cell? ⟨pl, 4, none⟩ = some (.int .i64 (n : Int))) w2.drew := ⟨Holds.cell HL2.out 0 _ rfl, Holds.cell HL2.out 1 _ rfl, Holds.cell HL2.out 3 _ rfl, Holds.cell HL2.out 4 _ rfl⟩
  refine wpAnyU_take (i := 0) (v := (.string ⟨b.toArray⟩)) (some 32) rfl rfl (by kernel_rfl) (by kernel_rfl) (by kernel_rfl) (by kernel_rfl) (fun _ _ _ h => h) hS0 (yields_of (by kernel_rfl) (fun w ⟨h0, h1, h2, h3⟩ => by go_simp)) ?_
  refine wpAnyU_take (i := 1) (v := (.pointer (some ⟨pl, 0, none⟩))) (some 33) rfl rfl (by kernel_rfl) (by kernel_rfl) (by kernel_rfl) (by kernel_rfl) (fun _ _ _ h => h) hS0 (yields_of (by kernel_rfl) (fun w ⟨h0, h1, h2, h3⟩ => by go_simp)) ?_
  refine wpAnyU_take (i := 2) (v := (.pointer (some ⟨pl, 0, none⟩))) (some 34) rfl rfl (by kernel_rfl) (by kernel_rfl) (by kernel_rfl) (by kernel_rfl) (fun _ _ _ h => h) hS0 (yields_of (by kernel_rfl) (fun w ⟨h0, h1, h2, h3⟩ => by go_simp)) ?_
  refine wpAnyU_take (i := 3) (v := (.pointer (some ⟨pl, 1, none⟩))) (some 35) rfl rfl (by kernel_rfl) (by kernel_rfl) (by kernel_rfl) (by kernel_rfl) (fun _ _ _ h => h) hS0 (yields_of (by kernel_rfl) (fun w ⟨h0, h1, h2, h3⟩ => by go_simp)) ?_
  refine wpAnyU_take (i := 4) (v := (.int .i64 (g.1 : Int))) (some 36) rfl rfl (by kernel_rfl) (by kernel_rfl) (by kernel_rfl) (by kernel_rfl) (fun _ _ _ h => h) hS0 (yields_of (by kernel_rfl) (fun w ⟨h0, h1, h2, h3⟩ => by go_simp)) ?_
  refine wpAnyU_take (i := 5) (v := (.pointer (some ⟨pl, 0, none⟩))) (some 37) rfl rfl (by kernel_rfl) (by kernel_rfl) (by kernel_rfl) (by kernel_rfl) (fun _ _ _ h => h) hS0 (yields_of (by kernel_rfl) (fun w ⟨h0, h1, h2, h3⟩ => by go_simp)) ?_
  refine wpAnyU_take (i := 6) (v := (.pointer (some ⟨pl, 0, none⟩))) (some 38) rfl rfl (by kernel_rfl) (by kernel_rfl) (by kernel_rfl) (by kernel_rfl) (fun _ _ _ h => h) hS0 (yields_of (by kernel_rfl) (fun w ⟨h0, h1, h2, h3⟩ => by go_simp)) ?_
  refine wpAnyU_take (i := 7) (v := (.pointer (some ⟨pl, 4, none⟩))) (some 39) rfl rfl (by kernel_rfl) (by kernel_rfl) (by kernel_rfl) (by kernel_rfl) (fun _ _ _ h => h) hS0 (yields_of (by kernel_rfl) (fun w ⟨h0, h1, h2, h3⟩ => by go_simp)) ?_
  refine wpAnyU_take (i := 8) (v := (.int .i64 (n : Int))) (some 40) rfl rfl (by kernel_rfl) (by kernel_rfl) (by kernel_rfl) (by kernel_rfl) (fun _ _ _ h => h) hS0 (yields_of (by kernel_rfl) (fun w ⟨h0, h1, h2, h3⟩ => by go_simp)) ?_
  refine wpAnyU_call (i := 9) (f := 11) (args := #[.string ⟨b.toArray⟩, .int .i64 (g.1 : Int), .int .i64 (n : Int)]) (some 41) rfl rfl (by kernel_rfl) (by kernel_rfl) (by kernel_rfl) ?_
  refine HMr.out.mono ?_
  clear HMr
  rintro r2 w3 ⟨hk3, ⟨m, hm, rfl⟩ | ⟨hm, _⟩⟩
  case inr => rw [hri.out] at hm; cases hm
  have hms : m = s.length := by rw [hri.out] at hm; injection hm with hm; exact hm.symm
  subst hms
  have hk03 : Kept (fun _ => False) w w3 := (HK2.out.drewN 1).trans hk3 (fun _ hf => hf.elim)
  have hL3 := HL.out.kept hk03 (fun h => h)
  refine ⟨_, rfl, fun _ => ⟨Holds.cell hL3 0 _ rfl, Holds.cell hL3 1 _ rfl, Holds.cell hL3 3 _ rfl, Holds.cell hL3 4 _ rfl⟩, ?_⟩
  refine wpAnyU_run (i := 10) (v := .tuple #[(.int .i64 (s.length : Int)), .nilIface]) (w' := w3) (some 31) rfl rfl (by kernel_rfl) (by kernel_rfl) (by kernel_rfl) (fun _ => ⟨Holds.cell hL3 0 _ rfl, Holds.cell hL3 1 _ rfl, Holds.cell hL3 3 _ rfl, Holds.cell hL3 4 _ rfl⟩) ?_
  refine wpAnyU_take (i := 11) (v := (.int .i64 (s.length : Int))) (some 42) rfl rfl (by kernel_rfl) (by kernel_rfl) (by kernel_rfl) (by kernel_rfl) (fun _ _ _ h => h) ⟨Holds.cell hL3 0 _ rfl, Holds.cell hL3 1 _ rfl, Holds.cell hL3 3 _ rfl, Holds.cell hL3 4 _ rfl⟩ (yields_of (by kernel_rfl) (fun w ⟨h0, h1, h2, h3⟩ => by kernel_rfl)) ?_
  refine wpAnyU_take (i := 12) (v := .nilIface) (some 43) rfl rfl (by kernel_rfl) (by kernel_rfl) (by kernel_rfl) (by kernel_rfl) (fun _ _ _ h => h) ⟨Holds.cell hL3 0 _ rfl, Holds.cell hL3 1 _ rfl, Holds.cell hL3 3 _ rfl, Holds.cell hL3 4 _ rfl⟩ (yields_of (by kernel_rfl) (fun w ⟨h0, h1, h2, h3⟩ => by kernel_rfl)) ?_
  first
    | refine wpAnyU_run (i := 13) (v := (.int .i64 (s.length : Int))) (w' := w3) (some 6) rfl rfl (by kernel_rfl) (by kernel_rfl) (by kernel_rfl) (fun _ => ⟨Holds.cell hL3 0 _ rfl, Holds.cell hL3 1 _ rfl, Holds.cell hL3 3 _ rfl, Holds.cell hL3 4 _ rfl⟩) ?_
    | refine wpAnyU_take (i := 13) (v := (.int .i64 (s.length : Int))) (some 6) rfl rfl (by kernel_rfl) (by kernel_rfl) (by kernel_rfl) (by kernel_rfl) (fun _ _ _ h => h) ⟨Holds.cell hL3 0 _ rfl, Holds.cell hL3 1 _ rfl, Holds.cell hL3 3 _ rfl, Holds.cell hL3 4 _ rfl⟩ (yields_of (by kernel_rfl) (fun w ⟨h0, h1, h2, h3⟩ => by kernel_rfl)) ?_
  first
    | refine wpAnyU_run (i := 14) (v := .nilIface) (w' := w3) (some 4) rfl rfl (by kernel_rfl) (by kernel_rfl) (by kernel_rfl) (fun _ => ⟨Holds.cell hL3 0 _ rfl, Holds.cell hL3 1 _ rfl, Holds.cell hL3 3 _ rfl, Holds.cell hL3 4 _ rfl⟩) ?_
    | refine wpAnyU_take (i := 14) (v := .nilIface) (some 4) rfl rfl (by kernel_rfl) (by kernel_rfl) (by kernel_rfl) (by kernel_rfl) (fun _ _ _ h => h) ⟨Holds.cell hL3 0 _ rfl, Holds.cell hL3 1 _ rfl, Holds.cell hL3 3 _ rfl, Holds.cell hL3 4 _ rfl⟩ (yields_of (by kernel_rfl) (fun w ⟨h0, h1, h2, h3⟩ => by kernel_rfl)) ?_
  refine wpAnyU_done (by kernel_rfl) ?_ _
  simp only [put_lit, List.set_cons_succ, List.set_cons_zero]
  have HRo := Lib.hid (roomP8 w3 pl p g.1 g.2.2 e n hL3 (by have := HG.out.2.2.2; omega) HG.out.2.2.1)
  rw [← HRV.out] at HRo
  have HK3 := Lib.hid hk03
  clear hS0 hk3 hk03 hL3 hm hri
  go_wp2_with fail
  refine HRo.out.mono ?_
  clear HRo
  rintro r3 w4 ⟨rfl, hk4⟩
  have hk04 : Kept (fun _ => False) w w4 := HK3.out.trans hk4 (fun _ hf => hf.elim)
  have HNb := Lib.hid (fresh w4)
  have hk5 : Kept (fun _ => False) w (w4.alloc (.cells #[.pointer none, .slice none 0 0] 118)) := hk04.alloc _
  have HI : Hid (BldF (w4.alloc (.cells #[.pointer none, .slice none 0 0] 118)) w4.heap.size w4.heap.size (gotW s 0) ∧ Kept (fun _ => False) w (w4.alloc (.cells #[.pointer none, .slice none 0 0] 118)) ∧ w4.heap.size ≤ (w4.alloc (.cells #[.pointer none, .slice none 0 0] 118)).heap.size) := ⟨HNb.out, hk5, by simp⟩
  have hL5 := HL.out.kept hk5 (fun h => h)
  have hbs : w.heap.size ≤ w4.heap.size := hk04.size
  have c3 := Holds.cell hL5 3 _ rfl
  have hw1 : IntKind.i64.wrap ((e : Int) + 1) = ((e + 1 : Nat) : Int) := by have := HG.out; rw [IntWalk.i64_in _ (by omega)]; omega
  clear hk4 hk04 HNb hk5 hL5
  go_wp2_with fail
  obtain ⟨bb, hbb⟩ : ∃ bb, Hid (bb = w4.heap.size) := ⟨_, rfl⟩
  generalize w4.alloc (.cells #[.pointer none, .slice none 0 0] 118) = wq at HI c3 ⊢
  rw [← hbb.out] at HI ⊢
  clear c3
  have HBB : Hid (w.heap.size ≤ bb) := by have := hbb.out; show _ ≤ _; omega
  clear hbs hbb
  go_loopw [8] (fun at' wr => ∃ j : Nat, j ≤ nch s.length ∧ at' = .int .i64 ((e + 1 + j : Nat) : Int) ∧ Hid (BldF wr bb bb (gotW s j) ∧ Kept (fun _ => False) w wr ∧ bb ≤ wr.heap.size)) (fun at' _ => 20000 - (intOf at').toNat)
  case atStart => exact ⟨0, Nat.zero_le _, rfl, HI⟩
  case round =>
    obtain ⟨j, hj, rfl, hI⟩ := hrel
    have hjn : j < nch s.length ↔ 64 * j < s.length := by unfold nch; omega
    have hgl := gotW_length s j (fun t ht => (HSec.out t (by omega)).1)
    have HL0 := bldLen bb bb (gotW s j) wr hI.out.1
    rw [hgl] at HL0
    have HLh := Lib.hid HL0
    have hLr := HL.out.kept hI.out.2.1 (fun h => h)
    have hbw : bb ≤ wr.heap.size := hI.out.2.2
    clear HL0
    by_cases hlt : ((64 * j : Nat) : Int) < (s.length : Int)
    · have hlt' : 64 * (j : Int) < (s.length : Int) := by omega
      have hjl : j < nch s.length := by omega
      have hRd := (HSec.out j hjl).2 wr.drew (hI.out.2.1.drewN 1)
      have hsl64 := (HSec.out j hjl).1
      have hgs : Hid (gotW s (j + 1) = gotW s j ++ padL (chunk s j)) := gotW_succ s j
      obtain ⟨sec, hsec⟩ : ∃ sec, sec = padL (chunk s j) := ⟨_, rfl⟩
      rw [← hsec] at hRd hsl64 hgs
      have HRd := Lib.hid hRd
      have HIN := Lib.hid hjl
      have hS4 : wr.cell? ⟨pl, 0, none⟩ = some (.pointer (some ⟨p, 0, none⟩)) ∧ wr.cell? ⟨pl, 1, none⟩ = some (.int .i64 (g.1 : Int)) ∧ wr.cell? ⟨pl, 3, none⟩ = some (.int .i64 (e : Int)) ∧ wr.cell? ⟨pl, 4, none⟩ = some (.int .i64 (n : Int)) := ⟨Holds.cell hLr 0 _ rfl, Holds.cell hLr 1 _ rfl, Holds.cell hLr 3 _ rfl, Holds.cell hLr 4 _ rfl⟩
      have hwa : IntKind.i64.wrap ((e : Int) + 1 + (j : Int) + 1) = (e : Int) + 1 + (j : Int) + 1 := by have := HG.out; have := HRM.out; rw [IntWalk.i64_in _ (by omega)]
      clear hRd hsec hj hjn hjl hLr
      go_wp2_with fail
      refine HLh.out.mono ?_
      clear HLh
      rintro r4 w1 ⟨rfl, hw1'⟩
      rw [hw1']
      clear hw1'
      go_upto_region 11 with (fail)
      refine wp_region_until (fun w' => w'.cell? ⟨pl, 0, none⟩ = some (.pointer (some ⟨p, 0, none⟩)) ∧ w'.cell? ⟨pl, 1, none⟩ = some (.int .i64 (g.1 : Int)) ∧ w'.cell? ⟨pl, 3, none⟩ = some (.int .i64 (e : Int)) ∧ w'.cell? ⟨pl, 4, none⟩ = some (.int .i64 (n : Int))) 15 (by kernel_rfl) ?_
      have hS0 : (fun w' => w'.cell? ⟨pl, 0, none⟩ = some (.pointer (some ⟨p, 0, none⟩)) ∧ w'.cell? ⟨pl, 1, none⟩ = some (.int .i64 (g.1 : Int)) ∧ w'.cell? ⟨pl, 3, none⟩ = some (.int .i64 (e : Int)) ∧ w'.cell? ⟨pl, 4, none⟩ = some (.int .i64 (n : Int))) wr.drew := hS4
      refine wpAnyU_take (i := 0) (v := (.pointer (some ⟨pl, 0, none⟩))) (some 63) rfl rfl (by kernel_rfl) (by kernel_rfl) (by kernel_rfl) (by kernel_rfl) (fun _ _ _ h => h) hS0 (yields_of (by kernel_rfl) (fun w ⟨h0, h1, h2, h3⟩ => by go_simp)) ?_
      refine wpAnyU_take (i := 1) (v := (.pointer (some ⟨pl, 0, none⟩))) (some 64) rfl rfl (by kernel_rfl) (by kernel_rfl) (by kernel_rfl) (by kernel_rfl) (fun _ _ _ h => h) hS0 (yields_of (by kernel_rfl) (fun w ⟨h0, h1, h2, h3⟩ => by go_simp)) ?_
      refine wpAnyU_take (i := 2) (v := (.pointer (some ⟨pl, 0, none⟩))) (some 65) rfl rfl (by kernel_rfl) (by kernel_rfl) (by kernel_rfl) (by kernel_rfl) (fun _ _ _ h => h) hS0 (yields_of (by kernel_rfl) (fun w ⟨h0, h1, h2, h3⟩ => by go_simp)) ?_
      refine wpAnyU_take (i := 3) (v := (.pointer (some ⟨p, 0, none⟩))) (some 66) rfl rfl (by kernel_rfl) (by kernel_rfl) (by kernel_rfl) (by kernel_rfl) (fun _ _ _ h => h) hS0 (yields_of (by kernel_rfl) (fun w ⟨h0, h1, h2, h3⟩ => by go_simp)) ?_
      refine wpAnyU_take (i := 4) (v := (.pointer (some ⟨pl, 0, none⟩))) (some 67) rfl rfl (by kernel_rfl) (by kernel_rfl) (by kernel_rfl) (by kernel_rfl) (fun _ _ _ h => h) hS0 (yields_of (by kernel_rfl) (fun w ⟨h0, h1, h2, h3⟩ => by go_simp)) ?_
      refine wpAnyU_take (i := 5) (v := (.pointer (some ⟨pl, 0, none⟩))) (some 68) rfl rfl (by kernel_rfl) (by kernel_rfl) (by kernel_rfl) (by kernel_rfl) (fun _ _ _ h => h) hS0 (yields_of (by kernel_rfl) (fun w ⟨h0, h1, h2, h3⟩ => by go_simp)) ?_
      refine wpAnyU_take (i := 6) (v := (.pointer (some ⟨pl, 1, none⟩))) (some 69) rfl rfl (by kernel_rfl) (by kernel_rfl) (by kernel_rfl) (by kernel_rfl) (fun _ _ _ h => h) hS0 (yields_of (by kernel_rfl) (fun w ⟨h0, h1, h2, h3⟩ => by go_simp)) ?_
      refine wpAnyU_take (i := 7) (v := (.int .i64 (g.1 : Int))) (some 70) rfl rfl (by kernel_rfl) (by kernel_rfl) (by kernel_rfl) (by kernel_rfl) (fun _ _ _ h => h) hS0 (yields_of (by kernel_rfl) (fun w ⟨h0, h1, h2, h3⟩ => by go_simp)) ?_
      refine wpAnyU_take (i := 8) (v := (.int .i64 ((e + 1 + j : Nat) : Int))) (some 71) rfl rfl (by kernel_rfl) (by kernel_rfl) (by kernel_rfl) (by kernel_rfl) (fun _ _ _ h => h) hS0 (yields_of (by kernel_rfl) (fun w ⟨h0, h1, h2, h3⟩ => by go_simp)) ?_
      refine wpAnyU_call (i := 9) (f := 59) (args := #[.pointer (some ⟨p, 0, none⟩), .int .i64 (g.1 : Int), .int .i64 ((e + 1 + j : Nat) : Int)]) (some 72) rfl rfl (by kernel_rfl) (by kernel_rfl) (by kernel_rfl) ?_
      refine HRd.out.mono ?_
      clear HRd
      rintro r5 w2' ⟨rfl, hk2⟩
      have hkr2 : Kept (fun _ => False) wr w2' := ((Kept.refl _ wr).drewN 1).trans hk2 (fun _ hf => hf.elim)
      have hk02 : Kept (fun _ => False) w w2' := hI.out.2.1.trans hkr2 (fun _ hf => hf.elim)
      have hL6 := HL.out.kept hk02 (fun h => h)
      refine ⟨_, rfl, fun _ => ⟨Holds.cell hL6 0 _ rfl, Holds.cell hL6 1 _ rfl, Holds.cell hL6 3 _ rfl, Holds.cell hL6 4 _ rfl⟩, ?_⟩
      refine wpAnyU_run (i := 10) (v := .tuple #[(.string ⟨sec.toArray⟩), .nilIface]) (w' := w2') (some 62) rfl rfl (by kernel_rfl) (by kernel_rfl) (by kernel_rfl) (fun _ => ⟨Holds.cell hL6 0 _ rfl, Holds.cell hL6 1 _ rfl, Holds.cell hL6 3 _ rfl, Holds.cell hL6 4 _ rfl⟩) ?_
      refine wpAnyU_take (i := 11) (v := (.string ⟨sec.toArray⟩)) (some 73) rfl rfl (by kernel_rfl) (by kernel_rfl) (by kernel_rfl) (by kernel_rfl) (fun _ _ _ h => h) ⟨Holds.cell hL6 0 _ rfl, Holds.cell hL6 1 _ rfl, Holds.cell hL6 3 _ rfl, Holds.cell hL6 4 _ rfl⟩ (yields_of (by kernel_rfl) (fun w ⟨h0, h1, h2, h3⟩ => by kernel_rfl)) ?_
      refine wpAnyU_take (i := 12) (v := .nilIface) (some 74) rfl rfl (by kernel_rfl) (by kernel_rfl) (by kernel_rfl) (by kernel_rfl) (fun _ _ _ h => h) ⟨Holds.cell hL6 0 _ rfl, Holds.cell hL6 1 _ rfl, Holds.cell hL6 3 _ rfl, Holds.cell hL6 4 _ rfl⟩ (yields_of (by kernel_rfl) (fun w ⟨h0, h1, h2, h3⟩ => by kernel_rfl)) ?_
      first
        | refine wpAnyU_run (i := 13) (v := (.string ⟨sec.toArray⟩)) (w' := w2') (some 9) rfl rfl (by kernel_rfl) (by kernel_rfl) (by kernel_rfl) (fun _ => ⟨Holds.cell hL6 0 _ rfl, Holds.cell hL6 1 _ rfl, Holds.cell hL6 3 _ rfl, Holds.cell hL6 4 _ rfl⟩) ?_
        | refine wpAnyU_take (i := 13) (v := (.string ⟨sec.toArray⟩)) (some 9) rfl rfl (by kernel_rfl) (by kernel_rfl) (by kernel_rfl) (by kernel_rfl) (fun _ _ _ h => h) ⟨Holds.cell hL6 0 _ rfl, Holds.cell hL6 1 _ rfl, Holds.cell hL6 3 _ rfl, Holds.cell hL6 4 _ rfl⟩ (yields_of (by kernel_rfl) (fun w ⟨h0, h1, h2, h3⟩ => by kernel_rfl)) ?_
      first
        | refine wpAnyU_run (i := 14) (v := .nilIface) (w' := w2') (some 10) rfl rfl (by kernel_rfl) (by kernel_rfl) (by kernel_rfl) (fun _ => ⟨Holds.cell hL6 0 _ rfl, Holds.cell hL6 1 _ rfl, Holds.cell hL6 3 _ rfl, Holds.cell hL6 4 _ rfl⟩) ?_
        | refine wpAnyU_take (i := 14) (v := .nilIface) (some 10) rfl rfl (by kernel_rfl) (by kernel_rfl) (by kernel_rfl) (by kernel_rfl) (fun _ _ _ h => h) ⟨Holds.cell hL6 0 _ rfl, Holds.cell hL6 1 _ rfl, Holds.cell hL6 3 _ rfl, Holds.cell hL6 4 _ rfl⟩ (yields_of (by kernel_rfl) (fun w ⟨h0, h1, h2, h3⟩ => by kernel_rfl)) ?_
      refine wpAnyU_done (by kernel_rfl) ?_ _
      simp only [put_lit, List.set_cons_succ, List.set_cons_zero]
      have hbl := bldF_kept hI.out.1 hkr2
      have hbw2 : bb ≤ w2'.heap.size := Nat.le_trans hbw hkr2.size
      have HW := Lib.hid (Tryz.Builder_WriteString_k bb bb (Lib.byteCells (gotW s j)) ⟨sec.toArray⟩ w2' hbl (by rw [bc_length, hgl]; simp [ByteArray.size, hsl64]; omega) hbw2)
      have HK := Lib.hid hk02
      clear hS0 hS4 hk2 hkr2 hk02 hL6 hbl hI hgl hbw
      go_wp2_with fail
      refine HW.out.mono ?_
      clear HW
      rintro r6 w3' ⟨rfl, hb3, hbel, _⟩
      have hk3 : Kept (fun _ => False) w w3' := kept_under HK.out hbel HBB.out
      have HI3 : Hid (BldF w3' bb bb (gotW s (j + 1)) ∧ Kept (fun _ => False) w w3' ∧ bb ≤ w3'.heap.size) := by
        refine ⟨.inr ?_, hk3, Nat.le_trans hbw2 hbel.size⟩
        rw [hgs.out, Lib.byteCells_append]
        exact hb3
      clear hk3 hb3 hbel hsl64
      go_wp2
      go_roundw
      case rel => exact ⟨j + 1, HIN.out, by first | rfl | go_num, HI3⟩
      case measure => have := HG.out; have := HRM.out; simp [intOf]; omega
    · have hlt' : ¬64 * (j : Int) < (s.length : Int) := by omega
      obtain rfl : j = nch s.length := by omega
      have HS := Lib.hid (Tryz.Builder_String_any_k bb bb (gotW s (nch s.length)) wr hI.out.1 hbw)
      have hzl : (s.length : Int) ≤ ((gotW s (nch s.length)).length : Int) := by rw [hgl]; unfold nch; omega
      have HJ2 : Hid ((gotW s (nch s.length)).take s.length = s) := HJ.out
      have HK := Lib.hid hI.out.2.1
      clear hjn hgl HJ
      go_wp2_with fail
      refine HLh.out.mono ?_
      clear HLh
      rintro r4 w1 ⟨rfl, hw1'⟩
      rw [hw1']
      clear hw1'
      go_wp2_with fail
      refine HS.out.mono ?_
      clear HS
      rintro r5 w3' ⟨rfl, hb3, hbel, _⟩
      have hk3 : Kept (fun _ => False) w w3' := kept_under HK.out hbel HBB.out
      have HK3' := Lib.hid hk3
      clear hk3 hb3 hbel hI
      generalize gotW s (nch s.length) = G at hzl HJ2 ⊢
      go_wp2
      go_ret3
      refine ⟨?_, HK3'.out⟩
      have := HJ2.out
      simp only [this]
      rfl

end Go.Proofs.YtfbgagpihhbllaaGreatDoor
