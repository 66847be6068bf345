/- VolJ, VolL. -/
import Derived.Test.YtlgdfalbhpgllaaGreatDoorJ18
import Derived.Test.YtlgdfalbhpgllaaGreatDoorJ08

/- A deed of the laws of layer 7, walked over the contract of the program's volume: Drop, Point, Write. -/
namespace Go.Proofs.YtlgdfalbhpgllaaGreatDoor
open Go.RowKit Go.Proofs Go.Proofs.Pk
set_option maxRecDepth 10000
attribute [local simp] mk_get wrap64_u8 mk_extract ByteArray.mk_append_mk get_1k

/-- The law's pick, with a function for its answers. -/
theorem pick_fun : ∃ f : Int → Int → Int, (∀ (c n : Int) (w0 : World), FitI c ∧ 0 < n ∧ n ≤ 5000 → Calls Tryz.prog 11 #[.int .i64 c, .int .i64 n] w0 fun e w' => e = .returned (.int .i64 (f c n)) ∧ w0 = w') ∧ (∀ (c : Int) (n : Nat), f c (n : Int) = (pickN c n : Nat)) ∧ ∀ c, f c 4 = (pickN c 4 : Nat) := by
  refine ⟨fun c n => (pickN c n.toNat : Nat), ?_, fun c n => by simp, fun c => rfl⟩
  rintro c n w0 ⟨h, h0, h1⟩
  obtain ⟨m, rfl⟩ := Int.eq_ofNat_of_zero_le (show 0 ≤ n by omega)
  have := pick_any c m w0 h (by omega) (by omega)
  simpa using this

theorem root_files (x y z : Int) (ad : Option Addr) (len cap : Nat) (w : World) : (Instr.field 40 (.agg #[.int .i64 x, .int .i64 y, .int .i64 z, .slice ad len cap]) 3).run Tryz.prog w = .ok (.slice ad len cap) w := by kernel_rfl

set_option maxHeartbeats 1000000 in
theorem act_none {At : VolAt} (K : VolK At) {w : World} {B p : Nat} {V : Vol} {X : Nat → Prop} {F : Option Nat} (h : At w B p V X F) (u : DeedW) (hf : FitI u.kind) (h0 : pickN u.kind 4 ≠ 0) (hl : V.R.2.2.2 = []) :
    Calls Tryz.prog 9 #[.pointer (some ⟨p, 0, none⟩), .agg (dcW u).toArray] w fun e w' => (∃ v, e = .returned v) ∧ Left At w B p (actV V u) X F w' := by
  have eV : actV V u = V := by unfold actV; rw [if_neg h0, hl]; rfl
  rw [eV]
  obtain ⟨kind, a, b, s, kad, klen, kcap, ks⟩ := u
  simp only at h0 hf eV ⊢
  obtain ⟨f, hP, -, hf4⟩ := pick_fun
  have f4 := hf4 kind
  have hk4 := pickN_lt kind (n := 4) (by decide)
  obtain ⟨w1, hw1⟩ : ∃ w1, w1 = w.alloc (.cells (dcW ⟨kind, a, b, s, kad, klen, kcap, ks⟩).toArray 35) := ⟨_, rfl⟩
  have hk1 : Kept (fun _ => False) w w1 := by rw [hw1]; exact (Kept.refl _ _).alloc _
  have h1 := K.kept h hk1 (fun _ _ hf => hf)
  have hR := K.root h1
  rw [hl] at hR
  simp only [List.length_nil, List.map_nil] at hR
  have HR := Lib.hid hR
  clear hR
  have HK := Lib.hid hk1
  have HW := Lib.hid hw1
  have HP := Lib.hid hP
  have HA := Lib.hid h
  have hd0 : (dcW ⟨kind, a, b, s, kad, klen, kcap, ks⟩).toArray = #[.int .i64 kind, .int .i64 a, .int .i64 b, .string ⟨s.toArray⟩, .slice kad klen kcap] := rfl
  rw [hd0] at HW ⊢
  have HF := Lib.hid hf
  obtain ⟨kd, hkd⟩ : ∃ kd, kd = pickN kind 4 := ⟨_, rfl⟩
  rw [← hkd] at f4 hk4 h0
  clear hf eV hk1 h1 h hw1 hd0 hP hf4 hkd hl
  have h3 : kd = 1 ∨ kd = 2 ∨ kd = 3 := by omega
  clear h0 hk4
  have hfl := root_files
  rcases h3 with rfl | rfl | rfl
  all_goals
    go_enter Tryz.func9, Tryz.ntmps9
    go_wp2_with (first | (go_at_call 11; refine (HP.out _ _ _ ⟨HF.out, by decide, by decide⟩).mono ?_; rintro e wn ⟨rfl, rfl⟩) | (go_at_call 12; rw [← HW.out]; refine HR.out.mono ?_; rintro e wn ⟨hk2, ad, cap, rfl, -, -⟩))
    go_wp2
    go_ret
    exact ⟨⟨_, rfl⟩, Left.none K HA.out (HK.out.trans hk2 (fun _ hf => hf.elim))⟩

set_option maxHeartbeats 2000000 in
theorem act_point {At : VolAt} (K : VolK At) {w : World} {B p : Nat} {V : Vol} {X : Nat → Prop} {F : Option Nat} (h : At w B p V X F) (hs : Small V) (hg : ErrTy w) (u : DeedW) (hf : FitI u.kind) (hfa : FitI u.a) (h0 : pickN u.kind 4 = 2) (g : FileN) (hgf : V.R.2.2.2[pickN u.a V.R.2.2.2.length]? = some g) :
    Calls Tryz.prog 9 #[.pointer (some ⟨p, 0, none⟩), .agg (dcW u).toArray] w fun e w' => (∃ v, e = .returned v) ∧ Left At w B p (actV V u) X F w' := by
  have eV : actV V u = (pointV V (g.1 : Int)).1 := by unfold actV; rw [if_neg (by omega), hgf]; simp only; rw [if_neg (by omega), if_pos h0]
  rw [eV]
  obtain ⟨kind, a, b, s, kad, klen, kcap, ks⟩ := u
  simp only at h0 hf hfa eV hgf ⊢
  obtain ⟨f, hP, hfn, hf4⟩ := pick_fun
  have f4 := hf4 kind
  rw [h0] at f4
  have hfew := K.few h
  obtain ⟨len, hlen⟩ : ∃ n, n = V.R.2.2.2.length := ⟨_, rfl⟩
  have fa := hfn a len
  rw [← hlen] at hgf hfew
  obtain ⟨j, hj⟩ : ∃ j, j = pickN a len := ⟨_, rfl⟩
  rw [← hj] at hgf fa
  have hjl : j < len := by
    have := (List.getElem?_eq_some_iff.1 hgf).1; omega
  obtain ⟨w1, hw1⟩ : ∃ w1, w1 = w.alloc (.cells (dcW ⟨kind, a, b, s, kad, klen, kcap, ks⟩).toArray 35) := ⟨_, rfl⟩
  have hk1 : Kept (fun _ => False) w w1 := by rw [hw1]; exact (Kept.refl _ _).alloc _
  have h1 := K.kept h hk1 (fun _ _ hf => hf)
  have hR := K.root h1
  rw [← hlen] at hR
  have HR := Lib.hid hR
  have HB : Holds w1 w.heap.size (dcW ⟨kind, a, b, s, kad, klen, kcap, ks⟩) 35 := by rw [hw1]; exact Holds.new w _ _
  have HBh := Lib.hid HB
  have HK := Lib.hid hk1
  have HW := Lib.hid hw1
  have HP := Lib.hid hP
  have HA := Lib.hid h1
  have HS := Lib.hid hs
  have HG := Lib.hid (hg.kept hk1 (fun hf => hf))
  have HGF := Lib.hid hgf
  have hd0 : (dcW ⟨kind, a, b, s, kad, klen, kcap, ks⟩).toArray = #[.int .i64 kind, .int .i64 a, .int .i64 b, .string ⟨s.toArray⟩, .slice kad klen kcap] := rfl
  rw [hd0] at HW ⊢
  have HF := Lib.hid hf
  have HFa := Lib.hid hfa
  have hl0 : 0 < (len : Int) := by omega
  have hl1 : (len : Int) ≤ 5000 := by omega
  have hne : ((len : Int) == 0) = false := by simp; omega
  have hj0 : (0 : Int) ≤ (j : Int) := by omega
  have hjl' : (j : Int) < (len : Int) := by omega
  have HL := Lib.hid hlen
  obtain ⟨q, hq⟩ : ∃ q, Hid (q = w.heap.size) := ⟨_, rfl⟩
  rw [← hq.out] at HBh
  have hfl := root_files
  clear hf hfa eV hk1 h1 h hw1 hP hf4 hd0 hR HB hs hg hgf hj hfn h0 hfew hlen
  go_enter Tryz.func9, Tryz.ntmps9
  go_upto_region 14 with (first | (go_at_call 11; refine (HP.out _ _ _ ⟨HF.out, by decide, by decide⟩).mono ?_; rintro e wn ⟨rfl, rfl⟩) | (go_at_call 12; rw [← HW.out]; refine HR.out.mono ?_; rintro e wn ⟨hk2, ad, cap, rfl, hFs, -⟩))
  have hbn := HBh.out.of_block (hk2.block q HBh.out.lt (fun hf => hf))
  have c1 : wn.cell? ⟨w.heap.size, 1, none⟩ = some (.int .i64 a) := by rw [← hq.out]; exact hbn.cell 1 _ rfl
  obtain ⟨gb, og, rfl, -, r1, -⟩ := files_at hFs j hjl
  have hget : (V.R.2.2.2.map fileI)[j]'(by rw [hFs.1]; exact hjl) = fileI g := by
    have := (List.getElem?_eq_some_iff.1 HGF.out).2
    simp [this]
  rw [hget] at r1
  have d0 : wn.cell? ⟨gb, og + j * 3, none⟩ = some (.int .i64 (g.1 : Int)) := r1 0 _ rfl
  have HM := Lib.hid (K.point (K.kept HA.out hk2 (fun _ _ hf => hf)) HS.out (HG.out.kept hk2 (fun hf => hf)) g.1)
  have HK2 := Lib.hid hk2
  clear hbn r1 hget hFs hk2 hjl
  go_wp2_with (first | (go_at_call 11; refine (HP.out _ _ _ ⟨HFa.out, hl0, hl1⟩).mono ?_; rintro e wn2 ⟨rfl, rfl⟩) | (go_at_call 28; refine HM.out.mono ?_; rintro e w5 ⟨⟨v, rfl⟩, hl⟩))
  go_wp2
  go_ret
  exact ⟨⟨_, rfl⟩, Left.behind (HK.out.trans HK2.out (fun _ hf => hf.elim)) hl⟩

set_option maxHeartbeats 2000000 in
theorem act_drop {At : VolAt} (K : VolK At) {w : World} {B p : Nat} {V : Vol} {X : Nat → Prop} {F : Option Nat} (h : At w B p V X F) (hs : Small V) (hg : ErrTy w) (u : DeedW) (hf : FitI u.kind) (hfa : FitI u.a) (h0 : pickN u.kind 4 = 1) (g : FileN) (hgf : V.R.2.2.2[pickN u.a V.R.2.2.2.length]? = some g) :
    Calls Tryz.prog 9 #[.pointer (some ⟨p, 0, none⟩), .agg (dcW u).toArray] w fun e w' => (∃ v, e = .returned v) ∧ Left At w B p (actV V u) X F w' := by
  have eV : actV V u = (dropV V [(g.1 : Int)]).1 := by unfold actV; rw [if_neg (by omega), hgf]; simp only; rw [if_pos h0]
  rw [eV]
  obtain ⟨kind, a, b, s, kad, klen, kcap, ks⟩ := u
  simp only at h0 hf hfa eV hgf ⊢
  obtain ⟨f, hP, hfn, hf4⟩ := pick_fun
  have f4 := hf4 kind
  rw [h0] at f4
  have hfew := K.few h
  obtain ⟨len, hlen⟩ : ∃ n, n = V.R.2.2.2.length := ⟨_, rfl⟩
  have fa := hfn a len
  rw [← hlen] at hgf hfew
  obtain ⟨j, hj⟩ : ∃ j, j = pickN a len := ⟨_, rfl⟩
  rw [← hj] at hgf fa
  have hjl : j < len := by
    have := (List.getElem?_eq_some_iff.1 hgf).1; omega
  obtain ⟨w1, hw1⟩ : ∃ w1, w1 = w.alloc (.cells (dcW ⟨kind, a, b, s, kad, klen, kcap, ks⟩).toArray 35) := ⟨_, rfl⟩
  have hk1 : Kept (fun _ => False) w w1 := by rw [hw1]; exact (Kept.refl _ _).alloc _
  have h1 := K.kept h hk1 (fun _ _ hf => hf)
  have hR := K.root h1
  rw [← hlen] at hR
  have HR := Lib.hid hR
  have HB : Holds w1 w.heap.size (dcW ⟨kind, a, b, s, kad, klen, kcap, ks⟩) 35 := by rw [hw1]; exact Holds.new w _ _
  have HBh := Lib.hid HB
  have HK := Lib.hid hk1
  have HW := Lib.hid hw1
  have HP := Lib.hid hP
  have HA := Lib.hid h1
  have HS := Lib.hid hs
  have HG := Lib.hid (hg.kept hk1 (fun hf => hf))
  have HGF := Lib.hid hgf
  have hd0 : (dcW ⟨kind, a, b, s, kad, klen, kcap, ks⟩).toArray = #[.int .i64 kind, .int .i64 a, .int .i64 b, .string ⟨s.toArray⟩, .slice kad klen kcap] := rfl
  rw [hd0] at HW ⊢
  have HF := Lib.hid hf
  have HFa := Lib.hid hfa
  have hl0 : 0 < (len : Int) := by omega
  have hl1 : (len : Int) ≤ 5000 := by omega
  have hne : ((len : Int) == 0) = false := by simp; omega
  have hj0 : (0 : Int) ≤ (j : Int) := by omega
  have hjl' : (j : Int) < (len : Int) := by omega
  have HL := Lib.hid hlen
  obtain ⟨q, hq⟩ : ∃ q, Hid (q = w.heap.size) := ⟨_, rfl⟩
  rw [← hq.out] at HBh
  have hfl := root_files
  clear hf hfa eV hk1 h1 h hw1 hP hf4 hd0 hR HB hs hg hgf hj hfn h0 hfew hlen
  go_enter Tryz.func9, Tryz.ntmps9
  go_upto_region 9 with (first | (go_at_call 11; refine (HP.out _ _ _ ⟨HF.out, by decide, by decide⟩).mono ?_; rintro e wn ⟨rfl, rfl⟩) | (go_at_call 12; rw [← HW.out]; refine HR.out.mono ?_; rintro e wn ⟨hk2, ad, cap, rfl, hFs, -⟩))
  have hbn := HBh.out.of_block (hk2.block q HBh.out.lt (fun hf => hf))
  have c1 : wn.cell? ⟨w.heap.size, 1, none⟩ = some (.int .i64 a) := by rw [← hq.out]; exact hbn.cell 1 _ rfl
  obtain ⟨gb, og, rfl, -, r1, -⟩ := files_at hFs j hjl
  have hget : (V.R.2.2.2.map fileI)[j]'(by rw [hFs.1]; exact hjl) = fileI g := by
    have := (List.getElem?_eq_some_iff.1 HGF.out).2
    simp [this]
  rw [hget] at r1
  have d0 : wn.cell? ⟨gb, og + j * 3, none⟩ = some (.int .i64 (g.1 : Int)) := r1 0 _ rfl
  have hk3 : Kept (fun _ => False) wn (wn.alloc (.cells #[.int .i64 (g.1 : Int)] 3)) := (Kept.refl _ _).alloc _
  have ha2 := K.kept HA.out hk2 (fun _ _ hf => hf)
  have ho := fun k hk => (K.lt ha2 k hk).2
  have HM := Lib.hid (K.drop (K.kept ha2 hk3 (fun _ _ hf => hf)) HS.out ((HG.out.kept hk2 (fun hf => hf)).kept hk3 (fun hf => hf)) wn.heap.size g.1 (Holds.new wn [.int .i64 (g.1 : Int)] 3) (fun hx => absurd (ho _ (.inl hx)) (by omega)) (fun hx => absurd (ho _ (.inr hx)) (by omega)))
  have HK2 := Lib.hid (hk2.trans hk3 (fun _ hf => hf.elim))
  clear hbn r1 hget hFs hk2 hjl hk3 ha2 ho
  go_wp2_with (first | (go_at_call 11; refine (HP.out _ _ _ ⟨HFa.out, hl0, hl1⟩).mono ?_; rintro e wn2 ⟨rfl, rfl⟩) | (go_at_call 21; refine HM.out.mono ?_; rintro e w5 ⟨⟨v, rfl⟩, hl⟩))
  go_wp2
  go_ret
  exact ⟨⟨_, rfl⟩, Left.behind (HK.out.trans HK2.out (fun _ hf => hf.elim)) hl⟩

end Go.Proofs.YtlgdfalbhpgllaaGreatDoor

/- A deed of the laws of layer 7, walked over the contract of the program's volume: Write. -/
namespace Go.Proofs.YtlgdfalbhpgllaaGreatDoor
open Go.RowKit Go.Proofs Go.Proofs.Pk
set_option maxRecDepth 10000
attribute [local simp] mk_get wrap64_u8 mk_extract ByteArray.mk_append_mk get_1k

set_option maxHeartbeats 2000000 in
theorem act_write {At : VolAt} (K : VolK At) {w : World} {B p : Nat} {V : Vol} {X : Nat → Prop} {F : Option Nat} (h : At w B p V X F) (hs : Small V) (hg : ErrTy w) (u : DeedW) (hf : FitI u.kind) (hfa : FitI u.a) (hfb : FitI u.b) (hus : (u.s.length : Int) ≤ 9223372036854775807) (h0 : pickN u.kind 4 = 3) (g : FileN) (hgf : V.R.2.2.2[pickN u.a V.R.2.2.2.length]? = some g) :
    Calls Tryz.prog 9 #[.pointer (some ⟨p, 0, none⟩), .agg (dcW u).toArray] w fun e w' => (∃ v, e = .returned v) ∧ Left At w B p (actV V u) X F w' := by
  have eV : actV V u = if g.2.2 < 1 then V else (writeV V (g.1 : Int) (pickN u.b g.2.2 : Nat) (u.s.take 64)).1 := by unfold actV; rw [if_neg (by omega), hgf]; simp only; rw [if_neg (by omega), if_neg (by omega)]
  obtain ⟨R, hR0⟩ : ∃ R, Hid (R = if g.2.2 < 1 then V else (writeV V (g.1 : Int) (pickN u.b g.2.2 : Nat) (u.s.take 64)).1) := ⟨_, rfl⟩
  rw [eV, ← hR0.out]
  obtain ⟨kind, a, b, s, kad, klen, kcap, ks⟩ := u
  simp only at h0 hf hfa hfb hus eV hgf hR0 ⊢
  obtain ⟨f, hP, hfn, hf4⟩ := pick_fun
  have f4 := hf4 kind
  rw [h0] at f4
  have hfew := K.few h
  obtain ⟨len, hlen⟩ : ∃ n, n = V.R.2.2.2.length := ⟨_, rfl⟩
  have fa := hfn a len
  rw [← hlen] at hgf hfew
  obtain ⟨j, hj⟩ : ∃ j, j = pickN a len := ⟨_, rfl⟩
  rw [← hj] at hgf fa
  have hjl : j < len := by
    have := (List.getElem?_eq_some_iff.1 hgf).1; omega
  obtain ⟨w1, hw1⟩ : ∃ w1, w1 = w.alloc (.cells (dcW ⟨kind, a, b, s, kad, klen, kcap, ks⟩).toArray 35) := ⟨_, rfl⟩
  have hk1 : Kept (fun _ => False) w w1 := by rw [hw1]; exact (Kept.refl _ _).alloc _
  have h1 := K.kept h hk1 (fun _ _ hf => hf)
  have HXL := Lib.hid (fun (k : Nat) (hk : X k) => (K.lt h k (.inl hk)).2)
  have hR := K.root h1
  rw [← hlen] at hR
  have HR := Lib.hid hR
  have HB : Holds w1 w.heap.size (dcW ⟨kind, a, b, s, kad, klen, kcap, ks⟩) 35 := by rw [hw1]; exact Holds.new w _ _
  have HBh := Lib.hid HB
  have HK := Lib.hid hk1
  have HW := Lib.hid hw1
  have HP := Lib.hid hP
  have HA := Lib.hid h1
  have HS := Lib.hid hs
  have HG := Lib.hid (hg.kept hk1 (fun hf => hf))
  have HGF := Lib.hid hgf
  have hd0 : (dcW ⟨kind, a, b, s, kad, klen, kcap, ks⟩).toArray = #[.int .i64 kind, .int .i64 a, .int .i64 b, .string ⟨s.toArray⟩, .slice kad klen kcap] := rfl
  rw [hd0] at HW ⊢
  have HF := Lib.hid hf
  have HFa := Lib.hid hfa
  have hl0 : 0 < (len : Int) := by omega
  have hl1 : (len : Int) ≤ 5000 := by omega
  have hne : ((len : Int) == 0) = false := by simp; omega
  have hj0 : (0 : Int) ≤ (j : Int) := by omega
  have hjl' : (j : Int) < (len : Int) := by omega
  have HL := Lib.hid hlen
  obtain ⟨q, hq⟩ : ∃ q, Hid (q = w.heap.size) := ⟨_, rfl⟩
  rw [← hq.out] at HBh
  have hfl := root_files
  have HFN := Lib.hid hfn
  have HFb := Lib.hid hfb
  have HUS := Lib.hid hus
  clear hus hfb hf hfa eV hk1 h1 h hw1 hP hf4 hd0 hR HB hs hg hgf hj hfn h0 hfew hlen
  go_enter Tryz.func9, Tryz.ntmps9
  go_upto_region 18 with (first | (go_at_call 11; refine (HP.out _ _ _ ⟨HF.out, by decide, by decide⟩).mono ?_; rintro e wn ⟨rfl, rfl⟩) | (go_at_call 12; rw [← HW.out]; refine HR.out.mono ?_; rintro e wn ⟨hk2, ad, cap, rfl, hFs, -⟩))
  have hbn := HBh.out.of_block (hk2.block q HBh.out.lt (fun hf => hf))
  have c1 : wn.cell? ⟨w.heap.size, 1, none⟩ = some (.int .i64 a) := by rw [← hq.out]; exact hbn.cell 1 _ rfl
  obtain ⟨gb, og, rfl, -, r1, -⟩ := files_at hFs j hjl
  have hget : (V.R.2.2.2.map fileI)[j]'(by rw [hFs.1]; exact hjl) = fileI g := by
    have := (List.getElem?_eq_some_iff.1 HGF.out).2
    simp [this]
  rw [hget] at r1
  have d0 : wn.cell? ⟨gb, og + j * 3, none⟩ = some (.int .i64 (g.1 : Int)) := r1 0 _ rfl
  have d1 : wn.cell? ⟨gb, og + j * 3 + 1, none⟩ = some (.int .i64 (g.2.1 : Int)) := r1 1 _ rfl
  have d2 : wn.cell? ⟨gb, og + j * 3 + 2, none⟩ = some (.int .i64 (g.2.2 : Int)) := r1 2 _ rfl
  have HK2 := Lib.hid hk2
  clear hbn r1 hget hFs hk2 hjl
  go_upto_region 19 with (go_at_call 11; refine (HP.out _ _ _ ⟨HFa.out, hl0, hl1⟩).mono ?_; rintro e wn2 ⟨rfl, rfl⟩)
  have hk3 : Kept (fun _ => False) wn (wn.alloc (.cells #[.int .i64 (g.1 : Int), .int .i64 (g.2.1 : Int), .int .i64 (g.2.2 : Int)] 49)) := (Kept.refl _ _).alloc _
  have hn3 := Holds.new wn [.int .i64 (g.1 : Int), .int .i64 (g.2.1 : Int), .int .i64 (g.2.2 : Int)] 49
  change Holds (wn.alloc (.cells #[.int .i64 (g.1 : Int), .int .i64 (g.2.1 : Int), .int .i64 (g.2.2 : Int)] 49)) _ _ _ at hn3
  have hq3 := (HBh.out.of_block (HK2.out.block q HBh.out.lt (fun hf => hf))).alloc (.cells #[.int .i64 (g.1 : Int), .int .i64 (g.2.1 : Int), .int .i64 (g.2.2 : Int)] 49)
  generalize wn.alloc (.cells #[.int .i64 (g.1 : Int), .int .i64 (g.2.1 : Int), .int .i64 (g.2.2 : Int)] 49) = w3 at hk3 hn3 hq3 ⊢
  obtain ⟨x, hx⟩ : ∃ x, Hid (x = wn.heap.size) := ⟨_, rfl⟩
  rw [← hx.out] at hn3 ⊢
  rw [← hq.out]
  have x0 := hn3.cell 0 _ rfl
  have x2 := hn3.cell 2 _ rfl
  have y2 := hq3.cell 2 _ rfl
  have y3 := hq3.cell 3 _ rfl
  have hk13 := HK2.out.trans hk3 (fun _ hf => hf.elim)
  have HK3 := Lib.hid hk13
  have ha3 := K.kept HA.out hk13 (fun _ _ hf => hf)
  obtain ⟨g0, g1, m⟩ := g
  simp only at x0 x2 HGF hR0 ⊢
  have HLT : Hid (x < w3.drew.heap.size ∧ q < w3.drew.heap.size ∧ ¬X x ∧ ¬X q) := by
    have hsz := HK2.out.size
    have hsz1 := HK.out.size
    exact ⟨hn3.lt, hq3.lt, fun hx' => by have := HXL.out x hx'; have := hx.out; omega, fun hq' => by have := HXL.out q hq'; have := hq.out; omega⟩
  clear d0 d1 d2 c1 hn3 hq3 hk3
  by_cases hm : m < 1
  · have hR1 : R = V := by rw [hR0.out, if_pos hm]
    have hm0 : m = 0 := by omega
    subst hm0
    have hR1 := Lib.hid hR1
    clear hm
    go_wp2
    go_ret
    exact ⟨⟨_, rfl⟩, Left.behind HK.out (Left.none K HA.out HK3.out)⟩
  · have hR2 : R = (writeV V (g0 : Int) (pickN b m : Nat) (s.take 64)).1 := by rw [hR0.out, if_neg hm]
    have HG3 := Lib.hid (HG.out.kept hk13 (fun hf => hf))
    have hwid : m ≤ 4000 := K.wide HA.out _ (List.mem_of_getElem? HGF.out)
    have fb := HFN.out b m
    obtain ⟨i, hi⟩ : ∃ i, i = pickN b m := ⟨_, rfl⟩
    rw [← hi] at fb hR2
    have HR2 := Lib.hid hR2
    clear hR2
    have hm0 : 0 < (m : Int) := by omega
    have hm1 : (m : Int) ≤ 5000 := by omega
    have hmd : decide ((m : Int) < 1) = false := by rw [decide_eq_false_iff_not]; omega
    have HM := Lib.hid (fun (w0 : World) (hk : Kept (fun _ => False) w3 w0) => K.write (K.kept ha3 hk (fun _ _ hf => hf)) HS.out (HG3.out.kept hk (fun hf => hf)) g0 i (s.take 64) (by have := pickN_lt b (n := m) (by omega); omega) (by rw [List.length_take]; omega))
    clear ha3 hk13 hi hm hwid
    obtain ⟨mm, hmm⟩ : ∃ mm, mm = min s.length 64 := ⟨_, rfl⟩
    have hmin : min (s.length : Int) 64 = (mm : Int) := by omega
    have hmm0 : (0 : Int) ≤ (mm : Int) := by omega
    have hmm1 : (mm : Int) ≤ (s.length : Int) := by omega
    have hst : Hid (s.take mm = s.take 64) := by
      show _ = _
      exact List.take_eq_take_iff.2 (by omega)
    have hkr : Hid (Kept (fun _ => False) w3 w3.drew) := (Kept.refl _ _).drewN 1
    clear hmm
    go_upto_region 21 with (fail)
    refine wp_region_until (fun w' => w'.cell? ⟨x, 0, none⟩ = some (.int .i64 (g0 : Int)) ∧ w'.cell? ⟨x, 2, none⟩ = some (.int .i64 (m : Int)) ∧ w'.cell? ⟨q, 2, none⟩ = some (.int .i64 b) ∧ w'.cell? ⟨q, 3, none⟩ = some (.string ⟨s.toArray⟩)) 16 (by kernel_rfl) ?_
    have hS0 : w3.drew.cell? ⟨x, 0, none⟩ = some (.int .i64 (g0 : Int)) ∧ w3.drew.cell? ⟨x, 2, none⟩ = some (.int .i64 (m : Int)) ∧ w3.drew.cell? ⟨q, 2, none⟩ = some (.int .i64 b) ∧ w3.drew.cell? ⟨q, 3, none⟩ = some (.string ⟨s.toArray⟩) := ⟨x0, x2, y2, y3⟩
    refine wpAnyU_take (i := 0) (v := (.pointer (some ⟨p, 0, none⟩))) (some 82) rfl rfl (by kernel_rfl) (by kernel_rfl) (by kernel_rfl) (by kernel_rfl) (fun _ _ _ h => h) hS0 (yields_of (by kernel_rfl) (fun w hw => by kernel_rfl)) ?_
    refine wpAnyU_take (i := 1) (v := (.pointer (some ⟨x, 0, none⟩))) (some 83) rfl rfl (by kernel_rfl) (by kernel_rfl) (by kernel_rfl) (by kernel_rfl) (fun _ _ _ h => h) hS0 (yields_of (by kernel_rfl) (fun w hw => by go_simp)) ?_
    refine wpAnyU_take (i := 2) (v := (.int .i64 (g0 : Int))) (some 84) rfl rfl (by kernel_rfl) (by kernel_rfl) (by kernel_rfl) (by kernel_rfl) (fun _ _ _ h => h) hS0 (yields_of (by kernel_rfl) (fun w hw => by have h1 := hw.1; have h2 := hw.2.1; have h3 := hw.2.2.1; have h4 := hw.2.2.2; go_simp)) ?_
    refine wpAnyU_take (i := 3) (v := (.pointer (some ⟨q, 2, none⟩))) (some 85) rfl rfl (by kernel_rfl) (by kernel_rfl) (by kernel_rfl) (by kernel_rfl) (fun _ _ _ h => h) hS0 (yields_of (by kernel_rfl) (fun w hw => by go_simp)) ?_
    refine wpAnyU_take (i := 4) (v := (.int .i64 b)) (some 86) rfl rfl (by kernel_rfl) (by kernel_rfl) (by kernel_rfl) (by kernel_rfl) (fun _ _ _ h => h) hS0 (yields_of (by kernel_rfl) (fun w hw => by have h1 := hw.1; have h2 := hw.2.1; have h3 := hw.2.2.1; have h4 := hw.2.2.2; go_simp)) ?_
    refine wpAnyU_take (i := 5) (v := (.pointer (some ⟨x, 2, none⟩))) (some 87) rfl rfl (by kernel_rfl) (by kernel_rfl) (by kernel_rfl) (by kernel_rfl) (fun _ _ _ h => h) hS0 (yields_of (by kernel_rfl) (fun w hw => by go_simp)) ?_
    refine wpAnyU_take (i := 6) (v := (.int .i64 (m : Int))) (some 88) rfl rfl (by kernel_rfl) (by kernel_rfl) (by kernel_rfl) (by kernel_rfl) (fun _ _ _ h => h) hS0 (yields_of (by kernel_rfl) (fun w hw => by have h1 := hw.1; have h2 := hw.2.1; have h3 := hw.2.2.1; have h4 := hw.2.2.2; go_simp)) ?_
    refine wpAnyU_take (i := 8) (v := (.pointer (some ⟨q, 3, none⟩))) (some 90) rfl rfl (by kernel_rfl) (by kernel_rfl) (by kernel_rfl) (by kernel_rfl) (fun _ _ _ h => h) hS0 (yields_of (by kernel_rfl) (fun w hw => by go_simp)) ?_
    refine wpAnyU_take (i := 9) (v := (.string ⟨s.toArray⟩)) (some 91) rfl rfl (by kernel_rfl) (by kernel_rfl) (by kernel_rfl) (by kernel_rfl) (fun _ _ _ h => h) hS0 (yields_of (by kernel_rfl) (fun w hw => by have h1 := hw.1; have h2 := hw.2.1; have h3 := hw.2.2.1; have h4 := hw.2.2.2; go_simp)) ?_
    refine wpAnyU_take (i := 10) (v := (.pointer (some ⟨q, 3, none⟩))) (some 92) rfl rfl (by kernel_rfl) (by kernel_rfl) (by kernel_rfl) (by kernel_rfl) (fun _ _ _ h => h) hS0 (yields_of (by kernel_rfl) (fun w hw => by go_simp)) ?_
    refine wpAnyU_take (i := 11) (v := (.string ⟨s.toArray⟩)) (some 93) rfl rfl (by kernel_rfl) (by kernel_rfl) (by kernel_rfl) (by kernel_rfl) (fun _ _ _ h => h) hS0 (yields_of (by kernel_rfl) (fun w hw => by have h1 := hw.1; have h2 := hw.2.1; have h3 := hw.2.2.1; have h4 := hw.2.2.2; go_simp)) ?_
    refine wpAnyU_take (i := 12) (v := (.int .i64 (s.length : Int))) (some 94) rfl rfl (by kernel_rfl) (by kernel_rfl) (by kernel_rfl) (by kernel_rfl) (fun _ _ _ h => h) hS0 (yields_of (by kernel_rfl) (fun w hw => by go_simp)) ?_
    refine wpAnyU_take (i := 13) (v := (.int .i64 (mm : Int))) (some 95) rfl rfl (by kernel_rfl) (by kernel_rfl) (by kernel_rfl) (by kernel_rfl) (fun _ _ _ h => h) hS0 (yields_of (by kernel_rfl) (fun w hw => by go_simp)) ?_
    refine wpAnyU_take (i := 14) (v := (.string ⟨(s.take mm).toArray⟩)) (some 96) rfl rfl (by kernel_rfl) (by kernel_rfl) (by kernel_rfl) (by kernel_rfl) (fun _ _ _ h => h) hS0 (yields_of (by kernel_rfl) (fun w hw => by go_simp)) ?_
    refine wpAnyU_call (i := 7) (f := 11) (args := #[.int .i64 b, .int .i64 (m : Int)]) (some 89) rfl rfl (by kernel_rfl) (by kernel_rfl) (by kernel_rfl) ?_
    refine (HP.out b (m : Int) _ ⟨HFb.out, hm0, hm1⟩).mono ?_
    rintro e wp ⟨rfl, rfl⟩
    refine ⟨_, rfl, fun _ => hS0, ?_⟩
    rw [fb]
    refine wpAnyU_call (i := 15) (f := 18) (args := #[.pointer (some ⟨p, 0, none⟩), .int .i64 (g0 : Int), .int .i64 (i : Int), .string ⟨(s.take mm).toArray⟩]) (some 97) rfl rfl (by kernel_rfl) (by kernel_rfl) (by kernel_rfl) ?_
    rw [hst.out]
    refine (HM.out _ hkr.out).mono ?_
    rintro e w5 ⟨⟨v, rfl⟩, hl⟩
    have hS5 : w5.cell? ⟨x, 0, none⟩ = some (.int .i64 (g0 : Int)) ∧ w5.cell? ⟨x, 2, none⟩ = some (.int .i64 (m : Int)) ∧ w5.cell? ⟨q, 2, none⟩ = some (.int .i64 b) ∧ w5.cell? ⟨q, 3, none⟩ = some (.string ⟨s.toArray⟩) := by
      obtain ⟨_, _, _, _, _, hk5⟩ := hl
      rw [hk5.cell (p := ⟨x, 0, none⟩) HLT.out.1 HLT.out.2.2.1, hk5.cell (p := ⟨x, 2, none⟩) HLT.out.1 HLT.out.2.2.1, hk5.cell (p := ⟨q, 2, none⟩) HLT.out.2.1 HLT.out.2.2.2, hk5.cell (p := ⟨q, 3, none⟩) HLT.out.2.1 HLT.out.2.2.2]
      exact hS0
    refine ⟨v, rfl, fun _ => hS5, ?_⟩
    refine wpAnyU_run (i := 16) (v := v) (w' := w5) (some 4) rfl rfl (by kernel_rfl) (by kernel_rfl) (by kernel_rfl) (fun h => absurd h (by decide)) ?_
    refine wpAnyU_done (by kernel_rfl) ?_ _
    simp only [put_lit, List.set_cons_succ, List.set_cons_zero]
    go_wp2
    go_ret
    rw [← HR2.out] at hl
    exact ⟨⟨_, rfl⟩, Left.behind HK.out (Left.behind HK3.out (Left.behind hkr.out hl))⟩

end Go.Proofs.YtlgdfalbhpgllaaGreatDoor
