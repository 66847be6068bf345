/- The reference of layer 12: Decode. -/
import Derived.Test.YtbiifeahdinjjaaR2b
import Derived.Test.YtbiifeahdinjjaaBkD
import Derived.Test.YtbiifeahdinjjaaR2d
import Derived.Test.YtbiifeahdinjjaaRMr
namespace Go.Proofs.Ytbiifeahdinjjaa
open Go.RowKit Go.Proofs Go.Proofs.Pk
set_option maxRecDepth 10000
attribute [local simp] mk_get wrap64_u8 mk_extract ByteArray.mk_append_mk get_1k

/-- What Decode answers. -/
def DecP (w : World) (r : List MEnt × Bool) (e : Ending) (w' : World) : Prop :=
  ∃ (ad : Option Addr) (cap : Nat), e = .returned (.tuple #[.slice ad r.1.length cap, .bool r.2]) ∧ w'.ownsRow w.heap.size 37 4 (.slice ad r.1.length cap) r.1.length (cellsM r.1) ∧ (∀ e ∈ r.1, FitN e.2.1) ∧ Kept (fun _ => False) w w'
theorem DecP.no {w w' : World} {r : List MEnt × Bool} (h : r = ([], false)) (hk : Kept (fun _ => False) w w') : DecP w r (.returned (.tuple #[.slice none 0 0, .bool false])) w' := by
  subst h
  exact ⟨none, 0, rfl, World.ownsRow_nil _ _ _ _, fun _ h => (by cases h), hk⟩

set_option maxHeartbeats 4000000 in
theorem rDecode (b : Txt) (w : World) (hb : b.length ≤ maxLen) : Calls Try.prog 12 #[.string ⟨b.toArray⟩] w (DecP w (decB b)) := by
  have HB := Lib.hid hb
  have H1 := Lib.hid (fun W : World => rRead b W hb)
  have l1 := Lib.hid (rdNum_len b)
  obtain ⟨n, hn⟩ : ∃ n, Hid (n = (rdNum b).1) := ⟨_, rfl⟩
  obtain ⟨r0, hr0⟩ : ∃ r0, Hid (r0 = (rdNum b).2.1) := ⟨_, rfl⟩
  obtain ⟨e1, he1⟩ : ∃ e1, Hid (e1 = (rdNum b).2.2) := ⟨_, rfl⟩
  rw [← hn.out, ← hr0.out, ← he1.out] at H1
  rw [← hr0.out] at l1
  clear hb
  obtain ⟨w0, hw0⟩ : ∃ w0, w0 = w := ⟨_, rfl⟩
  rw [← hw0]
  clear hw0
  go_enter Try.func12, Try.ntmps12
  go_wp2_with fail
  refine (H1.out w0).mono ?_
  clear H1
  rintro e wa ⟨rfl, hba⟩
  have HKa := Lib.hid (Kept.of_below (fun _ => False) hba)
  clear hba
  by_cases c1 : e1 = 0
  case neg =>
    have q1 : ((e1 : Int) == 0) = false := by rw [beq_eq_false_iff_ne]; omega
    have HF : Hid (decB b = ([], false)) := by
      show _ = _
      unfold decB
      rw [if_pos (.inl (by rw [← he1.out]; exact c1))]
    go_wp2
    go_ret2
    exact DecP.no HF.out HKa.out
  subst c1
  by_cases c2 : 200 < n
  case pos =>
    have q2 : (200 : Int) < (n : Int) := by omega
    have HF : Hid (decB b = ([], false)) := by
      show _ = _
      unfold decB
      rw [if_pos (.inr (by rw [← hn.out]; exact c2))]
    go_wp2
    go_ret2
    exact DecP.no HF.out HKa.out
  have q2 : ¬(200 : Int) < (n : Int) := by omega
  have q0 : ((0 : Int) == 0) = true := rfl
  have HDs : Hid (∀ l t, rdMany n r0 [] = some (l, t) → decB b = if encB l = (b, 0) then (l, true) else ([], false)) := fun l t h => by
    unfold decB
    rw [if_neg (by rw [← he1.out, ← hn.out]; omega), ← hn.out, ← hr0.out, h]
  have HDn : Hid (rdMany n r0 [] = none → decB b = ([], false)) := fun h => by
    unfold decB
    rw [if_neg (by rw [← he1.out, ← hn.out]; omega), ← hn.out, ← hr0.out, h]
  have HI : Hid (rdMany n r0 [] = joinO [] (rdMany (n - 0) r0 []) ∧ r0.length ≤ maxLen ∧ (∀ e ∈ ([] : List MEnt), FitN e.2.1) ∧ wa.ownsRow w0.heap.size 37 4 (.slice none 0 0) 0 (cellsM []) ∧ Kept (fun _ => False) w0 wa) :=
    ⟨(by rw [Nat.sub_zero]; unfold joinO; generalize rdMany n r0 [] = o; cases o <;> simp), Nat.le_trans l1.out HB.out, fun _ h => (by cases h), World.ownsRow_nil _ _ _ _, HKa.out⟩
  obtain ⟨i0, hi0, hz0, hz1, hz2⟩ := info_parts ent_info
  clear HKa
  go_wp2
  go_loopw [5, 7, 8, 9] (fun rs o la i wr => ∃ (j : Nat) (T : List MEnt) (rest last : Txt) (ad : Option Addr) (cap : Nat), (j ≤ n ∧ T.length = j ∧ last.length ≤ 1048576 * j) ∧ rs = .string ⟨rest.toArray⟩ ∧ o = .slice ad j cap ∧ la = .string ⟨last.toArray⟩ ∧ i = .int .i64 (j : Int) ∧ Hid (rdMany n r0 [] = joinO T (rdMany (n - j) rest last) ∧ rest.length ≤ maxLen ∧ (∀ e ∈ T, FitN e.2.1) ∧ wr.ownsRow w0.heap.size 37 4 (.slice ad j cap) j (cellsM T) ∧ Kept (fun _ => False) w0 wr)) (fun _ _ _ i _ => n - (intOf i).toNat)
  case atStart => exact ⟨0, [], r0, [], none, 0, ⟨Nat.zero_le _, rfl, Nat.zero_le _⟩, rfl, rfl, rfl, rfl, HI⟩
  case round =>
    obtain ⟨j, T, rest, last, ad, cap, ⟨hj, hTl, hll⟩, rfl, rfl, rfl, rfl, hI⟩ := hrel
    clear HI
    have j0 : (0 : Int) ≤ (j : Int) := by omega
    by_cases hlt : j < n
    · have jn : (j : Int) < (n : Int) := by omega
      have hwj : IntKind.i64.wrap ((j : Int) + 1) = (j : Int) + 1 := IntWalk.i64_in _ (by omega)
      have CO := Lib.hid (fun W : World => rOne rest last W hI.out.2.1 (by omega))
      obtain ⟨ok, hok⟩ : ∃ ok, Hid (ok = (rdOne rest last).2.2) := ⟨_, rfl⟩
      go_wp2_with fail
      refine (CO.out _).mono ?_
      clear CO
      rintro e wx ⟨u, t, rfl, hut, hkx⟩
      rw [← hok.out] at hut ⊢
      have HKx := Lib.hid hkx
      clear hkx
      cases ok with
      | false =>
        have HF : Hid (decB b = ([], false)) := by
          have h1 := hI.out.1
          rw [show n - j = (n - j - 1) + 1 from by omega, many_no _ _ _ hok.out.symm] at h1
          exact HDn.out h1
        have HKK : Hid (Kept (fun _ => False) w0 wx) := hI.out.2.2.2.2.trans HKx.out (fun _ f => f.elim)
        unfold entC
        clear hut hI
        go_wp2
        go_ret2
        exact DecP.no HF.out (HKK.out.alloc _)
      | true =>
        obtain ⟨hu, ht⟩ := hut rfl
        clear hut
        have hul : u.1.length ≤ 1048576 * (j + 1) := by have := rdOne_key rest last; rw [← hu] at this; omega
        have htl := rdOne_len rest last
        have huf := rdOne_fit rest last
        have HM : Hid (rdMany n r0 [] = joinO (T ++ [u]) (rdMany (n - (j + 1)) t u.1)) := by
          have h1 := hI.out.1
          rw [show n - j = (n - (j + 1)) + 1 from by omega, many_step _ _ _ hok.out.symm, joinO_join, ← hu, ← ht] at h1
          exact h1
        rw [← ht] at htl
        rw [← hu] at huf
        obtain ⟨_, g1, g2, g3, g4⟩ := hI.out
        have HX : Hid (t.length ≤ maxLen ∧ ∀ e ∈ T ++ [u], FitN e.2.1) := ⟨Nat.le_trans htl g1, fun e he => by
          rcases List.mem_append.1 he with h | h
          · exact g2 e h
          · rw [List.mem_singleton] at h; subst h; exact huf⟩
        have HO : Hid (wx.ownsRow w0.heap.size 37 4 (.slice ad j cap) j (cellsM T) ∧ Kept (fun _ => False) w0 wx) := ⟨owns_of_block g3 fun g hg => HKx.out.block g (g3.lt g hg).2 (fun f => f), g4.trans HKx.out (fun _ f => f.elim)⟩
        have hsz : w0.heap.size ≤ wx.heap.size := HO.out.2.size
        have hH2 := Lib.hid (Holds.new (wx.alloc (.cells (entC u).toArray 37)) (entC u) 37)
        clear g1 g2 g3 g4 hI hu ht htl huf hok hll
        unfold entC
        go_wp2_with (at_builtin; refine wpList_append_own _ rfl (.tmp 41) (.tmp 43) 22 rfl w0.heap.size 37 i0 _ 4 48 Try.underlying22 hi0 hz0 hz1 hz2 rfl (by decide) _ _ _ rfl ((HO.out.1.alloc _).alloc _) ⟨wx.heap.size + 1, 0, none⟩ 1 1 (entC u) rfl rfl ?d1 (entC_one _) ?d3 ?d4 ?d5 ?_)
        case d1 =>
          intro j' u' hj'
          have := hH2.out.cell j' u' hj'
          rw [World.size_alloc] at this
          rw [add0]
          exact this
        case d3 => unfold maxLen; omega
        case d4 => omega
        case d5 => simp; omega
        intro v2 wB hown2 hgr2 _
        obtain ⟨ad2, cap2, rfl⟩ : ∃ ad2 cap2, v2 = .slice ad2 (j + 1) cap2 := by
          rcases hown2.2 with ⟨_, h⟩ | ⟨g, cap, cur, h, _⟩
          · omega
          · exact ⟨_, _, h⟩
        have hblk : Holds wB wx.heap.size (entC u) 37 := by
          refine ((Holds.new wx (entC u) 37).alloc _).of_block (hgr2.block _ (by simp; omega) (fun e => ?_))
          have := (HO.out.1.lt _ e.symm).2
          omega
        have HN : Hid (wB.ownsRow w0.heap.size 37 4 (.slice ad2 (j + 1) cap2) (j + 1) (cellsM (T ++ [u])) ∧ Kept (fun _ => False) w0 wB) :=
          ⟨by rw [cellsM_append]; simpa [cellsM] using hown2, kept_grown ((HO.out.2.alloc _).alloc _) hgr2 (fun b hb => .inr (HO.out.1.lt b hb).1)⟩
        have x0 : wB.cell? ⟨wx.heap.size, 0, none⟩ = some (.string ⟨u.1.toArray⟩) := hblk.cell 0 _ rfl
        clear hown2 hgr2 hblk hH2 HO
        go_wp2
        go_roundw
        case rel => exact ⟨j + 1, T ++ [u], t, u.1, ad2, cap2, ⟨by omega, by simp [hTl], hul⟩, rfl, rfl, rfl, by first | rfl | go_num, HM.out, HX.out.1, HX.out.2, HN.out.1, HN.out.2⟩
        case measure => simp [intOf]; omega
    · obtain rfl : j = n := by omega
      have jn : ¬(j : Int) < (j : Int) := by omega
      obtain ⟨h1, _, g2, g3, g4⟩ := hI.out
      rw [Nat.sub_self] at h1
      have h2 : rdMany j r0 [] = some (T, rest) := by rw [h1]; simp [joinO, rdMany]
      have HD := Lib.hid (HDs.out T rest h2)
      subst hTl
      have HO : Hid (wr.ownsRow w0.heap.size 37 4 (.slice ad T.length cap) T.length (cellsM T) ∧ (∀ e ∈ T, FitN e.2.1) ∧ Kept (fun _ => False) w0 wr) := ⟨g3, g2, g4⟩
      have CE := Lib.hid (rEncode wr ad T.length cap T (owns_ents g3 g2) (by omega))
      obtain ⟨a, ha⟩ : ∃ a, Hid (a = (encB T).1) := ⟨_, rfl⟩
      obtain ⟨c, hc⟩ : ∃ c, Hid (c = (encB T).2) := ⟨_, rfl⟩
      rw [← ha.out, ← hc.out] at CE
      clear h1 h2 g2 g3 g4 hI
      go_wp2_with fail
      refine CE.out.mono ?_
      clear CE
      rintro e wx ⟨rfl, hkx⟩
      have HKx : Hid (Kept (fun _ => False) w0 wx ∧ wx.ownsRow w0.heap.size 37 4 (.slice ad T.length cap) T.length (cellsM T)) := ⟨HO.out.2.2.trans hkx (fun _ f => f.elim), owns_of_block HO.out.1 fun g hg => hkx.block g (HO.out.1.lt g hg).2 (fun f => f)⟩
      clear hkx
      by_cases hc0 : c = 0
      · subst hc0
        by_cases hab : a = b
        · have HV : Hid (decB b = (T, true)) := by
            show _ = _
            rw [HD.out, if_pos]
            exact Prod.ext (by rw [← ha.out]; exact hab) hc.out.symm
          subst hab
          go_wp2
          go_ret2
          rw [HV.out]
          exact ⟨ad, cap, rfl, HKx.out.2, HO.out.2.1, HKx.out.1⟩
        · have HV : Hid (decB b = ([], false)) := by
            show _ = _
            rw [HD.out, if_neg]
            intro h
            exact hab (by rw [ha.out, h])
          have hq : (a == b) = false := by simpa using hab
          go_wp2
          go_ret2
          exact DecP.no HV.out HKx.out.1
      · have HV : Hid (decB b = ([], false)) := by
          show _ = _
          rw [HD.out, if_neg]
          intro h
          exact hc0 (by rw [hc.out, h])
        have hq : ((c : Int) == 0) = false := by rw [beq_eq_false_iff_ne]; omega
        go_wp2
        go_ret2
        exact DecP.no HV.out HKx.out.1

end Go.Proofs.Ytbiifeahdinjjaa
