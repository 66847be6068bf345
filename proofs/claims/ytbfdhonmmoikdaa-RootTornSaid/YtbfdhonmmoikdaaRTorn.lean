/- RootTorn walked: a head of which only some bytes lie over another one, or over nothing, is none, or one of the two. -/
import Derived.Test.YtbfdhonmmoikdaaRHeads
import Derived.Test.YtbfdhonmmoikdaaRtB
import Derived.BigQuiet
namespace Go.Proofs.Ytbfdhonmmoikdaa
open Go.RowKit Go.Proofs Go.Proofs.Pk
set_option maxRecDepth 10000
attribute [local simp] mk_get wrap64_u8 mk_extract ByteArray.mk_append_mk get_1k

theorem cut_low {cut : Int} (h : cut < 0) : ∃ k : Nat, -(cut + 1).tmod 65 = (k : Int) ∧ k ≤ 64 := by
  have e : -(cut + 1).tmod 65 = (-(cut + 1)) % 65 := by rw [← Int.neg_tmod, Int.tmod_eq_emod_of_nonneg (by omega)]
  exact ⟨((-(cut + 1)) % 65).toNat, by omega, by omega⟩
theorem cut_high (cut : Int) : ∃ k : Nat, cut % 65 = (k : Int) ∧ k ≤ 64 := ⟨(cut % 65).toNat, by omega, by omega⟩

set_option maxHeartbeats 4000000 in
theorem sTorn (one two a b cut : Int) (over : Bool) (W : World) (h1 : -9223372036854775808 ≤ one ∧ one ≤ 9223372036854775807) (h2 : -9223372036854775808 ≤ two ∧ two ≤ 9223372036854775807) (ha : -9223372036854775808 ≤ a ∧ a ≤ 9223372036854775807) (hb : -9223372036854775808 ≤ b ∧ b ≤ 9223372036854775807) (hc : -9223372036854775808 ≤ cut ∧ cut ≤ 9223372036854775807) :
    Calls Try.prog 6 #[.int .i64 one, .int .i64 two, .int .i64 a, .int .i64 b, .int .i64 cut, .bool over] W fun e w' => e = .returned (.bool true) ∧ Below W.heap.size W w' := by
  have HEx := Lib.hid examples_any
  have HX := pHead one a
  have HY := pHead two b
  rcases headV_cases one a with ⟨o, x, rfl, rfl, o1, o2, x1, hv⟩ | ⟨_, hv⟩
  · rw [hv] at HX
    rcases headV_cases two b with ⟨t, y, rfl, rfl, t1, t2, y1, hv'⟩ | ⟨_, hv'⟩
    · rw [hv'] at HY
      have hX := Lib.hid HX
      have hY := Lib.hid HY
      clear HX HY hv hv'
      have lx : ((headB o x).length : Int) = 64 := by rw [headB_length]; rfl
      have ly : ((headB t y).length : Int) = 64 := by rw [headB_length]; rfl
      by_cases hot : o = t
      · subst hot
        generalize headB o x = A at hX lx
        generalize headB o y = B at hY ly
        by_cases hcut : cut < 0
        · have hw1 : IntKind.i64.wrap (cut + 1) = cut + 1 := IntWalk.i64_in _ (by omega)
          have hw2 : IntKind.i64.wrap (-(cut + 1)) = -(cut + 1) := IntWalk.i64_in _ (by omega)
          obtain ⟨k, hk, hk64⟩ := cut_low hcut
          clear h1 h2 ha hb hc
          go_enter Try.func6, Try.ntmps6
          go_wp2_with fail
          refine (HEx.out W).mono ?_
          rintro e w1 ⟨rfl, hb1⟩
          go_wp2_with fail
          refine (hX.out w1).mono ?_
          rintro e w2 ⟨rfl, hb2⟩
          go_wp2_with fail
          refine (hY.out w2).mono ?_
          rintro e w3 ⟨rfl, hb3⟩
          simp only [show errV 54 0 = .nilIface from rfl, show errV 54 1 = .iface 54 (.int .i64 1) from rfl]
          have HB3 : Hid (Below W.heap.size W w3) := belowT (belowT hb1 hb2) hb3
          clear hb1 hb2 hb3 HEx hX hY
          go_wp2
          go_ret
          exact ⟨rfl, HB3.out⟩
        · have hc0 : 0 ≤ cut := by omega
          obtain ⟨k, hk, hk64⟩ := cut_high cut
          have hk2 : cut.tmod 65 = (k : Int) := by rw [Int.tmod_eq_emod_of_nonneg hc0]; exact hk
          clear h1 h2 ha hb hc
          go_enter Try.func6, Try.ntmps6
          go_wp2_with fail
          refine (HEx.out W).mono ?_
          rintro e w1 ⟨rfl, hb1⟩
          go_wp2_with fail
          refine (hX.out w1).mono ?_
          rintro e w2 ⟨rfl, hb2⟩
          go_wp2_with fail
          refine (hY.out w2).mono ?_
          rintro e w3 ⟨rfl, hb3⟩
          simp only [show errV 54 0 = .nilIface from rfl, show errV 54 1 = .iface 54 (.int .i64 1) from rfl]
          have HB3 : Hid (Below W.heap.size W w3) := belowT (belowT hb1 hb2) hb3
          clear hb1 hb2 hb3 HEx hX hY
          go_wp2
          go_ret
          exact ⟨rfl, HB3.out⟩
      · have hne : ¬(o : Int) = (t : Int) := by omega
        have HT := Lib.hid fun k hk => head_torn o x t y k over o2 x1 t2 y1 hot hk
        generalize headB o x = A at hX lx HT
        generalize headB t y = B at hY ly HT
        by_cases hcut : cut < 0
        · have hw1 : IntKind.i64.wrap (cut + 1) = cut + 1 := IntWalk.i64_in _ (by omega)
          have hw2 : IntKind.i64.wrap (-(cut + 1)) = -(cut + 1) := IntWalk.i64_in _ (by omega)
          obtain ⟨k, hk, hk64⟩ := cut_low hcut
          have hkk : (k : Int) ≤ 64 := by omega
          clear h1 h2 ha hb hc
          go_enter Try.func6, Try.ntmps6
          go_wp2_with fail
          refine (HEx.out W).mono ?_
          rintro e w1 ⟨rfl, hb1⟩
          go_wp2_with fail
          refine (hX.out w1).mono ?_
          rintro e w2 ⟨rfl, hb2⟩
          go_wp2_with fail
          refine (hY.out w2).mono ?_
          rintro e w3 ⟨rfl, hb3⟩
          simp only [show errV 54 0 = .nilIface from rfl, show errV 54 1 = .iface 54 (.int .i64 1) from rfl]
          have HB3 : Hid (Below W.heap.size W w3) := belowT (belowT hb1 hb2) hb3
          clear hb1 hb2 hb3 HEx hX hY
          cases over
          · have hmk := zero_make64 w3
            have hcv := zero_conv64 w3
            have hb4 := (Below.refl w3.heap.size w3).alloc (Nat.le_refl _) (.cells (List.replicate 64 (Value.int .u8 0)).toArray 5)
            simp only [Bool.false_eq_true, if_false] at HT
            have lz : ((List.replicate 64 (0 : UInt8)).length : Int) = 64 := by rw [List.length_replicate]; rfl
            generalize List.replicate 64 (0 : UInt8) = Z at hcv HT lz
            generalize w3.alloc (.cells (List.replicate 64 (Value.int .u8 0)).toArray 5) = w4 at hmk hcv hb4
            have HB4 : Hid (Below W.heap.size W w4) := belowT HB3.out hb4
            clear hb4 HB3
            have he : (Z.drop k).take (Z.length - k) = Z.drop k := List.take_of_length_le (by rw [List.length_drop]; exact Nat.le_refl _)
            have hG : (A.take k ++ (Z.drop k).take (Z.length - k)).length = 64 := by rw [he, List.length_append, List.length_take, List.length_drop]; omega
            have HR := Lib.hid (fun w => pReadHead (A.take k ++ (Z.drop k).take (Z.length - k)) w (by rw [hG]; decide))
            have ht := HT.out k hk64
            rw [← he] at ht
            clear HT hG he
            rcases ht with ht | ht | ⟨hlast, ht⟩
            rotate_left 2
            · exact absurd hlast (by simp)
            all_goals
              rw [ht] at HR
              clear ht
              go_upto_region 11 with (fail)
              go_region_with (go_at_call 20; refine (HR.out _).mono ?_; rintro e w5 ⟨rfl, hb5⟩)
              all_goals simp only [show errV 54 0 = .nilIface from rfl, show errV 54 3 = .iface 54 (.int .i64 3) from rfl]
              all_goals
                have HB5 : Hid (Below W.heap.size W w5) := belowT HB4.out.drew hb5
                clear hb5 HR HB4
                go_wp2_with fail
                first
                  | (refine (is33 w5).mono ?_; rintro e w6 ⟨rfl, rfl⟩; go_wp2)
                  | skip
                go_ret
                exact ⟨rfl, HB5.out⟩
          · simp only [if_true] at HT
            have he : (B.drop k).take (B.length - k) = B.drop k := List.take_of_length_le (by rw [List.length_drop]; exact Nat.le_refl _)
            have hG : (A.take k ++ (B.drop k).take (B.length - k)).length = 64 := by rw [he, List.length_append, List.length_take, List.length_drop]; omega
            have HR := Lib.hid (fun w => pReadHead (A.take k ++ (B.drop k).take (B.length - k)) w (by rw [hG]; decide))
            have ht := HT.out k hk64
            rw [← he] at ht
            clear HT hG he
            rcases ht with ht | ht | ⟨hlast, ht⟩
            all_goals
              rw [ht] at HR
              clear ht
              go_upto_region 11 with (fail)
              go_region_with (go_at_call 20; refine (HR.out _).mono ?_; rintro e w5 ⟨rfl, hb5⟩)
              all_goals simp only [show errV 54 0 = .nilIface from rfl, show errV 54 3 = .iface 54 (.int .i64 3) from rfl]
              all_goals
                have HB5 : Hid (Below W.heap.size W w5) := belowT HB3.out.drew hb5
                clear hb5 HR HB3
                go_wp2_with fail
                first
                  | (refine (is33 w5).mono ?_; rintro e w6 ⟨rfl, rfl⟩; go_wp2)
                  | skip
                go_ret
                exact ⟨rfl, HB5.out⟩
        · have hc0 : 0 ≤ cut := by omega
          obtain ⟨k, hk, hk64⟩ := cut_high cut
          have hk2 : cut.tmod 65 = (k : Int) := by rw [Int.tmod_eq_emod_of_nonneg hc0]; exact hk
          have hkk : (k : Int) ≤ 64 := by omega
          clear h1 h2 ha hb hc
          go_enter Try.func6, Try.ntmps6
          go_wp2_with fail
          refine (HEx.out W).mono ?_
          rintro e w1 ⟨rfl, hb1⟩
          go_wp2_with fail
          refine (hX.out w1).mono ?_
          rintro e w2 ⟨rfl, hb2⟩
          go_wp2_with fail
          refine (hY.out w2).mono ?_
          rintro e w3 ⟨rfl, hb3⟩
          simp only [show errV 54 0 = .nilIface from rfl, show errV 54 1 = .iface 54 (.int .i64 1) from rfl]
          have HB3 : Hid (Below W.heap.size W w3) := belowT (belowT hb1 hb2) hb3
          clear hb1 hb2 hb3 HEx hX hY
          cases over
          · have hmk := zero_make64 w3
            have hcv := zero_conv64 w3
            have hb4 := (Below.refl w3.heap.size w3).alloc (Nat.le_refl _) (.cells (List.replicate 64 (Value.int .u8 0)).toArray 5)
            simp only [Bool.false_eq_true, if_false] at HT
            have lz : ((List.replicate 64 (0 : UInt8)).length : Int) = 64 := by rw [List.length_replicate]; rfl
            generalize List.replicate 64 (0 : UInt8) = Z at hcv HT lz
            generalize w3.alloc (.cells (List.replicate 64 (Value.int .u8 0)).toArray 5) = w4 at hmk hcv hb4
            have HB4 : Hid (Below W.heap.size W w4) := belowT HB3.out hb4
            clear hb4 HB3
            have he : (Z.drop k).take (Z.length - k) = Z.drop k := List.take_of_length_le (by rw [List.length_drop]; exact Nat.le_refl _)
            have hG : (A.take k ++ (Z.drop k).take (Z.length - k)).length = 64 := by rw [he, List.length_append, List.length_take, List.length_drop]; omega
            have HR := Lib.hid (fun w => pReadHead (A.take k ++ (Z.drop k).take (Z.length - k)) w (by rw [hG]; decide))
            have ht := HT.out k hk64
            rw [← he] at ht
            clear HT hG he
            rcases ht with ht | ht | ⟨hlast, ht⟩
            rotate_left 2
            · exact absurd hlast (by simp)
            all_goals
              rw [ht] at HR
              clear ht
              go_upto_region 11 with (fail)
              go_region_with (go_at_call 20; refine (HR.out _).mono ?_; rintro e w5 ⟨rfl, hb5⟩)
              all_goals simp only [show errV 54 0 = .nilIface from rfl, show errV 54 3 = .iface 54 (.int .i64 3) from rfl]
              all_goals
                have HB5 : Hid (Below W.heap.size W w5) := belowT HB4.out.drew hb5
                clear hb5 HR HB4
                go_wp2_with fail
                first
                  | (refine (is33 w5).mono ?_; rintro e w6 ⟨rfl, rfl⟩; go_wp2)
                  | skip
                go_ret
                exact ⟨rfl, HB5.out⟩
          · simp only [if_true] at HT
            have he : (B.drop k).take (B.length - k) = B.drop k := List.take_of_length_le (by rw [List.length_drop]; exact Nat.le_refl _)
            have hG : (A.take k ++ (B.drop k).take (B.length - k)).length = 64 := by rw [he, List.length_append, List.length_take, List.length_drop]; omega
            have HR := Lib.hid (fun w => pReadHead (A.take k ++ (B.drop k).take (B.length - k)) w (by rw [hG]; decide))
            have ht := HT.out k hk64
            rw [← he] at ht
            clear HT hG he
            rcases ht with ht | ht | ⟨hlast, ht⟩
            all_goals
              rw [ht] at HR
              clear ht
              go_upto_region 11 with (fail)
              go_region_with (go_at_call 20; refine (HR.out _).mono ?_; rintro e w5 ⟨rfl, hb5⟩)
              all_goals simp only [show errV 54 0 = .nilIface from rfl, show errV 54 3 = .iface 54 (.int .i64 3) from rfl]
              all_goals
                have HB5 : Hid (Below W.heap.size W w5) := belowT HB3.out.drew hb5
                clear hb5 HR HB3
                go_wp2_with fail
                first
                  | (refine (is33 w5).mono ?_; rintro e w6 ⟨rfl, rfl⟩; go_wp2)
                  | skip
                go_ret
                exact ⟨rfl, HB5.out⟩
    · rw [hv'] at HY
      have hX := Lib.hid HX
      have hY := Lib.hid HY
      clear HX HY hv hv'
      have lx : ((headB o x).length : Int) = 64 := by rw [headB_length]; rfl
      generalize headB o x = A at hX lx
      by_cases hcut : cut < 0
      · have hw1 : IntKind.i64.wrap (cut + 1) = cut + 1 := IntWalk.i64_in _ (by omega)
        have hw2 : IntKind.i64.wrap (-(cut + 1)) = -(cut + 1) := IntWalk.i64_in _ (by omega)
        obtain ⟨k, hk, hk64⟩ := cut_low hcut
        clear h1 h2 ha hb hc
        go_enter Try.func6, Try.ntmps6
        go_wp2_with fail
        refine (HEx.out W).mono ?_
        rintro e w1 ⟨rfl, hb1⟩
        go_wp2_with fail
        refine (hX.out w1).mono ?_
        rintro e w2 ⟨rfl, hb2⟩
        go_wp2_with fail
        refine (hY.out w2).mono ?_
        rintro e w3 ⟨rfl, hb3⟩
        simp only [show errV 54 0 = .nilIface from rfl, show errV 54 1 = .iface 54 (.int .i64 1) from rfl]
        have HB3 : Hid (Below W.heap.size W w3) := belowT (belowT hb1 hb2) hb3
        clear hb1 hb2 hb3 HEx hX hY
        go_wp2
        go_ret
        exact ⟨rfl, HB3.out⟩
      · have hc0 : 0 ≤ cut := by omega
        obtain ⟨k, hk, hk64⟩ := cut_high cut
        have hk2 : cut.tmod 65 = (k : Int) := by rw [Int.tmod_eq_emod_of_nonneg hc0]; exact hk
        clear h1 h2 ha hb hc
        go_enter Try.func6, Try.ntmps6
        go_wp2_with fail
        refine (HEx.out W).mono ?_
        rintro e w1 ⟨rfl, hb1⟩
        go_wp2_with fail
        refine (hX.out w1).mono ?_
        rintro e w2 ⟨rfl, hb2⟩
        go_wp2_with fail
        refine (hY.out w2).mono ?_
        rintro e w3 ⟨rfl, hb3⟩
        simp only [show errV 54 0 = .nilIface from rfl, show errV 54 1 = .iface 54 (.int .i64 1) from rfl]
        have HB3 : Hid (Below W.heap.size W w3) := belowT (belowT hb1 hb2) hb3
        clear hb1 hb2 hb3 HEx hX hY
        go_wp2
        go_ret
        exact ⟨rfl, HB3.out⟩
  · rw [hv] at HX
    rcases headV_cases two b with ⟨t, y, rfl, rfl, t1, t2, y1, hv'⟩ | ⟨_, hv'⟩
    all_goals
      rw [hv'] at HY
      have hX := Lib.hid HX
      have hY := Lib.hid HY
      clear HX HY hv hv'
      try generalize headB _ _ = B at hY
      by_cases hcut : cut < 0
      · have hw1 : IntKind.i64.wrap (cut + 1) = cut + 1 := IntWalk.i64_in _ (by omega)
        have hw2 : IntKind.i64.wrap (-(cut + 1)) = -(cut + 1) := IntWalk.i64_in _ (by omega)
        obtain ⟨k, hk, hk64⟩ := cut_low hcut
        clear h1 h2 ha hb hc
        go_enter Try.func6, Try.ntmps6
        go_wp2_with fail
        refine (HEx.out W).mono ?_
        rintro e w1 ⟨rfl, hb1⟩
        go_wp2_with fail
        refine (hX.out w1).mono ?_
        rintro e w2 ⟨rfl, hb2⟩
        go_wp2_with fail
        refine (hY.out w2).mono ?_
        rintro e w3 ⟨rfl, hb3⟩
        simp only [show errV 54 0 = .nilIface from rfl, show errV 54 1 = .iface 54 (.int .i64 1) from rfl]
        have HB3 : Hid (Below W.heap.size W w3) := belowT (belowT hb1 hb2) hb3
        clear hb1 hb2 hb3 HEx hX hY
        go_wp2
        go_ret
        exact ⟨rfl, HB3.out⟩
      · have hc0 : 0 ≤ cut := by omega
        obtain ⟨k, hk, hk64⟩ := cut_high cut
        have hk2 : cut.tmod 65 = (k : Int) := by rw [Int.tmod_eq_emod_of_nonneg hc0]; exact hk
        clear h1 h2 ha hb hc
        go_enter Try.func6, Try.ntmps6
        go_wp2_with fail
        refine (HEx.out W).mono ?_
        rintro e w1 ⟨rfl, hb1⟩
        go_wp2_with fail
        refine (hX.out w1).mono ?_
        rintro e w2 ⟨rfl, hb2⟩
        go_wp2_with fail
        refine (hY.out w2).mono ?_
        rintro e w3 ⟨rfl, hb3⟩
        simp only [show errV 54 0 = .nilIface from rfl, show errV 54 1 = .iface 54 (.int .i64 1) from rfl]
        have HB3 : Hid (Below W.heap.size W w3) := belowT (belowT hb1 hb2) hb3
        clear hb1 hb2 hb3 HEx hX hY
        go_wp2
        go_ret
        exact ⟨rfl, HB3.out⟩

end Go.Proofs.Ytbfdhonmmoikdaa
