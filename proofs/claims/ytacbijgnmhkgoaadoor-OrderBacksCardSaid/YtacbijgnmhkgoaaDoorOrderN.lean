/- The walks of OrderFloats, OrderKeys and OrderSteps. Conditions: the tables and error variables as the program's text lays them. -/
import Derived.Test.YtacbijgnmhkgoaaDoorOrderM
set_option maxRecDepth 100000
namespace Go.Proofs.YtacbijgnmhkgoaaDoor
open Go.RowKit

theorem cmpK_nan {a b : Nat} (ha : a < 18446744073709551616) (hb : b < 18446744073709551616) (h : nanW a = true ∨ nanW b = true) :
    (nanW a = true ∧ nanW b = true ∧ cmpK a b = 0) ∨ (nanW a = true ∧ nanW b = false ∧ cmpK a b = 1) ∨ (nanW a = false ∧ nanW b = true ∧ cmpK a b = -1) := by
  unfold cmpK
  cases na : nanW a <;> cases nb : nanW b
  · rw [na, nb] at h; simp at h
  · exact .inr (.inr ⟨rfl, rfl, by rw [if_pos (key_nan b a ha nb na)]⟩)
  · exact .inr (.inl ⟨rfl, rfl, by rw [if_neg (by have := key_nan a b hb na nb; omega), if_pos (key_nan a b hb na nb)]⟩)
  · exact .inl ⟨rfl, rfl, by rw [key_yes na, key_yes nb, if_neg (by omega), if_neg (by omega)]⟩
theorem cmpK_num {a b : Nat} (ha : a < 18446744073709551616) (hb : b < 18446744073709551616) (na : nanW a = false) (nb : nanW b = false) :
    (fS a < fS b ∧ cmpK a b = -1) ∨ (fS a = fS b ∧ cmpK a b = 0) ∨ (fS b < fS a ∧ cmpK a b = 1) := by
  have kl := key_lt a b ha hb na nb
  unfold cmpK
  rcases Int.lt_trichotomy (fS a) (fS b) with h | h | h
  · exact .inl ⟨h, by rw [if_pos (kl.1.2 h)]⟩
  · exact .inr (.inl ⟨h, by rw [if_neg (by have := kl.2.2 h; omega), if_neg (by have := kl.2.2 h; omega)]⟩)
  · have h6 : ¬ keyW a < keyW b := fun h7 => by have := kl.1.1 h7; omega
    have h8 : ¬ keyW a = keyW b := fun h7 => by have := kl.2.1 h7; omega
    exact .inr (.inr ⟨h, by rw [if_neg h6, if_pos (by omega)]⟩)
set_option maxHeartbeats 1600000 in
theorem floats_walk (a b : Nat) (ha : a < 18446744073709551616) (hb : b < 18446744073709551616) {w : World} (hv : Tab w) : Calls Tryd.prog 5 #[.int .i64 (iw a), .int .i64 (iw b)] w fun e w' => e = .returned (.bool true) ∧ Below w.heap.size w w' := by
  have K1 := fun w => cmp_any a b ha hb w
  have K2 := lives_any hv
  have wa := iw_u64 a ha
  have wb := iw_u64 b hb
  have fa := frombits_run a
  have fb := frombits_run b
  have sa := order_self a ha
  have sb := order_self b hb
  by_cases h : nanW a = true ∨ nanW b = true
  · have hc := cmpK_nan ha hb h
    clear hv ha hb h
    generalize cmpK a b = R at K1 hc
    rcases hc with ⟨h1, h2, rfl⟩ | ⟨h1, h2, rfl⟩ | ⟨h1, h2, rfl⟩
    all_goals
      rw [h1] at sa
      rw [h2] at sb
      clear h1 h2
      go_enter Tryd.func5, Tryd.ntmps5
      go_wp2_with fail
      refine (K1 _).mono ?_; rintro e w' ⟨rfl, rfl⟩; go_wp2_with fail
      refine K2.mono ?_
      rintro e w1 ⟨rfl, b1⟩
      have B1 := Lib.hid b1
      clear b1
      go_wp2_with fail
      go_ret
      exact ⟨rfl, B1.out⟩
  · have na : nanW a = false := by
      cases hn : nanW a with
      | false => rfl
      | true => exact absurd (.inl hn) h
    have nb : nanW b = false := by
      cases hn : nanW b with
      | false => rfl
      | true => exact absurd (.inr hn) h
    have hc := cmpK_num ha hb na nb
    have o1 := order_gt a b ha hb na nb
    have o2 := order_lt a b ha hb na nb
    have o3 := order_eq a b ha hb na nb
    rw [na] at sa
    rw [nb] at sb
    clear hv ha hb h na nb
    generalize cmpK a b = R at K1 hc
    rcases hc with ⟨h1, rfl⟩ | ⟨h1, rfl⟩ | ⟨h1, rfl⟩
    · rw [decide_eq_false (by omega)] at o1
      rw [decide_eq_true h1] at o2
      rw [decide_eq_false (by omega)] at o3
      clear h1
      go_enter Tryd.func5, Tryd.ntmps5
      go_wp2_with fail
      refine (K1 _).mono ?_; rintro e w' ⟨rfl, rfl⟩; go_wp2_with fail
      refine K2.mono ?_
      rintro e w1 ⟨rfl, b1⟩
      have B1 := Lib.hid b1
      clear b1
      go_wp2_with fail
      go_ret
      exact ⟨rfl, B1.out⟩
    · rw [decide_eq_false (by omega)] at o1
      rw [decide_eq_false (by omega)] at o2
      rw [decide_eq_true h1] at o3
      clear h1
      go_enter Tryd.func5, Tryd.ntmps5
      go_wp2_with fail
      refine (K1 _).mono ?_; rintro e w' ⟨rfl, rfl⟩; go_wp2_with fail
      refine K2.mono ?_
      rintro e w1 ⟨rfl, b1⟩
      have B1 := Lib.hid b1
      clear b1
      go_wp2_with fail
      go_ret
      exact ⟨rfl, B1.out⟩
    · rw [decide_eq_true h1] at o1
      rw [decide_eq_false (by omega)] at o2
      rw [decide_eq_false (by omega)] at o3
      clear h1
      go_enter Tryd.func5, Tryd.ntmps5
      go_wp2_with fail
      refine (K1 _).mono ?_; rintro e w' ⟨rfl, rfl⟩; go_wp2_with fail
      refine K2.mono ?_
      rintro e w1 ⟨rfl, b1⟩
      have B1 := Lib.hid b1
      clear b1
      go_wp2_with fail
      go_ret
      exact ⟨rfl, B1.out⟩
theorem xorS_mono (a b : Nat) (ha : a < 18446744073709551616) (hb : b < 18446744073709551616) : xorS a < xorS b ↔ iw a < iw b := by
  unfold xorS iw; split <;> split <;> omega
theorem cmpK_neg (a b : Nat) : cmpK a b < 0 ↔ keyW a < keyW b := by
  unfold cmpK
  by_cases h : keyW a < keyW b
  · rw [if_pos h]; omega
  · rw [if_neg h]; split <;> omega
set_option maxHeartbeats 1600000 in
theorem keys_walk (a b : Nat) (ha : a < 18446744073709551616) (hb : b < 18446744073709551616) {w : World} (hv : Vars w) : Calls Tryd.prog 6 #[.int .i64 (iw a), .int .i64 (iw b)] w fun e w' => e = .returned (.bool true) ∧ Below w.heap.size w w' := by
  have hkb := key_bound a ha
  have K1 := fun w => key_any a ha w
  have K2 := fun w => back_any (keyW a) hkb w
  rw [back_key a ha] at K2
  have K3 := fun w => canon_any a ha w
  have K4 := fun w => intKey_any a ha w
  have K5 := fun w => intBack_any (xorS a) (xorS_lt a ha) w
  rw [xorS_back a ha] at K5
  have K6 := print_any hv.tab a ha
  have K7 := fun w => good_any (canonW a) (canon_lt a ha) w
  rw [show goodW (canonW a) = true by unfold goodW; rw [canon_idem]; exact decide_eq_true rfl] at K7
  have K8 := fun w => intKey_any b hb w
  have K9 := fun w => key_any b hb w
  have K10 := fun w => cmp_any a b ha hb w
  obtain ⟨t1, h1⟩ : ∃ t, decide (xorS a < xorS b) = t := ⟨_, rfl⟩
  have h2 : decide (iw a < iw b) = t1 := by rw [← h1, decide_eq_decide]; exact (xorS_mono a b ha hb).symm
  obtain ⟨t2, h3⟩ : ∃ t, decide (keyW a < keyW b) = t := ⟨_, rfl⟩
  have h4 : decide (cmpK a b < 0) = t2 := by rw [← h3, decide_eq_decide]; exact cmpK_neg a b
  have HV := Lib.hid hv
  have HA := Lib.hid ha
  have hPa : (⟨(prW a).toArray⟩ : ByteArray).data.toList = prW a := rfl
  have hPs : (⟨(prW a).toArray⟩ : ByteArray).size ≤ 281474976710656 := by
    show (prW a).toArray.size ≤ _
    rw [List.size_toArray]
    rcases pr_cases a with ⟨_, e⟩ | ⟨_, e⟩ | ⟨_, e⟩ | ⟨_, _, _, e⟩ <;> rw [e] <;> simp [hexN_len]
  obtain ⟨x1, hx1⟩ : ∃ x, iw (canonW a) = x := ⟨_, rfl⟩
  obtain ⟨S, hS⟩ : ∃ S : ByteArray, S = ⟨(prW a).toArray⟩ := ⟨_, rfl⟩
  have HP : Hid (∀ w1, Vars w1 → Calls Tryd.prog 21 #[.string S] w1 fun e w' => e = .returned (.tuple #[.int .i64 x1, .bool true]) ∧ Below w1.heap.size w1 w') := Lib.hid (by
    intro w1 hv1
    rw [hS]
    refine (parse_any ⟨(prW a).toArray⟩ hPs hv1).mono ?_
    rintro e w' ⟨x, ok, rfl, hp, hb⟩
    obtain ⟨rfl, rfl⟩ := parseP_pr ha hp
    exact ⟨by rw [hx1], hb⟩)
  rw [← hS] at K6
  rw [hx1] at K2 K3 K7
  generalize cmpK a b = x2 at K10 h4
  generalize xorS a = x3 at K4 K5 h1
  generalize xorS b = x4 at K8 h1
  generalize keyW a = x5 at K1 K2 h3
  generalize keyW b = x6 at K9 h3
  clear hv ha hb hkb hPa hPs hS hx1
  go_enter Tryd.func6, Tryd.ntmps6
  go_wp2_with fail
  refine (K1 _).mono ?_; rintro e w' ⟨rfl, rfl⟩; go_wp2_with fail
  refine (K2 _).mono ?_; rintro e w' ⟨rfl, rfl⟩; go_wp2_with fail
  refine (K3 _).mono ?_; rintro e w' ⟨rfl, rfl⟩; go_wp2_with fail
  refine (K4 _).mono ?_; rintro e w' ⟨rfl, rfl⟩; go_wp2_with fail
  refine (K5 _).mono ?_; rintro e w' ⟨rfl, rfl⟩; go_wp2_with fail
  refine K6.mono ?_
  rintro e w1 ⟨rfl, b1⟩
  have B1 := Lib.hid b1
  have V1 := Lib.hid (HV.out.below b1)
  clear b1
  go_wp2_with fail
  refine (HP.out _ V1.out).mono ?_
  rintro e w2 ⟨rfl, b2⟩
  have B2 := Lib.hid (B1.out.trans (b2.mono B1.out.size))
  have K13 := lives_any (V1.out.below b2).tab
  clear b2
  go_wp2_with fail
  refine (K3 _).mono ?_; rintro e w' ⟨rfl, rfl⟩; go_wp2_with fail
  refine (K7 _).mono ?_; rintro e w' ⟨rfl, rfl⟩; go_wp2_with fail
  refine (K4 _).mono ?_; rintro e w' ⟨rfl, rfl⟩; go_wp2_with fail
  refine (K8 _).mono ?_; rintro e w' ⟨rfl, rfl⟩; go_wp2_with fail
  refine (K1 _).mono ?_; rintro e w' ⟨rfl, rfl⟩; go_wp2_with fail
  refine (K9 _).mono ?_; rintro e w' ⟨rfl, rfl⟩; go_wp2_with fail
  refine (K10 _).mono ?_; rintro e w' ⟨rfl, rfl⟩; go_wp2_with fail
  refine K13.mono ?_
  rintro e w3 ⟨rfl, b3⟩
  have B3 := Lib.hid (B2.out.trans (b3.mono B2.out.size))
  clear b3
  go_wp2_with fail
  go_ret
  exact ⟨rfl, B3.out⟩
/-- the key behind a number's: of what Back tells of it -/
theorem steps_math (u : Nat) (hu : u < 18446744073709551616) (hn : nanW u = false) (hi : u ≠ 9218868437227405312) :
    keyW u + 1 < 18446744073709551616 ∧ canonW (backW (keyW u + 1)) = backW (keyW u + 1) ∧ backW (keyW u + 1) < 18446744073709551616 ∧
      ((keyW (backW (keyW u + 1)) ≠ keyW u + 1 ∧ backW (keyW u + 1) = 0) ∨ (keyW (backW (keyW u + 1)) = keyW u + 1 ∧ nanW (backW (keyW u + 1)) = false ∧ fS (canonW u) < fS (backW (keyW u + 1)) ∧ cmpK u (backW (keyW u + 1)) = -1)) := by
  have hb := fS_bound u hu hn
  have hk := key_val u hu hn
  have hk1 : keyW u < 18442240474082181120 := by
    rw [hk]
    rcases fS_cases u hu with ⟨h1, h2⟩ | ⟨h1, h2⟩
    · split <;> omega
    · split <;> omega
  have hlt : keyW u + 1 < 18446744073709551616 := by omega
  have hbe := back_eq (keyW u + 1) hlt
  have hbw := back_word (keyW u + 1) hlt
  by_cases h : keyW (backU (keyW u + 1)) = keyW u + 1
  · rw [if_pos h] at hbe
    have e1 : keyW (backW (keyW u + 1)) = keyW u + 1 := by rw [hbe, key_canon, h]
    have hm := canon_lt _ hbw
    rw [← hbe] at hm
    have hnm : nanW (backW (keyW u + 1)) = false := by
      cases hq : nanW (backW (keyW u + 1)) with
      | false => rfl
      | true => have := key_yes hq; omega
    have hc := canon_lt u hu
    have hnc : nanW (canonW u) = false := by rw [nan_canon]; exact hn
    refine ⟨hlt, by rw [hbe, canon_idem], hm, .inr ⟨e1, hnm, ?_, ?_⟩⟩
    · exact (key_lt _ _ hc hm hnc hnm).1.1 (by rw [key_canon, e1]; omega)
    · unfold cmpK; rw [e1, if_pos (by omega)]
  · rw [if_neg h] at hbe
    refine ⟨hlt, by rw [hbe]; rfl, by omega, .inl ⟨?_, hbe⟩⟩
    rw [hbe]
    intro e
    have e0 : keyW 0 = 9223372036854775808 := rfl
    have e2 : keyW u + 1 = 9223372036854775808 := by omega
    rw [e2] at h
    exact h rfl
theorem canon_m1 (u : Nat) (hu : u < 18446744073709551616) (hn : nanW u = false) : (iw (canonW u) == -1) = false := by
  rw [beq_eq_false_iff_ne]
  intro e
  have h1 : iw 18446744073709551615 = -1 := rfl
  rw [← h1] at e
  have h2 := (iw_inj (canon_lt u hu) (by decide)).1 e
  have h3 := nan_canon u
  rw [h2, hn] at h3
  exact absurd h3 (by decide)
set_option maxHeartbeats 1600000 in
theorem steps_walk (u : Nat) (hu : u < 18446744073709551616) {w : World} (hv : Tab w) : Calls Tryd.prog 7 #[.int .i64 (iw u)] w fun e w' => e = .returned (.bool true) ∧ Below w.heap.size w w' := by
  have K1 := fun w => key_any u hu w
  have K2 := fun w => nan_any u hu w
  have K3 := fun w => canon_any u hu w
  have KL := lives_any hv
  cases hn : nanW u with
  | true =>
    rw [hn] at K2
    clear hv hn
    go_enter Tryd.func7, Tryd.ntmps7
    go_wp2_with fail
    refine (K1 _).mono ?_; rintro e w' ⟨rfl, rfl⟩; go_wp2_with fail
    refine (K2 _).mono ?_; rintro e w' ⟨rfl, rfl⟩; go_wp2_with fail
    refine KL.mono ?_
    rintro e w1 ⟨rfl, b1⟩
    have B1 := Lib.hid b1
    clear b1
    go_wp2_with fail
    go_ret
    exact ⟨rfl, B1.out⟩
  | false =>
    rw [hn] at K2
    by_cases hi : u = 9218868437227405312
    · have t1 : (iw u == 9218868437227405312) = true := by rw [hi]; rfl
      clear hv hn hi
      go_enter Tryd.func7, Tryd.ntmps7
      go_wp2_with fail
      refine (K1 _).mono ?_; rintro e w' ⟨rfl, rfl⟩; go_wp2_with fail
      refine (K2 _).mono ?_; rintro e w' ⟨rfl, rfl⟩; go_wp2_with fail
      refine KL.mono ?_
      rintro e w1 ⟨rfl, b1⟩
      have B1 := Lib.hid b1
      clear b1
      go_wp2_with fail
      go_ret
      exact ⟨rfl, B1.out⟩
    · have t1 : (iw u == 9218868437227405312) = false := by
        rw [beq_eq_false_iff_ne, show (9218868437227405312 : Int) = iw 9218868437227405312 from rfl]
        exact fun e => hi ((iw_inj hu (by decide)).1 e)
      have t2 := canon_m1 u hu hn
      obtain ⟨m1, m2, m3, m4⟩ := steps_math u hu hn hi
      have K4 := fun w => back_any (keyW u + 1) m1 w
      have hw : IntKind.u64.wrap (((keyW u : Nat) : Int) + 1) = ((keyW u + 1 : Nat) : Int) := by rw [IntKind.wrap_u64]; omega
      obtain ⟨k, hk⟩ : ∃ k, keyW u = k := ⟨_, rfl⟩
      obtain ⟨m, hm⟩ : ∃ m, backW (keyW u + 1) = m := ⟨_, rfl⟩
      rw [hm] at m2 m3 m4 K4
      rw [hk] at K1 K4 hw m4
      obtain ⟨j, hj⟩ : ∃ j, k + 1 = j := ⟨_, rfl⟩
      rw [hj] at K4 hw m4
      have K5 := fun w => good_any m m3 w
      rw [show goodW m = true by unfold goodW; rw [m2]; exact decide_eq_true rfl] at K5
      have hc := canon_lt u hu
      have K6 := fun w => key_any m m3 w
      have K7 := fun w => cmp_any u m hu m3 w
      have wc := iw_u64 (canonW u) hc
      have wm := iw_u64 m m3
      have fc := frombits_run (canonW u)
      have fm := frombits_run m
      have hnc : nanW (canonW u) = false := by rw [nan_canon]; exact hn
      rcases m4 with ⟨m5, m6⟩ | ⟨m5, m6, m7, m8⟩
      · have t3 := ne_cast m5
        have t4 : (iw m == 0) = true := by rw [m6]; rfl
        clear hv hn hi m1 m2 m3 m5 m6 hk hm hj hc hnc
        go_enter Tryd.func7, Tryd.ntmps7
        go_wp2_with fail
        refine (K1 _).mono ?_; rintro e w' ⟨rfl, rfl⟩; go_wp2_with fail
        refine (K2 _).mono ?_; rintro e w' ⟨rfl, rfl⟩; go_wp2_with fail
        refine (K3 _).mono ?_; rintro e w' ⟨rfl, rfl⟩; go_wp2_with fail
        refine (K4 _).mono ?_; rintro e w' ⟨rfl, rfl⟩; go_wp2_with fail
        refine (K5 _).mono ?_; rintro e w' ⟨rfl, rfl⟩; go_wp2_with fail
        refine (K3 _).mono ?_; rintro e w' ⟨rfl, rfl⟩; go_wp2_with fail
        refine (K6 _).mono ?_; rintro e w' ⟨rfl, rfl⟩; go_wp2_with fail
        refine KL.mono ?_
        rintro e w1 ⟨rfl, b1⟩
        have B1 := Lib.hid b1
        clear b1
        go_wp2_with fail
        go_ret
        exact ⟨rfl, B1.out⟩
      · have o2 := order_lt (canonW u) m hc m3 hnc m6
        rw [decide_eq_true m7] at o2
        rw [m8] at K7
        rw [m5] at K6
        clear hv hn hi m1 m2 m3 m5 m6 m7 m8 hk hm hj hc hnc
        go_enter Tryd.func7, Tryd.ntmps7
        go_wp2_with fail
        refine (K1 _).mono ?_; rintro e w' ⟨rfl, rfl⟩; go_wp2_with fail
        refine (K2 _).mono ?_; rintro e w' ⟨rfl, rfl⟩; go_wp2_with fail
        refine (K3 _).mono ?_; rintro e w' ⟨rfl, rfl⟩; go_wp2_with fail
        refine (K4 _).mono ?_; rintro e w' ⟨rfl, rfl⟩; go_wp2_with fail
        refine (K5 _).mono ?_; rintro e w' ⟨rfl, rfl⟩; go_wp2_with fail
        refine (K3 _).mono ?_; rintro e w' ⟨rfl, rfl⟩; go_wp2_with fail
        refine (K6 _).mono ?_; rintro e w' ⟨rfl, rfl⟩; go_wp2_with fail
        refine (K7 _).mono ?_; rintro e w' ⟨rfl, rfl⟩; go_wp2_with fail
        refine KL.mono ?_
        rintro e w1 ⟨rfl, b1⟩
        have B1 := Lib.hid b1
        clear b1
        go_wp2_with fail
        go_ret
        exact ⟨rfl, B1.out⟩
end Go.Proofs.YtacbijgnmhkgoaaDoor
