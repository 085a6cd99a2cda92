/- Contracts of the reference's Nan, Canon, Good, Key, Back, IntKey, IntBack, Cmp. Conditions: none. -/
import Derived.Test.YtacbijgnmhkgoaaDoorOrderB
import Derived.IntWalk
set_option maxRecDepth 100000
namespace Go.Proofs.YtacbijgnmhkgoaaDoor
open Go.RowKit

/-- the bits of the exponent -/
def expW (u : Nat) : Nat := u / 4503599627370496 % 2048 * 4503599627370496
theorem and_exp (u : Nat) (hu : u < 18446744073709551616) : bits .and .u64 (u : Int) 9218868437227405312 = ((expW u : Nat) : Int) := by
  have e := and_u64 u 9218868437227405312 hu (by omega)
  have h1 : (u &&& 9218868437227405312) % 2 ^ 52 = 0 := by
    rw [Nat.and_mod_two_pow, show 9218868437227405312 % 2 ^ 52 = 0 from rfl, Nat.and_zero]
  have h2 : (u &&& 9218868437227405312) / 2 ^ 52 = u / 2 ^ 52 % 2 ^ 11 := by
    rw [Nat.and_div_two_pow, show 9218868437227405312 / 2 ^ 52 = 2 ^ 11 - 1 from rfl, Nat.and_two_pow_sub_one_eq_mod]
  have h3 : u &&& 9218868437227405312 = expW u := by unfold expW; omega
  rw [h3] at e
  exact e
theorem and_frac (u : Nat) (hu : u < 18446744073709551616) : bits .and .u64 (u : Int) 4503599627370495 = ((u % 4503599627370496 : Nat) : Int) := by
  have e := and_u64 u 4503599627370495 hu (by omega)
  have h2 : u &&& 4503599627370495 = u % 4503599627370496 := Nat.and_two_pow_sub_one_eq_mod u 52
  rw [h2] at e
  exact e
theorem refNan_any (u : Nat) (hu : u < 18446744073709551616) (w : World) : Calls Tryd.prog 13 #[.int .i64 (iw u)] w fun e w' => e = .returned (.bool (nanW u)) ∧ w = w' := by
  have hw := iw_u64 u hu
  have a1 := and_exp u hu
  have a2 := and_frac u hu
  obtain ⟨x, hx⟩ : ∃ x, x = expW u := ⟨_, rfl⟩
  obtain ⟨y, hy⟩ : ∃ y, y = u % 4503599627370496 := ⟨_, rfl⟩
  rw [← hx] at a1
  rw [← hy] at a2
  by_cases h1 : x = 9218868437227405312
  · by_cases h2 : y = 0
    · have hn : nanW u = false := nanW_not.2 (by unfold expW at hx; omega)
      rw [hn]
      subst h1 h2
      clear hx hy hn
      go_enter Tryd.func13, Tryd.ntmps13
      go_wp2_with fail
      go_ret
      exact ⟨rfl, rfl⟩
    · have hn : nanW u = true := nanW_iff.2 (by unfold expW at hx; omega)
      rw [hn]
      have t0 : ((y : Int) != 0) = true := ne_cast (b := 0) h2
      subst h1
      clear hx hy hn h2
      go_enter Tryd.func13, Tryd.ntmps13
      go_wp2_with fail
      go_ret
      exact ⟨rfl, rfl⟩
  · have hn : nanW u = false := nanW_not.2 (by unfold expW at hx; omega)
    rw [hn]
    have t0 : ((x : Int) == 9218868437227405312) = false := neq_cast (b := 9218868437227405312) h1
    clear hx hy hn h1
    go_enter Tryd.func13, Tryd.ntmps13
    go_wp2_with fail
    go_ret
    exact ⟨rfl, rfl⟩
theorem refCanon_any (u : Nat) (hu : u < 18446744073709551616) (w : World) : Calls Tryd.prog 9 #[.int .i64 (iw u)] w fun e w' => e = .returned (.int .i64 (iw (canonW u))) ∧ w = w' := by
  have K1 := fun w => refNan_any u hu w
  have hw := iw_u64 u hu
  cases hn : nanW u
  · rw [hn] at K1
    have hc := canon_not hn
    by_cases h : u = 9223372036854775808
    · rw [if_pos h] at hc
      rw [hc, show iw 0 = 0 from rfl]
      have t0 : ((u : Int) == 9223372036854775808) = true := by rw [beq_iff_eq]; omega
      clear hc hn h
      go_enter Tryd.func9, Tryd.ntmps9
      go_wp2_with fail
      refine (K1 _).mono ?_; rintro e w' ⟨rfl, rfl⟩; go_wp2_with fail
      go_ret
      exact ⟨rfl, rfl⟩
    · rw [if_neg h] at hc
      rw [hc]
      have t0 : ((u : Int) == 9223372036854775808) = false := neq_cast (b := 9223372036854775808) h
      clear hc hn h
      go_enter Tryd.func9, Tryd.ntmps9
      go_wp2_with fail
      refine (K1 _).mono ?_; rintro e w' ⟨rfl, rfl⟩; go_wp2_with fail
      go_ret
      exact ⟨rfl, rfl⟩
  · rw [hn] at K1
    rw [canon_nan hn, show iw 9221120237041090560 = 9221120237041090560 from rfl]
    clear hn
    go_enter Tryd.func9, Tryd.ntmps9
    go_wp2_with fail
    refine (K1 _).mono ?_; rintro e w' ⟨rfl, rfl⟩; go_wp2_with fail
    go_ret
    exact ⟨rfl, rfl⟩
theorem refGood_any (u : Nat) (hu : u < 18446744073709551616) (w : World) : Calls Tryd.prog 11 #[.int .i64 (iw u)] w fun e w' => e = .returned (.bool (goodW u)) ∧ w = w' := by
  have K1 := fun w => refCanon_any u hu w
  have hg := good_eq u hu
  go_enter Tryd.func11, Tryd.ntmps11
  go_wp2_with fail
  refine (K1 _).mono ?_; rintro e w' ⟨rfl, rfl⟩; go_wp2_with fail
  go_ret
  exact ⟨rfl, rfl⟩
theorem refKey_any (u : Nat) (hu : u < 18446744073709551616) (w : World) : Calls Tryd.prog 15 #[.int .i64 (iw u)] w fun e w' => e = .returned (.int .u64 ((keyW u : Nat) : Int)) ∧ w = w' := by
  have K1 := fun w => refCanon_any u hu w
  have K2 := fun w => refNan_any u hu w
  obtain ⟨c, hc⟩ : ∃ c, c = canonW u := ⟨_, rfl⟩
  have hl : c < 18446744073709551616 := by rw [hc]; exact canon_lt u hu
  have hy := @key_yes u
  have hk := @key_no u
  have hw := iw_u64 c hl
  rw [← hc] at K1 hk
  clear hc
  cases h : nanW u
  · rw [h] at K2
    have hk := hk h
    clear hy h
    by_cases hs : 9223372036854775808 ≤ c
    · rw [if_pos hs] at hk
      have t0 : decide ((9223372036854775808 : Int) ≤ (c : Int)) = true := decide_eq_true (by omega)
      have hx := not_u64 c hl
      obtain ⟨r, hr⟩ : ∃ r, r = 18446744073709551615 - c := ⟨_, rfl⟩
      rw [show 18446744073709551615 - (c : Int) = ((r : Nat) : Int) by omega] at hx
      rw [hk, ← hr]
      clear hk hr hs
      go_enter Tryd.func15, Tryd.ntmps15
      go_wp2_with fail
      refine (K1 _).mono ?_; rintro e w' ⟨rfl, rfl⟩; go_wp2_with fail
      refine (K2 _).mono ?_; rintro e w' ⟨rfl, rfl⟩; go_wp2_with fail
      go_ret
      exact ⟨rfl, rfl⟩
    · rw [if_neg hs] at hk
      have t0 : decide ((9223372036854775808 : Int) ≤ (c : Int)) = false := decide_eq_false (by omega)
      have hx : IntKind.u64.wrap ((c : Int) + 9223372036854775808) = (((c + 9223372036854775808 : Nat)) : Int) := by rw [IntKind.wrap_u64]; omega
      rw [hk]
      obtain ⟨r, hr⟩ : ∃ r, r = c + 9223372036854775808 := ⟨_, rfl⟩
      rw [← hr] at hx ⊢
      clear hk hr hs hl
      go_enter Tryd.func15, Tryd.ntmps15
      go_wp2_with fail
      refine (K1 _).mono ?_; rintro e w' ⟨rfl, rfl⟩; go_wp2_with fail
      refine (K2 _).mono ?_; rintro e w' ⟨rfl, rfl⟩; go_wp2_with fail
      go_ret
      exact ⟨rfl, rfl⟩
  · rw [h] at K2
    rw [hy h]
    clear hy hk h
    go_enter Tryd.func15, Tryd.ntmps15
    go_wp2_with fail
    refine (K1 _).mono ?_; rintro e w' ⟨rfl, rfl⟩; go_wp2_with fail
    refine (K2 _).mono ?_; rintro e w' ⟨rfl, rfl⟩; go_wp2_with fail
    go_ret
    exact ⟨rfl, rfl⟩
theorem refIntKey_any (u : Nat) (hu : u < 18446744073709551616) (w : World) : Calls Tryd.prog 28 #[.int .i64 (iw u)] w fun e w' => e = .returned (.int .u64 ((xorS u : Nat) : Int)) ∧ w = w' := by
  have hw := iw_u64 u hu
  have hx : IntKind.u64.wrap ((u : Int) + 9223372036854775808) = ((xorS u : Nat) : Int) := by rw [IntKind.wrap_u64]; unfold xorS; split <;> omega
  obtain ⟨r, hr⟩ : ∃ r, r = xorS u := ⟨_, rfl⟩
  rw [← hr] at hx ⊢
  clear hr hu
  go_enter Tryd.func28, Tryd.ntmps28
  go_wp2_with fail
  go_ret
  exact ⟨rfl, rfl⟩
theorem refIntBack_any (u : Nat) (hu : u < 18446744073709551616) (w : World) : Calls Tryd.prog 26 #[.int .u64 (u : Int)] w fun e w' => e = .returned (.int .i64 (iw (xorS u))) ∧ w = w' := by
  have hw := iw_i64 (xorS u) (xorS_lt u hu)
  have hx : IntKind.u64.wrap ((u : Int) - 9223372036854775808) = ((xorS u : Nat) : Int) := by rw [IntKind.wrap_u64]; unfold xorS; split <;> omega
  obtain ⟨r, hr⟩ : ∃ r, r = xorS u := ⟨_, rfl⟩
  rw [← hr] at hx hw ⊢
  clear hr hu
  go_enter Tryd.func26, Tryd.ntmps26
  go_wp2_with fail
  go_ret
  exact ⟨rfl, rfl⟩
theorem refCmp_any (a b : Nat) (ha : a < 18446744073709551616) (hb : b < 18446744073709551616) (w : World) : Calls Tryd.prog 17 #[.int .i64 (iw a), .int .i64 (iw b)] w fun e w' => e = .returned (.int .i64 (cmpK a b)) ∧ w = w' := by
  have K1 := fun w => refKey_any a ha w
  have K2 := fun w => refKey_any b hb w
  obtain ⟨R, hR⟩ : ∃ R, R = cmpK a b := ⟨_, rfl⟩
  rw [← hR]
  unfold cmpK at hR
  generalize keyW a = x at K1 hR
  generalize keyW b = y at K2 hR
  have hc : (R = -1 ∧ decide (x < y) = true) ∨ (R = 1 ∧ decide (x < y) = false ∧ decide (y < x) = true) ∨ (R = 0 ∧ decide (x < y) = false ∧ decide (y < x) = false) := by
    simp only [decide_eq_true_eq, decide_eq_false_iff_not]
    by_cases h1 : x < y
    · rw [if_pos h1] at hR; omega
    · rw [if_neg h1] at hR
      by_cases h2 : y < x
      · rw [if_pos h2] at hR; omega
      · rw [if_neg h2] at hR; omega
  clear hR
  rcases hc with ⟨rfl, t1⟩ | ⟨rfl, t1, t2⟩ | ⟨rfl, t1, t2⟩
  all_goals
    go_enter Tryd.func17, Tryd.ntmps17
    go_wp2_with fail
    refine (K1 _).mono ?_; rintro e w' ⟨rfl, rfl⟩; go_wp2_with fail
    refine (K2 _).mono ?_; rintro e w' ⟨rfl, rfl⟩; go_wp2_with fail
    go_ret
    exact ⟨rfl, rfl⟩
theorem refBack_any (k : Nat) (hk : k < 18446744073709551616) (w : World) : Calls Tryd.prog 24 #[.int .u64 (k : Int)] w fun e w' => e = .returned (.int .i64 (iw (backW k))) ∧ w = w' := by
  by_cases hm : k = 18446744073709551615
  · subst hm
    rw [show iw (backW 18446744073709551615) = 9221120237041090560 from rfl]
    go_enter Tryd.func24, Tryd.ntmps24
    go_wp2_with fail
    go_ret
    exact ⟨rfl, rfl⟩
  · have hb : backW k = if canonW (backU k) = backU k ∧ keyW (backU k) = k then backU k else 0 := by unfold backW; rw [if_neg hm]
    have t0 : ((k : Int) == 18446744073709551615) = false := neq_cast (b := 18446744073709551615) hm
    have hbl := back_word k hk
    have K1 := fun w => refGood_any (backU k) hbl w
    have K2 := fun w => refKey_any (backU k) hbl w
    have hw := iw_i64 (backU k) hbl
    have hx : IntKind.u64.wrap ((k : Int) - 9223372036854775808) = ((xorS k : Nat) : Int) := by rw [IntKind.wrap_u64]; unfold xorS; split <;> omega
    have hn := not_u64 k hk
    have hu : backU k = if k < 9223372036854775808 then 18446744073709551615 - k else xorS k := by
      unfold backU xorS; split <;> rfl
    obtain ⟨v, hv⟩ : ∃ v, v = backU k := ⟨_, rfl⟩
    rw [← hv] at hb K1 K2 hu hw
    obtain ⟨y, hy⟩ : ∃ y, y = keyW v := ⟨_, rfl⟩
    rw [← hy] at hb K2
    obtain ⟨z, hz⟩ : ∃ z, z = iw (backW k) := ⟨_, rfl⟩
    obtain ⟨g, hg⟩ : ∃ g, g = goodW v := ⟨_, rfl⟩
    rw [← hg] at K1
    have hr : (g = false ∧ z = 0) ∨ (g = true ∧ ((y : Int) == (k : Int)) = false ∧ z = 0) ∨ (g = true ∧ y = k ∧ z = iw v) := by
      rw [hz, hb, hg]
      unfold goodW
      by_cases h1 : canonW v = v
      · by_cases h2 : y = k
        · exact .inr (.inr ⟨decide_eq_true h1, h2, by rw [if_pos ⟨h1, h2⟩]⟩)
        · exact .inr (.inl ⟨decide_eq_true h1, neq_cast h2, by rw [if_neg (fun h => h2 h.2)]; rfl⟩)
      · exact .inl ⟨decide_eq_false h1, by rw [if_neg (fun h => h1 h.1)]; rfl⟩
    rw [← hz]
    obtain ⟨q, hq⟩ : ∃ q, q = xorS k := ⟨_, rfl⟩
    rw [← hq] at hx hu
    clear hb hv hy hz hg hbl hm hq
    by_cases h : k < 9223372036854775808
    · rw [if_pos h] at hu
      rw [show 18446744073709551615 - (k : Int) = (v : Int) by omega] at hn
      have hlt : (k : Int) < 9223372036854775808 := by omega
      clear hu h hk
      have hyk : y = k → (y : Int) = (k : Int) := fun e => by rw [e]
      have hr : (g = false ∧ z = 0) ∨ (g = true ∧ ((y : Int) == (k : Int)) = false ∧ z = 0) ∨ (g = true ∧ (y : Int) = (k : Int) ∧ z = iw v) := by
        rcases hr with h | h | ⟨h1, h2, h3⟩
        · exact .inl h
        · exact .inr (.inl h)
        · exact .inr (.inr ⟨h1, hyk h2, h3⟩)
      clear hyk
      generalize (k : Int) = i at *
      have t1 : decide (i < 9223372036854775808) = true := decide_eq_true hlt
      have hw2 : wrap64 (v : Int) = iw v := by rw [← IntWalk.i64_left]; exact hw
      clear hlt hw
      rcases hr with ⟨rfl, rfl⟩ | ⟨rfl, t2, rfl⟩ | ⟨rfl, hyk, rfl⟩
      · go_enter Tryd.func24, Tryd.ntmps24
        go_wp2_with fail
        refine (K1 _).mono ?_; rintro e w' ⟨rfl, rfl⟩; go_wp2_with fail
        go_ret
        exact ⟨rfl, rfl⟩
      · go_enter Tryd.func24, Tryd.ntmps24
        go_wp2_with fail
        refine (K1 _).mono ?_; rintro e w' ⟨rfl, rfl⟩; go_wp2_with fail
        refine (K2 _).mono ?_; rintro e w' ⟨rfl, rfl⟩; go_wp2_with fail
        go_ret
        exact ⟨rfl, rfl⟩
      · have t2 : ((y : Int) == i) = true := by rw [hyk]; exact beq_self_eq_true _
        clear hyk
        go_enter Tryd.func24, Tryd.ntmps24
        go_wp2_with fail
        refine (K1 _).mono ?_; rintro e w' ⟨rfl, rfl⟩; go_wp2_with fail
        refine (K2 _).mono ?_; rintro e w' ⟨rfl, rfl⟩; go_wp2_with fail
        go_ret
        exact ⟨rfl, rfl⟩
    · rw [if_neg h] at hu
      subst hu
      have t1 : decide ((k : Int) < 9223372036854775808) = false := decide_eq_false (by omega)
      clear h hk hn
      rcases hr with ⟨rfl, rfl⟩ | ⟨rfl, t2, rfl⟩ | ⟨rfl, rfl, rfl⟩
      · go_enter Tryd.func24, Tryd.ntmps24
        go_wp2_with fail
        refine (K1 _).mono ?_; rintro e w' ⟨rfl, rfl⟩; go_wp2_with fail
        go_ret
        exact ⟨rfl, rfl⟩
      · go_enter Tryd.func24, Tryd.ntmps24
        go_wp2_with fail
        refine (K1 _).mono ?_; rintro e w' ⟨rfl, rfl⟩; go_wp2_with fail
        refine (K2 _).mono ?_; rintro e w' ⟨rfl, rfl⟩; go_wp2_with fail
        go_ret
        exact ⟨rfl, rfl⟩
      · go_enter Tryd.func24, Tryd.ntmps24
        go_wp2_with fail
        refine (K1 _).mono ?_; rintro e w' ⟨rfl, rfl⟩; go_wp2_with fail
        refine (K2 _).mono ?_; rintro e w' ⟨rfl, rfl⟩; go_wp2_with fail
        go_ret
        exact ⟨rfl, rfl⟩
theorem inf1_word (w : World) : Calls Tryd.prog 47 #[.int .i64 1] w fun e w' => e = .returned (.float .f64 9218868437227405312) ∧ w = w' := by
  have hr : ∀ w, (callFunc 29 #[.int .u64 9218868437227405312]).run Tryd.prog w = .ok (.value (.float .f64 9218868437227405312)) w := fun w => frombits_run 9218868437227405312 w
  go_enter Tryd.func47, Tryd.ntmps47
  go_wp2_with fail
  go_ret
  exact ⟨rfl, rfl⟩
theorem infm_word (w : World) : Calls Tryd.prog 47 #[.int .i64 (-1)] w fun e w' => e = .returned (.float .f64 18442240474082181120) ∧ w = w' := by
  have hr : ∀ w, (callFunc 29 #[.int .u64 18442240474082181120]).run Tryd.prog w = .ok (.value (.float .f64 18442240474082181120)) w := fun w => frombits_run 18442240474082181120 w
  go_enter Tryd.func47, Tryd.ntmps47
  go_wp2_with fail
  go_ret
  exact ⟨rfl, rfl⟩
end Go.Proofs.YtacbijgnmhkgoaaDoor
