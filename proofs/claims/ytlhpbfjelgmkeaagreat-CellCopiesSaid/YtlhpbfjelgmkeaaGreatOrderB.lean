/- Contracts of order's Key, Back, Cmp and of IsInf, Inf at one sign. Conditions: none. -/
import Derived.Test.YtlhpbfjelgmkeaaGreatOrderA
set_option maxRecDepth 100000
namespace Go.Proofs.YtlhpbfjelgmkeaaGreat
open Go.RowKit

theorem ne_cast {a b : Nat} (h : ¬ a = b) : ((a : Int) != (b : Int)) = true := by
  rw [bne_iff_ne]; omega
theorem neq_cast {a b : Nat} (h : ¬ a = b) : ((a : Int) == (b : Int)) = false := by
  rw [beq_eq_false_iff_ne]; omega
theorem or_sign (c : Nat) (h : c < 9223372036854775808) : bits .or .u64 (c : Int) 9223372036854775808 = ((c + 9223372036854775808 : Nat) : Int) := by
  have e := or_u64 c 9223372036854775808 (by omega) (by omega)
  have e2 : c ||| 9223372036854775808 = c + 9223372036854775808 := by
    have := Nat.two_pow_add_eq_or_of_lt (i := 63) (b := c) (by omega) 1
    rw [show (2 : Nat) ^ 63 * 1 = 9223372036854775808 from rfl] at this
    rw [Nat.or_comm]; omega
  rw [e2] at e
  exact e
theorem key_no {u : Nat} (h : nanW u = false) : keyW u = if 9223372036854775808 ≤ canonW u then 18446744073709551615 - canonW u else canonW u + 9223372036854775808 := by unfold keyW; rw [h]; rfl
theorem key_yes {u : Nat} (h : nanW u = true) : keyW u = 18446744073709551615 := by unfold keyW; rw [h]; rfl
theorem key_bound (u : Nat) (hu : u < 18446744073709551616) : keyW u < 18446744073709551616 := by
  have := canon_lt u hu
  cases h : nanW u
  · rw [key_no h]; split <;> omega
  · rw [key_yes h]; omega
theorem key_any (u : Nat) (hu : u < 18446744073709551616) (w : World) : Calls Tryz.prog 227 #[.int .i64 (iw u)] w fun e w' => e = .returned (.int .u64 ((keyW u : Nat) : Int)) ∧ w = w' := by
  have K1 := fun w => canon_any u hu w
  obtain ⟨c, hc⟩ : ∃ c, c = canonW u := ⟨_, rfl⟩
  have hl : c < 18446744073709551616 := by rw [hc]; exact canon_lt u hu
  have hn : nanW c = nanW u := by rw [hc]; exact nan_canon u
  have hy := @key_yes u
  have hk := @key_no u
  rw [← hc] at K1 hk
  clear hc
  have K2 := fun w => float_any c hl w
  have K3 := fun w => isNaN_any c hl w
  have K4 := fun w => signbit_any c hl w
  have hb := bits_run c
  rw [hn] at K3
  clear hn
  cases h : nanW u
  · rw [h] at K3
    have hk := hk h
    clear hy h
    by_cases hs : 9223372036854775808 ≤ c
    · rw [if_pos hs] at hk
      rw [decide_eq_true hs] at K4
      have hx := not_u64 c hl
      rw [hk]
      clear hk
      go_enter Tryz.func227, Tryz.ntmps227
      go_wp2_with (first | (go_at_call 233; refine (K1 _).mono ?_; rintro e w' ⟨rfl, rfl⟩) | (go_at_call 116; refine (K2 _).mono ?_; rintro e w' ⟨rfl, rfl⟩) | (go_at_call 149; refine (K3 _).mono ?_; rintro e w' ⟨rfl, rfl⟩) | (go_at_call 234; refine (K4 _).mono ?_; rintro e w' ⟨rfl, rfl⟩))
      go_ret
      exact ⟨ret_int (by omega), rfl⟩
    · rw [if_neg hs] at hk
      rw [decide_eq_false hs] at K4
      have hx := or_sign c (by omega)
      rw [hk]
      clear hk hs
      go_enter Tryz.func227, Tryz.ntmps227
      go_wp2_with (first | (go_at_call 233; refine (K1 _).mono ?_; rintro e w' ⟨rfl, rfl⟩) | (go_at_call 116; refine (K2 _).mono ?_; rintro e w' ⟨rfl, rfl⟩) | (go_at_call 149; refine (K3 _).mono ?_; rintro e w' ⟨rfl, rfl⟩) | (go_at_call 234; refine (K4 _).mono ?_; rintro e w' ⟨rfl, rfl⟩))
      go_ret
      exact ⟨rfl, rfl⟩
  · rw [h] at K3
    rw [hy h]
    clear hy hk h
    go_enter Tryz.func227, Tryz.ntmps227
    go_wp2_with (first | (go_at_call 233; refine (K1 _).mono ?_; rintro e w' ⟨rfl, rfl⟩) | (go_at_call 116; refine (K2 _).mono ?_; rintro e w' ⟨rfl, rfl⟩) | (go_at_call 149; refine (K3 _).mono ?_; rintro e w' ⟨rfl, rfl⟩))
    go_ret
    exact ⟨rfl, rfl⟩
/-- what Back turns a key into ahead of the look -/
theorem back_word (k : Nat) (hk : k < 18446744073709551616) : backU k < 18446744073709551616 := by unfold backU; split <;> omega
theorem back_eq (k : Nat) (hk : k < 18446744073709551616) : backW k = if keyW (backU k) = k then canonW (backU k) else 0 := by
  by_cases h : keyW (backU k) = k
  · rw [if_pos h]
    have := back_key (backU k) (back_word k hk)
    rwa [h] at this
  · rw [if_neg h]
    unfold backW
    have hm : k ≠ 18446744073709551615 := by
      rintro rfl
      exact h (by decide)
    rw [if_neg hm, if_neg (fun h2 => h h2.2)]
theorem not_iw (k : Nat) (hk : k < 18446744073709551616) : bits .xor .i64 (-1) (iw k) = iw (18446744073709551615 - k) := by
  have e : BitVec.ofInt 64 (-1) = BitVec.allOnes 64 := by decide
  have e2 : (BitVec.ofInt 64 (iw k)).toNat = k := by
    have h3 : BitVec.ofInt 64 (iw k) = BitVec.ofInt 64 (k : Int) := by
      apply BitVec.eq_of_toInt_eq
      rw [BitVec.toInt_ofInt, BitVec.toInt_ofInt]
      unfold iw
      split
      · rfl
      · rw [show (k : Int) - 18446744073709551616 = (k : Int) - ((2 ^ 64 : Nat) : Int) from rfl, Int.sub_bmod_right]
    rw [h3, ofInt_nat64 k hk]
  show IntKind.i64.wrap ((BitVec.ofInt 64 (-1) ^^^ BitVec.ofInt 64 (iw k)).toNat : Int) = _
  rw [e, BitVec.allOnes_xor, BitVec.toNat_not, e2, ← iw_i64 (18446744073709551615 - k) (by omega)]
theorem order_gt (a b : Nat) (ha : a < 18446744073709551616) (hb : b < 18446744073709551616) (na : nanW a = false) (nb : nanW b = false) : (FloatKind.f64.format.order a b == some .gt) = decide (fS b < fS a) := by
  have h1 := nanW_not.1 na
  have h2 := nanW_not.1 nb
  rw [f64_order, order_words a b ha hb, if_neg (by omega)]
  rcases Int.lt_trichotomy (fS a) (fS b) with h | h | h
  · rw [Int.compare_eq_lt.2 h, decide_eq_false (by omega)]; rfl
  · rw [Int.compare_eq_eq.2 h, decide_eq_false (by omega)]; rfl
  · rw [Int.compare_eq_gt.2 h, decide_eq_true h]; rfl
theorem order_lt (a b : Nat) (ha : a < 18446744073709551616) (hb : b < 18446744073709551616) (na : nanW a = false) (nb : nanW b = false) : (FloatKind.f64.format.order a b == some .lt) = decide (fS a < fS b) := by
  have h1 := nanW_not.1 na
  have h2 := nanW_not.1 nb
  rw [f64_order, order_words a b ha hb, if_neg (by omega)]
  rcases Int.lt_trichotomy (fS a) (fS b) with h | h | h
  · rw [Int.compare_eq_lt.2 h, decide_eq_true h]; rfl
  · rw [Int.compare_eq_eq.2 h, decide_eq_false (by omega)]; rfl
  · rw [Int.compare_eq_gt.2 h, decide_eq_false (by omega)]; rfl
theorem order_eq (a b : Nat) (ha : a < 18446744073709551616) (hb : b < 18446744073709551616) (na : nanW a = false) (nb : nanW b = false) : (FloatKind.f64.format.order a b == some .eq) = decide (fS a = fS b) := by
  have h1 := nanW_not.1 na
  have h2 := nanW_not.1 nb
  rw [f64_order, order_words a b ha hb, if_neg (by omega)]
  rcases Int.lt_trichotomy (fS a) (fS b) with h | h | h
  · rw [Int.compare_eq_lt.2 h, decide_eq_false (by omega)]; rfl
  · rw [Int.compare_eq_eq.2 h, decide_eq_true h]; rfl
  · rw [Int.compare_eq_gt.2 h, decide_eq_false (by omega)]; rfl
theorem order_none (a b : Nat) (ha : a < 18446744073709551616) (hb : b < 18446744073709551616) (h : nanW a = true ∨ nanW b = true) : FloatKind.f64.format.order a b = none := by
  rw [f64_order, order_words a b ha hb, if_pos (h.imp nanW_iff.1 nanW_iff.1)]
/-- how keys stand -/
def cmpK (a b : Nat) : Int := if keyW a < keyW b then -1 else if keyW b < keyW a then 1 else 0
set_option maxHeartbeats 800000 in
theorem cmp_any (a b : Nat) (ha : a < 18446744073709551616) (hb : b < 18446744073709551616) (w : World) : Calls Tryz.prog 74 #[.int .i64 (iw a), .int .i64 (iw b)] w fun e w' => e = .returned (.int .i64 (cmpK a b)) ∧ w = w' := by
  have K1 := fun w => float_any a ha w
  have K2 := fun w => float_any b hb w
  have K3 := fun w => nan_any a ha w
  have K4 := fun w => nan_any b hb w
  obtain ⟨R, hR⟩ : ∃ R, R = cmpK a b := ⟨_, rfl⟩
  rw [← hR]
  unfold cmpK at hR
  cases na : nanW a <;> cases nb : nanW b
  · have o1 := order_gt a b ha hb na nb
    have o2 := order_lt a b ha hb na nb
    have kl := key_lt a b ha hb na nb
    rw [na] at K3
    rw [nb] at K4
    rcases Int.lt_trichotomy (fS a) (fS b) with h | h | h
    · rw [if_pos (kl.1.2 h)] at hR
      rw [decide_eq_false (by omega)] at o1
      rw [decide_eq_true h] at o2
      subst hR
      clear kl na nb h
      go_enter Tryz.func74, Tryz.ntmps74
      go_wp2_with fail
      refine (K1 _).mono ?_; rintro e w' ⟨rfl, rfl⟩; go_wp2_with fail
      refine (K2 _).mono ?_; rintro e w' ⟨rfl, rfl⟩; go_wp2_with fail
      refine (K3 _).mono ?_; rintro e w' ⟨rfl, rfl⟩; go_wp2_with fail
      refine (K3 _).mono ?_; rintro e w' ⟨rfl, rfl⟩; go_wp2_with fail
      refine (K4 _).mono ?_; rintro e w' ⟨rfl, rfl⟩; go_wp2_with fail
      go_ret
      exact ⟨rfl, rfl⟩
    · rw [if_neg (by have := kl.2.2 h; omega), if_neg (by have := kl.2.2 h; omega)] at hR
      rw [decide_eq_false (by omega)] at o1
      rw [decide_eq_false (by omega)] at o2
      subst hR
      clear kl na nb h
      go_enter Tryz.func74, Tryz.ntmps74
      go_wp2_with fail
      refine (K1 _).mono ?_; rintro e w' ⟨rfl, rfl⟩; go_wp2_with fail
      refine (K2 _).mono ?_; rintro e w' ⟨rfl, rfl⟩; go_wp2_with fail
      refine (K3 _).mono ?_; rintro e w' ⟨rfl, rfl⟩; go_wp2_with fail
      refine (K3 _).mono ?_; rintro e w' ⟨rfl, rfl⟩; go_wp2_with fail
      refine (K4 _).mono ?_; rintro e w' ⟨rfl, rfl⟩; go_wp2_with fail
      go_ret
      exact ⟨rfl, rfl⟩
    · have h5 : keyW b < keyW a := by
        have h6 : ¬ keyW a < keyW b := fun h7 => by have := kl.1.1 h7; omega
        have h8 : ¬ keyW a = keyW b := fun h7 => by have := kl.2.1 h7; omega
        omega
      rw [if_neg (by omega), if_pos h5] at hR
      rw [decide_eq_true h] at o1
      rw [decide_eq_false (by omega)] at o2
      subst hR
      clear kl na nb h h5
      go_enter Tryz.func74, Tryz.ntmps74
      go_wp2_with fail
      refine (K1 _).mono ?_; rintro e w' ⟨rfl, rfl⟩; go_wp2_with fail
      refine (K2 _).mono ?_; rintro e w' ⟨rfl, rfl⟩; go_wp2_with fail
      refine (K3 _).mono ?_; rintro e w' ⟨rfl, rfl⟩; go_wp2_with fail
      refine (K3 _).mono ?_; rintro e w' ⟨rfl, rfl⟩; go_wp2_with fail
      go_ret
      exact ⟨rfl, rfl⟩
  · have o1 : (FloatKind.f64.format.order a b == some .gt) = false := by rw [order_none a b ha hb (.inr nb)]; rfl
    rw [if_pos (key_nan b a ha nb na)] at hR
    rw [na] at K3
    rw [nb] at K4
    subst hR
    clear na nb
    go_enter Tryz.func74, Tryz.ntmps74
    go_wp2_with fail
    refine (K1 _).mono ?_; rintro e w' ⟨rfl, rfl⟩; go_wp2_with fail
    refine (K2 _).mono ?_; rintro e w' ⟨rfl, rfl⟩; go_wp2_with fail
    refine (K3 _).mono ?_; rintro e w' ⟨rfl, rfl⟩; go_wp2_with fail
    refine (K3 _).mono ?_; rintro e w' ⟨rfl, rfl⟩; go_wp2_with fail
    refine (K4 _).mono ?_; rintro e w' ⟨rfl, rfl⟩; go_wp2_with fail
    go_ret
    exact ⟨rfl, rfl⟩
  · rw [if_neg (by have := key_nan a b hb na nb; omega), if_pos (key_nan a b hb na nb)] at hR
    rw [na] at K3
    rw [nb] at K4
    subst hR
    clear na nb
    go_enter Tryz.func74, Tryz.ntmps74
    go_wp2_with fail
    refine (K1 _).mono ?_; rintro e w' ⟨rfl, rfl⟩; go_wp2_with fail
    refine (K2 _).mono ?_; rintro e w' ⟨rfl, rfl⟩; go_wp2_with fail
    refine (K3 _).mono ?_; rintro e w' ⟨rfl, rfl⟩; go_wp2_with fail
    refine (K4 _).mono ?_; rintro e w' ⟨rfl, rfl⟩; go_wp2_with fail
    refine (K3 _).mono ?_; rintro e w' ⟨rfl, rfl⟩; go_wp2_with fail
    go_ret
    exact ⟨rfl, rfl⟩
  · rw [key_yes na, key_yes nb, if_neg (by omega), if_neg (by omega)] at hR
    rw [na] at K3
    rw [nb] at K4
    subst hR
    clear na nb
    go_enter Tryz.func74, Tryz.ntmps74
    go_wp2_with fail
    refine (K1 _).mono ?_; rintro e w' ⟨rfl, rfl⟩; go_wp2_with fail
    refine (K2 _).mono ?_; rintro e w' ⟨rfl, rfl⟩; go_wp2_with fail
    refine (K3 _).mono ?_; rintro e w' ⟨rfl, rfl⟩; go_wp2_with fail
    refine (K4 _).mono ?_; rintro e w' ⟨rfl, rfl⟩; go_wp2_with fail
    go_ret
    exact ⟨rfl, rfl⟩
theorem max_word : nanW 9218868437227405311 = false ∧ fS 9218868437227405311 = 9218868437227405311 := by
  constructor <;> rfl
theorem inf1_any (u : Nat) (hu : u < 18446744073709551616) (hn : nanW u = false) (w : World) : Calls Tryz.prog 314 #[.float .f64 u, .int .i64 1] w fun e w' => e = .returned (.bool (decide (u = 9218868437227405312))) ∧ w = w' := by
  have ho := order_gt u 9218868437227405311 hu (by decide) hn max_word.1
  rw [max_word.2] at ho
  have he : decide ((9218868437227405311 : Int) < fS u) = decide (u = 9218868437227405312) := by
    rw [decide_eq_decide]
    have := fS_bound u hu hn
    rcases fS_cases u hu with ⟨h1, h2⟩ | ⟨h1, h2⟩ <;> omega
  rw [he] at ho
  clear he
  go_enter Tryz.func314, Tryz.ntmps314
  go_wp2_with fail
  go_ret
  exact ⟨rfl, rfl⟩
theorem negF (u : Nat) (hu : u < 18446744073709551616) : Op.unary .neg (.float .f64 u) = pure (.float .f64 (xorS u)) := by
  show (pure (Value.float .f64 (u ^^^ 9223372036854775808)) : Sem Value) = _
  rw [xor_pow u hu]
theorem infm_any (u : Nat) (hu : u < 18446744073709551616) (hn : nanW u = false) (w : World) : Calls Tryz.prog 314 #[.float .f64 u, .int .i64 (-1)] w fun e w' => e = .returned (.bool (decide (u = 18442240474082181120))) ∧ w = w' := by
  have hx := xorS_lt u hu
  have hn2 : nanW (xorS u) = false := by
    have h1 := nanW_not.1 hn
    refine nanW_not.2 ?_
    unfold xorS; split <;> omega
  have ho := order_gt (xorS u) 9218868437227405311 hx (by decide) hn2 max_word.1
  rw [max_word.2] at ho
  have he : decide ((9218868437227405311 : Int) < fS (xorS u)) = decide (u = 18442240474082181120) := by
    rw [decide_eq_decide]
    have h3 := fS_bound (xorS u) hx hn2
    have h4 : (u < 9223372036854775808 ∧ xorS u = u + 9223372036854775808) ∨ (9223372036854775808 ≤ u ∧ xorS u = u - 9223372036854775808) := by
      unfold xorS
      by_cases h : u < 9223372036854775808
      · exact .inl ⟨h, if_pos h⟩
      · exact .inr ⟨by omega, if_neg h⟩
    rcases fS_cases (xorS u) hx with ⟨h1, h2⟩ | ⟨h1, h2⟩ <;> omega
  rw [he] at ho
  clear he
  have hneg := negF u hu
  go_enter Tryz.func314, Tryz.ntmps314
  go_wp2_with fail
  go_ret
  exact ⟨rfl, rfl⟩
end Go.Proofs.YtlhpbfjelgmkeaaGreat
