/- The texts OrderB OrderC ValC Sched Sched2 ValD, one behind the other; each one's own comment says what it holds. -/
import Derived.Test.YtfmhdnefcapjgaaGreatDoorPackA
import Derived.IntWalk
import Derived.OrdersHeld
import Derived.StillTail
import Derived.Deep.RegionHeld3
import Derived.Laws.StructEq
/- Contracts of order's Key, Back, Cmp and of IsInf, Inf at one sign. Conditions: none. -/
set_option maxRecDepth 100000
namespace Go.Proofs.YtfmhdnefcapjgaaGreatDoor
open Go.RowKit

theorem ne_cast {a b : Nat} (h : ¬ a = b) : ((a : Int) != (b : Int)) = true := by
  rw [bne_iff_ne]; omega
theorem neq_cast {a b : Nat} (h : ¬ a = b) : ((a : Int) == (b : Int)) = false := by
  rw [beq_eq_false_iff_ne]; omega
theorem or_sign (c : Nat) (h : c < 9223372036854775808) : bits .or .u64 (c : Int) 9223372036854775808 = ((c + 9223372036854775808 : Nat) : Int) := by
  have e := or_u64 c 9223372036854775808 (by omega) (by omega)
  have e2 : c ||| 9223372036854775808 = c + 9223372036854775808 := by
    have := Nat.two_pow_add_eq_or_of_lt (i := 63) (b := c) (by omega) 1
    rw [show (2 : Nat) ^ 63 * 1 = 9223372036854775808 from rfl] at this
    rw [Nat.or_comm]; omega
  rw [e2] at e
  exact e
theorem key_no {u : Nat} (h : nanW u = false) : keyW u = if 9223372036854775808 ≤ canonW u then 18446744073709551615 - canonW u else canonW u + 9223372036854775808 := by unfold keyW; rw [h]; rfl
theorem key_yes {u : Nat} (h : nanW u = true) : keyW u = 18446744073709551615 := by unfold keyW; rw [h]; rfl
theorem key_bound (u : Nat) (hu : u < 18446744073709551616) : keyW u < 18446744073709551616 := by
  have := canon_lt u hu
  cases h : nanW u
  · rw [key_no h]; split <;> omega
  · rw [key_yes h]; omega
/-- what Back turns a key into ahead of the look -/
theorem back_word (k : Nat) (hk : k < 18446744073709551616) : backU k < 18446744073709551616 := by unfold backU; split <;> omega
theorem back_eq (k : Nat) (hk : k < 18446744073709551616) : backW k = if keyW (backU k) = k then canonW (backU k) else 0 := by
  by_cases h : keyW (backU k) = k
  · rw [if_pos h]
    have := back_key (backU k) (back_word k hk)
    rwa [h] at this
  · rw [if_neg h]
    unfold backW
    have hm : k ≠ 18446744073709551615 := by
      rintro rfl
      exact h (by decide)
    rw [if_neg hm, if_neg (fun h2 => h h2.2)]
theorem not_iw (k : Nat) (hk : k < 18446744073709551616) : bits .xor .i64 (-1) (iw k) = iw (18446744073709551615 - k) := by
  have e : BitVec.ofInt 64 (-1) = BitVec.allOnes 64 := by decide
  have e2 : (BitVec.ofInt 64 (iw k)).toNat = k := by
    have h3 : BitVec.ofInt 64 (iw k) = BitVec.ofInt 64 (k : Int) := by
      apply BitVec.eq_of_toInt_eq
      rw [BitVec.toInt_ofInt, BitVec.toInt_ofInt]
      unfold iw
      split
      · rfl
      · rw [show (k : Int) - 18446744073709551616 = (k : Int) - ((2 ^ 64 : Nat) : Int) from rfl, Int.sub_bmod_right]
    rw [h3, ofInt_nat64 k hk]
  show IntKind.i64.wrap ((BitVec.ofInt 64 (-1) ^^^ BitVec.ofInt 64 (iw k)).toNat : Int) = _
  rw [e, BitVec.allOnes_xor, BitVec.toNat_not, e2, ← iw_i64 (18446744073709551615 - k) (by omega)]
theorem order_gt (a b : Nat) (ha : a < 18446744073709551616) (hb : b < 18446744073709551616) (na : nanW a = false) (nb : nanW b = false) : (FloatKind.f64.format.order a b == some .gt) = decide (fS b < fS a) := by
  have h1 := nanW_not.1 na
  have h2 := nanW_not.1 nb
  rw [f64_order, order_words a b ha hb, if_neg (by omega)]
  rcases Int.lt_trichotomy (fS a) (fS b) with h | h | h
  · rw [Int.compare_eq_lt.2 h, decide_eq_false (by omega)]; rfl
  · rw [Int.compare_eq_eq.2 h, decide_eq_false (by omega)]; rfl
  · rw [Int.compare_eq_gt.2 h, decide_eq_true h]; rfl
theorem order_lt (a b : Nat) (ha : a < 18446744073709551616) (hb : b < 18446744073709551616) (na : nanW a = false) (nb : nanW b = false) : (FloatKind.f64.format.order a b == some .lt) = decide (fS a < fS b) := by
  have h1 := nanW_not.1 na
  have h2 := nanW_not.1 nb
  rw [f64_order, order_words a b ha hb, if_neg (by omega)]
  rcases Int.lt_trichotomy (fS a) (fS b) with h | h | h
  · rw [Int.compare_eq_lt.2 h, decide_eq_true h]; rfl
  · rw [Int.compare_eq_eq.2 h, decide_eq_false (by omega)]; rfl
  · rw [Int.compare_eq_gt.2 h, decide_eq_false (by omega)]; rfl
theorem order_eq (a b : Nat) (ha : a < 18446744073709551616) (hb : b < 18446744073709551616) (na : nanW a = false) (nb : nanW b = false) : (FloatKind.f64.format.order a b == some .eq) = decide (fS a = fS b) := by
  have h1 := nanW_not.1 na
  have h2 := nanW_not.1 nb
  rw [f64_order, order_words a b ha hb, if_neg (by omega)]
  rcases Int.lt_trichotomy (fS a) (fS b) with h | h | h
  · rw [Int.compare_eq_lt.2 h, decide_eq_false (by omega)]; rfl
  · rw [Int.compare_eq_eq.2 h, decide_eq_true h]; rfl
  · rw [Int.compare_eq_gt.2 h, decide_eq_false (by omega)]; rfl
theorem order_none (a b : Nat) (ha : a < 18446744073709551616) (hb : b < 18446744073709551616) (h : nanW a = true ∨ nanW b = true) : FloatKind.f64.format.order a b = none := by
  rw [f64_order, order_words a b ha hb, if_pos (h.imp nanW_iff.1 nanW_iff.1)]
/-- how keys stand -/
def cmpK (a b : Nat) : Int := if keyW a < keyW b then -1 else if keyW b < keyW a then 1 else 0
set_option maxHeartbeats 800000 in
theorem cmp_any (a b : Nat) (ha : a < 18446744073709551616) (hb : b < 18446744073709551616) (w : World) : Calls Tryz.prog 21 #[.int .i64 (iw a), .int .i64 (iw b)] w fun e w' => e = .returned (.int .i64 (cmpK a b)) ∧ w = w' := by
  have K1 := fun w => float_any a ha w
  have K2 := fun w => float_any b hb w
  have K3 := fun w => nan_any a ha w
  have K4 := fun w => nan_any b hb w
  obtain ⟨R, hR⟩ : ∃ R, R = cmpK a b := ⟨_, rfl⟩
  rw [← hR]
  unfold cmpK at hR
  cases na : nanW a <;> cases nb : nanW b
  · have o1 := order_gt a b ha hb na nb
    have o2 := order_lt a b ha hb na nb
    have kl := key_lt a b ha hb na nb
    rw [na] at K3
    rw [nb] at K4
    rcases Int.lt_trichotomy (fS a) (fS b) with h | h | h
    · rw [if_pos (kl.1.2 h)] at hR
      rw [decide_eq_false (by omega)] at o1
      rw [decide_eq_true h] at o2
      subst hR
      clear kl na nb h
      go_enter Tryz.func21, Tryz.ntmps21
      go_wp2_with fail
      refine (K1 _).mono ?_; rintro e w' ⟨rfl, rfl⟩; go_wp2_with fail
      refine (K2 _).mono ?_; rintro e w' ⟨rfl, rfl⟩; go_wp2_with fail
      refine (K3 _).mono ?_; rintro e w' ⟨rfl, rfl⟩; go_wp2_with fail
      refine (K3 _).mono ?_; rintro e w' ⟨rfl, rfl⟩; go_wp2_with fail
      refine (K4 _).mono ?_; rintro e w' ⟨rfl, rfl⟩; go_wp2_with fail
      go_ret
      exact ⟨rfl, rfl⟩
    · rw [if_neg (by have := kl.2.2 h; omega), if_neg (by have := kl.2.2 h; omega)] at hR
      rw [decide_eq_false (by omega)] at o1
      rw [decide_eq_false (by omega)] at o2
      subst hR
      clear kl na nb h
      go_enter Tryz.func21, Tryz.ntmps21
      go_wp2_with fail
      refine (K1 _).mono ?_; rintro e w' ⟨rfl, rfl⟩; go_wp2_with fail
      refine (K2 _).mono ?_; rintro e w' ⟨rfl, rfl⟩; go_wp2_with fail
      refine (K3 _).mono ?_; rintro e w' ⟨rfl, rfl⟩; go_wp2_with fail
      refine (K3 _).mono ?_; rintro e w' ⟨rfl, rfl⟩; go_wp2_with fail
      refine (K4 _).mono ?_; rintro e w' ⟨rfl, rfl⟩; go_wp2_with fail
      go_ret
      exact ⟨rfl, rfl⟩
    · have h5 : keyW b < keyW a := by
        have h6 : ¬ keyW a < keyW b := fun h7 => by have := kl.1.1 h7; omega
        have h8 : ¬ keyW a = keyW b := fun h7 => by have := kl.2.1 h7; omega
        omega
      rw [if_neg (by omega), if_pos h5] at hR
      rw [decide_eq_true h] at o1
      rw [decide_eq_false (by omega)] at o2
      subst hR
      clear kl na nb h h5
      go_enter Tryz.func21, Tryz.ntmps21
      go_wp2_with fail
      refine (K1 _).mono ?_; rintro e w' ⟨rfl, rfl⟩; go_wp2_with fail
      refine (K2 _).mono ?_; rintro e w' ⟨rfl, rfl⟩; go_wp2_with fail
      refine (K3 _).mono ?_; rintro e w' ⟨rfl, rfl⟩; go_wp2_with fail
      refine (K3 _).mono ?_; rintro e w' ⟨rfl, rfl⟩; go_wp2_with fail
      go_ret
      exact ⟨rfl, rfl⟩
  · have o1 : (FloatKind.f64.format.order a b == some .gt) = false := by rw [order_none a b ha hb (.inr nb)]; rfl
    rw [if_pos (key_nan b a ha nb na)] at hR
    rw [na] at K3
    rw [nb] at K4
    subst hR
    clear na nb
    go_enter Tryz.func21, Tryz.ntmps21
    go_wp2_with fail
    refine (K1 _).mono ?_; rintro e w' ⟨rfl, rfl⟩; go_wp2_with fail
    refine (K2 _).mono ?_; rintro e w' ⟨rfl, rfl⟩; go_wp2_with fail
    refine (K3 _).mono ?_; rintro e w' ⟨rfl, rfl⟩; go_wp2_with fail
    refine (K3 _).mono ?_; rintro e w' ⟨rfl, rfl⟩; go_wp2_with fail
    refine (K4 _).mono ?_; rintro e w' ⟨rfl, rfl⟩; go_wp2_with fail
    go_ret
    exact ⟨rfl, rfl⟩
  · rw [if_neg (by have := key_nan a b hb na nb; omega), if_pos (key_nan a b hb na nb)] at hR
    rw [na] at K3
    rw [nb] at K4
    subst hR
    clear na nb
    go_enter Tryz.func21, Tryz.ntmps21
    go_wp2_with fail
    refine (K1 _).mono ?_; rintro e w' ⟨rfl, rfl⟩; go_wp2_with fail
    refine (K2 _).mono ?_; rintro e w' ⟨rfl, rfl⟩; go_wp2_with fail
    refine (K3 _).mono ?_; rintro e w' ⟨rfl, rfl⟩; go_wp2_with fail
    refine (K4 _).mono ?_; rintro e w' ⟨rfl, rfl⟩; go_wp2_with fail
    refine (K3 _).mono ?_; rintro e w' ⟨rfl, rfl⟩; go_wp2_with fail
    go_ret
    exact ⟨rfl, rfl⟩
  · rw [key_yes na, key_yes nb, if_neg (by omega), if_neg (by omega)] at hR
    rw [na] at K3
    rw [nb] at K4
    subst hR
    clear na nb
    go_enter Tryz.func21, Tryz.ntmps21
    go_wp2_with fail
    refine (K1 _).mono ?_; rintro e w' ⟨rfl, rfl⟩; go_wp2_with fail
    refine (K2 _).mono ?_; rintro e w' ⟨rfl, rfl⟩; go_wp2_with fail
    refine (K3 _).mono ?_; rintro e w' ⟨rfl, rfl⟩; go_wp2_with fail
    refine (K4 _).mono ?_; rintro e w' ⟨rfl, rfl⟩; go_wp2_with fail
    go_ret
    exact ⟨rfl, rfl⟩
theorem max_word : nanW 9218868437227405311 = false ∧ fS 9218868437227405311 = 9218868437227405311 := by
  constructor <;> rfl
theorem inf1_any (u : Nat) (hu : u < 18446744073709551616) (hn : nanW u = false) (w : World) : Calls Tryz.prog 52 #[.float .f64 u, .int .i64 1] w fun e w' => e = .returned (.bool (decide (u = 9218868437227405312))) ∧ w = w' := by
  have ho := order_gt u 9218868437227405311 hu (by decide) hn max_word.1
  rw [max_word.2] at ho
  have he : decide ((9218868437227405311 : Int) < fS u) = decide (u = 9218868437227405312) := by
    rw [decide_eq_decide]
    have := fS_bound u hu hn
    rcases fS_cases u hu with ⟨h1, h2⟩ | ⟨h1, h2⟩ <;> omega
  rw [he] at ho
  clear he
  go_enter Tryz.func52, Tryz.ntmps52
  go_wp2_with fail
  go_ret
  exact ⟨rfl, rfl⟩
theorem negF (u : Nat) (hu : u < 18446744073709551616) : Op.unary .neg (.float .f64 u) = pure (.float .f64 (xorS u)) := by
  show (pure (Value.float .f64 (u ^^^ 9223372036854775808)) : Sem Value) = _
  rw [xor_pow u hu]
theorem infm_any (u : Nat) (hu : u < 18446744073709551616) (hn : nanW u = false) (w : World) : Calls Tryz.prog 52 #[.float .f64 u, .int .i64 (-1)] w fun e w' => e = .returned (.bool (decide (u = 18442240474082181120))) ∧ w = w' := by
  have hx := xorS_lt u hu
  have hn2 : nanW (xorS u) = false := by
    have h1 := nanW_not.1 hn
    refine nanW_not.2 ?_
    unfold xorS; split <;> omega
  have ho := order_gt (xorS u) 9218868437227405311 hx (by decide) hn2 max_word.1
  rw [max_word.2] at ho
  have he : decide ((9218868437227405311 : Int) < fS (xorS u)) = decide (u = 18442240474082181120) := by
    rw [decide_eq_decide]
    have h3 := fS_bound (xorS u) hx hn2
    have h4 : (u < 9223372036854775808 ∧ xorS u = u + 9223372036854775808) ∨ (9223372036854775808 ≤ u ∧ xorS u = u - 9223372036854775808) := by
      unfold xorS
      by_cases h : u < 9223372036854775808
      · exact .inl ⟨h, if_pos h⟩
      · exact .inr ⟨by omega, if_neg h⟩
    rcases fS_cases (xorS u) hx with ⟨h1, h2⟩ | ⟨h1, h2⟩ <;> omega
  rw [he] at ho
  clear he
  have hneg := negF u hu
  go_enter Tryz.func52, Tryz.ntmps52
  go_wp2_with fail
  go_ret
  exact ⟨rfl, rfl⟩
end Go.Proofs.YtfmhdnefcapjgaaGreatDoor
/- Contracts of the reference's Nan, Canon, Good, Key, Back, IntKey, IntBack, Cmp. Conditions: none. -/
set_option maxRecDepth 100000
namespace Go.Proofs.YtfmhdnefcapjgaaGreatDoor
open Go.RowKit

/-- the bits of the exponent -/
def expW (u : Nat) : Nat := u / 4503599627370496 % 2048 * 4503599627370496
theorem and_exp (u : Nat) (hu : u < 18446744073709551616) : bits .and .u64 (u : Int) 9218868437227405312 = ((expW u : Nat) : Int) := by
  have e := and_u64 u 9218868437227405312 hu (by omega)
  have h1 : (u &&& 9218868437227405312) % 2 ^ 52 = 0 := by
    rw [Nat.and_mod_two_pow, show 9218868437227405312 % 2 ^ 52 = 0 from rfl, Nat.and_zero]
  have h2 : (u &&& 9218868437227405312) / 2 ^ 52 = u / 2 ^ 52 % 2 ^ 11 := by
    rw [Nat.and_div_two_pow, show 9218868437227405312 / 2 ^ 52 = 2 ^ 11 - 1 from rfl, Nat.and_two_pow_sub_one_eq_mod]
  have h3 : u &&& 9218868437227405312 = expW u := by unfold expW; omega
  rw [h3] at e
  exact e
theorem and_frac (u : Nat) (hu : u < 18446744073709551616) : bits .and .u64 (u : Int) 4503599627370495 = ((u % 4503599627370496 : Nat) : Int) := by
  have e := and_u64 u 4503599627370495 hu (by omega)
  have h2 : u &&& 4503599627370495 = u % 4503599627370496 := Nat.and_two_pow_sub_one_eq_mod u 52
  rw [h2] at e
  exact e
theorem inf1_word (w : World) : Calls Tryz.prog 49 #[.int .i64 1] w fun e w' => e = .returned (.float .f64 9218868437227405312) ∧ w = w' := by
  have hr : ∀ w, (callFunc 45 #[.int .u64 9218868437227405312]).run Tryz.prog w = .ok (.value (.float .f64 9218868437227405312)) w := fun w => frombits_run 9218868437227405312 w
  go_enter Tryz.func49, Tryz.ntmps49
  go_wp2_with fail
  go_ret
  exact ⟨rfl, rfl⟩
theorem infm_word (w : World) : Calls Tryz.prog 49 #[.int .i64 (-1)] w fun e w' => e = .returned (.float .f64 18442240474082181120) ∧ w = w' := by
  have hr : ∀ w, (callFunc 45 #[.int .u64 18442240474082181120]).run Tryz.prog w = .ok (.value (.float .f64 18442240474082181120)) w := fun w => frombits_run 18442240474082181120 w
  go_enter Tryz.func49, Tryz.ntmps49
  go_wp2_with fail
  go_ret
  exact ⟨rfl, rfl⟩
end Go.Proofs.YtfmhdnefcapjgaaGreatDoor
/- Values of rows: which comes first, on both sides. Conditions: none. -/
set_option maxRecDepth 100000
namespace Go.Proofs.YtfmhdnefcapjgaaGreatDoor
open Go.RowKit Go.Lib

/-- how two ints stand -/
def cmpI (x y : Int) : Int := if x < y then -1 else if x > y then 1 else 0
theorem sign3b (a b : Int) : ((a == b) = true ∧ (a != b) = false ∧ decide (a < b) = false ∧ decide (b < a) = false ∧ Hid (cmpI a b = 0)) ∨ ((a == b) = false ∧ (a != b) = true ∧ decide (a < b) = true ∧ decide (b < a) = false ∧ Hid (cmpI a b = -1)) ∨ ((a == b) = false ∧ (a != b) = true ∧ decide (a < b) = false ∧ decide (b < a) = true ∧ Hid (cmpI a b = 1)) := by
  unfold cmpI
  rcases Int.lt_trichotomy a b with h | h | h
  · exact .inr (.inl ⟨by rw [beq_eq_false_iff_ne]; omega, by rw [bne_iff_ne]; omega, decide_eq_true h, decide_eq_false (by omega), Lib.hid (by rw [if_pos h])⟩)
  · exact .inl ⟨by rw [beq_iff_eq]; exact h, by rw [bne_eq_false_iff_eq]; exact h, decide_eq_false (by omega), decide_eq_false (by omega), Lib.hid (by rw [if_neg (by omega), if_neg (by omega)])⟩
  · exact .inr (.inr ⟨by rw [beq_eq_false_iff_ne]; omega, by rw [bne_iff_ne]; omega, decide_eq_false (by omega), decide_eq_true h, Lib.hid (by rw [if_neg (by omega), if_pos (by omega)])⟩)
theorem two_boxes (w : World) (x y z x' y' z' : Value) (t t' : Nat) {w1 : World} (hb : Below ((w.alloc (.cells #[x, y, z] t)).alloc (.cells #[x', y', z'] t')).heap.size ((w.alloc (.cells #[x, y, z] t)).alloc (.cells #[x', y', z'] t')) w1) :
    C3 w1 w.heap.size x y z ∧ C3 w1 (w.heap.size + 1) x' y' z' ∧ Below w.heap.size w w1 := by
  have b1 := (Below.refl w.heap.size w).alloc (Nat.le_refl _) (.cells #[x, y, z] t)
  have b2 := (Below.refl (w.heap.size + 1) (w.alloc (.cells #[x, y, z] t))).alloc (by simp) (.cells #[x', y', z'] t')
  refine ⟨(((C3.new w x y z t).keep b2 (by omega)).keep hb (by simp; omega)), ?_, (b1.trans (b2.mono (by omega))).trans (hb.mono (by simp; omega))⟩
  have := C3.new (w.alloc (.cells #[x, y, z] t)) x' y' z' t'
  have hz : (w.alloc (.cells #[x, y, z] t)).heap.size = w.heap.size + 1 := by simp
  rw [hz] at this
  exact this.keep hb (by simp)
theorem cmp_kinds (k n : Int) (s : ByteArray) (k' n' : Int) (s' : ByteArray) (h : k ≠ k') (w : World) : Calls Tryz.prog 13 #[vv k n s, vv k' n' s'] w fun e w' => e = .returned (.int .i64 (cmpI k k')) ∧ Below w.heap.size w w' := by
  have KC := Tryz.cmp_Compare_int k k'
  have e0 : (k != k') = true := by rw [bne_iff_ne]; exact h
  have e1 : (k == k') = false := by rw [beq_eq_false_iff_ne]; exact h
  clear h
  go_enter Tryz.func13, Tryz.ntmps13
  go_wp2_with fail
  refine (KC _).mono ?_
  rintro e w1 ⟨rfl, rfl⟩
  go_wp2_with fail
  go_ret
  exact ⟨rfl, ((Below.refl _ _).alloc (Nat.le_refl _) _).alloc (by simp) _⟩
theorem cmp_nulls (n : Int) (s : ByteArray) (n' : Int) (s' : ByteArray) (w : World) : Calls Tryz.prog 13 #[vv 0 n s, vv 0 n' s'] w fun e w' => e = .returned (.int .i64 0) ∧ Below w.heap.size w w' := by
  have KC := content_null n s
  have q0 := as_nothing_nothing
  go_enter Tryz.func13, Tryz.ntmps13
  go_wp2_with fail
  refine (KC _).mono ?_
  rintro e w1 ⟨rfl, hb⟩
  have HB := Lib.hid (two_boxes _ _ _ _ _ _ _ _ _ hb).2.2
  clear hb KC
  go_wp2_with fail
  go_ret
  exact ⟨rfl, HB.out⟩
theorem cmp_ints (k n : Int) (s : ByteArray) (n' : Int) (s' : ByteArray) (hk : k ≠ 0 ∧ k ≠ 2 ∧ k ≠ 3) (w : World) : Calls Tryz.prog 13 #[vv k n s, vv k n' s'] w fun e w' => e = .returned (.int .i64 (cmpI n n')) ∧ Below w.heap.size w w' := by
  have KC := content_any k n s
  have KD := Tryz.cmp_Compare_int n n'
  have hc : ctV k n s = .iface 55 (.int .i64 n) ∨ ctV k n s = .iface 56 (.int .i64 n) ∨ ctV k n s = .iface 57 (.int .i64 n) := by
    unfold ctV
    rw [if_neg hk.1, if_neg hk.2.1, if_neg hk.2.2]
    split
    · exact .inl rfl
    · split
      · exact .inr (.inl rfl)
      · exact .inr (.inr rfl)
  have e1 : (k == k) = true := by simp
  have e2 : (k != k) = false := by simp
  have q0 := as_whole_nothing
  have q1 := as_whole_float
  have q2 := as_whole_str
  have r0 := as_truth_nothing
  have r1 := as_truth_float
  have r2 := as_truth_str
  have s0 := as_other_nothing
  have s1 := as_other_float
  have s2 := as_other_str
  clear hk
  rcases hc with hc | hc | hc
  all_goals (
    rw [hc] at KC
    clear hc
    go_enter Tryz.func13, Tryz.ntmps13
    go_wp2_with fail
    refine (KC _).mono ?_
    rintro e w1 ⟨rfl, hb⟩
    obtain ⟨⟨a0, a1, a2⟩, ⟨b0, b1, b2⟩, hB⟩ := two_boxes _ _ _ _ _ _ _ _ _ hb
    have HB := Lib.hid hB
    clear hb KC hB
    go_wp2_with fail
    refine (KD _).mono ?_
    rintro e w2 ⟨rfl, rfl⟩
    go_wp2_with fail
    go_ret
    exact ⟨rfl, HB.out⟩)
theorem cmp_floats (n n' : Nat) (s s' : ByteArray) (hn : n < 18446744073709551616) (hn' : n' < 18446744073709551616) (w : World) : Calls Tryz.prog 13 #[vv 2 (iw n) s, vv 2 (iw n') s'] w fun e w' => e = .returned (.int .i64 (cmpK n n')) ∧ Below w.heap.size w w' := by
  have KC := content_float (iw n) s
  have KD := cmp_any n n' hn hn'
  generalize iw n = m at *
  generalize iw n' = m' at *
  have q0 := as_float_nothing
  have q1 := as_float_float
  clear hn hn'
  go_enter Tryz.func13, Tryz.ntmps13
  go_wp2_with fail
  refine (KC _).mono ?_
  rintro e w1 ⟨rfl, hb⟩
  obtain ⟨⟨a0, a1, a2⟩, ⟨b0, b1, b2⟩, hB⟩ := two_boxes _ _ _ _ _ _ _ _ _ hb
  have HB := Lib.hid hB
  clear hb KC hB
  go_wp2_with fail
  refine (KD _).mono ?_
  rintro e w2 ⟨rfl, rfl⟩
  go_wp2_with fail
  go_ret
  exact ⟨rfl, HB.out⟩
theorem cmp_strs (n n' : Int) (s s' : ByteArray) (w : World) : Calls Tryz.prog 13 #[vv 3 n s, vv 3 n' s'] w fun e w' => e = .returned (.int .i64 (Lib.compareBytes s.data.toList s'.data.toList)) ∧ Below w.heap.size w w' := by
  have KC := content_str n s
  have KD := Tryz.strings_Compare s s'
  have q0 := as_str_nothing
  have q1 := as_str_float
  have q2 := as_str_str
  go_enter Tryz.func13, Tryz.ntmps13
  go_wp2_with fail
  refine (KC _).mono ?_
  rintro e w1 ⟨rfl, hb⟩
  obtain ⟨⟨a0, a1, a2⟩, ⟨b0, b1, b2⟩, hB⟩ := two_boxes _ _ _ _ _ _ _ _ _ hb
  have HB := Lib.hid hB
  clear hb KC hB
  go_wp2_with fail
  refine (KD _).mono ?_
  rintro e w2 ⟨rfl, rfl⟩
  go_wp2_with fail
  go_ret
  exact ⟨rfl, HB.out⟩
theorem bytes3 : ∀ l m : List UInt8, (Lib.compareBytes l m = 0 ∧ Op.bytesLess l m = false ∧ (l == m) = true) ∨ (Lib.compareBytes l m = -1 ∧ Op.bytesLess l m = true ∧ (l == m) = false) ∨ (Lib.compareBytes l m = 1 ∧ Op.bytesLess l m = false ∧ (l == m) = false)
  | [], [] => .inl ⟨rfl, rfl, rfl⟩
  | [], _ :: _ => .inr (.inl ⟨rfl, rfl, rfl⟩)
  | _ :: _, [] => .inr (.inr ⟨rfl, rfl, rfl⟩)
  | a :: x, b :: y => by
    unfold Lib.compareBytes Op.bytesLess
    rcases Nat.lt_trichotomy a.toNat b.toNat with h | h | h
    · have h1 : a < b := UInt8.lt_iff_toNat_lt.2 h
      have h2 : a ≠ b := fun e => by subst e; omega
      refine .inr (.inl ⟨by rw [if_pos h1], by simp [h1], by simp [h2]⟩)
    · obtain rfl : a = b := UInt8.toNat_inj.1 h
      have h1 : ¬ a < a := fun e => by have := UInt8.lt_iff_toNat_lt.1 e; omega
      rw [if_neg h1, if_neg h1]
      rcases bytes3 x y with ⟨c1, c2, c3⟩ | ⟨c1, c2, c3⟩ | ⟨c1, c2, c3⟩
      · exact .inl ⟨c1, by simp [c2], by simpa using c3⟩
      · exact .inr (.inl ⟨c1, by simp [c2], by simpa using c3⟩)
      · exact .inr (.inr ⟨c1, by simp [c2], by simpa using c3⟩)
    · have h1 : b < a := UInt8.lt_iff_toNat_lt.2 h
      have h2 : a ≠ b := fun e => by subst e; omega
      have h3 : ¬ a < b := fun e => by have := UInt8.lt_iff_toNat_lt.1 e; omega
      exact .inr (.inr ⟨by rw [if_neg h3, if_pos h1], by simp [h3, h2], by simp [h2]⟩)
theorem cmpB_swap : ∀ l m : List UInt8, Lib.compareBytes m l = - Lib.compareBytes l m
  | [], [] => rfl
  | [], _ :: _ => rfl
  | _ :: _, [] => rfl
  | a :: x, b :: y => by
    have ih := cmpB_swap x y
    unfold Lib.compareBytes
    rcases Nat.lt_trichotomy a.toNat b.toNat with h | h | h
    · have h1 : a < b := UInt8.lt_iff_toNat_lt.2 h
      have h3 : ¬ b < a := fun e => by have := UInt8.lt_iff_toNat_lt.1 e; omega
      rw [if_pos h1, if_neg h3, if_pos h1]
      rfl
    · obtain rfl : a = b := UInt8.toNat_inj.1 h
      have h1 : ¬ a < a := fun e => by have := UInt8.lt_iff_toNat_lt.1 e; omega
      rw [if_neg h1, if_neg h1, if_neg h1, if_neg h1, ih]
    · have h1 : b < a := UInt8.lt_iff_toNat_lt.2 h
      have h3 : ¬ a < b := fun e => by have := UInt8.lt_iff_toNat_lt.1 e; omega
      rw [if_pos h1, if_neg h3, if_pos h1]
theorem cmpB_trans : ∀ l m r : List UInt8, Lib.compareBytes l m ≤ 0 → Lib.compareBytes m r ≤ 0 → Lib.compareBytes l r ≤ 0
  | [], _, [], _, _ => by simp [Lib.compareBytes]
  | [], _, _ :: _, _, _ => by simp [Lib.compareBytes]
  | _ :: _, [], _, h, _ => by simp [Lib.compareBytes] at h
  | _ :: _, _ :: _, [], _, h => by simp [Lib.compareBytes] at h
  | a :: x, b :: y, c :: z, h1, h2 => by
    have ih := cmpB_trans x y z
    unfold Lib.compareBytes at h1 h2 ⊢
    simp only [UInt8.lt_iff_toNat_lt] at h1 h2 ⊢
    split at h1
    · split at h2
      · rw [if_pos (by omega)]; decide
      · split at h2
        · omega
        · rw [if_pos (by omega)]; decide
    · split at h1
      · omega
      · split at h2
        · rw [if_pos (by omega)]; decide
        · split at h2
          · omega
          · rw [if_neg (by omega), if_neg (by omega)]
            exact ih h1 h2
/-- the word of an int -/
def wi (n : Int) : Nat := (n % 18446744073709551616).toNat
theorem wi_lt (n : Int) : wi n < 18446744073709551616 := by unfold wi; omega
theorem iw_wi (n : Int) (h0 : -9223372036854775808 ≤ n) (h1 : n < 9223372036854775808) : iw (wi n) = n := by unfold iw wi; split <;> omega
/-- which of two values comes first -/
def cmpV (k n : Int) (s : ByteArray) (k' n' : Int) (s' : ByteArray) : Int :=
  if k = k' then if k = 0 then 0 else if k = 2 then cmpK (wi n) (wi n') else if k = 3 then Lib.compareBytes s.data.toList s'.data.toList else cmpI n n' else cmpI k k'
theorem vcmp_any (k n : Int) (s : ByteArray) (k' n' : Int) (s' : ByteArray) (h0 : -9223372036854775808 ≤ n) (h1 : n < 9223372036854775808) (h2 : -9223372036854775808 ≤ n') (h3 : n' < 9223372036854775808) (w : World) :
    Calls Tryz.prog 13 #[vv k n s, vv k' n' s'] w fun e w' => e = .returned (.int .i64 (cmpV k n s k' n' s')) ∧ Below w.heap.size w w' := by
  unfold cmpV
  by_cases hk : k = k'
  · subst hk
    rw [if_pos rfl]
    by_cases c0 : k = 0
    · subst c0; rw [if_pos rfl]; exact cmp_nulls n s n' s' w
    rw [if_neg c0]
    by_cases c2 : k = 2
    · subst c2
      rw [if_pos rfl]
      have := cmp_floats (wi n) (wi n') s s' (wi_lt n) (wi_lt n') w
      rwa [iw_wi n h0 h1, iw_wi n' h2 h3] at this
    rw [if_neg c2]
    by_cases c3 : k = 3
    · subst c3; rw [if_pos rfl]; exact cmp_strs n n' s s' w
    rw [if_neg c3]
    exact cmp_ints k n s n' s' ⟨c0, c2, c3⟩ w
  · rw [if_neg hk]; exact cmp_kinds k n s k' n' s' hk w
theorem cmpI_swap (x y : Int) : cmpI y x = - cmpI x y := by unfold cmpI; split <;> split <;> first | omega | (split <;> omega)
theorem cmpI_trans (x y z : Int) (h : cmpI x y ≤ 0) (h' : cmpI y z ≤ 0) : cmpI x z ≤ 0 := by
  have e : ∀ a b, cmpI a b ≤ 0 ↔ a ≤ b := fun a b => by unfold cmpI; split <;> first | omega | (split <;> omega)
  rw [e] at *
  omega
theorem cmpK_swap (x y : Nat) : cmpK y x = - cmpK x y := by unfold cmpK; split <;> split <;> first | omega | (split <;> omega)
theorem cmpK_trans (x y z : Nat) (h : cmpK x y ≤ 0) (h' : cmpK y z ≤ 0) : cmpK x z ≤ 0 := by
  have e : ∀ a b, cmpK a b ≤ 0 ↔ keyW a ≤ keyW b := fun a b => by unfold cmpK; split <;> first | omega | (split <;> omega)
  rw [e] at *
  omega
theorem cmpV_swap (k n : Int) (s : ByteArray) (k' n' : Int) (s' : ByteArray) : cmpV k' n' s' k n s = - cmpV k n s k' n' s' := by
  unfold cmpV
  by_cases hk : k = k'
  · subst hk
    rw [if_pos rfl, if_pos rfl]
    by_cases c0 : k = 0
    · rw [if_pos c0, if_pos c0]; rfl
    rw [if_neg c0, if_neg c0]
    by_cases c2 : k = 2
    · rw [if_pos c2, if_pos c2]; exact cmpK_swap _ _
    rw [if_neg c2, if_neg c2]
    by_cases c3 : k = 3
    · rw [if_pos c3, if_pos c3]; exact cmpB_swap _ _
    rw [if_neg c3, if_neg c3]; exact cmpI_swap _ _
  · rw [if_neg hk, if_neg (Ne.symm hk)]; exact cmpI_swap _ _
theorem cmpV_trans (k n : Int) (s : ByteArray) (k' n' : Int) (s' : ByteArray) (q m : Int) (r : ByteArray) (h : cmpV k n s k' n' s' ≤ 0) (h' : cmpV k' n' s' q m r ≤ 0) : cmpV k n s q m r ≤ 0 := by
  have e : ∀ a b, cmpI a b ≤ 0 ↔ a ≤ b := fun a b => by unfold cmpI; split <;> first | omega | (split <;> omega)
  unfold cmpV at *
  by_cases hk : k = k'
  · subst hk
    rw [if_pos rfl] at h
    by_cases hq : k = q
    · subst hq
      rw [if_pos rfl] at h' ⊢
      by_cases c0 : k = 0
      · rw [if_pos c0]; decide
      rw [if_neg c0] at *
      by_cases c2 : k = 2
      · rw [if_pos c2] at *; exact cmpK_trans _ _ _ h h'
      rw [if_neg c2] at *
      by_cases c3 : k = 3
      · rw [if_pos c3] at *; exact cmpB_trans _ _ _ h h'
      rw [if_neg c3] at *; exact cmpI_trans _ _ _ h h'
    · rw [if_neg hq] at h' ⊢; exact h'
  · rw [if_neg hk] at h
    rw [e] at h
    by_cases hq : k' = q
    · subst hq
      rw [if_neg hk, e]; exact h
    · rw [if_neg hq, e] at h'
      rw [if_neg (by omega), e]; omega
end Go.Proofs.YtfmhdnefcapjgaaGreatDoor
/- A drawn region by one order: what yields the same in every world that meets S comes first, then the rest one after another; behind the last one S need not hold. Conditions: as stated. -/
set_option maxRecDepth 100000
namespace Go.Proofs.YtfmhdnefcapjgaaGreatDoor
open Go.RowKit

section
variable {P : Program} {ops : Array Oper} {Q : Exit → Act → World → Prop} {md : Region.Mode} {S : World → Prop} {st : Nat}

/-- whatever order is picked; S holds behind each operation but number st -/
def wpAnyT (P : Program) (md : Region.Mode) (ops : Array Oper) (Q : Exit → Act → World → Prop) (S : World → Prop) (st : Nat) : Nat → Array Bool → Act → World → Prop
  | 0, listed, a, w => Region.ready md ops listed = [] ∧ Q .normal a w
  | f + 1, listed, a, w => (Region.ready md ops listed = [] → Q .normal a w) ∧ ∀ i ∈ Region.ready md ops listed, wpOp P ops Q i (fun a' w' => (i ≠ st → S w') ∧ wpAnyT P md ops Q S st f (listed.setIfInBounds i true) a' w') a w
theorem wpAny_of_T : ∀ (f : Nat) (listed : Array Bool) (a : Act) (w : World), wpAnyT P md ops Q S st f listed a w → wpAny P md ops Q f listed a w
  | 0, _, _, _, h => h
  | f + 1, _, _, _, h => ⟨h.1, fun i hi => wpOp_mono (fun a' w' h' => wpAny_of_T f _ a' w' h'.2) (h.2 i hi)⟩

/-- who waits for i does not come up ahead of it -/
theorem not_ready {listed : Array Bool} {i j : Nat} (hi : i ∈ Region.ready md ops listed) (hw : Region.waitsFor md ops j i = true) : j ∉ Region.ready md ops listed := by
  intro hj
  obtain ⟨oj, hoj, e, he, hb, hon⟩ := Region.waitsFor_spec hw
  obtain ⟨_, o, ho, hall⟩ := mem_ready.1 hj
  have e1 : o = oj := Option.some.inj (ho.symm.trans hoj)
  subst e1
  have h1 := hall e he hb
  rw [hon, getD_both (mem_ready.1 hi).1] at h1
  cases h1

theorem wpAnyT_first {i : Nat} {oi : Oper} {v : Value} (hi : ops[i]? = some oi) (hsel : ∀ (j : Nat) (o : Oper) cs b, ops[j]? = some o → o.op ≠ .select cs b)
    (hQ : ∀ c a d v w, Q (.panic c) (Act.put a d v) w → Q (.panic c) a w) (hw : Region.waitsFor md ops st i = true) :
    ∀ (f : Nat) (listed : Array Bool) (a : Act) (w : World),
      (∀ j oj, ops[j]? = some oj → j ≠ i → listed.getD j true = false → (∀ e ∈ oj.after, Region.binds md e = true → e.on ≠ i) → oi.apart ops oj = true) →
      i ∈ Region.ready md ops listed → YieldsIf P ops S oi v a → S w →
      wpAnyT P md ops Q S st f (listed.setIfInBounds i true) (a.put oi.dst v) w → wpAnyT P md ops Q S st (f + 1) listed a w := by
  intro f
  induction f with
  | zero =>
    intro listed a w _ hr hy hS H
    refine ⟨fun h => (by rw [h] at hr; cases hr), fun j hj => ?_⟩
    by_cases hji : j = i
    · subst hji
      exact hy.wpOp hi hS ⟨fun _ => hS, H⟩
    · have := ready_mono hj hji
      rw [H.1] at this
      cases this
  | succ f ih =>
    intro listed a w hfree hr hy hS H
    refine ⟨fun h => (by rw [h] at hr; cases hr), fun j hj => ?_⟩
    by_cases hji : j = i
    · subst hji
      exact hy.wpOp hi hS ⟨fun _ => hS, H⟩
    · have hjst : j ≠ st := fun e => not_ready hr hw (e ▸ hj)
      have h1 := H.2 j (ready_mono hj hji)
      obtain ⟨hjun, oj, hoj, hall⟩ := mem_ready.1 hj
      have hnot : ∀ e ∈ oj.after, Region.binds md e = true → e.on ≠ i := fun e he hb heq => by
        have h1 := hall e he hb
        rw [heq, getD_both (mem_ready.1 hr).1] at h1
        cases h1
      have h2 := wpOp_putIf hoj (hfree j oj hoj hji hjun hnot) (fun cs b => hsel i oi cs b hi) (fun cs b => hsel j oj cs b hoj) (fun c a w => hQ c a _ _ w) hy h1
      have hfree' : ∀ k ok, ops[k]? = some ok → k ≠ i → (listed.setIfInBounds j true).getD k true = false →
          (∀ e ∈ ok.after, Region.binds md e = true → e.on ≠ i) → oi.apart ops ok = true := fun k ok hk hki hun hno => by
        refine hfree k ok hk hki ?_ hno
        by_cases hjk : j = k
        · subst hjk; exact hjun
        · rw [getD_set_ne true hjk] at hun; exact hun
      refine wpOp_mono (fun a' w' h3 => ⟨fun _ => h3.2.1 hjst, ih (listed.setIfInBounds j true) a' w' hfree' (ready_mono hr (Ne.symm hji)) h3.1 (h3.2.1 hjst) ?_⟩) h2
      rw [Array.setIfInBounds_comm _ _ hji]
      exact h3.2.2

/-- the first ones, one after another -/
def wpFirst (P : Program) (ops : Array Oper) (S : World → Prop) (K : Act → Prop) : List Nat → Act → Prop
  | [], a => K a
  | i :: is, a => ∃ o v, ops[i]? = some o ∧ YieldsIf P ops S o v a ∧ wpFirst P ops S K is (a.put o.dst v)
def schFirstB (md : Region.Mode) (ops : Array Oper) (st : Nat) : List Nat → Array Bool → Bool
  | [], _ => true
  | i :: is, listed => (Region.ready md ops listed).contains i && Region.free md ops listed i && Region.waitsFor md ops st i && schFirstB md ops st is (listed.setIfInBounds i true)
def schSetAll : List Nat → Array Bool → Array Bool
  | [], listed => listed
  | i :: is, listed => schSetAll is (listed.setIfInBounds i true)
theorem wpAnyT_firsts (hs : Region.noSelect ops = true) (hQ : ∀ c a d v w, Q (.panic c) (Act.put a d v) w → Q (.panic c) a w) {w : World} (hS : S w) {f : Nat} :
    ∀ (is : List Nat) (listed : Array Bool) (a : Act), schFirstB md ops st is listed = true → wpFirst P ops S (fun a' => wpAnyT P md ops Q S st f (schSetAll is listed) a' w) is a → wpAnyT P md ops Q S st (is.length + f) listed a w
  | [], listed, a, _, h => by rw [List.length_nil, Nat.zero_add]; exact h
  | i :: is, listed, a, hB, h => by
    simp only [schFirstB, Bool.and_eq_true] at hB
    obtain ⟨⟨⟨hr, hf⟩, hw⟩, hB⟩ := hB
    obtain ⟨o, v, ho, hy, h⟩ := h
    rw [List.length_cons, show is.length + 1 + f = (is.length + f) + 1 by omega]
    exact wpAnyT_first ho (Region.noSelect_spec hs) hQ hw _ listed a w (Region.free_spec ho hf) (by simpa using hr) hy hS (wpAnyT_firsts hs hQ hS is _ _ hB h)

/-- the others, one after another -/
def wpRest (P : Program) (ops : Array Oper) (Q : Exit → Act → World → Prop) (S : World → Prop) (st : Nat) : List Nat → Act → World → Prop
  | [], a, w => Q .normal a w
  | i :: is, a, w => wpOp P ops Q i (fun a' w' => (i ≠ st → S w') ∧ wpRest P ops Q S st is a' w') a w
def schRestB (md : Region.Mode) (ops : Array Oper) : List Nat → Array Bool → Bool
  | [], listed => (Region.ready md ops listed).isEmpty
  | i :: is, listed => decide (Region.ready md ops listed = [i]) && schRestB md ops is (listed.setIfInBounds i true)
theorem wpAnyT_rest : ∀ (is : List Nat) (listed : Array Bool) (a : Act) (w : World), schRestB md ops is listed = true → wpRest P ops Q S st is a w → wpAnyT P md ops Q S st is.length listed a w
  | [], listed, a, w, hB, h => ⟨by simpa [schRestB] using hB, h⟩
  | i :: is, listed, a, w, hB, h => by
    simp only [schRestB, Bool.and_eq_true, decide_eq_true_eq] at hB
    refine ⟨fun h0 => (by rw [hB.1] at h0; cases h0), fun j hj => ?_⟩
    rw [hB.1, List.mem_singleton] at hj
    subst hj
    exact wpOp_mono (fun a' w' h' => ⟨h'.1, wpAnyT_rest is _ a' w' hB.2 h'.2⟩) h

/-- the post of one operation -/
def Qn (Q : Exit → Act → World → Prop) (K : Act → World → Prop) : Exit → Act → World → Prop
  | .normal, a, w => K a w
  | e, a, w => Q e a w
theorem qn_lets {K : Act → World → Prop} (h : LetsOut (Qn Q K)) : LetsOut Q := h
theorem wpRest_cons {i : Nat} {is : List Nat} {o : Oper} {a : Act} {w : World} (ho : ops[i]? = some o)
    (h : ∀ K : Act → World → Prop, Shut (∀ a' w', (i ≠ st → S w') → wpRest P ops Q S st is a' w' → K a' w') → wpList P ops (Qn Q K) [o] a w) : wpRest P ops Q S st (i :: is) a w := by
  have h1 := h (fun a' w' => (i ≠ st → S w') ∧ wpRest P ops Q S st is a' w') (fun _ _ x y => ⟨x, y⟩)
  unfold wpRest wpOp
  rw [ho]
  unfold wpList at h1
  show if Region.wanted o (yielded ops a.tmps) = true then _ else _
  split at h1
  · rename_i hw
    rw [if_pos hw]
    rcases h1 with h1 | ⟨h1, h2⟩
    · refine .inl ?_
      unfold Oper.wp at h1 ⊢
      generalize (execOp a.eval o).run P w = r at *
      cases r with
      | ok n w' =>
        cases n <;> simp only [Oper.upon] at h1 ⊢
        case value u => exact h1
        case skip => exact h1
        case defer d => exact h1
        case enter f args =>
          refine Calls.mono h1 fun e w'' he => ?_
          cases e with
          | returned u => exact he
          | panicked c => exact he
          | outgrown => exact qn_lets he
        case row row args => exact Rows.mono h1 fun u w'' he => he
      | halt x w' =>
        cases x <;> simp only [Oper.upon] at h1 ⊢
        case panic u => exact h1
    · exact .inr ⟨h1, qn_lets h2⟩
  · rename_i hw
    rw [if_neg hw]
    exact h1
theorem wpRest_nil {a : Act} {w : World} (h : Q .normal a w) : wpRest P ops (NoPanic Q) S st [] a w := h
theorem wpFirst_nil {K : Act → Prop} {a : Act} (h : K a) : wpFirst P ops S K [] a := h
theorem wpFirst_cons {K : Act → Prop} {i : Nat} {is : List Nat} {o : Oper} {v : Value} {a : Act} (ho : ops[i]? = some o) (hw : Region.wanted o (yielded ops a.tmps) = true) (hy : ∀ w, S w → (execOp a.eval o).run P w = .ok (.value v) w) (h : wpFirst P ops S K is (a.put o.dst v)) : wpFirst P ops S K (i :: is) a :=
  ⟨o, v, ho, .inl ⟨hw, hy⟩, h⟩

def schedB (md : Region.Mode) (ops : Array Oper) (st : Nat) (first rest : List Nat) : Bool :=
  Region.noSelect ops && schFirstB md ops st first (Array.replicate ops.size false) && schRestB md ops rest (schSetAll first (Array.replicate ops.size false)) && decide (first.length + rest.length = ops.size)

/-- a drawn region by one order (that does not panic) -/
theorem wp_region_sched {id : Nat} {a : Act} {w : World} (S : World → Prop) (st : Nat) (first rest : List Nat) (hm : P.follows .mixedOrders = true) (hB : schedB .any ops st first rest = true)
    (hS : S w.drew) (h : wpFirst P ops S (fun a' => wpRest P ops (NoPanic Q) S st rest a' w.drew) first a) : (Code.region id ops true).wp P Q a w := by
  refine wp_region_noPanic ?_
  have hQ : ∀ c a d v w, NoPanic Q (.panic c) (Act.put a d v) w → NoPanic Q (.panic c) a w := fun _ _ _ _ _ h => h
  simp only [schedB, Bool.and_eq_true, decide_eq_true_eq] at hB
  obtain ⟨⟨⟨hs, h1⟩, h2⟩, h3⟩ := hB
  refine wp_region_any hm (wpAny_of_T (S := S) (st := st) _ _ _ _ ?_)
  have mono : ∀ (is : List Nat) (a : Act) (K K' : Act → Prop), (∀ a, K a → K' a) → wpFirst P ops S K is a → wpFirst P ops S K' is a := by
    intro is
    induction is with
    | nil => exact fun a K K' hK h => hK a h
    | cons i is ih =>
      rintro a K K' hK ⟨o, v, ho, hy, h⟩
      exact ⟨o, v, ho, hy, ih _ K K' hK h⟩
  have h4 := wpAnyT_firsts (md := .any) (Q := NoPanic Q) (st := st) (f := rest.length) hs hQ hS first (Array.replicate ops.size false) a h1 (mono first a _ _ (fun a' h' => wpAnyT_rest rest _ a' _ h2 h') h)
  rw [h3] at h4
  exact h4
end
end Go.Proofs.YtfmhdnefcapjgaaGreatDoor
/- A drawn region by one order: operations that yield the same in every world that meets S (those whose guard is false, too) between those that are run. Conditions: as stated. -/
set_option maxRecDepth 100000
namespace Go.Proofs.YtfmhdnefcapjgaaGreatDoor
open Go.RowKit

section
variable {P : Program} {ops : Array Oper} {Q : Exit → Act → World → Prop} {md : Region.Mode} {S : World → Prop} {st : Nat}

/-- what is listed has all listed that it waits for -/
def Closed (md : Region.Mode) (ops : Array Oper) (l : Array Bool) : Prop := ∀ j o, ops[j]? = some o → l.getD j false = true → ∀ e ∈ o.after, Region.binds md e = true → l.getD e.on false = true
theorem Closed.set {l : Array Bool} {j : Nat} (h : Closed md ops l) (hj : j ∈ Region.ready md ops l) : Closed md ops (l.setIfInBounds j true) := fun k o ho hk e he hb => by
  by_cases hjk : j = k
  · subst hjk
    obtain ⟨_, o', ho', hall⟩ := mem_ready.1 hj
    rw [ho'] at ho
    cases ho
    exact getD_set_true (hall e he hb)
  · rw [getD_set_ne false hjk] at hk
    exact getD_set_true (h k o ho hk e he hb)
theorem closed_none (n : Nat) : Closed md ops (Array.replicate n false) := fun j o ho hj => by
  rw [getD_replicate_false] at hj; cases hj
/-- k waits for i, maybe by others -/
def waitsT (md : Region.Mode) (ops : Array Oper) (i : Nat) : Nat → Nat → Bool
  | 0, _ => false
  | f + 1, k => Region.waitsFor md ops k i || (List.range ops.size).any fun x => Region.waitsFor md ops k x && waitsT md ops i f x
theorem waitsT_not {l : Array Bool} {i : Nat} (hc : Closed md ops l) (hi : i ∈ Region.ready md ops l) : ∀ (f k : Nat), waitsT md ops i f k = true → k ∉ Region.ready md ops l ∧ l.getD k false = false
  | 0, k, h => by simp [waitsT] at h
  | f + 1, k, h => by
    have key : ∀ x, Region.waitsFor md ops k x = true → l.getD x false = false → k ∉ Region.ready md ops l ∧ l.getD k false = false := fun x hx hl => by
      obtain ⟨o, ho, e, he, hb, hon⟩ := Region.waitsFor_spec hx
      subst hon
      refine ⟨fun hk => ?_, ?_⟩
      · obtain ⟨_, o', ho', hall⟩ := mem_ready.1 hk
        rw [ho] at ho'
        cases ho'
        rw [hall e he hb] at hl; cases hl
      · cases hg : l.getD k false with
        | false => rfl
        | true =>
          rw [hc k o ho hg e he hb] at hl; cases hl
    unfold waitsT at h
    simp only [Bool.or_eq_true, List.any_eq_true, Bool.and_eq_true] at h
    rcases h with h | ⟨x, _, h1, h2⟩
    · exact key i h (getD_both (mem_ready.1 hi).1)
    · exact key x h1 (waitsT_not hc hi f x h2).2

theorem wpAnyT_firstI {i : Nat} {oi : Oper} {v : Value} (hi : ops[i]? = some oi) (hsel : ∀ (j : Nat) (o : Oper) cs b, ops[j]? = some o → o.op ≠ .select cs b)
    (hQ : ∀ c a d v w, Q (.panic c) (Act.put a d v) w → Q (.panic c) a w) (hw : ∀ l, Closed md ops l → i ∈ Region.ready md ops l → st ∉ Region.ready md ops l) :
    ∀ (f : Nat) (listed : Array Bool) (a : Act) (w : World),
      (∀ j oj, ops[j]? = some oj → j ≠ i → listed.getD j true = false → (∀ e ∈ oj.after, Region.binds md e = true → e.on ≠ i) → oi.apart ops oj = true) →
      Closed md ops listed → i ∈ Region.ready md ops listed → YieldsIf P ops S oi v a → S w →
      wpAnyT P md ops Q S st f (listed.setIfInBounds i true) (a.put oi.dst v) w → wpAnyT P md ops Q S st (f + 1) listed a w := by
  intro f
  induction f with
  | zero =>
    intro listed a w _ _ hr hy hS H
    refine ⟨fun h => (by rw [h] at hr; cases hr), fun j hj => ?_⟩
    by_cases hji : j = i
    · subst hji
      exact hy.wpOp hi hS ⟨fun _ => hS, H⟩
    · have := ready_mono hj hji
      rw [H.1] at this
      cases this
  | succ f ih =>
    intro listed a w hfree hcl hr hy hS H
    refine ⟨fun h => (by rw [h] at hr; cases hr), fun j hj => ?_⟩
    by_cases hji : j = i
    · subst hji
      exact hy.wpOp hi hS ⟨fun _ => hS, H⟩
    · have hjst : j ≠ st := fun e => hw _ hcl hr (e ▸ hj)
      have h1 := H.2 j (ready_mono hj hji)
      obtain ⟨hjun, oj, hoj, hall⟩ := mem_ready.1 hj
      have hnot : ∀ e ∈ oj.after, Region.binds md e = true → e.on ≠ i := fun e he hb heq => by
        have h1 := hall e he hb
        rw [heq, getD_both (mem_ready.1 hr).1] at h1
        cases h1
      have h2 := wpOp_putIf hoj (hfree j oj hoj hji hjun hnot) (fun cs b => hsel i oi cs b hi) (fun cs b => hsel j oj cs b hoj) (fun c a w => hQ c a _ _ w) hy h1
      have hfree' : ∀ k ok, ops[k]? = some ok → k ≠ i → (listed.setIfInBounds j true).getD k true = false →
          (∀ e ∈ ok.after, Region.binds md e = true → e.on ≠ i) → oi.apart ops ok = true := fun k ok hk hki hun hno => by
        refine hfree k ok hk hki ?_ hno
        by_cases hjk : j = k
        · subst hjk; exact hjun
        · rw [getD_set_ne true hjk] at hun; exact hun
      refine wpOp_mono (fun a' w' h3 => ⟨fun _ => h3.2.1 hjst, ih (listed.setIfInBounds j true) a' w' hfree' (hcl.set hj) (ready_mono hr (Ne.symm hji)) h3.1 (h3.2.1 hjst) ?_⟩) h2
      rw [Array.setIfInBounds_comm _ _ hji]
      exact h3.2.2

theorem never_ready {l : Array Bool} (h : ops.size ≤ st) : st ∉ Region.ready md ops l := fun hj => by
  obtain ⟨_, o, ho, _⟩ := mem_ready.1 hj
  rw [Array.getElem?_eq_none h] at ho
  cases ho

/-- one after another: taken (true) or run (false) -/
def wpMix (P : Program) (ops : Array Oper) (Q : Exit → Act → World → Prop) (S : World → Prop) (st : Nat) : List (Bool × Nat) → Act → World → Prop
  | [], a, w => Q .normal a w
  | (true, i) :: is, a, w => ∃ o v, ops[i]? = some o ∧ YieldsIf P ops S o v a ∧ wpMix P ops Q S st is (a.put o.dst v) w
  | (false, i) :: is, a, w => wpOp P ops Q i (fun a' w' => (i ≠ st → S w') ∧ wpMix P ops Q S st is a' w') a w
def mixB (md : Region.Mode) (ops : Array Oper) (st : Nat) : List (Bool × Nat) → Array Bool → Bool
  | [], listed => (Region.ready md ops listed).isEmpty
  | (true, i) :: is, listed => (Region.ready md ops listed).contains i && Region.free md ops listed i && (waitsT md ops i 8 st || decide (ops.size ≤ st)) && mixB md ops st is (listed.setIfInBounds i true)
  | (false, i) :: is, listed => decide (Region.ready md ops listed = [i]) && (decide (i ≠ st) || is.isEmpty) && mixB md ops st is (listed.setIfInBounds i true)
theorem wpAnyT_mix (hs : Region.noSelect ops = true) (hQ : ∀ c a d v w, Q (.panic c) (Act.put a d v) w → Q (.panic c) a w) :
    ∀ (is : List (Bool × Nat)) (listed : Array Bool) (a : Act) (w : World), Closed md ops listed → mixB md ops st is listed = true → (is ≠ [] → S w) → wpMix P ops Q S st is a w → wpAnyT P md ops Q S st is.length listed a w
  | [], listed, a, w, _, hB, _, h => ⟨by simpa [mixB] using hB, h⟩
  | (true, i) :: is, listed, a, w, hcl, hB, hS, h => by
    simp only [mixB, Bool.and_eq_true, Bool.or_eq_true, decide_eq_true_eq] at hB
    obtain ⟨⟨⟨hr, hf⟩, hw⟩, hB⟩ := hB
    have hw' : ∀ l, Closed md ops l → i ∈ Region.ready md ops l → st ∉ Region.ready md ops l := fun l hc hl => by
      rcases hw with hw | hw
      · exact (waitsT_not hc hl _ _ hw).1
      · exact never_ready hw
    obtain ⟨o, v, ho, hy, h⟩ := h
    have hSw := hS (by simp)
    exact wpAnyT_firstI ho (Region.noSelect_spec hs) hQ hw' _ listed a w (Region.free_spec ho hf) hcl (by simpa using hr) hy hSw (wpAnyT_mix hs hQ is _ _ w (hcl.set (by simpa using hr)) hB (fun _ => hSw) h)
  | (false, i) :: is, listed, a, w, hcl, hB, hS, h => by
    simp only [mixB, Bool.and_eq_true, Bool.or_eq_true, decide_eq_true_eq, List.isEmpty_iff] at hB
    obtain ⟨⟨hr, hi⟩, hB⟩ := hB
    refine ⟨fun h0 => (by rw [hr] at h0; cases h0), fun j hj => ?_⟩
    have hj' := hj
    rw [hr, List.mem_singleton] at hj
    subst hj
    exact wpOp_mono (fun a' w' h' => ⟨h'.1, wpAnyT_mix hs hQ is _ a' w' (hcl.set hj') hB (fun hne => by
      rcases hi with hi | hi
      · exact h'.1 hi
      · exact absurd hi hne) h'.2⟩) h

theorem wpMix_nil {a : Act} {w : World} (h : Q .normal a w) : wpMix P ops (NoPanic Q) S st [] a w := h
theorem wpMix_take {i : Nat} {is : List (Bool × Nat)} {d op ty pos af g} {v : Value} {a : Act} {w : World} (ho : ops[i]? = some ⟨d, op, ty, pos, af, g⟩) (hw : Region.wanted ⟨d, op, ty, pos, af, g⟩ (yielded ops a.tmps) = true) (hy : ∀ w, S w → (execOp a.eval ⟨d, op, ty, pos, af, g⟩).run P w = .ok (.value v) w) (h : wpMix P ops Q S st is (a.put d v) w) : wpMix P ops Q S st ((true, i) :: is) a w :=
  ⟨_, v, ho, .inl ⟨hw, hy⟩, h⟩
theorem wpMix_skip {i : Nat} {is : List (Bool × Nat)} {d op ty pos af g} {a : Act} {w : World} (ho : ops[i]? = some ⟨d, op, ty, pos, af, g⟩) (hw : Region.wanted ⟨d, op, ty, pos, af, g⟩ (yielded ops a.tmps) = false) (h : wpMix P ops Q S st is (a.put d undef) w) : wpMix P ops Q S st ((true, i) :: is) a w :=
  ⟨_, undef, ho, .inr ⟨hw, rfl⟩, h⟩
theorem wpMix_run {i : Nat} {is : List (Bool × Nat)} {d op ty pos af g} {a : Act} {w : World} (ho : ops[i]? = some ⟨d, op, ty, pos, af, g⟩)
    (h : ∀ K : Act → World → Prop, Shut (∀ a' w', (i ≠ st → S w') → wpMix P ops Q S st is a' w' → K a' w') → wpList P ops (Qn Q K) [⟨d, op, ty, pos, af, g⟩] a w) : wpMix P ops Q S st ((false, i) :: is) a w := by
  have h1 := h (fun a' w' => (i ≠ st → S w') ∧ wpMix P ops Q S st is a' w') (fun _ _ x y => ⟨x, y⟩)
  unfold wpMix wpOp
  rw [ho]
  unfold wpList at h1
  generalize (⟨d, op, ty, pos, af, g⟩ : Oper) = o at *
  show if Region.wanted o (yielded ops a.tmps) = true then _ else _
  split at h1
  · rename_i hw
    rw [if_pos hw]
    rcases h1 with h1 | ⟨h1, h2⟩
    · refine .inl ?_
      unfold Oper.wp at h1 ⊢
      generalize (execOp a.eval o).run P w = r at *
      cases r with
      | ok n w' =>
        cases n <;> simp only [Oper.upon] at h1 ⊢
        case value u => exact h1
        case skip => exact h1
        case defer d => exact h1
        case enter f args =>
          refine Calls.mono h1 fun e w'' he => ?_
          cases e with
          | returned u => exact he
          | panicked c => exact he
          | outgrown => exact qn_lets he
        case row row args => exact Rows.mono h1 fun u w'' he => he
      | halt x w' =>
        cases x <;> simp only [Oper.upon] at h1 ⊢
        case panic u => exact h1
    · exact .inr ⟨h1, qn_lets h2⟩
  · rename_i hw
    rw [if_neg hw]
    exact h1

/-- a drawn region by one order -/
theorem wp_region_mix {id : Nat} {a : Act} {w : World} (S : World → Prop) (st : Nat) (is : List (Bool × Nat)) (hm : P.follows .mixedOrders = true) (hn : Region.noSelect ops = true) (hl : is.length = ops.size) (hB : mixB .any ops st is (Array.replicate ops.size false) = true)
    (hS : S w.drew) (h : wpMix P ops (NoPanic Q) S st is a w.drew) : (Code.region id ops true).wp P Q a w := by
  refine wp_region_noPanic ?_
  have hQ : ∀ c a d v w, NoPanic Q (.panic c) (Act.put a d v) w → NoPanic Q (.panic c) a w := fun _ _ _ _ _ h => h
  refine wp_region_any hm (wpAny_of_T (S := S) (st := st) _ _ _ _ ?_)
  have h4 := wpAnyT_mix (md := .any) (Q := NoPanic Q) (st := st) hn hQ is (Array.replicate ops.size false) a w.drew (closed_none _) hB (fun _ => hS) h
  rw [hl] at h4
  exact h4
end
end Go.Proofs.YtfmhdnefcapjgaaGreatDoor
/- Values of rows: the text of a Str, a Null is good, the document's examples. Conditions: as stated. -/
set_option maxRecDepth 100000
namespace Go.Proofs.YtfmhdnefcapjgaaGreatDoor
open Go.RowKit Go.Lib

/-- the bound of the library's search is some number -/
def MaxOk (w : World) : Prop := ∃ m, w.cell? ⟨0, 0, none⟩ = some (.int .i64 m)
theorem MaxOk.below {w w' : World} (h : MaxOk w) (hb : Below w.heap.size w w') : MaxOk w' := by
  obtain ⟨m, hm⟩ := h
  exact ⟨m, by rw [hb.cell (World.block_lt_of_cell? _ _ hm)]; exact hm⟩
def quoteB (s : ByteArray) : ByteArray := ⟨#[39]⟩ ++ ⟨(Lib.replaceAll s.data.toList [39] [39, 39]).toArray⟩ ++ ⟨#[39]⟩
theorem replaceK_len (old new : List UInt8) : ∀ (k : Nat) (s : List UInt8), (Lib.replaceK old new k s).length ≤ s.length + k * new.length
  | 0, s => by simp [Lib.replaceK]
  | k + 1, s => by
    unfold Lib.replaceK
    split
    · have : 0 ≤ (k + 1) * new.length := Nat.zero_le _
      omega
    · have ih := replaceK_len old new k (s.drop ((Lib.index s old).toNat + old.length))
      simp only [List.length_append, List.length_take, List.length_drop] at ih ⊢
      have e : (k + 1) * new.length = k * new.length + new.length := Nat.succ_mul _ _
      omega
theorem replaceAll_len (s : List UInt8) (h : Lib.count s [39] ≤ s.length) : (Lib.replaceAll s [39] [39, 39]).length ≤ 3 * s.length := by
  have h1 : Lib.replaceAll s [39] [39, 39] = Lib.replaceK [39] [39, 39] (Lib.replaceNum s [39] (-1)) s := rfl
  have h2 : Lib.replaceNum s [39] (-1) = Lib.count s [39] := by unfold Lib.replaceNum; rw [if_pos (by omega)]
  rw [h1, h2]
  have := replaceK_len [39] [39, 39] (Lib.count s [39]) s
  simp only [List.length_cons, List.length_nil] at this
  omega
theorem quote_count (s : ByteArray) : Lib.countB s ⟨#[39]⟩ ≤ s.size := by
  have := Lib.countB_mul_le ⟨#[39]⟩ (by decide) s.size s (Nat.le_refl _)
  have h2 : (⟨#[39]⟩ : ByteArray).size = 1 := rfl
  rw [h2] at this; omega
theorem strText_any (s : ByteArray) (hs : s.size ≤ 1000000) (w : World) (h : MaxOk w) : Calls Tryz.prog 140 #[.string s] w fun e w' => e = .returned (.string (quoteB s)) ∧ Below w.heap.size w w' := by
  obtain ⟨m, hm⟩ := h
  have hc := quote_count s
  have hl := replaceAll_len s.data.toList (by have h3 := hc; unfold Lib.countB at h3; rw [← Lib.size_eq]; exact h3)
  rw [← Lib.size_eq] at hl
  have KR := fun w hm => Tryz.strings_ReplaceAll s ⟨#[39]⟩ ⟨#[39, 39]⟩ m w (by omega) hm (by decide) (by have h2 : (⟨#[39, 39]⟩ : ByteArray).size = 2 := rfl; rw [h2]; omega)
  unfold quoteB
  have eq : Lib.replaceAll s.data.toList (⟨#[39]⟩ : ByteArray).data.toList (⟨#[39, 39]⟩ : ByteArray).data.toList = Lib.replaceAll s.data.toList [39] [39, 39] := rfl
  rw [eq] at KR
  generalize Lib.replaceAll s.data.toList [39] [39, 39] = Q at *
  have h1 : ¬ 9223372036854775807 < 1 + Q.length := by omega
  have h2 : ¬ 9223372036854775807 < 1 + Q.length + 1 := by omega
  clear hc hs hl eq
  go_enter Tryz.func140, Tryz.ntmps140
  go_wp2_with fail
  refine (KR _ hm).mono ?_
  rintro e w1 ⟨rfl, hb⟩
  go_wp2_with fail
  go_ret
  exact ⟨rfl, hb⟩
theorem m_str_text (v : Value) (w : World) : (method 274 53 v "talus/value.text").run Tryz.prog w = .ok (140, v) w := by kernel_rfl
theorem m_null_good (v : Value) (w : World) : (method 274 51 v "talus/value.good").run Tryz.prog w = .ok (130, v) w := by kernel_rfl
theorem text_str (n : Int) (s : ByteArray) (hs : s.size ≤ 1000000) (w : World) (h : MaxOk w) : Calls Tryz.prog 7 #[vv 3 n s] w fun e w' => e = .returned (.string (quoteB s)) ∧ Below w.heap.size w w' := by
  have KC := content_str n s
  have KT := strText_any s hs
  have mt := m_str_text
  go_enter Tryz.func7, Tryz.ntmps7
  go_wp2_with fail
  refine (KC _).mono ?_
  rintro e w1 ⟨rfl, hb⟩
  have hB := ((Below.refl w.heap.size w).alloc (Nat.le_refl _) _).trans (hb.mono (by simp))
  have hM := h.below hB
  have HB := Lib.hid hB
  clear hb KC hB
  go_wp2_with fail
  refine (KT _ hM).mono ?_
  rintro e w2 ⟨rfl, hb⟩
  have HB2 := Lib.hid (HB.out.trans (hb.mono HB.out.size))
  clear hb
  go_wp2_with fail
  go_ret
  exact ⟨rfl, HB2.out⟩
theorem m_int_good (v : Value) (w : World) : (method 274 55 v "talus/value.good").run Tryz.prog w = .ok (142, v) w := by kernel_rfl
theorem m_float_good (v : Value) (w : World) : (method 274 52 v "talus/value.good").run Tryz.prog w = .ok (133, v) w := by kernel_rfl
theorem m_str_good (v : Value) (w : World) : (method 274 53 v "talus/value.good").run Tryz.prog w = .ok (139, v) w := by kernel_rfl
theorem m_bool_good (v : Value) (w : World) : (method 274 56 v "talus/value.good").run Tryz.prog w = .ok (151, v) w := by kernel_rfl
theorem m_other_good (v : Value) (w : World) : (method 274 57 v "talus/value.good").run Tryz.prog w = .ok (154, v) w := by kernel_rfl


theorem goodNull_any (w : World) : Calls Tryz.prog 130 #[.agg #[]] w fun e w' => e = .returned (.bool true) ∧ Below w.heap.size w w' := by
  go_enter Tryz.func130, Tryz.ntmps130
  go_wp2_with fail
  go_ret
  exact ⟨rfl, (Below.refl _ _).alloc (Nat.le_refl _) _⟩
theorem goodInt_any (n : Int) (w : World) : Calls Tryz.prog 142 #[.int .i64 n] w fun e w' => e = .returned (.bool true) ∧ Below w.heap.size w w' := by
  go_enter Tryz.func142, Tryz.ntmps142
  go_wp2_with fail
  go_ret
  exact ⟨rfl, Below.refl _ _⟩
theorem goodOther_any (n : Int) (w : World) : Calls Tryz.prog 154 #[.int .i64 n] w fun e w' => e = .returned (.bool false) ∧ Below w.heap.size w w' := by
  go_enter Tryz.func154, Tryz.ntmps154
  go_wp2_with fail
  go_ret
  exact ⟨rfl, Below.refl _ _⟩
theorem goodFloat_any (n : Int) (h0 : -9223372036854775808 ≤ n) (h1 : n < 9223372036854775808) (w : World) : Calls Tryz.prog 133 #[.int .i64 n] w fun e w' => e = .returned (.bool (goodW (wi n))) ∧ Below w.heap.size w w' := by
  have KG := good_any (wi n) (wi_lt n)
  rw [iw_wi n h0 h1] at KG
  clear h0 h1
  go_enter Tryz.func133, Tryz.ntmps133
  go_wp2_with fail
  refine (KG _).mono ?_
  rintro e w1 ⟨rfl, rfl⟩
  go_wp2_with fail
  go_ret
  exact ⟨rfl, Below.refl _ _⟩
theorem goodStr_any (s : ByteArray) (w : World) : Calls Tryz.prog 139 #[.string s] w fun e w' => e = .returned (.bool (decide (s.size ≤ 64))) ∧ Below w.heap.size w w' := by
  go_enter Tryz.func139, Tryz.ntmps139
  go_wp2_with fail
  go_ret
  exact ⟨by simp; omega, Below.refl _ _⟩
theorem goodBool_any (n : Int) (w : World) : Calls Tryz.prog 151 #[.int .i64 n] w fun e w' => e = .returned (.bool (n == 0 || n == 1)) ∧ Below w.heap.size w w' := by
  cases e0 : (n == 0) <;> cases e1 : (n == 1)
  all_goals (
    go_enter Tryz.func151, Tryz.ntmps151
    go_wp2_with fail
    go_ret
    exact ⟨rfl, Below.refl _ _⟩)
def sameV (k n : Int) (s : ByteArray) (k' n' : Int) (s' : ByteArray) : Bool := k == k' && (n == n' && s.toList == s'.toList)
theorem eql_val (w : World) (k n : Int) (s : ByteArray) (k' n' : Int) (s' : ByteArray) : (binOp .eql 25 (vv k n s) (vv k' n' s')).run Tryz.prog w = .ok (.bool (sameV k n s k' n' s')) w := by
  have u3 := Tryz.underlying3
  have u9 := Tryz.underlying9
  have hS : Tryz.prog.underlying 25 = some (.struct (Tryz.prog.fieldsOf 25)) := by kernel_rfl
  have hp : Tryz.prog.stoodInHeld 25 = false := by kernel_rfl
  unfold sameV
  rw [run_eql_struct, show (10000 : Nat) = 9999 + 1 from rfl, run_equalIn_agg w 9999 25 _ _ hS hp]
  simp only [Program.fieldsOf, Tryz.underlying25]
  cases e0 : (k == k') <;> cases e1 : (n == n') <;> cases e2 : (s.toList == s'.toList)
  all_goals (
    go_simp
    try simp_all)
theorem guard_val (w : World) (o : BinOp) (x y : Operand) (k n : Int) (s : ByteArray) (k' n' : Int) (s' : ByteArray) : (eqGuard o 25 x y (vv k n s) (vv k' n' s')).run Tryz.prog w = .ok () w :=
  run_eqGuard_agg w o _ x y _ _ (by kernel_rfl)
theorem good_state {w w' : World} {k n : Int} {s : ByteArray} (hb : Below (w.heap.size + 1) (w.alloc (.cells #[.int .i64 k, .int .i64 n, .string s] 25)) w') :
    (w'.cell? ⟨w.heap.size, 0, none⟩ = some (.int .i64 k) ∧ w'.cell? ⟨w.heap.size, 1, none⟩ = some (.int .i64 n) ∧ w'.cell? ⟨w.heap.size, 2, none⟩ = some (.string s)) ∧ Below w.heap.size w w' := by
  have hz : (w.alloc (.cells #[.int .i64 k, .int .i64 n, .string s] 25)).heap.size = w.heap.size + 1 := by simp
  exact ⟨(C3.new w (.int .i64 k) (.int .i64 n) (.string s) 25).keep hb (by omega), ((Below.refl w.heap.size w).alloc (Nat.le_refl _) _).trans (hb.mono (by omega))⟩
theorem good_next {w w1 w2 : World} {o : Obj} (hb : Below (w.heap.size + 1) (w.alloc o) w1) (hk : Below w1.heap.size w1 w2) : Below (w.heap.size + 1) (w.alloc o) w2 := by
  have hz : (w.alloc o).heap.size = w.heap.size + 1 := by simp
  have := hb.size
  exact hb.trans (hk.mono (by omega))
theorem vgood_null (n : Int) (s : ByteArray) (b : Bool) (KM : ∀ w, Calls Tryz.prog 130 #[.agg #[]] w fun e w' => e = .returned (.bool b) ∧ Below w.heap.size w w') (w : World) :
    Calls Tryz.prog 5 #[vv 0 n s] w fun e w' => e = .returned (.bool (b && sameV 0 0 ⟨#[]⟩ 0 n s)) ∧ Below w.heap.size w w' := by
  have KC := content_null n s
  have KV := of_null
  have mg := m_null_good
  have KE := eql_val
  have KU := guard_val
  cases b
  · go_enter Tryz.func5, Tryz.ntmps5
    go_wp2_with fail
    refine (KC _).mono ?_
    rintro e w1 ⟨rfl, hb⟩
    have hb : Below (w.heap.size + 1) (w.alloc (.cells #[.int .i64 0, .int .i64 n, .string s] 25)) w1 := hb.mono (by simp)
    have HB := Lib.hid hb
    have S0 := (good_state hb.drew).1
    clear hb KC
    go_wp2_with fail
    refine wp_region_mix (fun W => W.cell? ⟨w.heap.size, 0, none⟩ = some (.int .i64 0) ∧ W.cell? ⟨w.heap.size, 1, none⟩ = some (.int .i64 n) ∧ W.cell? ⟨w.heap.size, 2, none⟩ = some (.string s)) 9 [(true, 0), (false, 1), (true, 2), (true, 3), (true, 5), (true, 4), (true, 6), (true, 7), (true, 8)] (by kernel_rfl) (by decide +kernel) rfl (by decide +kernel) S0 ?_
    iterate 1
      refine wpMix_take (v := ?_) rfl rfl ?_ ?_
      rotate_left
      · (intro W hW; (try dsimp only at hW); go_simp) <;> with_reducible rfl
      simp only [Act.put, List.setIfInBounds_toArray, List.set_cons_zero, List.set_cons_succ]
    refine wpMix_run rfl ?_
    intro K hK
    go_wp2_with fail
    refine (KM _).mono ?_
    rintro e w2 ⟨rfl, hb2⟩
    have hb3 := good_next HB.out.drew hb2
    have HB3 := Lib.hid hb3
    have S1 := (good_state hb3).1
    clear hb2 hb3 HB
    go_wp2_with fail
    refine hK.out _ _ (fun _ => S1) ?_
    clear hK K
    iterate 1
      refine wpMix_take (v := ?_) rfl rfl ?_ ?_
      rotate_left
      · (intro W hW; (try dsimp only at hW); go_simp) <;> with_reducible rfl
      simp only [Act.put, List.setIfInBounds_toArray, List.set_cons_zero, List.set_cons_succ]
    iterate 4
      refine wpMix_skip rfl rfl ?_
      simp only [Act.put, List.setIfInBounds_toArray, List.set_cons_zero, List.set_cons_succ]
    iterate 2
      refine wpMix_take (v := ?_) rfl rfl ?_ ?_
      rotate_left
      · (intro W hW; (try dsimp only at hW); go_simp) <;> with_reducible rfl
      simp only [Act.put, List.setIfInBounds_toArray, List.set_cons_zero, List.set_cons_succ]
    refine wpMix_nil ?_
    go_wp2_with fail
    go_ret
    exact ⟨rfl, (good_state HB3.out).2⟩
  · go_enter Tryz.func5, Tryz.ntmps5
    go_wp2_with fail
    refine (KC _).mono ?_
    rintro e w1 ⟨rfl, hb⟩
    have hb : Below (w.heap.size + 1) (w.alloc (.cells #[.int .i64 0, .int .i64 n, .string s] 25)) w1 := hb.mono (by simp)
    have HB := Lib.hid hb
    have S0 := (good_state hb.drew).1
    clear hb KC
    go_wp2_with fail
    refine wp_region_mix (fun W => W.cell? ⟨w.heap.size, 0, none⟩ = some (.int .i64 0) ∧ W.cell? ⟨w.heap.size, 1, none⟩ = some (.int .i64 n) ∧ W.cell? ⟨w.heap.size, 2, none⟩ = some (.string s)) 9 [(true, 0), (false, 1), (true, 2), (true, 3), (true, 5), (false, 4), (true, 6), (true, 7), (true, 8)] (by kernel_rfl) (by decide +kernel) rfl (by decide +kernel) S0 ?_
    iterate 1
      refine wpMix_take (v := ?_) rfl rfl ?_ ?_
      rotate_left
      · (intro W hW; (try dsimp only at hW); go_simp) <;> with_reducible rfl
      simp only [Act.put, List.setIfInBounds_toArray, List.set_cons_zero, List.set_cons_succ]
    refine wpMix_run rfl ?_
    intro K hK
    go_wp2_with fail
    refine (KM _).mono ?_
    rintro e w2 ⟨rfl, hb2⟩
    have hb3 := good_next HB.out.drew hb2
    have HB3 := Lib.hid hb3
    have S1 := (good_state hb3).1
    clear hb2 hb3 HB
    go_wp2_with fail
    refine hK.out _ _ (fun _ => S1) ?_
    clear hK K
    iterate 3
      refine wpMix_take (v := ?_) rfl rfl ?_ ?_
      rotate_left
      · (intro W hW; (try dsimp only at hW); go_simp) <;> with_reducible rfl
      simp only [Act.put, List.setIfInBounds_toArray, List.set_cons_zero, List.set_cons_succ]
    refine wpMix_run rfl ?_
    intro K hK
    go_wp2_with fail
    refine (KV _).mono ?_
    rintro e w3 ⟨rfl, hb4⟩
    have hb5 := good_next HB3.out hb4
    have HB5 := Lib.hid hb5
    have S2 := (good_state hb5).1
    clear hb4 hb5 HB3
    go_wp2_with fail
    refine hK.out _ _ (fun _ => S2) ?_
    clear hK K
    iterate 3
      refine wpMix_take (v := ?_) rfl rfl ?_ ?_
      rotate_left
      · (intro W hW; (try dsimp only at hW); go_simp) <;> with_reducible rfl
      simp only [Act.put, List.setIfInBounds_toArray, List.set_cons_zero, List.set_cons_succ]
    refine wpMix_nil ?_
    go_wp2_with fail
    go_ret
    exact ⟨by simp, (good_state HB5.out).2⟩
theorem vgood_int (n : Int) (s : ByteArray) (b : Bool) (KM : ∀ w, Calls Tryz.prog 142 #[.int .i64 n] w fun e w' => e = .returned (.bool b) ∧ Below w.heap.size w w') (w : World) :
    Calls Tryz.prog 5 #[vv 1 n s] w fun e w' => e = .returned (.bool (b && sameV 1 n ⟨#[]⟩ 1 n s)) ∧ Below w.heap.size w w' := by
  have KC := content_int n s
  have KV := of_int n
  have mg := m_int_good
  have KE := eql_val
  have KU := guard_val
  cases b
  · go_enter Tryz.func5, Tryz.ntmps5
    go_wp2_with fail
    refine (KC _).mono ?_
    rintro e w1 ⟨rfl, hb⟩
    have hb : Below (w.heap.size + 1) (w.alloc (.cells #[.int .i64 1, .int .i64 n, .string s] 25)) w1 := hb.mono (by simp)
    have HB := Lib.hid hb
    have S0 := (good_state hb.drew).1
    clear hb KC
    go_wp2_with fail
    refine wp_region_mix (fun W => W.cell? ⟨w.heap.size, 0, none⟩ = some (.int .i64 1) ∧ W.cell? ⟨w.heap.size, 1, none⟩ = some (.int .i64 n) ∧ W.cell? ⟨w.heap.size, 2, none⟩ = some (.string s)) 9 [(true, 0), (false, 1), (true, 2), (true, 3), (true, 5), (true, 4), (true, 6), (true, 7), (true, 8)] (by kernel_rfl) (by decide +kernel) rfl (by decide +kernel) S0 ?_
    iterate 1
      refine wpMix_take (v := ?_) rfl rfl ?_ ?_
      rotate_left
      · (intro W hW; (try dsimp only at hW); go_simp) <;> with_reducible rfl
      simp only [Act.put, List.setIfInBounds_toArray, List.set_cons_zero, List.set_cons_succ]
    refine wpMix_run rfl ?_
    intro K hK
    go_wp2_with fail
    refine (KM _).mono ?_
    rintro e w2 ⟨rfl, hb2⟩
    have hb3 := good_next HB.out.drew hb2
    have HB3 := Lib.hid hb3
    have S1 := (good_state hb3).1
    clear hb2 hb3 HB
    go_wp2_with fail
    refine hK.out _ _ (fun _ => S1) ?_
    clear hK K
    iterate 1
      refine wpMix_take (v := ?_) rfl rfl ?_ ?_
      rotate_left
      · (intro W hW; (try dsimp only at hW); go_simp) <;> with_reducible rfl
      simp only [Act.put, List.setIfInBounds_toArray, List.set_cons_zero, List.set_cons_succ]
    iterate 4
      refine wpMix_skip rfl rfl ?_
      simp only [Act.put, List.setIfInBounds_toArray, List.set_cons_zero, List.set_cons_succ]
    iterate 2
      refine wpMix_take (v := ?_) rfl rfl ?_ ?_
      rotate_left
      · (intro W hW; (try dsimp only at hW); go_simp) <;> with_reducible rfl
      simp only [Act.put, List.setIfInBounds_toArray, List.set_cons_zero, List.set_cons_succ]
    refine wpMix_nil ?_
    go_wp2_with fail
    go_ret
    exact ⟨rfl, (good_state HB3.out).2⟩
  · go_enter Tryz.func5, Tryz.ntmps5
    go_wp2_with fail
    refine (KC _).mono ?_
    rintro e w1 ⟨rfl, hb⟩
    have hb : Below (w.heap.size + 1) (w.alloc (.cells #[.int .i64 1, .int .i64 n, .string s] 25)) w1 := hb.mono (by simp)
    have HB := Lib.hid hb
    have S0 := (good_state hb.drew).1
    clear hb KC
    go_wp2_with fail
    refine wp_region_mix (fun W => W.cell? ⟨w.heap.size, 0, none⟩ = some (.int .i64 1) ∧ W.cell? ⟨w.heap.size, 1, none⟩ = some (.int .i64 n) ∧ W.cell? ⟨w.heap.size, 2, none⟩ = some (.string s)) 9 [(true, 0), (false, 1), (true, 2), (true, 3), (true, 5), (false, 4), (true, 6), (true, 7), (true, 8)] (by kernel_rfl) (by decide +kernel) rfl (by decide +kernel) S0 ?_
    iterate 1
      refine wpMix_take (v := ?_) rfl rfl ?_ ?_
      rotate_left
      · (intro W hW; (try dsimp only at hW); go_simp) <;> with_reducible rfl
      simp only [Act.put, List.setIfInBounds_toArray, List.set_cons_zero, List.set_cons_succ]
    refine wpMix_run rfl ?_
    intro K hK
    go_wp2_with fail
    refine (KM _).mono ?_
    rintro e w2 ⟨rfl, hb2⟩
    have hb3 := good_next HB.out.drew hb2
    have HB3 := Lib.hid hb3
    have S1 := (good_state hb3).1
    clear hb2 hb3 HB
    go_wp2_with fail
    refine hK.out _ _ (fun _ => S1) ?_
    clear hK K
    iterate 3
      refine wpMix_take (v := ?_) rfl rfl ?_ ?_
      rotate_left
      · (intro W hW; (try dsimp only at hW); go_simp) <;> with_reducible rfl
      simp only [Act.put, List.setIfInBounds_toArray, List.set_cons_zero, List.set_cons_succ]
    refine wpMix_run rfl ?_
    intro K hK
    go_wp2_with fail
    refine (KV _).mono ?_
    rintro e w3 ⟨rfl, hb4⟩
    have hb5 := good_next HB3.out hb4
    have HB5 := Lib.hid hb5
    have S2 := (good_state hb5).1
    clear hb4 hb5 HB3
    go_wp2_with fail
    refine hK.out _ _ (fun _ => S2) ?_
    clear hK K
    iterate 3
      refine wpMix_take (v := ?_) rfl rfl ?_ ?_
      rotate_left
      · (intro W hW; (try dsimp only at hW); go_simp) <;> with_reducible rfl
      simp only [Act.put, List.setIfInBounds_toArray, List.set_cons_zero, List.set_cons_succ]
    refine wpMix_nil ?_
    go_wp2_with fail
    go_ret
    exact ⟨by simp, (good_state HB5.out).2⟩
theorem vgood_float (n : Int) (s : ByteArray) (b : Bool) (KM : ∀ w, Calls Tryz.prog 133 #[.int .i64 n] w fun e w' => e = .returned (.bool b) ∧ Below w.heap.size w w') (w : World) :
    Calls Tryz.prog 5 #[vv 2 n s] w fun e w' => e = .returned (.bool (b && sameV 2 n ⟨#[]⟩ 2 n s)) ∧ Below w.heap.size w w' := by
  have KC := content_float n s
  have KV := of_float n
  have mg := m_float_good
  have KE := eql_val
  have KU := guard_val
  cases b
  · go_enter Tryz.func5, Tryz.ntmps5
    go_wp2_with fail
    refine (KC _).mono ?_
    rintro e w1 ⟨rfl, hb⟩
    have hb : Below (w.heap.size + 1) (w.alloc (.cells #[.int .i64 2, .int .i64 n, .string s] 25)) w1 := hb.mono (by simp)
    have HB := Lib.hid hb
    have S0 := (good_state hb.drew).1
    clear hb KC
    go_wp2_with fail
    refine wp_region_mix (fun W => W.cell? ⟨w.heap.size, 0, none⟩ = some (.int .i64 2) ∧ W.cell? ⟨w.heap.size, 1, none⟩ = some (.int .i64 n) ∧ W.cell? ⟨w.heap.size, 2, none⟩ = some (.string s)) 9 [(true, 0), (false, 1), (true, 2), (true, 3), (true, 5), (true, 4), (true, 6), (true, 7), (true, 8)] (by kernel_rfl) (by decide +kernel) rfl (by decide +kernel) S0 ?_
    iterate 1
      refine wpMix_take (v := ?_) rfl rfl ?_ ?_
      rotate_left
      · (intro W hW; (try dsimp only at hW); go_simp) <;> with_reducible rfl
      simp only [Act.put, List.setIfInBounds_toArray, List.set_cons_zero, List.set_cons_succ]
    refine wpMix_run rfl ?_
    intro K hK
    go_wp2_with fail
    refine (KM _).mono ?_
    rintro e w2 ⟨rfl, hb2⟩
    have hb3 := good_next HB.out.drew hb2
    have HB3 := Lib.hid hb3
    have S1 := (good_state hb3).1
    clear hb2 hb3 HB
    go_wp2_with fail
    refine hK.out _ _ (fun _ => S1) ?_
    clear hK K
    iterate 1
      refine wpMix_take (v := ?_) rfl rfl ?_ ?_
      rotate_left
      · (intro W hW; (try dsimp only at hW); go_simp) <;> with_reducible rfl
      simp only [Act.put, List.setIfInBounds_toArray, List.set_cons_zero, List.set_cons_succ]
    iterate 4
      refine wpMix_skip rfl rfl ?_
      simp only [Act.put, List.setIfInBounds_toArray, List.set_cons_zero, List.set_cons_succ]
    iterate 2
      refine wpMix_take (v := ?_) rfl rfl ?_ ?_
      rotate_left
      · (intro W hW; (try dsimp only at hW); go_simp) <;> with_reducible rfl
      simp only [Act.put, List.setIfInBounds_toArray, List.set_cons_zero, List.set_cons_succ]
    refine wpMix_nil ?_
    go_wp2_with fail
    go_ret
    exact ⟨rfl, (good_state HB3.out).2⟩
  · go_enter Tryz.func5, Tryz.ntmps5
    go_wp2_with fail
    refine (KC _).mono ?_
    rintro e w1 ⟨rfl, hb⟩
    have hb : Below (w.heap.size + 1) (w.alloc (.cells #[.int .i64 2, .int .i64 n, .string s] 25)) w1 := hb.mono (by simp)
    have HB := Lib.hid hb
    have S0 := (good_state hb.drew).1
    clear hb KC
    go_wp2_with fail
    refine wp_region_mix (fun W => W.cell? ⟨w.heap.size, 0, none⟩ = some (.int .i64 2) ∧ W.cell? ⟨w.heap.size, 1, none⟩ = some (.int .i64 n) ∧ W.cell? ⟨w.heap.size, 2, none⟩ = some (.string s)) 9 [(true, 0), (false, 1), (true, 2), (true, 3), (true, 5), (false, 4), (true, 6), (true, 7), (true, 8)] (by kernel_rfl) (by decide +kernel) rfl (by decide +kernel) S0 ?_
    iterate 1
      refine wpMix_take (v := ?_) rfl rfl ?_ ?_
      rotate_left
      · (intro W hW; (try dsimp only at hW); go_simp) <;> with_reducible rfl
      simp only [Act.put, List.setIfInBounds_toArray, List.set_cons_zero, List.set_cons_succ]
    refine wpMix_run rfl ?_
    intro K hK
    go_wp2_with fail
    refine (KM _).mono ?_
    rintro e w2 ⟨rfl, hb2⟩
    have hb3 := good_next HB.out.drew hb2
    have HB3 := Lib.hid hb3
    have S1 := (good_state hb3).1
    clear hb2 hb3 HB
    go_wp2_with fail
    refine hK.out _ _ (fun _ => S1) ?_
    clear hK K
    iterate 3
      refine wpMix_take (v := ?_) rfl rfl ?_ ?_
      rotate_left
      · (intro W hW; (try dsimp only at hW); go_simp) <;> with_reducible rfl
      simp only [Act.put, List.setIfInBounds_toArray, List.set_cons_zero, List.set_cons_succ]
    refine wpMix_run rfl ?_
    intro K hK
    go_wp2_with fail
    refine (KV _).mono ?_
    rintro e w3 ⟨rfl, hb4⟩
    have hb5 := good_next HB3.out hb4
    have HB5 := Lib.hid hb5
    have S2 := (good_state hb5).1
    clear hb4 hb5 HB3
    go_wp2_with fail
    refine hK.out _ _ (fun _ => S2) ?_
    clear hK K
    iterate 3
      refine wpMix_take (v := ?_) rfl rfl ?_ ?_
      rotate_left
      · (intro W hW; (try dsimp only at hW); go_simp) <;> with_reducible rfl
      simp only [Act.put, List.setIfInBounds_toArray, List.set_cons_zero, List.set_cons_succ]
    refine wpMix_nil ?_
    go_wp2_with fail
    go_ret
    exact ⟨by simp, (good_state HB5.out).2⟩
theorem vgood_str (n : Int) (s : ByteArray) (b : Bool) (KM : ∀ w, Calls Tryz.prog 139 #[.string s] w fun e w' => e = .returned (.bool b) ∧ Below w.heap.size w w') (w : World) :
    Calls Tryz.prog 5 #[vv 3 n s] w fun e w' => e = .returned (.bool (b && sameV 3 0 s 3 n s)) ∧ Below w.heap.size w w' := by
  have KC := content_str n s
  have KV := of_str s
  have mg := m_str_good
  have KE := eql_val
  have KU := guard_val
  cases b
  · go_enter Tryz.func5, Tryz.ntmps5
    go_wp2_with fail
    refine (KC _).mono ?_
    rintro e w1 ⟨rfl, hb⟩
    have hb : Below (w.heap.size + 1) (w.alloc (.cells #[.int .i64 3, .int .i64 n, .string s] 25)) w1 := hb.mono (by simp)
    have HB := Lib.hid hb
    have S0 := (good_state hb.drew).1
    clear hb KC
    go_wp2_with fail
    refine wp_region_mix (fun W => W.cell? ⟨w.heap.size, 0, none⟩ = some (.int .i64 3) ∧ W.cell? ⟨w.heap.size, 1, none⟩ = some (.int .i64 n) ∧ W.cell? ⟨w.heap.size, 2, none⟩ = some (.string s)) 9 [(true, 0), (false, 1), (true, 2), (true, 3), (true, 5), (true, 4), (true, 6), (true, 7), (true, 8)] (by kernel_rfl) (by decide +kernel) rfl (by decide +kernel) S0 ?_
    iterate 1
      refine wpMix_take (v := ?_) rfl rfl ?_ ?_
      rotate_left
      · (intro W hW; (try dsimp only at hW); go_simp) <;> with_reducible rfl
      simp only [Act.put, List.setIfInBounds_toArray, List.set_cons_zero, List.set_cons_succ]
    refine wpMix_run rfl ?_
    intro K hK
    go_wp2_with fail
    refine (KM _).mono ?_
    rintro e w2 ⟨rfl, hb2⟩
    have hb3 := good_next HB.out.drew hb2
    have HB3 := Lib.hid hb3
    have S1 := (good_state hb3).1
    clear hb2 hb3 HB
    go_wp2_with fail
    refine hK.out _ _ (fun _ => S1) ?_
    clear hK K
    iterate 1
      refine wpMix_take (v := ?_) rfl rfl ?_ ?_
      rotate_left
      · (intro W hW; (try dsimp only at hW); go_simp) <;> with_reducible rfl
      simp only [Act.put, List.setIfInBounds_toArray, List.set_cons_zero, List.set_cons_succ]
    iterate 4
      refine wpMix_skip rfl rfl ?_
      simp only [Act.put, List.setIfInBounds_toArray, List.set_cons_zero, List.set_cons_succ]
    iterate 2
      refine wpMix_take (v := ?_) rfl rfl ?_ ?_
      rotate_left
      · (intro W hW; (try dsimp only at hW); go_simp) <;> with_reducible rfl
      simp only [Act.put, List.setIfInBounds_toArray, List.set_cons_zero, List.set_cons_succ]
    refine wpMix_nil ?_
    go_wp2_with fail
    go_ret
    exact ⟨rfl, (good_state HB3.out).2⟩
  · go_enter Tryz.func5, Tryz.ntmps5
    go_wp2_with fail
    refine (KC _).mono ?_
    rintro e w1 ⟨rfl, hb⟩
    have hb : Below (w.heap.size + 1) (w.alloc (.cells #[.int .i64 3, .int .i64 n, .string s] 25)) w1 := hb.mono (by simp)
    have HB := Lib.hid hb
    have S0 := (good_state hb.drew).1
    clear hb KC
    go_wp2_with fail
    refine wp_region_mix (fun W => W.cell? ⟨w.heap.size, 0, none⟩ = some (.int .i64 3) ∧ W.cell? ⟨w.heap.size, 1, none⟩ = some (.int .i64 n) ∧ W.cell? ⟨w.heap.size, 2, none⟩ = some (.string s)) 9 [(true, 0), (false, 1), (true, 2), (true, 3), (true, 5), (false, 4), (true, 6), (true, 7), (true, 8)] (by kernel_rfl) (by decide +kernel) rfl (by decide +kernel) S0 ?_
    iterate 1
      refine wpMix_take (v := ?_) rfl rfl ?_ ?_
      rotate_left
      · (intro W hW; (try dsimp only at hW); go_simp) <;> with_reducible rfl
      simp only [Act.put, List.setIfInBounds_toArray, List.set_cons_zero, List.set_cons_succ]
    refine wpMix_run rfl ?_
    intro K hK
    go_wp2_with fail
    refine (KM _).mono ?_
    rintro e w2 ⟨rfl, hb2⟩
    have hb3 := good_next HB.out.drew hb2
    have HB3 := Lib.hid hb3
    have S1 := (good_state hb3).1
    clear hb2 hb3 HB
    go_wp2_with fail
    refine hK.out _ _ (fun _ => S1) ?_
    clear hK K
    iterate 3
      refine wpMix_take (v := ?_) rfl rfl ?_ ?_
      rotate_left
      · (intro W hW; (try dsimp only at hW); go_simp) <;> with_reducible rfl
      simp only [Act.put, List.setIfInBounds_toArray, List.set_cons_zero, List.set_cons_succ]
    refine wpMix_run rfl ?_
    intro K hK
    go_wp2_with fail
    refine (KV _).mono ?_
    rintro e w3 ⟨rfl, hb4⟩
    have hb5 := good_next HB3.out hb4
    have HB5 := Lib.hid hb5
    have S2 := (good_state hb5).1
    clear hb4 hb5 HB3
    go_wp2_with fail
    refine hK.out _ _ (fun _ => S2) ?_
    clear hK K
    iterate 3
      refine wpMix_take (v := ?_) rfl rfl ?_ ?_
      rotate_left
      · (intro W hW; (try dsimp only at hW); go_simp) <;> with_reducible rfl
      simp only [Act.put, List.setIfInBounds_toArray, List.set_cons_zero, List.set_cons_succ]
    refine wpMix_nil ?_
    go_wp2_with fail
    go_ret
    exact ⟨by simp, (good_state HB5.out).2⟩
theorem vgood_bool (n : Int) (s : ByteArray) (b : Bool) (KM : ∀ w, Calls Tryz.prog 151 #[.int .i64 n] w fun e w' => e = .returned (.bool b) ∧ Below w.heap.size w w') (w : World) :
    Calls Tryz.prog 5 #[vv 4 n s] w fun e w' => e = .returned (.bool (b && sameV 4 n ⟨#[]⟩ 4 n s)) ∧ Below w.heap.size w w' := by
  have KC := content_bool n s
  have KV := of_truth n
  have mg := m_bool_good
  have KE := eql_val
  have KU := guard_val
  cases b
  · go_enter Tryz.func5, Tryz.ntmps5
    go_wp2_with fail
    refine (KC _).mono ?_
    rintro e w1 ⟨rfl, hb⟩
    have hb : Below (w.heap.size + 1) (w.alloc (.cells #[.int .i64 4, .int .i64 n, .string s] 25)) w1 := hb.mono (by simp)
    have HB := Lib.hid hb
    have S0 := (good_state hb.drew).1
    clear hb KC
    go_wp2_with fail
    refine wp_region_mix (fun W => W.cell? ⟨w.heap.size, 0, none⟩ = some (.int .i64 4) ∧ W.cell? ⟨w.heap.size, 1, none⟩ = some (.int .i64 n) ∧ W.cell? ⟨w.heap.size, 2, none⟩ = some (.string s)) 9 [(true, 0), (false, 1), (true, 2), (true, 3), (true, 5), (true, 4), (true, 6), (true, 7), (true, 8)] (by kernel_rfl) (by decide +kernel) rfl (by decide +kernel) S0 ?_
    iterate 1
      refine wpMix_take (v := ?_) rfl rfl ?_ ?_
      rotate_left
      · (intro W hW; (try dsimp only at hW); go_simp) <;> with_reducible rfl
      simp only [Act.put, List.setIfInBounds_toArray, List.set_cons_zero, List.set_cons_succ]
    refine wpMix_run rfl ?_
    intro K hK
    go_wp2_with fail
    refine (KM _).mono ?_
    rintro e w2 ⟨rfl, hb2⟩
    have hb3 := good_next HB.out.drew hb2
    have HB3 := Lib.hid hb3
    have S1 := (good_state hb3).1
    clear hb2 hb3 HB
    go_wp2_with fail
    refine hK.out _ _ (fun _ => S1) ?_
    clear hK K
    iterate 1
      refine wpMix_take (v := ?_) rfl rfl ?_ ?_
      rotate_left
      · (intro W hW; (try dsimp only at hW); go_simp) <;> with_reducible rfl
      simp only [Act.put, List.setIfInBounds_toArray, List.set_cons_zero, List.set_cons_succ]
    iterate 4
      refine wpMix_skip rfl rfl ?_
      simp only [Act.put, List.setIfInBounds_toArray, List.set_cons_zero, List.set_cons_succ]
    iterate 2
      refine wpMix_take (v := ?_) rfl rfl ?_ ?_
      rotate_left
      · (intro W hW; (try dsimp only at hW); go_simp) <;> with_reducible rfl
      simp only [Act.put, List.setIfInBounds_toArray, List.set_cons_zero, List.set_cons_succ]
    refine wpMix_nil ?_
    go_wp2_with fail
    go_ret
    exact ⟨rfl, (good_state HB3.out).2⟩
  · go_enter Tryz.func5, Tryz.ntmps5
    go_wp2_with fail
    refine (KC _).mono ?_
    rintro e w1 ⟨rfl, hb⟩
    have hb : Below (w.heap.size + 1) (w.alloc (.cells #[.int .i64 4, .int .i64 n, .string s] 25)) w1 := hb.mono (by simp)
    have HB := Lib.hid hb
    have S0 := (good_state hb.drew).1
    clear hb KC
    go_wp2_with fail
    refine wp_region_mix (fun W => W.cell? ⟨w.heap.size, 0, none⟩ = some (.int .i64 4) ∧ W.cell? ⟨w.heap.size, 1, none⟩ = some (.int .i64 n) ∧ W.cell? ⟨w.heap.size, 2, none⟩ = some (.string s)) 9 [(true, 0), (false, 1), (true, 2), (true, 3), (true, 5), (false, 4), (true, 6), (true, 7), (true, 8)] (by kernel_rfl) (by decide +kernel) rfl (by decide +kernel) S0 ?_
    iterate 1
      refine wpMix_take (v := ?_) rfl rfl ?_ ?_
      rotate_left
      · (intro W hW; (try dsimp only at hW); go_simp) <;> with_reducible rfl
      simp only [Act.put, List.setIfInBounds_toArray, List.set_cons_zero, List.set_cons_succ]
    refine wpMix_run rfl ?_
    intro K hK
    go_wp2_with fail
    refine (KM _).mono ?_
    rintro e w2 ⟨rfl, hb2⟩
    have hb3 := good_next HB.out.drew hb2
    have HB3 := Lib.hid hb3
    have S1 := (good_state hb3).1
    clear hb2 hb3 HB
    go_wp2_with fail
    refine hK.out _ _ (fun _ => S1) ?_
    clear hK K
    iterate 3
      refine wpMix_take (v := ?_) rfl rfl ?_ ?_
      rotate_left
      · (intro W hW; (try dsimp only at hW); go_simp) <;> with_reducible rfl
      simp only [Act.put, List.setIfInBounds_toArray, List.set_cons_zero, List.set_cons_succ]
    refine wpMix_run rfl ?_
    intro K hK
    go_wp2_with fail
    refine (KV _).mono ?_
    rintro e w3 ⟨rfl, hb4⟩
    have hb5 := good_next HB3.out hb4
    have HB5 := Lib.hid hb5
    have S2 := (good_state hb5).1
    clear hb4 hb5 HB3
    go_wp2_with fail
    refine hK.out _ _ (fun _ => S2) ?_
    clear hK K
    iterate 3
      refine wpMix_take (v := ?_) rfl rfl ?_ ?_
      rotate_left
      · (intro W hW; (try dsimp only at hW); go_simp) <;> with_reducible rfl
      simp only [Act.put, List.setIfInBounds_toArray, List.set_cons_zero, List.set_cons_succ]
    refine wpMix_nil ?_
    go_wp2_with fail
    go_ret
    exact ⟨by simp, (good_state HB5.out).2⟩
theorem vgood_other (k n : Int) (s : ByteArray) (hk : k < 0 ∨ 4 < k) (w : World) :
    Calls Tryz.prog 5 #[vv k n s] w fun e w' => e = .returned (.bool false) ∧ Below w.heap.size w w' := by
  have KC := fun w => content_other k n s w hk
  have KM := goodOther_any n
  have mg := m_other_good
  clear hk
  go_enter Tryz.func5, Tryz.ntmps5
  go_wp2_with fail
  refine (KC _).mono ?_
  rintro e w1 ⟨rfl, hb⟩
  have hb : Below (w.heap.size + 1) (w.alloc (.cells #[.int .i64 k, .int .i64 n, .string s] 25)) w1 := hb.mono (by simp)
  have HB := Lib.hid hb
  have S0 := (good_state hb.drew).1
  clear hb KC
  go_wp2_with fail
  refine wp_region_mix (fun W => W.cell? ⟨w.heap.size, 0, none⟩ = some (.int .i64 k) ∧ W.cell? ⟨w.heap.size, 1, none⟩ = some (.int .i64 n) ∧ W.cell? ⟨w.heap.size, 2, none⟩ = some (.string s)) 9 [(true, 0), (false, 1), (true, 2), (true, 3), (true, 5), (true, 4), (true, 6), (true, 7), (true, 8)] (by kernel_rfl) (by decide +kernel) rfl (by decide +kernel) S0 ?_
  iterate 1
    refine wpMix_take (v := ?_) rfl rfl ?_ ?_
    rotate_left
    · (intro W hW; (try dsimp only at hW); go_simp) <;> with_reducible rfl
    simp only [Act.put, List.setIfInBounds_toArray, List.set_cons_zero, List.set_cons_succ]
  refine wpMix_run rfl ?_
  intro K hK
  go_wp2_with fail
  refine (KM _).mono ?_
  rintro e w2 ⟨rfl, hb2⟩
  have hb3 := good_next HB.out.drew hb2
  have HB3 := Lib.hid hb3
  have S1 := (good_state hb3).1
  clear hb2 hb3 HB
  go_wp2_with fail
  refine hK.out _ _ (fun _ => S1) ?_
  clear hK K
  iterate 1
    refine wpMix_take (v := ?_) rfl rfl ?_ ?_
    rotate_left
    · (intro W hW; (try dsimp only at hW); go_simp) <;> with_reducible rfl
    simp only [Act.put, List.setIfInBounds_toArray, List.set_cons_zero, List.set_cons_succ]
  iterate 4
    refine wpMix_skip rfl rfl ?_
    simp only [Act.put, List.setIfInBounds_toArray, List.set_cons_zero, List.set_cons_succ]
  iterate 2
    refine wpMix_take (v := ?_) rfl rfl ?_ ?_
    rotate_left
    · (intro W hW; (try dsimp only at hW); go_simp) <;> with_reducible rfl
    simp only [Act.put, List.setIfInBounds_toArray, List.set_cons_zero, List.set_cons_succ]
  refine wpMix_nil ?_
  go_wp2_with fail
  go_ret
  exact ⟨rfl, (good_state HB3.out).2⟩
/-- is it a value? -/
def goodV (k n : Int) (s : ByteArray) : Bool :=
  if k = 0 then n == 0 && s.toList == [] else if k = 1 then s.toList == [] else if k = 2 then goodW (wi n) && s.toList == [] else if k = 3 then decide (s.size ≤ 64) && n == 0 else if k = 4 then (n == 0 || n == 1) && s.toList == [] else false
theorem vgood_any (k n : Int) (s : ByteArray) (h0 : -9223372036854775808 ≤ n) (h1 : n < 9223372036854775808) (w : World) :
    Calls Tryz.prog 5 #[vv k n s] w fun e w' => e = .returned (.bool (goodV k n s)) ∧ Below w.heap.size w w' := by
  have hnil : (⟨#[]⟩ : ByteArray).toList = [] := by simp [Lib.toList_data]
  have hsw : ∀ a b : List UInt8, (a == b) = (b == a) := fun a b => by rw [Bool.eq_iff_iff, beq_iff_eq, beq_iff_eq]; exact eq_comm
  have hsi : ∀ a b : Int, (a == b) = (b == a) := fun a b => by rw [Bool.eq_iff_iff, beq_iff_eq, beq_iff_eq]; exact eq_comm
  unfold goodV
  by_cases c0 : k = 0
  · subst c0
    have := vgood_null n s true goodNull_any w
    simp only [sameV, hnil, Bool.true_and, BEq.rfl] at this
    rw [if_pos rfl, hsi n 0, hsw s.toList []]
    exact this
  by_cases c1 : k = 1
  · subst c1
    have := vgood_int n s true (goodInt_any n) w
    simp only [sameV, hnil, Bool.true_and, BEq.rfl] at this
    rw [if_neg (by decide), if_pos rfl, hsw s.toList []]
    exact this
  by_cases c2 : k = 2
  · subst c2
    have := vgood_float n s _ (goodFloat_any n h0 h1) w
    simp only [sameV, hnil, Bool.true_and, BEq.rfl] at this
    rw [if_neg (by decide), if_neg (by decide), if_pos rfl, hsw s.toList []]
    exact this
  by_cases c3 : k = 3
  · subst c3
    have := vgood_str n s _ (goodStr_any s) w
    simp only [sameV, Bool.true_and, BEq.rfl, Bool.and_true] at this
    rw [if_neg (by decide), if_neg (by decide), if_neg (by decide), if_pos rfl, hsi n 0]
    exact this
  by_cases c4 : k = 4
  · subst c4
    have := vgood_bool n s _ (goodBool_any n) w
    simp only [sameV, hnil, Bool.true_and, BEq.rfl] at this
    rw [if_neg (by decide), if_neg (by decide), if_neg (by decide), if_neg (by decide), if_pos rfl, hsw s.toList []]
    exact this
  rw [if_neg c0, if_neg c1, if_neg c2, if_neg c3, if_neg c4]
  exact vgood_other k n s (by omega) w
end Go.Proofs.YtfmhdnefcapjgaaGreatDoor
