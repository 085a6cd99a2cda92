/- Values of rows: which comes first, on both sides. Conditions: none. -/
import Derived.Test.YtlhpbfjelgmkeaaGreatValB
import Derived.Test.YtlhpbfjelgmkeaaGreatOrderC
import Derived.Lib.Bytealg
import Derived.Lib.Strings
set_option maxRecDepth 100000
namespace Go.Proofs.YtlhpbfjelgmkeaaGreat
open Go.RowKit Go.Lib

/-- how two ints stand -/
def cmpI (x y : Int) : Int := if x < y then -1 else if x > y then 1 else 0
theorem sign_any (a b : Bool) (w : World) : Calls Tryz.prog 76 #[.bool a, .bool b] w fun e w' => e = .returned (.int .i64 (if a then -1 else if b then 1 else 0)) ∧ w' = w := by
  cases a <;> cases b
  all_goals (
    go_enter Tryz.func76, Tryz.ntmps76
    go_wp2_with fail
    go_ret
    exact ⟨rfl, rfl⟩)
theorem sign3b (a b : Int) : ((a == b) = true ∧ (a != b) = false ∧ decide (a < b) = false ∧ decide (b < a) = false ∧ Hid (cmpI a b = 0)) ∨ ((a == b) = false ∧ (a != b) = true ∧ decide (a < b) = true ∧ decide (b < a) = false ∧ Hid (cmpI a b = -1)) ∨ ((a == b) = false ∧ (a != b) = true ∧ decide (a < b) = false ∧ decide (b < a) = true ∧ Hid (cmpI a b = 1)) := by
  unfold cmpI
  rcases Int.lt_trichotomy a b with h | h | h
  · exact .inr (.inl ⟨by rw [beq_eq_false_iff_ne]; omega, by rw [bne_iff_ne]; omega, decide_eq_true h, decide_eq_false (by omega), Lib.hid (by rw [if_pos h])⟩)
  · exact .inl ⟨by rw [beq_iff_eq]; exact h, by rw [bne_eq_false_iff_eq]; exact h, decide_eq_false (by omega), decide_eq_false (by omega), Lib.hid (by rw [if_neg (by omega), if_neg (by omega)])⟩
  · exact .inr (.inr ⟨by rw [beq_eq_false_iff_ne]; omega, by rw [bne_iff_ne]; omega, decide_eq_false (by omega), decide_eq_true h, Lib.hid (by rw [if_neg (by omega), if_pos (by omega)])⟩)
theorem two_boxes (w : World) (x y z x' y' z' : Value) (t t' : Nat) {w1 : World} (hb : Below ((w.alloc (.cells #[x, y, z] t)).alloc (.cells #[x', y', z'] t')).heap.size ((w.alloc (.cells #[x, y, z] t)).alloc (.cells #[x', y', z'] t')) w1) :
    C3 w1 w.heap.size x y z ∧ C3 w1 (w.heap.size + 1) x' y' z' ∧ Below w.heap.size w w1 := by
  have b1 := (Below.refl w.heap.size w).alloc (Nat.le_refl _) (.cells #[x, y, z] t)
  have b2 := (Below.refl (w.heap.size + 1) (w.alloc (.cells #[x, y, z] t))).alloc (by simp) (.cells #[x', y', z'] t')
  refine ⟨(((C3.new w x y z t).keep b2 (by omega)).keep hb (by simp; omega)), ?_, (b1.trans (b2.mono (by omega))).trans (hb.mono (by simp; omega))⟩
  have := C3.new (w.alloc (.cells #[x, y, z] t)) x' y' z' t'
  have hz : (w.alloc (.cells #[x, y, z] t)).heap.size = w.heap.size + 1 := by simp
  rw [hz] at this
  exact this.keep hb (by simp)
theorem cmp_kinds (k n : Int) (s : ByteArray) (k' n' : Int) (s' : ByteArray) (h : k ≠ k') (w : World) : Calls Tryz.prog 45 #[vv k n s, vv k' n' s'] w fun e w' => e = .returned (.int .i64 (cmpI k k')) ∧ Below w.heap.size w w' := by
  have KC := Tryz.cmp_Compare_int k k'
  have e0 : (k != k') = true := by rw [bne_iff_ne]; exact h
  have e1 : (k == k') = false := by rw [beq_eq_false_iff_ne]; exact h
  clear h
  go_enter Tryz.func45, Tryz.ntmps45
  go_wp2_with fail
  refine (KC _).mono ?_
  rintro e w1 ⟨rfl, rfl⟩
  go_wp2_with fail
  go_ret
  exact ⟨rfl, ((Below.refl _ _).alloc (Nat.le_refl _) _).alloc (by simp) _⟩
theorem cmp_nulls (n : Int) (s : ByteArray) (n' : Int) (s' : ByteArray) (w : World) : Calls Tryz.prog 45 #[vv 0 n s, vv 0 n' s'] w fun e w' => e = .returned (.int .i64 0) ∧ Below w.heap.size w w' := by
  have KC := content_null n s
  have q0 := as_nothing_nothing
  go_enter Tryz.func45, Tryz.ntmps45
  go_wp2_with fail
  refine (KC _).mono ?_
  rintro e w1 ⟨rfl, hb⟩
  have HB := Lib.hid (two_boxes _ _ _ _ _ _ _ _ _ hb).2.2
  clear hb KC
  go_wp2_with fail
  go_ret
  exact ⟨rfl, HB.out⟩
theorem cmp_ints (k n : Int) (s : ByteArray) (n' : Int) (s' : ByteArray) (hk : k ≠ 0 ∧ k ≠ 2 ∧ k ≠ 3) (w : World) : Calls Tryz.prog 45 #[vv k n s, vv k n' s'] w fun e w' => e = .returned (.int .i64 (cmpI n n')) ∧ Below w.heap.size w w' := by
  have KC := content_any k n s
  have KD := Tryz.cmp_Compare_int n n'
  have hc : ctV k n s = .iface 212 (.int .i64 n) ∨ ctV k n s = .iface 213 (.int .i64 n) ∨ ctV k n s = .iface 214 (.int .i64 n) := by
    unfold ctV
    rw [if_neg hk.1, if_neg hk.2.1, if_neg hk.2.2]
    split
    · exact .inl rfl
    · split
      · exact .inr (.inl rfl)
      · exact .inr (.inr rfl)
  have e1 : (k == k) = true := by simp
  have e2 : (k != k) = false := by simp
  have q0 := as_whole_nothing
  have q1 := as_whole_float
  have q2 := as_whole_str
  have r0 := as_truth_nothing
  have r1 := as_truth_float
  have r2 := as_truth_str
  have s0 := as_other_nothing
  have s1 := as_other_float
  have s2 := as_other_str
  clear hk
  rcases hc with hc | hc | hc
  all_goals (
    rw [hc] at KC
    clear hc
    go_enter Tryz.func45, Tryz.ntmps45
    go_wp2_with fail
    refine (KC _).mono ?_
    rintro e w1 ⟨rfl, hb⟩
    obtain ⟨⟨a0, a1, a2⟩, ⟨b0, b1, b2⟩, hB⟩ := two_boxes _ _ _ _ _ _ _ _ _ hb
    have HB := Lib.hid hB
    clear hb KC hB
    go_wp2_with fail
    refine (KD _).mono ?_
    rintro e w2 ⟨rfl, rfl⟩
    go_wp2_with fail
    go_ret
    exact ⟨rfl, HB.out⟩)
theorem cmp_floats (n n' : Nat) (s s' : ByteArray) (hn : n < 18446744073709551616) (hn' : n' < 18446744073709551616) (w : World) : Calls Tryz.prog 45 #[vv 2 (iw n) s, vv 2 (iw n') s'] w fun e w' => e = .returned (.int .i64 (cmpK n n')) ∧ Below w.heap.size w w' := by
  have KC := content_float (iw n) s
  have KD := cmp_any n n' hn hn'
  generalize iw n = m at *
  generalize iw n' = m' at *
  have q0 := as_float_nothing
  have q1 := as_float_float
  clear hn hn'
  go_enter Tryz.func45, Tryz.ntmps45
  go_wp2_with fail
  refine (KC _).mono ?_
  rintro e w1 ⟨rfl, hb⟩
  obtain ⟨⟨a0, a1, a2⟩, ⟨b0, b1, b2⟩, hB⟩ := two_boxes _ _ _ _ _ _ _ _ _ hb
  have HB := Lib.hid hB
  clear hb KC hB
  go_wp2_with fail
  refine (KD _).mono ?_
  rintro e w2 ⟨rfl, rfl⟩
  go_wp2_with fail
  go_ret
  exact ⟨rfl, HB.out⟩
theorem cmp_strs (n n' : Int) (s s' : ByteArray) (w : World) : Calls Tryz.prog 45 #[vv 3 n s, vv 3 n' s'] w fun e w' => e = .returned (.int .i64 (Lib.compareBytes s.data.toList s'.data.toList)) ∧ Below w.heap.size w w' := by
  have KC := content_str n s
  have KD := Tryz.strings_Compare s s'
  have q0 := as_str_nothing
  have q1 := as_str_float
  have q2 := as_str_str
  go_enter Tryz.func45, Tryz.ntmps45
  go_wp2_with fail
  refine (KC _).mono ?_
  rintro e w1 ⟨rfl, hb⟩
  obtain ⟨⟨a0, a1, a2⟩, ⟨b0, b1, b2⟩, hB⟩ := two_boxes _ _ _ _ _ _ _ _ _ hb
  have HB := Lib.hid hB
  clear hb KC hB
  go_wp2_with fail
  refine (KD _).mono ?_
  rintro e w2 ⟨rfl, rfl⟩
  go_wp2_with fail
  go_ret
  exact ⟨rfl, HB.out⟩
theorem ref_kinds (k n : Int) (s : ByteArray) (k' n' : Int) (s' : ByteArray) (h : k ≠ k') (w : World) : Calls Tryz.prog 46 #[vv k n s, vv k' n' s'] w fun e w' => e = .returned (.int .i64 (cmpI k k')) ∧ Below w.heap.size w w' := by
  have KS := sign_any
  rcases sign3b k k' with ⟨e0, e1, e2, e3, hr⟩ | ⟨e0, e1, e2, e3, hr⟩ | ⟨e0, e1, e2, e3, hr⟩
  · exact absurd (by simpa using e0) h
  all_goals (
    rw [hr.out]
    clear h hr
    go_enter Tryz.func46, Tryz.ntmps46
    go_wp2_with fail
    refine (KS _ _ _).mono ?_
    rintro e w1 ⟨rfl, rfl⟩
    go_wp2_with fail
    go_ret
    exact ⟨rfl, ((Below.refl _ _).alloc (Nat.le_refl _) _).alloc (by simp) _⟩)
theorem ref_nulls (n : Int) (s : ByteArray) (n' : Int) (s' : ByteArray) (w : World) : Calls Tryz.prog 46 #[vv 0 n s, vv 0 n' s'] w fun e w' => e = .returned (.int .i64 0) ∧ Below w.heap.size w w' := by
  go_enter Tryz.func46, Tryz.ntmps46
  go_wp2_with fail
  go_ret
  exact ⟨rfl, ((Below.refl _ _).alloc (Nat.le_refl _) _).alloc (by simp) _⟩
theorem ref_ints (k n : Int) (s : ByteArray) (n' : Int) (s' : ByteArray) (hk : k ≠ 0 ∧ k ≠ 2 ∧ k ≠ 3) (w : World) : Calls Tryz.prog 46 #[vv k n s, vv k n' s'] w fun e w' => e = .returned (.int .i64 (cmpI n n')) ∧ Below w.heap.size w w' := by
  have KS := sign_any
  have e0 : (k == 0) = false := by rw [beq_eq_false_iff_ne]; exact hk.1
  have e2 : (k == 2) = false := by rw [beq_eq_false_iff_ne]; exact hk.2.1
  have e3 : (k == 3) = false := by rw [beq_eq_false_iff_ne]; exact hk.2.2
  have e4 : (k != k) = false := by simp
  clear hk
  rcases sign3b n n' with ⟨f0, f1, f2, f3, hr⟩ | ⟨f0, f1, f2, f3, hr⟩ | ⟨f0, f1, f2, f3, hr⟩
  all_goals (
    rw [hr.out]
    clear hr
    go_enter Tryz.func46, Tryz.ntmps46
    go_wp2_with fail
    refine (KS _ _ _).mono ?_
    rintro e w1 ⟨rfl, rfl⟩
    go_wp2_with fail
    go_ret
    exact ⟨rfl, ((Below.refl _ _).alloc (Nat.le_refl _) _).alloc (by simp) _⟩)
theorem ref_floats (n n' : Nat) (s s' : ByteArray) (hn : n < 18446744073709551616) (hn' : n' < 18446744073709551616) (w : World) : Calls Tryz.prog 46 #[vv 2 (iw n) s, vv 2 (iw n') s'] w fun e w' => e = .returned (.int .i64 (cmpK n n')) ∧ Below w.heap.size w w' := by
  have KD := refCmp_any n n' hn hn'
  generalize iw n = m at *
  generalize iw n' = m' at *
  clear hn hn'
  go_enter Tryz.func46, Tryz.ntmps46
  go_wp2_with fail
  refine (KD _).mono ?_
  rintro e w2 ⟨rfl, rfl⟩
  go_wp2_with fail
  go_ret
  exact ⟨rfl, ((Below.refl _ _).alloc (Nat.le_refl _) _).alloc (by simp) _⟩
theorem bytes3 : ∀ l m : List UInt8, (Lib.compareBytes l m = 0 ∧ Op.bytesLess l m = false ∧ (l == m) = true) ∨ (Lib.compareBytes l m = -1 ∧ Op.bytesLess l m = true ∧ (l == m) = false) ∨ (Lib.compareBytes l m = 1 ∧ Op.bytesLess l m = false ∧ (l == m) = false)
  | [], [] => .inl ⟨rfl, rfl, rfl⟩
  | [], _ :: _ => .inr (.inl ⟨rfl, rfl, rfl⟩)
  | _ :: _, [] => .inr (.inr ⟨rfl, rfl, rfl⟩)
  | a :: x, b :: y => by
    unfold Lib.compareBytes Op.bytesLess
    rcases Nat.lt_trichotomy a.toNat b.toNat with h | h | h
    · have h1 : a < b := UInt8.lt_iff_toNat_lt.2 h
      have h2 : a ≠ b := fun e => by subst e; omega
      refine .inr (.inl ⟨by rw [if_pos h1], by simp [h1], by simp [h2]⟩)
    · obtain rfl : a = b := UInt8.toNat_inj.1 h
      have h1 : ¬ a < a := fun e => by have := UInt8.lt_iff_toNat_lt.1 e; omega
      rw [if_neg h1, if_neg h1]
      rcases bytes3 x y with ⟨c1, c2, c3⟩ | ⟨c1, c2, c3⟩ | ⟨c1, c2, c3⟩
      · exact .inl ⟨c1, by simp [c2], by simpa using c3⟩
      · exact .inr (.inl ⟨c1, by simp [c2], by simpa using c3⟩)
      · exact .inr (.inr ⟨c1, by simp [c2], by simpa using c3⟩)
    · have h1 : b < a := UInt8.lt_iff_toNat_lt.2 h
      have h2 : a ≠ b := fun e => by subst e; omega
      have h3 : ¬ a < b := fun e => by have := UInt8.lt_iff_toNat_lt.1 e; omega
      exact .inr (.inr ⟨by rw [if_neg h3, if_pos h1], by simp [h3, h2], by simp [h2]⟩)
theorem ref_strs (n n' : Int) (s s' : ByteArray) (w : World) : Calls Tryz.prog 46 #[vv 3 n s, vv 3 n' s'] w fun e w' => e = .returned (.int .i64 (Lib.compareBytes s.data.toList s'.data.toList)) ∧ Below w.heap.size w w' := by
  have KS := sign_any
  have hb := bytes3 s.data.toList s'.data.toList
  rw [← Lib.toList_data, ← Lib.toList_data] at hb
  rw [← Lib.toList_data, ← Lib.toList_data]
  rcases hb with ⟨hr, b1, b2⟩ | ⟨hr, b1, b2⟩ | ⟨hr, b1, b2⟩
  all_goals (
    rw [hr]
    clear hr
    go_enter Tryz.func46, Tryz.ntmps46
    go_wp2_with fail
    refine (KS _ _ _).mono ?_
    rintro e w1 ⟨rfl, rfl⟩
    go_wp2_with fail
    go_ret
    exact ⟨rfl, ((Below.refl _ _).alloc (Nat.le_refl _) _).alloc (by simp) _⟩)
theorem cmpB_swap : ∀ l m : List UInt8, Lib.compareBytes m l = - Lib.compareBytes l m
  | [], [] => rfl
  | [], _ :: _ => rfl
  | _ :: _, [] => rfl
  | a :: x, b :: y => by
    have ih := cmpB_swap x y
    unfold Lib.compareBytes
    rcases Nat.lt_trichotomy a.toNat b.toNat with h | h | h
    · have h1 : a < b := UInt8.lt_iff_toNat_lt.2 h
      have h3 : ¬ b < a := fun e => by have := UInt8.lt_iff_toNat_lt.1 e; omega
      rw [if_pos h1, if_neg h3, if_pos h1]
      rfl
    · obtain rfl : a = b := UInt8.toNat_inj.1 h
      have h1 : ¬ a < a := fun e => by have := UInt8.lt_iff_toNat_lt.1 e; omega
      rw [if_neg h1, if_neg h1, if_neg h1, if_neg h1, ih]
    · have h1 : b < a := UInt8.lt_iff_toNat_lt.2 h
      have h3 : ¬ a < b := fun e => by have := UInt8.lt_iff_toNat_lt.1 e; omega
      rw [if_pos h1, if_neg h3, if_pos h1]
theorem cmpB_trans : ∀ l m r : List UInt8, Lib.compareBytes l m ≤ 0 → Lib.compareBytes m r ≤ 0 → Lib.compareBytes l r ≤ 0
  | [], _, [], _, _ => by simp [Lib.compareBytes]
  | [], _, _ :: _, _, _ => by simp [Lib.compareBytes]
  | _ :: _, [], _, h, _ => by simp [Lib.compareBytes] at h
  | _ :: _, _ :: _, [], _, h => by simp [Lib.compareBytes] at h
  | a :: x, b :: y, c :: z, h1, h2 => by
    have ih := cmpB_trans x y z
    unfold Lib.compareBytes at h1 h2 ⊢
    simp only [UInt8.lt_iff_toNat_lt] at h1 h2 ⊢
    split at h1
    · split at h2
      · rw [if_pos (by omega)]; decide
      · split at h2
        · omega
        · rw [if_pos (by omega)]; decide
    · split at h1
      · omega
      · split at h2
        · rw [if_pos (by omega)]; decide
        · split at h2
          · omega
          · rw [if_neg (by omega), if_neg (by omega)]
            exact ih h1 h2
/-- the word of an int -/
def wi (n : Int) : Nat := (n % 18446744073709551616).toNat
theorem wi_lt (n : Int) : wi n < 18446744073709551616 := by unfold wi; omega
theorem iw_wi (n : Int) (h0 : -9223372036854775808 ≤ n) (h1 : n < 9223372036854775808) : iw (wi n) = n := by unfold iw wi; split <;> omega
/-- which of two values comes first -/
def cmpV (k n : Int) (s : ByteArray) (k' n' : Int) (s' : ByteArray) : Int :=
  if k = k' then if k = 0 then 0 else if k = 2 then cmpK (wi n) (wi n') else if k = 3 then Lib.compareBytes s.data.toList s'.data.toList else cmpI n n' else cmpI k k'
theorem vcmp_any (k n : Int) (s : ByteArray) (k' n' : Int) (s' : ByteArray) (h0 : -9223372036854775808 ≤ n) (h1 : n < 9223372036854775808) (h2 : -9223372036854775808 ≤ n') (h3 : n' < 9223372036854775808) (w : World) :
    Calls Tryz.prog 45 #[vv k n s, vv k' n' s'] w fun e w' => e = .returned (.int .i64 (cmpV k n s k' n' s')) ∧ Below w.heap.size w w' := by
  unfold cmpV
  by_cases hk : k = k'
  · subst hk
    rw [if_pos rfl]
    by_cases c0 : k = 0
    · subst c0; rw [if_pos rfl]; exact cmp_nulls n s n' s' w
    rw [if_neg c0]
    by_cases c2 : k = 2
    · subst c2
      rw [if_pos rfl]
      have := cmp_floats (wi n) (wi n') s s' (wi_lt n) (wi_lt n') w
      rwa [iw_wi n h0 h1, iw_wi n' h2 h3] at this
    rw [if_neg c2]
    by_cases c3 : k = 3
    · subst c3; rw [if_pos rfl]; exact cmp_strs n n' s s' w
    rw [if_neg c3]
    exact cmp_ints k n s n' s' ⟨c0, c2, c3⟩ w
  · rw [if_neg hk]; exact cmp_kinds k n s k' n' s' hk w
theorem refvcmp_any (k n : Int) (s : ByteArray) (k' n' : Int) (s' : ByteArray) (h0 : -9223372036854775808 ≤ n) (h1 : n < 9223372036854775808) (h2 : -9223372036854775808 ≤ n') (h3 : n' < 9223372036854775808) (w : World) :
    Calls Tryz.prog 46 #[vv k n s, vv k' n' s'] w fun e w' => e = .returned (.int .i64 (cmpV k n s k' n' s')) ∧ Below w.heap.size w w' := by
  unfold cmpV
  by_cases hk : k = k'
  · subst hk
    rw [if_pos rfl]
    by_cases c0 : k = 0
    · subst c0; rw [if_pos rfl]; exact ref_nulls n s n' s' w
    rw [if_neg c0]
    by_cases c2 : k = 2
    · subst c2
      rw [if_pos rfl]
      have := ref_floats (wi n) (wi n') s s' (wi_lt n) (wi_lt n') w
      rwa [iw_wi n h0 h1, iw_wi n' h2 h3] at this
    rw [if_neg c2]
    by_cases c3 : k = 3
    · subst c3; rw [if_pos rfl]; exact ref_strs n n' s s' w
    rw [if_neg c3]
    exact ref_ints k n s n' s' ⟨c0, c2, c3⟩ w
  · rw [if_neg hk]; exact ref_kinds k n s k' n' s' hk w
theorem cmpI_swap (x y : Int) : cmpI y x = - cmpI x y := by unfold cmpI; split <;> split <;> first | omega | (split <;> omega)
theorem cmpI_trans (x y z : Int) (h : cmpI x y ≤ 0) (h' : cmpI y z ≤ 0) : cmpI x z ≤ 0 := by
  have e : ∀ a b, cmpI a b ≤ 0 ↔ a ≤ b := fun a b => by unfold cmpI; split <;> first | omega | (split <;> omega)
  rw [e] at *
  omega
theorem cmpK_swap (x y : Nat) : cmpK y x = - cmpK x y := by unfold cmpK; split <;> split <;> first | omega | (split <;> omega)
theorem cmpK_trans (x y z : Nat) (h : cmpK x y ≤ 0) (h' : cmpK y z ≤ 0) : cmpK x z ≤ 0 := by
  have e : ∀ a b, cmpK a b ≤ 0 ↔ keyW a ≤ keyW b := fun a b => by unfold cmpK; split <;> first | omega | (split <;> omega)
  rw [e] at *
  omega
theorem cmpV_swap (k n : Int) (s : ByteArray) (k' n' : Int) (s' : ByteArray) : cmpV k' n' s' k n s = - cmpV k n s k' n' s' := by
  unfold cmpV
  by_cases hk : k = k'
  · subst hk
    rw [if_pos rfl, if_pos rfl]
    by_cases c0 : k = 0
    · rw [if_pos c0, if_pos c0]; rfl
    rw [if_neg c0, if_neg c0]
    by_cases c2 : k = 2
    · rw [if_pos c2, if_pos c2]; exact cmpK_swap _ _
    rw [if_neg c2, if_neg c2]
    by_cases c3 : k = 3
    · rw [if_pos c3, if_pos c3]; exact cmpB_swap _ _
    rw [if_neg c3, if_neg c3]; exact cmpI_swap _ _
  · rw [if_neg hk, if_neg (Ne.symm hk)]; exact cmpI_swap _ _
theorem cmpV_trans (k n : Int) (s : ByteArray) (k' n' : Int) (s' : ByteArray) (q m : Int) (r : ByteArray) (h : cmpV k n s k' n' s' ≤ 0) (h' : cmpV k' n' s' q m r ≤ 0) : cmpV k n s q m r ≤ 0 := by
  have e : ∀ a b, cmpI a b ≤ 0 ↔ a ≤ b := fun a b => by unfold cmpI; split <;> first | omega | (split <;> omega)
  unfold cmpV at *
  by_cases hk : k = k'
  · subst hk
    rw [if_pos rfl] at h
    by_cases hq : k = q
    · subst hq
      rw [if_pos rfl] at h' ⊢
      by_cases c0 : k = 0
      · rw [if_pos c0]; decide
      rw [if_neg c0] at *
      by_cases c2 : k = 2
      · rw [if_pos c2] at *; exact cmpK_trans _ _ _ h h'
      rw [if_neg c2] at *
      by_cases c3 : k = 3
      · rw [if_pos c3] at *; exact cmpB_trans _ _ _ h h'
      rw [if_neg c3] at *; exact cmpI_trans _ _ _ h h'
    · rw [if_neg hq] at h' ⊢; exact h'
  · rw [if_neg hk] at h
    rw [e] at h
    by_cases hq : k' = q
    · subst hq
      rw [if_neg hk, e]; exact h
    · rw [if_neg hq, e] at h'
      rw [if_neg (by omega), e]; omega
end Go.Proofs.YtlhpbfjelgmkeaaGreat
