/- How two words of binary64 stand to each other: as their signed rungs do. Conditions: each word below 2^64. -/
import Ieee.Arith
set_option maxRecDepth 100000
namespace Go.Proofs.YtlhpbfjelgmkeaaGreat

/-- a magnitude in units of the least one: significand and shift of a rung -/
def fM (r : Nat) : Nat := if r < 4503599627370496 then r else 4503599627370496 + r % 4503599627370496
def fK (r : Nat) : Nat := r / 4503599627370496 - 1
def fV (r : Nat) : Nat := fM r * 2 ^ fK r
theorem fV_step (r : Nat) : fV r < fV (r + 1) := by
  unfold fV fM fK
  by_cases h1 : r + 1 < 4503599627370496
  · rw [if_pos (by omega), if_pos h1, show r / 4503599627370496 - 1 = 0 by omega, show (r + 1) / 4503599627370496 - 1 = 0 by omega]; omega
  · by_cases h2 : r < 4503599627370496
    · rw [if_pos h2, if_neg h1, show r / 4503599627370496 - 1 = 0 by omega, show (r + 1) / 4503599627370496 - 1 = 0 by omega]; omega
    · rw [if_neg h2, if_neg h1]
      by_cases h3 : r % 4503599627370496 + 1 < 4503599627370496
      · rw [show (r + 1) / 4503599627370496 = r / 4503599627370496 by omega, show (r + 1) % 4503599627370496 = r % 4503599627370496 + 1 by omega]
        exact Nat.mul_lt_mul_of_pos_right (by omega) (Nat.two_pow_pos _)
      · obtain ⟨q, hq⟩ : ∃ q, r / 4503599627370496 = q + 1 := ⟨r / 4503599627370496 - 1, by omega⟩
        rw [show (r + 1) / 4503599627370496 = q + 1 + 1 by omega, show (r + 1) % 4503599627370496 = 0 by omega, hq, Nat.add_sub_cancel, Nat.add_sub_cancel, Nat.pow_succ]
        have := Nat.two_pow_pos q
        generalize 2 ^ q = P at this ⊢
        have h4 : (4503599627370496 + r % 4503599627370496) * P ≤ 9007199254740991 * P := Nat.mul_le_mul_right _ (by omega)
        omega
theorem fV_mono {r t : Nat} (h : r < t) : fV r < fV t := by
  obtain ⟨n, rfl⟩ : ∃ n, t = r + n + 1 := ⟨t - r - 1, by omega⟩
  induction n with
  | zero => exact fV_step r
  | succ n ih => exact Nat.lt_trans (ih (by omega)) (fV_step (r + n + 1))
theorem fV_zero : fV 0 = 0 := by decide
theorem fV_pos {r : Nat} (h : 0 < r) : 0 < fV r := by have := fV_mono h; rw [fV_zero] at this; exact this
/-- a magnitude with its sign -/
def sgn (s : Bool) (v : Nat) : Int := if s then -(v : Int) else (v : Int)
/-- a word's rung with its sign -/
def fS (x : Nat) : Int := sgn (decide (9223372036854775808 ≤ x)) (x % 9223372036854775808)
theorem sgn_lt (s t : Bool) (r u : Nat) : (sgn s (fV r) < sgn t (fV u) ↔ sgn s r < sgn t u) ∧ (sgn s (fV r) = sgn t (fV u) ↔ sgn s r = sgn t u) := by
  have h1 : r < u → fV r < fV u := fV_mono
  have h2 : u < r → fV u < fV r := fV_mono
  have h3 : r = u → fV r = fV u := fun e => by rw [e]
  have h4 : 0 < r → 0 < fV r := fV_pos
  have h5 : 0 < u → 0 < fV u := fV_pos
  have h6 : r = 0 → fV r = 0 := fun e => by rw [e]; exact fV_zero
  have h7 : u = 0 → fV u = 0 := fun e => by rw [e]; exact fV_zero
  generalize fV r = a at *
  generalize fV u = b at *
  unfold sgn
  cases s <;> cases t <;> simp only [if_true, if_false, Bool.false_eq_true] <;> omega
theorem cmp_same {a b c d : Int} (h : a < b ↔ c < d) (k : a = b ↔ c = d) : compare a b = compare c d := by
  rcases Int.lt_trichotomy a b with h1 | h1 | h1
  · rw [Int.compare_eq_lt.2 h1, Int.compare_eq_lt.2 (h.1 h1)]
  · rw [Int.compare_eq_eq.2 h1, Int.compare_eq_eq.2 (k.1 h1)]
  · rw [Int.compare_eq_gt.2 h1, Int.compare_eq_gt.2 (by omega)]
theorem read_word (x : Nat) (hx : x < 18446744073709551616) :
    (x % 9223372036854775808 < 9218868437227405312 → Ieee.double.read x = .number (decide (9223372036854775808 ≤ x)) (fM (x % 9223372036854775808)) (Ieee.double.leastPlace + (fK (x % 9223372036854775808) : Nat))) ∧
    (x % 9223372036854775808 = 9218868437227405312 → Ieee.double.read x = .infinity (decide (9223372036854775808 ≤ x))) ∧
    (9218868437227405312 < x % 9223372036854775808 → ∃ f, Ieee.double.read x = .nan (decide (9223372036854775808 ≤ x)) f) := by
  have e1 : Ieee.double.signWeight = 9223372036854775808 := rfl
  have e2 : Ieee.double.binade = 4503599627370496 := rfl
  have e3 : Ieee.double.infRung = 9218868437227405312 := rfl
  have e4 : (x / 9223372036854775808 % 2 == 1) = decide (9223372036854775808 ≤ x) := by
    rw [Bool.eq_iff_iff, beq_iff_eq, decide_eq_true_iff]; omega
  unfold Ieee.Format.read
  simp only [e1, e2, e3, e4]
  generalize x % 9223372036854775808 = r
  refine ⟨fun h => ?_, fun h => ?_, fun h => ?_⟩
  · by_cases h1 : r < 4503599627370496
    · rw [if_pos h1]
      unfold fM fK
      rw [if_pos h1, show r / 4503599627370496 - 1 = 0 by omega]
      simp
    · rw [if_neg h1, if_pos h]
      unfold fM fK
      rw [if_neg h1]
  · rw [if_neg (by omega), if_neg (by omega), if_pos h]
  · rw [if_neg (by omega), if_neg (by omega), if_neg (by omega)]
    exact ⟨_, rfl⟩
theorem num_order (s t : Bool) (r u : Nat) (p : Int) : Ieee.Datum.order (.number s (fM r) (p + (fK r : Nat))) (.number t (fM u) (p + (fK u : Nat))) = some (compare (sgn s r) (sgn t u)) := by
  obtain ⟨m, hm⟩ : ∃ m, m = min (fK r) (fK u) := ⟨_, rfl⟩
  have a1 : (p + (fK r : Nat) - min (p + (fK r : Nat)) (p + (fK u : Nat))).toNat = fK r - m := by omega
  have a2 : (p + (fK u : Nat) - min (p + (fK r : Nat)) (p + (fK u : Nat))).toNat = fK u - m := by omega
  show some (compare (Ieee.signed s (fM r) (p + (fK r : Nat) - min (p + (fK r : Nat)) (p + (fK u : Nat))).toNat) (Ieee.signed t (fM u) (p + (fK u : Nat) - min (p + (fK r : Nat)) (p + (fK u : Nat))).toNat)) = _
  rw [a1, a2]
  have b1 : fM r * 2 ^ (fK r - m) * 2 ^ m = fV r := by unfold fV; rw [Nat.mul_assoc, ← Nat.pow_add, Nat.sub_add_cancel (by omega)]
  have b2 : fM u * 2 ^ (fK u - m) * 2 ^ m = fV u := by unfold fV; rw [Nat.mul_assoc, ← Nat.pow_add, Nat.sub_add_cancel (by omega)]
  have hp := Nat.two_pow_pos m
  have g1 : ∀ (s : Bool) (q k : Nat), Ieee.signed s q k = sgn s (q * 2 ^ k) := fun s q k => by unfold Ieee.signed sgn; rw [Nat.shiftLeft_eq]
  rw [g1, g1]
  have hs := sgn_lt s t r u
  rw [← b1, ← b2] at hs
  generalize fM r * 2 ^ (fK r - m) = a at hs ⊢
  generalize fM u * 2 ^ (fK u - m) = b at hs ⊢
  generalize 2 ^ m = P at hp hs
  have g2 : ∀ (s : Bool) (q : Nat), sgn s (q * P) = sgn s q * (P : Int) := fun s q => by
    unfold sgn; cases s <;> simp [Int.neg_mul]
  rw [g2, g2] at hs
  have hP : (0 : Int) < (P : Int) := by omega
  refine congrArg some (cmp_same ?_ ?_)
  · rw [← hs.1]; exact (Int.mul_lt_mul_right hP).symm
  · rw [← hs.2]
    constructor
    · intro e; rw [e]
    · intro e; exact Int.eq_of_mul_eq_mul_right (by omega) e
/-- two words of binary64: none where one is a NaN; else as their signed rungs -/
theorem order_words (x y : Nat) (hx : x < 18446744073709551616) (hy : y < 18446744073709551616) :
    Ieee.double.order x y = if 9218868437227405312 < x % 9223372036854775808 ∨ 9218868437227405312 < y % 9223372036854775808 then none else some (compare (fS x) (fS y)) := by
  obtain ⟨x1, x2, x3⟩ := read_word x hx
  obtain ⟨y1, y2, y3⟩ := read_word y hy
  have hxr : x % 9223372036854775808 < 9223372036854775808 := Nat.mod_lt _ (by decide)
  have hyr : y % 9223372036854775808 < 9223372036854775808 := Nat.mod_lt _ (by decide)
  unfold Ieee.Format.order fS
  generalize decide (9223372036854775808 ≤ x) = s at *
  generalize decide (9223372036854775808 ≤ y) = t at *
  generalize x % 9223372036854775808 = r at *
  generalize y % 9223372036854775808 = u at *
  by_cases hxn : 9218868437227405312 < r
  · obtain ⟨f, hf⟩ := x3 hxn
    rw [hf, if_pos (.inl hxn)]
    rfl
  · by_cases hyn : 9218868437227405312 < u
    · obtain ⟨f, hf⟩ := y3 hyn
      rw [hf, if_pos (.inr hyn)]
      cases Ieee.double.read x <;> rfl
    · rw [if_neg (by omega)]
      have g3 : ∀ (s t : Bool) (r u : Nat), sgn s r < sgn t u → compare (sgn s r) (sgn t u) = .lt := fun s t r u h => Int.compare_eq_lt.2 h
      have g4 : ∀ (s t : Bool) (r u : Nat), sgn t u < sgn s r → compare (sgn s r) (sgn t u) = .gt := fun s t r u h => Int.compare_eq_gt.2 h
      by_cases hxi : r = 9218868437227405312
      · rw [x2 hxi]
        by_cases hyi : u = 9218868437227405312
        · rw [y2 hyi, hxi, hyi]
          cases s <;> cases t <;> rfl
        · rw [y1 (by omega)]
          cases s
          · rw [g4 false t r u (by unfold sgn; cases t <;> simp only [if_true, if_false, Bool.false_eq_true] <;> omega)]; rfl
          · rw [g3 true t r u (by unfold sgn; cases t <;> simp only [if_true, if_false, Bool.false_eq_true] <;> omega)]; rfl
      · rw [x1 (by omega)]
        by_cases hyi : u = 9218868437227405312
        · rw [y2 hyi]
          cases t
          · rw [g3 s false r u (by unfold sgn; cases s <;> simp only [if_true, if_false, Bool.false_eq_true] <;> omega)]; rfl
          · rw [g4 s true r u (by unfold sgn; cases s <;> simp only [if_true, if_false, Bool.false_eq_true] <;> omega)]; rfl
        · rw [y1 (by omega)]
          exact num_order s t r u _
/-- is a word a NaN's? -/
def nanW (u : Nat) : Bool := decide (9218868437227405312 < u % 9223372036854775808)
/-- of words that are alike the good one -/
def canonW (u : Nat) : Nat := if nanW u then 9221120237041090560 else if u = 9223372036854775808 then 0 else u
/-- a word's key -/
def keyW (u : Nat) : Nat := if nanW u then 18446744073709551615 else if 9223372036854775808 ≤ canonW u then 18446744073709551615 - canonW u else canonW u + 9223372036854775808
theorem nanW_iff {u : Nat} : nanW u = true ↔ 9218868437227405312 < u % 9223372036854775808 := by unfold nanW; exact decide_eq_true_iff
theorem nanW_not {u : Nat} : nanW u = false ↔ u % 9223372036854775808 ≤ 9218868437227405312 := by unfold nanW; rw [decide_eq_false_iff_not]; omega
theorem fS_cases (u : Nat) (hu : u < 18446744073709551616) : (9223372036854775808 ≤ u ∧ fS u = 9223372036854775808 - (u : Int)) ∨ (u < 9223372036854775808 ∧ fS u = (u : Int)) := by
  unfold fS sgn
  by_cases h : 9223372036854775808 ≤ u
  · rw [decide_eq_true h, if_pos rfl]; exact .inl ⟨h, by omega⟩
  · rw [decide_eq_false h, if_neg (by decide)]; exact .inr ⟨by omega, by omega⟩
/-- a key as a signed rung -/
theorem key_val (u : Nat) (hu : u < 18446744073709551616) (hn : nanW u = false) : keyW u = if fS u < 0 then 9223372036854775807 - (fS u).natAbs else 9223372036854775808 + (fS u).natAbs := by
  have h := nanW_not.1 hn
  have hc : canonW u = if u = 9223372036854775808 then 0 else u := by unfold canonW; rw [hn]; rfl
  have hk : keyW u = if 9223372036854775808 ≤ canonW u then 18446744073709551615 - canonW u else canonW u + 9223372036854775808 := by unfold keyW; rw [hn]; rfl
  rw [hk, hc]
  rcases fS_cases u hu with ⟨h1, h2⟩ | ⟨h1, h2⟩
  · rw [h2]
    by_cases h3 : u = 9223372036854775808
    · rw [if_pos h3, if_neg (by decide), if_neg (by omega)]; omega
    · rw [if_neg h3, if_pos h1, if_pos (by omega)]; omega
  · rw [h2, if_neg (by omega : ¬ u = 9223372036854775808), if_neg (by omega : ¬ 9223372036854775808 ≤ u), if_neg (by omega : ¬ (u : Int) < 0)]; omega
theorem fS_bound (u : Nat) (hu : u < 18446744073709551616) (hn : nanW u = false) : -9218868437227405312 ≤ fS u ∧ fS u ≤ 9218868437227405312 := by
  have h := nanW_not.1 hn
  rcases fS_cases u hu with ⟨h1, h2⟩ | ⟨h1, h2⟩ <;> omega
theorem key_lt (u v : Nat) (hu : u < 18446744073709551616) (hv : v < 18446744073709551616) (hun : nanW u = false) (hvn : nanW v = false) : (keyW u < keyW v ↔ fS u < fS v) ∧ (keyW u = keyW v ↔ fS u = fS v) := by
  have b1 := fS_bound u hu hun
  have b2 := fS_bound v hv hvn
  rw [key_val u hu hun, key_val v hv hvn]
  by_cases h1 : fS u < 0 <;> by_cases h2 : fS v < 0
  · rw [if_pos h1, if_pos h2]; omega
  · rw [if_pos h1, if_neg h2]; omega
  · rw [if_neg h1, if_pos h2]; omega
  · rw [if_neg h1, if_neg h2]; omega
/-- a NaN's key is the greatest -/
theorem key_nan (u v : Nat) (hv : v < 18446744073709551616) (hu : nanW u = true) (hvn : nanW v = false) : keyW v < keyW u := by
  have b2 := fS_bound v hv hvn
  rw [key_val v hv hvn]
  unfold keyW
  rw [hu, if_pos rfl]
  split <;> omega
theorem canon_nan {u : Nat} (h : nanW u = true) : canonW u = 9221120237041090560 := by unfold canonW; rw [h]; rfl
theorem canon_not {u : Nat} (h : nanW u = false) : canonW u = if u = 9223372036854775808 then 0 else u := by unfold canonW; rw [h]; rfl
theorem nan_canon (u : Nat) : nanW (canonW u) = nanW u := by
  cases h : nanW u
  · rw [canon_not h]
    split
    · rfl
    · exact h
  · rw [canon_nan h]; rfl
theorem canon_lt (u : Nat) (hu : u < 18446744073709551616) : canonW u < 18446744073709551616 := by
  cases h : nanW u
  · rw [canon_not h]; split <;> omega
  · rw [canon_nan h]; omega
theorem canon_idem (u : Nat) : canonW (canonW u) = canonW u := by
  cases h : nanW u
  · have h2 := nan_canon u
    rw [h] at h2
    rw [canon_not h2]
    have h3 := canon_not h
    by_cases h4 : u = 9223372036854775808
    · rw [if_pos h4] at h3; rw [h3]; rfl
    · rw [if_neg h4] at h3; rw [h3, if_neg h4]
  · rw [canon_nan h]; rfl
theorem key_canon (u : Nat) : keyW (canonW u) = keyW u := by unfold keyW; rw [nan_canon, canon_idem]
theorem key_max (u : Nat) (hu : u < 18446744073709551616) : keyW u = 18446744073709551615 ↔ nanW u = true := by
  cases h : nanW u
  · have b := fS_bound u hu h
    rw [key_val u hu h]
    constructor
    · intro e; exfalso; split at e <;> omega
    · intro e; cases e
  · unfold keyW; rw [h]; simp
/-- the float of a key -/
def backU (k : Nat) : Nat := if k < 9223372036854775808 then 18446744073709551615 - k else k - 9223372036854775808
def backW (k : Nat) : Nat := if k = 18446744073709551615 then 9221120237041090560 else if canonW (backU k) = backU k ∧ keyW (backU k) = k then backU k else 0
theorem back_key (u : Nat) (hu : u < 18446744073709551616) : backW (keyW u) = canonW u := by
  unfold backW
  cases h : nanW u
  · rw [if_neg (fun e => by rw [(key_max u hu).1 e] at h; cases h)]
    have hb : backU (keyW u) = canonW u := by
      have hc := canon_lt u hu
      have hk : keyW u = if 9223372036854775808 ≤ canonW u then 18446744073709551615 - canonW u else canonW u + 9223372036854775808 := by unfold keyW; rw [h]; rfl
      unfold backU
      rw [hk]
      by_cases h1 : 9223372036854775808 ≤ canonW u
      · rw [if_pos h1, if_pos (by omega)]; omega
      · rw [if_neg h1, if_neg (by omega)]; omega
    rw [hb, if_pos ⟨canon_idem u, key_canon u⟩]
  · rw [if_pos ((key_max u hu).2 h), canon_nan h]
end Go.Proofs.YtlhpbfjelgmkeaaGreat
