/- Plain mathematics: the numbers but 0 modulo 2^61 - 1 are the powers of 37, and so each has 1 for its power of 2^61 - 2. Conditions: none. -/
import Derived.KernelRfl
set_option maxRecDepth 100000
namespace Go.Proofs.YtlhpbfjelgmkeaaGreat

/-- the prime -/
def fP : Nat := 2305843009213693951
/-- one less -/
def fN : Nat := 2305843009213693950

theorem inj_surj : ∀ (n : Nat) (f : Nat → Nat), (∀ i, i < n → f i < n) → (∀ i j, i < n → j < n → f i = f j → i = j) → ∀ y, y < n → ∃ i, i < n ∧ f i = y
  | 0, _, _, _, y, hy => by omega
  | n + 1, f, hf, hi, y, hy => by
    have hm := hf n (by omega)
    have h1 : ∀ i, i < n → (if f i = n then f n else f i) < n := by
      intro i hin
      have := hf i (by omega)
      split
      · rename_i e
        have : f n ≠ n := fun e2 => by
          have := hi i n (by omega) (by omega) (e.trans e2.symm)
          omega
        omega
      · omega
    have h2 : ∀ i j, i < n → j < n → (if f i = n then f n else f i) = (if f j = n then f n else f j) → i = j := by
      intro i j hin hjn he
      split at he
      · rename_i e1
        split at he
        · rename_i e2; exact hi i j (by omega) (by omega) (e1.trans e2.symm)
        · have := hi n j (by omega) (by omega) he; omega
      · split at he
        · have := hi i n (by omega) (by omega) he; omega
        · exact hi i j (by omega) (by omega) he
    have hs := inj_surj n (fun i => if f i = n then f n else f i) h1 h2
    by_cases hy' : y = n
    · subst hy'
      by_cases hmn : f y = y
      · exact ⟨y, by omega, hmn⟩
      · obtain ⟨i, hin, he⟩ := hs (f y) (by omega)
        split at he
        · rename_i e; exact ⟨i, by omega, e⟩
        · have := hi i y (by omega) (by omega) he; omega
    · obtain ⟨i, hin, he⟩ := hs y (by omega)
      split at he
      · exact ⟨n, by omega, he⟩
      · exact ⟨i, by omega, he⟩

/-- a power modulo m, bit by bit -/
def pmod (m : Nat) : Nat → Nat → Nat → Nat
  | 0, _, _ => 1 % m
  | fuel + 1, a, k => if k = 0 then 1 % m else if k % 2 = 1 then a * pmod m fuel (a * a % m) (k / 2) % m else pmod m fuel (a * a % m) (k / 2)
theorem pow_mod_eq (a m k : Nat) : (a % m) ^ k % m = a ^ k % m := (Nat.pow_mod a k m).symm
theorem pmod_eq (m : Nat) : ∀ (fuel a k : Nat), k < 2 ^ fuel → pmod m fuel a k = a ^ k % m
  | 0, a, k, h => by
    have : k = 0 := by simp at h; omega
    subst this; simp [pmod]
  | fuel + 1, a, k, h => by
    unfold pmod
    have hk : k / 2 < 2 ^ fuel := by rw [Nat.pow_succ] at h; omega
    have ih := pmod_eq m fuel (a * a % m) (k / 2) hk
    have e2 : (a * a) ^ (k / 2) = a ^ (2 * (k / 2)) := by rw [Nat.pow_mul, Nat.pow_two]
    rw [pow_mod_eq, e2] at ih
    split
    · rename_i h0; subst h0; simp
    · split
      · rename_i h1
        rw [ih, Nat.mul_mod_mod, Nat.mul_comm a, ← Nat.pow_succ]
        congr 2; omega
      · rw [ih]; congr 2; omega

theorem g_one : 37 ^ fN % fP = 1 := by rw [← pmod_eq fP 61 37 fN (by decide +kernel)]; decide +kernel

theorem pow_one_mul {g m a : Nat} (h : g ^ a % m = 1) (hm : 1 < m) (k : Nat) : g ^ (a * k) % m = 1 := by
  rw [Nat.pow_mul, Nat.pow_mod, h, Nat.one_pow, Nat.mod_eq_of_lt hm]
theorem pow_one_sub {g m a b : Nat} (ha : g ^ a % m = 1) (hb : g ^ (a + b) % m = 1) : g ^ b % m = 1 := by
  rw [Nat.pow_add, Nat.mul_mod, ha, Nat.one_mul, Nat.mod_mod] at hb
  exact hb
theorem pow_one_gcd {g m : Nat} (hm : 1 < m) (a b : Nat) : g ^ a % m = 1 → g ^ b % m = 1 → g ^ Nat.gcd a b % m = 1 := by
  induction a, b using Nat.gcd.induction with
  | H0 b => intro _ hb; simpa using hb
  | H1 a b ha ih =>
    intro h1 h2
    rw [Nat.gcd_rec]
    refine ih ?_ h1
    have := pow_one_mul h1 hm (b / a)
    exact pow_one_sub this (by rw [Nat.div_add_mod]; exact h2)

theorem cop_small (q : Nat) (hq : ∀ k, k < q → 0 < k → Nat.gcd k q = 1) (m : Nat) (h : ¬ q ∣ m) (h0 : 0 < q) : Nat.Coprime m q := by
  have : m % q ≠ 0 := fun e => h (Nat.dvd_of_mod_eq_zero e)
  have h1 := hq (m % q) (Nat.mod_lt _ h0) (by omega)
  unfold Nat.Coprime
  rw [Nat.gcd_comm, Nat.gcd_rec]
  exact h1

theorem q_of_dvd {m : Nat} (hm : m ∣ fN) (h1 : m ≠ 1) : ∃ q, q ∣ m ∧ (q ∣ fN) ∧ 0 < q ∧ 37 ^ (fN / q) % fP ≠ 1 := by
  have big : ∀ q, q ∈ [2, 3, 5, 7, 11, 13, 31, 41, 61, 151, 331, 1321] → (q ∣ fN) ∧ 0 < q ∧ 37 ^ (fN / q) % fP ≠ 1 ∧ (∀ k, k < q → 0 < k → Nat.gcd k q = 1) := by
    have : ∀ q, q ∈ [2, 3, 5, 7, 11, 13, 31, 41, 61, 151, 331, 1321] → (fN % q = 0) ∧ 0 < q ∧ fN / q < 2 ^ 61 ∧ pmod fP 61 37 (fN / q) ≠ 1 ∧ (∀ k, k < q → 0 < k → Nat.gcd k q = 1) := by decide +kernel
    intro q hq
    obtain ⟨a, b, c, d, e⟩ := this q hq
    exact ⟨Nat.dvd_of_mod_eq_zero a, b, by rw [← pmod_eq fP 61 37 (fN / q) c]; exact d, e⟩
  by_cases hex : ∃ q, q ∈ [2, 3, 5, 7, 11, 13, 31, 41, 61, 151, 331, 1321] ∧ q ∣ m
  · obtain ⟨q, hq, hd⟩ := hex
    obtain ⟨a, b, c, _⟩ := big q hq
    exact ⟨q, hd, a, b, c⟩
  · exfalso
    have cop : ∀ q, q ∈ [2, 3, 5, 7, 11, 13, 31, 41, 61, 151, 331, 1321] → Nat.Coprime m q := by
      intro q hq
      obtain ⟨_, b, _, e⟩ := big q hq
      exact cop_small q e m (fun h => hex ⟨q, hq, h⟩) b
    have hN : fN = 2 * 3 * 3 * 5 * 5 * 7 * 11 * 13 * 31 * 41 * 61 * 151 * 331 * 1321 := by decide +kernel
    have hc : Nat.Coprime m fN := by
      rw [hN]
      have c := fun q h => cop q h
      refine Nat.Coprime.mul_right (Nat.Coprime.mul_right (Nat.Coprime.mul_right (Nat.Coprime.mul_right (Nat.Coprime.mul_right (Nat.Coprime.mul_right (Nat.Coprime.mul_right (Nat.Coprime.mul_right (Nat.Coprime.mul_right (Nat.Coprime.mul_right (Nat.Coprime.mul_right (Nat.Coprime.mul_right (Nat.Coprime.mul_right ?_ ?_) ?_) ?_) ?_) ?_) ?_) ?_) ?_) ?_) ?_) ?_) ?_) ?_
      all_goals exact c _ (by simp)
    exact h1 (Nat.Coprime.eq_one_of_dvd hc hm)

theorem order_dvd {d : Nat} (hd : 37 ^ d % fP = 1) : fN ∣ d := by
  have hg := pow_one_gcd (m := fP) (by decide +kernel) d fN hd g_one
  have hdvd : Nat.gcd d fN ∣ fN := Nat.gcd_dvd_right _ _
  obtain ⟨m, hm⟩ := hdvd
  by_cases h1 : m = 1
  · subst h1
    rw [Nat.mul_one] at hm
    exact hm ▸ Nat.gcd_dvd_left d fN
  · exfalso
    obtain ⟨q, hq, hqN, hq0, hne⟩ := q_of_dvd (m := m) ⟨Nat.gcd d fN, by rw [Nat.mul_comm]; exact hm⟩ h1
    obtain ⟨c, rfl⟩ := hq
    apply hne
    have e : fN / q = Nat.gcd d fN * c := by
      apply Nat.div_eq_of_eq_mul_left hq0
      rw [Nat.mul_assoc, Nat.mul_comm c]
      exact hm
    rw [e]
    exact pow_one_mul hg (by decide +kernel) c

theorem g_ne (i : Nat) (hi : i ≤ fN) : 37 ^ i % fP ≠ 0 := by
  intro h
  have e : fN = i + (fN - i) := by omega
  have := g_one
  rw [e, Nat.pow_add, Nat.mul_mod, h, Nat.zero_mul, Nat.zero_mod] at this
  cases this

theorem g_inj (i j : Nat) (hi : i < fN) (hj : j < fN) (h : 37 ^ i % fP = 37 ^ j % fP) (hij : i < j) : False := by
  have e1 : 37 ^ (i + (fN - i)) % fP = 1 := by rw [show i + (fN - i) = fN by omega]; exact g_one
  have e2 : 37 ^ (j + (fN - i)) % fP = 1 := by
    rw [Nat.pow_add, Nat.mul_mod, ← h, ← Nat.mul_mod, ← Nat.pow_add]; exact e1
  have e3 : 37 ^ (j - i) % fP = 1 := by
    refine pow_one_sub (a := fN) g_one ?_
    rw [show fN + (j - i) = j + (fN - i) by omega]; exact e2
  obtain ⟨c, hc⟩ := order_dvd e3
  rcases Nat.eq_zero_or_pos c with rfl | hc0
  · simp at hc; omega
  · have : fN * 1 ≤ fN * c := Nat.mul_le_mul_left _ hc0
    omega

theorem fermat (a : Nat) (ha : a % fP ≠ 0) : a ^ fN % fP = 1 := by
  have hs := inj_surj fN (fun i => 37 ^ i % fP - 1)
    (fun i hi => by
      have h1 := g_ne i (by omega)
      have h2 : 37 ^ i % fP < fP := Nat.mod_lt _ (by decide +kernel)
      have h3 : fP = fN + 1 := by decide +kernel
      generalize 37 ^ i % fP = x at h1 h2 ⊢
      omega)
    (fun i j hi hj h => by
      have h1 := g_ne i (by omega)
      have h2 := g_ne j (by omega)
      have h3 : 37 ^ i % fP = 37 ^ j % fP := by
        generalize 37 ^ i % fP = x at h h1 ⊢
        generalize 37 ^ j % fP = y at h h2 ⊢
        omega
      rcases Nat.lt_trichotomy i j with h4 | h4 | h4
      · exact (g_inj i j hi hj h3 h4).elim
      · exact h4
      · exact (g_inj j i hj hi h3.symm h4).elim)
  have h2 : a % fP < fP := Nat.mod_lt _ (by decide +kernel)
  have h3 : fP = fN + 1 := by decide +kernel
  obtain ⟨i, hi, he⟩ := hs (a % fP - 1) (by omega)
  have he' : 37 ^ i % fP = a % fP := by
    have h1 := g_ne i (by omega)
    generalize 37 ^ i % fP = x at he h1 ⊢
    omega
  rw [Nat.pow_mod, ← he', ← Nat.pow_mod, ← Nat.pow_mul, Nat.mul_comm]
  exact pow_one_mul g_one (by decide +kernel) i
end Go.Proofs.YtlhpbfjelgmkeaaGreat
