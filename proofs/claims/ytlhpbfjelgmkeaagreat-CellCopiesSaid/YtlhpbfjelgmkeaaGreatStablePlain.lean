/- slices.SortStableFunc, the plain part: ranges exchanged, rotated, two sorted neighbours merged in place. Conditions: none. -/
import Derived.Sort.LotA
set_option maxRecDepth 100000
namespace Go.Proofs.YtlhpbfjelgmkeaaGreat
open Go.Sort
variable {α : Type} [Inhabited α]

/-- [a, a+n) and [b, b+n) exchanged -/
def SwR (d d' : Array α) (a b n : Nat) : Prop := d'.size = d.size ∧ ∀ t, d'[t]! = if a ≤ t ∧ t < a + n then d[t + (b - a)]! else if b ≤ t ∧ t < b + n then d[t - (b - a)]! else d[t]!
theorem SwR.start (d : Array α) (a b : Nat) : SwR d d a b 0 := ⟨rfl, fun t => by rw [if_neg (by omega), if_neg (by omega)]⟩
theorem SwR.step {d dk : Array α} {a b i n : Nat} (h : SwR d dk a b i) (hab : a + n ≤ b) (hi : i < n) (hb : b + n ≤ d.size) : SwR d (swp dk (a + i) (b + i)) a b (i + 1) := by
  refine ⟨by rw [size_swp]; exact h.1, fun t => ?_⟩
  have hs := h.1
  rw [swp_get dk (by omega) (by omega), h.2, h.2, h.2]
  by_cases h1 : t = b + i
  · subst h1
    rw [if_pos rfl, if_neg (by omega), if_neg (by omega), if_neg (by omega), if_pos (by omega)]
    congr 1; omega
  · rw [if_neg h1]
    by_cases h2 : t = a + i
    · subst h2
      rw [if_pos rfl, if_neg (by omega), if_neg (by omega), if_pos (by omega)]
      congr 1; omega
    · rw [if_neg h2]
      by_cases h3 : a ≤ t ∧ t < a + i
      · rw [if_pos h3, if_pos (by omega)]
      · rw [if_neg h3, if_neg (c := a ≤ t ∧ t < a + (i + 1)) (by omega)]
        by_cases h4 : b ≤ t ∧ t < b + i
        · rw [if_pos h4, if_pos (by omega)]
        · rw [if_neg h4, if_neg (by omega)]
theorem perm_swp {d0 dk : Array α} {lo hi x y : Nat} (h : PermIn lo hi d0 dk) (h1 : lo ≤ x) (h2 : x < hi) (h3 : lo ≤ y) (h4 : y < hi) (h5 : hi ≤ d0.size) : PermIn lo hi d0 (swp dk x y) :=
  permIn_trans _ _ _ _ _ h (swp_permIn dk lo hi x y h1 h2 h3 h4 (by rw [h.1]; exact h5))

/-- [m, b) comes ahead of [a, m) -/
def Rot (d d' : Array α) (a m b : Nat) : Prop := d'.size = d.size ∧ ∀ t, d'[t]! = if a ≤ t ∧ t < a + (b - m) then d[t + (m - a)]! else if a + (b - m) ≤ t ∧ t < b then d[t - (b - m)]! else d[t]!
theorem rot_left {d dk e : Array α} {a m j : Nat} (h : SwR d dk a m j) (haj : a + j < m) (k : Rot dk e (a + j) m (m + j)) : Rot d e a m (m + j) := by
  refine ⟨k.1.trans h.1, fun t => ?_⟩
  rw [k.2, h.2, h.2, h.2]
  by_cases h1 : a ≤ t ∧ t < a + j
  · rw [if_neg (by omega), if_neg (by omega), if_pos h1, if_pos (by omega)]
  · by_cases h2 : a + j ≤ t ∧ t < a + j + j
    · rw [if_pos (by omega), if_neg (by omega), if_pos (by omega), if_neg (by omega), if_pos (by omega)]
      congr 1; omega
    · rw [if_neg (by omega)]
      by_cases h3 : a + j + j ≤ t ∧ t < m + j
      · rw [if_pos (by omega), if_neg (by omega), if_neg (by omega), if_neg (by omega), if_pos (by omega)]
      · rw [if_neg (by omega), if_neg h1, if_neg (by omega), if_neg (by omega), if_neg (by omega)]
theorem rot_right {d dk e : Array α} {m i b : Nat} (him : i ≤ m) (h : SwR d dk (m - i) (b - i) i) (hb : m + i < b) (k : Rot dk e (m - i) m (b - i)) : Rot d e (m - i) m b := by
  refine ⟨k.1.trans h.1, fun t => ?_⟩
  rw [k.2, h.2, h.2, h.2]
  by_cases h1 : m - i ≤ t ∧ t < m - i + (b - i - m)
  · rw [if_pos (by omega), if_neg (by omega), if_neg (by omega), if_pos (by omega)]
  · rw [if_neg (by omega)]
    by_cases h2 : m - i + (b - i - m) ≤ t ∧ t < b - i
    · rw [if_pos (by omega), if_pos (by omega), if_pos (by omega)]
      congr 1; omega
    · rw [if_neg (by omega), if_neg (by omega)]
      by_cases h3 : b - i ≤ t ∧ t < b
      · rw [if_pos (by omega), if_neg (by omega), if_pos (by omega)]
        congr 1; omega
      · rw [if_neg (by omega), if_neg (by omega), if_neg (by omega)]
theorem rot_end {d e : Array α} {m i : Nat} (him : i ≤ m) (h : SwR d e (m - i) m i) : Rot d e (m - i) m (m + i) := by
  refine ⟨h.1, fun t => ?_⟩
  rw [h.2]
  by_cases h1 : m - i ≤ t ∧ t < m - i + i
  · rw [if_pos h1, if_pos (by omega)]
  · rw [if_neg h1, if_neg (c := m - i ≤ t ∧ t < m - i + (m + i - m)) (by omega)]
    by_cases h2 : m ≤ t ∧ t < m + i
    · rw [if_pos (by omega), if_pos (by omega)]
      congr 1; omega
    · rw [if_neg (by omega), if_neg (by omega)]
theorem rot_none_l (d : Array α) (a b : Nat) : Rot d d a a b := ⟨rfl, fun t => by
  by_cases h1 : a ≤ t ∧ t < a + (b - a)
  · rw [if_pos h1]; simp
  · rw [if_neg h1, if_neg (by omega)]⟩
theorem rot_none_r (d : Array α) (a b : Nat) : Rot d d a b b := ⟨rfl, fun t => by
  rw [if_neg (by omega)]
  by_cases h1 : a + (b - b) ≤ t ∧ t < b
  · rw [if_pos h1]; simp
  · rw [if_neg h1]⟩
/-- the first goes up to k -/
theorem rot_up {d dk : Array α} {a k : Nat} (h : Rot d dk a (a + 1) (k + 1)) (hak : a ≤ k) (hk : k + 1 < d.size) : Rot d (swp dk k (k + 1)) a (a + 1) (k + 1 + 1) := by
  refine ⟨by rw [size_swp]; exact h.1, fun t => ?_⟩
  have hs := h.1
  rw [swp_get dk (by omega) (by omega), h.2, h.2, h.2]
  by_cases h1 : t = k + 1
  · subst h1
    rw [if_pos rfl, if_neg (by omega), if_pos (by omega), if_neg (by omega), if_pos (by omega)]
    congr 1; omega
  · rw [if_neg h1]
    by_cases h2 : t = k
    · subst h2
      rw [if_pos rfl, if_neg (by omega), if_neg (by omega), if_pos (by omega)]
      congr 1; omega
    · rw [if_neg h2]
      by_cases h3 : a ≤ t ∧ t < k
      · rw [if_pos (by omega), if_pos (by omega)]
      · rw [if_neg (by omega), if_neg (by omega), if_neg (by omega), if_neg (by omega)]
/-- the last goes down to k -/
theorem rot_down {d dk : Array α} {k m : Nat} (h : Rot d dk (k + 1) m (m + 1)) (hkm : k + 1 ≤ m) (hm : m < d.size) : Rot d (swp dk (k + 1) k) k m (m + 1) := by
  refine ⟨by rw [size_swp]; exact h.1, fun t => ?_⟩
  have hs := h.1
  rw [swp_get dk (by omega) (by omega), h.2, h.2, h.2]
  by_cases h1 : t = k
  · subst h1
    rw [if_pos rfl, if_pos (by omega), if_pos (by omega)]
    congr 1; omega
  · rw [if_neg h1]
    by_cases h2 : t = k + 1
    · subst h2
      rw [if_pos rfl, if_neg (by omega), if_neg (by omega), if_neg (by omega), if_pos (by omega)]
      congr 1; omega
    · rw [if_neg h2, if_neg (by omega), if_neg (c := k ≤ t ∧ t < k + (m + 1 - m)) (by omega)]
      by_cases h3 : k + 1 + 1 ≤ t ∧ t < m + 1
      · rw [if_pos (by omega), if_pos (by omega)]
      · rw [if_neg (by omega), if_neg (by omega)]

section
variable {lt : α → α → Bool}
/-- in a sorted part nothing behind is less, itself neither -/
theorem SortedIn_le (hO : SWO lt) {d : Array α} {a b : Nat} (h : SortedIn lt a b d) {i j : Nat} (h1 : a ≤ i) (h2 : i ≤ j) (h3 : j < b) : lt d[j]! d[i]! = false := by
  rcases Nat.lt_or_ge i j with g | g
  · exact h i j h1 g h3
  · have : i = j := by omega
    subst this
    exact hO.irrefl _

/-- two sorted neighbours, and how elements of the one stand to those of the other -/
structure Two (lt : α → α → Bool) (R : α → α → Prop) (d : Array α) (a m b : Nat) : Prop where
  left : SortedIn lt a m d
  right : SortedIn lt m b d
  cross : ∀ i j, a ≤ i → i < m → m ≤ j → j < b → R d[i]! d[j]!

/-- one element ahead of a sorted part -/
theorem merge_one (hO : SWO lt) {d d' : Array α} {a b i : Nat} (hs : SortedIn lt (a + 1) b d) (hi : a + 1 ≤ i) (hib : i ≤ b) (hlo : ∀ h, a + 1 ≤ h → h < i → lt d[h]! d[a]! = true) (hhi : ∀ h, i ≤ h → h < b → lt d[h]! d[a]! = false) (hr : Rot d d' a (a + 1) i) :
    SortedIn lt a b d' := by
  have v1 : ∀ t, a ≤ t → t + 1 < i → d'[t]! = d[t + 1]! := fun t h1 h2 => by
    rw [hr.2, if_pos (by omega)]; congr 1; omega
  have v2 : d'[i - 1]! = d[a]! := by
    rw [hr.2, if_neg (by omega), if_pos (by omega)]; congr 1; omega
  have v3 : ∀ t, i ≤ t → d'[t]! = d[t]! := fun t h1 => by
    rw [hr.2, if_neg (by omega), if_neg (by omega)]
  intro p q hp hpq hq
  by_cases q1 : q + 1 < i
  · rw [v1 q (by omega) q1, v1 p hp (by omega)]
    exact hs _ _ (by omega) (by omega) (by omega)
  · by_cases q2 : q = i - 1
    · rw [q2, v2, v1 p hp (by omega)]
      exact hO.asymmA (hlo _ (by omega) (by omega))
    · rw [v3 q (by omega)]
      by_cases p1 : p + 1 < i
      · rw [v1 p hp p1]
        exact hs _ _ (by omega) (by omega) hq
      · by_cases p2 : p = i - 1
        · rw [p2, v2]
          exact hhi q (by omega) hq
        · rw [v3 p (by omega)]
          exact hs _ _ (by omega) hpq hq
/-- one element behind a sorted part -/
theorem merge_last (hO : SWO lt) {d d' : Array α} {a m i : Nat} (hs : SortedIn lt a m d) (hi : a ≤ i) (him : i ≤ m) (hlo : ∀ h, a ≤ h → h < i → lt d[m]! d[h]! = false) (hhi : ∀ h, i ≤ h → h < m → lt d[m]! d[h]! = true) (hr : Rot d d' i m (m + 1)) :
    SortedIn lt a (m + 1) d' := by
  have v1 : ∀ t, t < i → d'[t]! = d[t]! := fun t h1 => by
    rw [hr.2, if_neg (by omega), if_neg (by omega)]
  have v2 : d'[i]! = d[m]! := by
    rw [hr.2, if_pos (by omega)]; congr 1; omega
  have v3 : ∀ t, i < t → t < m + 1 → d'[t]! = d[t - 1]! := fun t h1 h2 => by
    rw [hr.2, if_neg (by omega), if_pos (by omega)]; congr 1; omega
  intro p q hp hpq hq
  by_cases q1 : q < i
  · rw [v1 q q1, v1 p (by omega)]
    exact hs _ _ hp hpq (by omega)
  · by_cases q2 : q = i
    · rw [q2, v2, v1 p (by omega)]
      exact hlo _ hp (by omega)
    · rw [v3 q (by omega) hq]
      by_cases p1 : p < i
      · rw [v1 p p1]
        exact SortedIn_le hO hs hp (by omega) (by omega)
      · by_cases p2 : p = i
        · rw [p2, v2]
          exact hO.asymmA (hhi _ (by omega) (by omega))
        · rw [v3 p (by omega) (by omega)]
          exact hs _ _ (by omega) (by omega) (by omega)

/-- the parts that change places, and what they are then -/
structure Cutp (lt : α → α → Bool) (d : Array α) (a m b mid s : Nat) : Prop where
  md : a < mid ∧ mid < b
  lo : a ≤ s ∧ s ≤ m ∧ s ≤ mid
  hi : m ≤ mid + m - s ∧ mid + m - s ≤ b
  low : ∀ i, a ≤ i → i < s → ∀ j, mid + m - s ≤ j → j < b → lt d[j]! d[i]! = false
  high : ∀ i, s ≤ i → i < m → ∀ j, m ≤ j → j < mid + m - s → lt d[i]! d[j]! = false

section
variable {R : α → α → Prop} {d d' : Array α} {a m b mid s : Nat}
theorem Cutp.vals (c : Cutp lt d a m b mid s) (hr : Rot d d' s m (mid + m - s)) : (∀ t, t < s → d'[t]! = d[t]!) ∧ (∀ t, s ≤ t → t < mid → d'[t]! = d[t + (m - s)]!) ∧ (∀ t, mid ≤ t → t < mid + m - s → d'[t]! = d[t - (mid - s)]!) ∧ (∀ t, mid + m - s ≤ t → d'[t]! = d[t]!) := by
  obtain ⟨⟨_, _⟩, ⟨_, _, _⟩, ⟨_, _⟩, _, _⟩ := c
  refine ⟨fun t h => ?_, fun t h1 h2 => ?_, fun t h1 h2 => ?_, fun t h => ?_⟩
  · rw [hr.2, if_neg (by omega), if_neg (by omega)]
  · rw [hr.2, if_pos (by omega)]
  · rw [hr.2, if_neg (by omega), if_pos (by omega)]
    congr 1; omega
  · rw [hr.2, if_neg (by omega), if_neg (by omega)]
theorem Cutp.first (c : Cutp lt d a m b mid s) (hT : Two lt R d a m b) (hr : Rot d d' s m (mid + m - s)) : Two lt R d' a s mid := by
  obtain ⟨v1, v2, v3, v4⟩ := c.vals hr
  have c1 := c.md; have c2 := c.lo; have c3 := c.hi
  refine ⟨fun i j h1 h2 h3 => ?_, fun i j h1 h2 h3 => ?_, fun i j h1 h2 h3 h4 => ?_⟩
  · rw [v1 j (by omega), v1 i (by omega)]
    exact hT.left _ _ h1 h2 (by omega)
  · rw [v2 j (by omega) h3, v2 i h1 (by omega)]
    exact hT.right _ _ (by omega) (by omega) (by omega)
  · rw [v1 i h2, v2 j h3 h4]
    exact hT.cross _ _ h1 (by omega) (by omega) (by omega)
theorem Cutp.second (c : Cutp lt d a m b mid s) (hT : Two lt R d a m b) (hr : Rot d d' s m (mid + m - s)) : Two lt R d' mid (mid + m - s) b := by
  obtain ⟨v1, v2, v3, v4⟩ := c.vals hr
  have c1 := c.md; have c2 := c.lo; have c3 := c.hi
  refine ⟨fun i j h1 h2 h3 => ?_, fun i j h1 h2 h3 => ?_, fun i j h1 h2 h3 h4 => ?_⟩
  · rw [v3 j (by omega) h3, v3 i h1 (by omega)]
    exact hT.left _ _ (by omega) (by omega) (by omega)
  · rw [v4 j (by omega), v4 i (by omega)]
    exact hT.right _ _ (by omega) (by omega) h3
  · rw [v3 i h1 h2, v4 j (by omega)]
    exact hT.cross _ _ (by omega) (by omega) (by omega) h4
theorem Cutp.apart (c : Cutp lt d a m b mid s) (hT : Two lt R d a m b) (hr : Rot d d' s m (mid + m - s)) : ∀ i j, a ≤ i → i < mid → mid ≤ j → j < b → lt d'[j]! d'[i]! = false := by
  obtain ⟨v1, v2, v3, v4⟩ := c.vals hr
  have c1 := c.md; have c2 := c.lo; have c3 := c.hi
  intro i j h1 h2 h3 h4
  by_cases i1 : i < s
  · rw [v1 i i1]
    by_cases j1 : j < mid + m - s
    · rw [v3 j h3 j1]
      exact hT.left _ _ h1 (by omega) (by omega)
    · rw [v4 j (by omega)]
      exact c.low i h1 i1 j (by omega) h4
  · rw [v2 i (by omega) h2]
    by_cases j1 : j < mid + m - s
    · rw [v3 j h3 j1]
      exact c.high _ (by omega) (by omega) _ (by omega) (by omega)
    · rw [v4 j (by omega)]
      exact hT.right _ _ (by omega) (by omega) (by omega)
/-- both halves sorted, and no element of the second less than one of the first -/
theorem sorted_halves {e e2 : Array α} (hmb : mid ≤ b) (hbs : b ≤ d'.size) (hap : ∀ i j, a ≤ i → i < mid → mid ≤ j → j < b → lt d'[j]! d'[i]! = false) (p1 : PermIn a mid d' e) (s1 : SortedIn lt a mid e) (p2 : PermIn mid b e e2) (s2 : SortedIn lt mid b e2) : SortedIn lt a b e2 := by
  have q1 : ∀ i, a ≤ i → i < mid → ∀ j, mid ≤ j → j < b → lt d'[j]! e[i]! = false := permIn_all d' e a mid (fun x => ∀ j, mid ≤ j → j < b → lt d'[j]! x = false) (by omega) p1 (fun i h1 h2 j h3 h4 => hap i j h1 h2 h3 h4)
  have q2 : ∀ j, mid ≤ j → j < b → ∀ i, a ≤ i → i < mid → lt e[j]! e[i]! = false := fun j h3 h4 i h1 h2 => by
    rw [p1.2.1 j (by omega)]; exact q1 i h1 h2 j h3 h4
  have q3 : ∀ j, mid ≤ j → j < b → ∀ i, a ≤ i → i < mid → lt e2[j]! e[i]! = false := permIn_all e e2 mid b (fun x => ∀ i, a ≤ i → i < mid → lt x e[i]! = false) (by rw [p1.1]; omega) p2 (fun j h3 h4 i h1 h2 => q2 j h3 h4 i h1 h2)
  intro i j h1 h2 h3
  by_cases i1 : i < mid
  · rw [p2.2.1 i (by omega)]
    by_cases j1 : j < mid
    · rw [p2.2.1 j (by omega)]
      exact s1 _ _ h1 h2 j1
    · exact q3 j (by omega) h3 i h1 i1
  · exact s2 _ _ (by omega) h2 h3
/-- the cut that the search finds -/
theorem cut_of (hO : SWO lt) (hT : Two lt R d a m b) (h1 : a < m) (h2 : m < b) (hm : mid = (a + b) / 2) {s0 r0 : Nat} (h0 : (mid < m ∧ s0 = mid + m - b ∧ r0 = mid) ∨ (m ≤ mid ∧ s0 = a ∧ r0 = m)) (hs0 : s0 ≤ s) (hsr : s ≤ r0)
    (hlo : ∀ c, s0 ≤ c → c < s → lt d[mid + m - 1 - c]! d[c]! = false) (hhi : ∀ c, s ≤ c → c < r0 → lt d[mid + m - 1 - c]! d[c]! = true) (h4 : 4 ≤ b - a) : Cutp lt d a m b mid s := by
  refine ⟨⟨by omega, by omega⟩, ⟨by omega, by omega, by omega⟩, ⟨by omega, by omega⟩, fun i hi1 hi2 j hj1 hj2 => ?_, fun i hi1 hi2 j hj1 hj2 => ?_⟩
  · have hk : lt d[mid + m - s]! d[s - 1]! = false := by
      have := hlo (s - 1) (by omega) (by omega)
      rwa [show mid + m - 1 - (s - 1) = mid + m - s by omega] at this
    exact hO.ntrans _ _ _ (SortedIn_le hO hT.right (by omega) hj1 hj2) (hO.ntrans _ _ _ hk (SortedIn_le hO hT.left hi1 (by omega) (by omega)))
  · have hk : lt d[mid + m - s - 1]! d[s]! = true := by
      have := hhi s (by omega) (by omega)
      rwa [show mid + m - 1 - s = mid + m - s - 1 by omega] at this
    exact hO.ntrans _ _ _ (SortedIn_le hO hT.left (by omega) hi1 (by omega)) (hO.ntrans _ _ _ (hO.asymmA hk) (SortedIn_le hO hT.right hj1 (by omega) (by omega)))
/-- where the test says no, it says no below; where yes, above -/
theorem no_below (hO : SWO lt) (hT : Two lt R d a m b) {p c c' : Nat} (hc : c' ≤ c) (ha : a ≤ c') (hm : c < m) (hp : m ≤ p - c) (hb : p - c' < b) (h : lt d[p - c]! d[c]! = false) : lt d[p - c']! d[c']! = false :=
  hO.ntrans _ _ _ (SortedIn_le hO hT.right hp (by omega) hb) (hO.ntrans _ _ _ h (SortedIn_le hO hT.left ha hc hm))
theorem yes_above (hO : SWO lt) (hT : Two lt R d a m b) {p c c' : Nat} (hc : c ≤ c') (ha : a ≤ c) (hm : c' < m) (hp : m ≤ p - c') (hb : p - c < b) (h : lt d[p - c]! d[c]! = true) : lt d[p - c']! d[c']! = true := by
  cases g : lt d[p - c']! d[c']! with
  | true => rfl
  | false => rw [no_below hO hT hc ha hm hp hb g] at h; cases h
end
end
section
variable {lt ltc : α → α → Bool} {R : α → α → Prop}
theorem insInner_perm (a b : Nat) : ∀ (j : Nat) (d : Array α), a ≤ j → j < b → b ≤ d.size → PermIn a b d (insInner lt a j d)
  | 0, d, _, _, _ => by unfold insInner; exact permIn_refl d a b
  | j + 1, d, haj, hjb, hb => by
    unfold insInner
    split
    · rename_i hc
      simp only [Bool.and_eq_true, decide_eq_true_eq] at hc
      exact permIn_trans _ _ _ a b (swp_permIn d a b (j + 1) j haj hjb (by omega) (by omega) hb) (insInner_perm a b j _ (by omega) (by omega) (by rw [size_swp]; exact hb))
    · exact permIn_refl d a b
theorem insInner_alike (hR : ∀ x y, R x y → ltc y x = lt y x) (a : Nat) : ∀ (j : Nat) (d : Array α), j < d.size → (∀ x, a ≤ x → x < j → R d[x]! d[j]!) → insInner ltc a j d = insInner lt a j d
  | 0, d, _, _ => by unfold insInner; rfl
  | j + 1, d, hj, h => by
    unfold insInner
    by_cases haj : j + 1 > a
    · rw [hR _ _ (h j (by omega) (by omega))]
      split
      · refine insInner_alike hR a j _ (by rw [size_swp]; omega) fun x h1 h2 => ?_
        rw [swp_get d hj (by omega), swp_get d hj (by omega), if_neg (by omega), if_neg (by omega), if_pos rfl]
        exact h x h1 (by omega)
      · rfl
    · rw [if_neg (by simp; intro h'; omega), if_neg (by simp; intro h'; omega)]
theorem insOuter_alike (hR : ∀ x y, R x y → ltc y x = lt y x) (a b : Nat) : ∀ (n i : Nat) (d : Array α), b - i = n → a < i → b ≤ d.size → (∀ x y, a ≤ x → x < y → i ≤ y → y < b → R d[x]! d[y]!) → insOuter ltc a b i d = insOuter lt a b i d
  | 0, i, d, hn, _, _, _ => by
    rw [insOuter, if_neg (by omega), insOuter, if_neg (by omega)]
  | n + 1, i, d, hn, hai, hb, h => by
    have hp : PermIn a (i + 1) d (insInner lt a i d) := insInner_perm a (i + 1) i d (by omega) (by omega) (by omega)
    have e1 : insOuter ltc a b i d = insOuter ltc a b (i + 1) (insInner ltc a i d) := by rw [insOuter, if_pos (by omega)]
    have e2 : insOuter lt a b i d = insOuter lt a b (i + 1) (insInner lt a i d) := by rw [insOuter, if_pos (by omega)]
    rw [e1, e2, insInner_alike hR a i d (by omega) (fun x h1 h2 => h x i h1 h2 (Nat.le_refl _) (by omega))]
    refine insOuter_alike hR a b n (i + 1) _ (by omega) (by omega) (by rw [hp.1]; exact hb) fun x y h1 h2 h3 h4 => ?_
    rw [hp.2.1 y (by omega)]
    by_cases hx : x < i + 1
    · exact permIn_all d _ a (i + 1) (fun z => R z d[y]!) (by omega) hp (fun z hz1 hz2 => h z y hz1 (by omega) (by omega) h4) x h1 hx
    · rw [hp.2.1 x (by omega)]
      exact h x y h1 h2 (by omega) h4
theorem insertion_alike (hO : SWO lt) (hR : ∀ x y, R x y → ltc y x = lt y x) {d : Array α} {a b : Nat} (hab : a ≤ b) (hb : b ≤ d.size) (h : ∀ x y, a ≤ x → x < y → y < b → R d[x]! d[y]!) :
    PermIn a b d (insertionSort ltc d a b) ∧ SortedIn lt a b (insertionSort ltc d a b) := by
  have e : insertionSort ltc d a b = insertionSort lt d a b := insOuter_alike hR a b _ (a + 1) d rfl (by omega) hb (fun x y h1 h2 _ h4 => h x y h1 h2 h4)
  rw [e]
  exact insertionSort_holds hO d a b hab hb

/-- all ahead of c stand so to all behind it -/
def CutAt (R : α → α → Prop) (n : Nat) (d : Array α) (c : Nat) : Prop := ∀ i j, i < c → c ≤ j → j < n → R d[i]! d[j]!
theorem CutAt.perm {n c x y : Nat} {d d' : Array α} (h : CutAt R n d c) (hn : n ≤ d.size) (hy : y ≤ n) (hp : PermIn x y d d') (hc : c ≤ x ∨ y ≤ c) : CutAt R n d' c := by
  intro i j h1 h2 h3
  rcases hc with hc | hc
  · rw [hp.2.1 i (by omega)]
    by_cases g : x ≤ j ∧ j < y
    · exact permIn_all d d' x y (fun z => R d[i]! z) (by omega) hp (fun k k1 k2 => h i k h1 (by omega) (by omega)) j g.1 g.2
    · rw [hp.2.1 j (by omega)]; exact h i j h1 h2 h3
  · rw [hp.2.1 j (by omega)]
    by_cases g : x ≤ i ∧ i < y
    · exact permIn_all d d' x y (fun z => R z d[j]!) (by omega) hp (fun k k1 k2 => h k j (by omega) h2 h3) i g.1 g.2
    · rw [hp.2.1 i (by omega)]; exact h i j h1 h2 h3

theorem dvd_step {m a c : Nat} (h1 : m ∣ a) (h2 : m ∣ c) (h : c < a + m) : c ≤ a := by
  obtain ⟨y, rfl⟩ := h1
  obtain ⟨x, rfl⟩ := h2
  have : m * x < m * (y + 1) := by rw [Nat.mul_add, Nat.mul_one]; exact h
  exact Nat.mul_le_mul_left _ (Nat.lt_succ_iff.1 (Nat.lt_of_mul_lt_mul_left this))

/-- up to a blocks of the big size are sorted, behind it such of the small size -/
structure Mid (lt : α → α → Bool) (R : α → α → Prop) (big small a n : Nat) (d : Array α) : Prop where
  done : ∀ q, big ∣ q → q < a → q < n → SortedIn lt q (min (q + big) n) d
  todo : ∀ q, small ∣ q → a ≤ q → q < n → SortedIn lt q (min (q + small) n) d
  cuts : ∀ c, small ∣ c → a ≤ c → CutAt R n d c
  cutd : ∀ c, big ∣ c → CutAt R n d c
theorem Mid.first {n : Nat} {d : Array α} (h : ∀ i j, i < j → j < n → R d[i]! d[j]!) (big : Nat) : Mid lt R big 1 0 n d :=
  ⟨fun q _ h1 => by omega, fun q _ _ _ i j h1 h2 h3 => by omega, fun c _ _ i j h1 h2 h3 => h i j (by omega) h3, fun c _ i j h1 h2 h3 => h i j (by omega) h3⟩
theorem Mid.next {big small a n : Nat} {d : Array α} (h : Mid lt R big small a n d) (ha : n ≤ a) {big' : Nat} (hb : big ∣ big') : Mid lt R big' big 0 n d :=
  ⟨fun q _ h1 => by omega, fun q h1 _ h3 => h.done q h1 (by omega) h3, fun c h1 _ => h.cutd c h1, fun c h1 => h.cutd c (Nat.dvd_trans hb h1)⟩
theorem Mid.step {big small a n : Nat} {d d' : Array α} (h : Mid lt R big small a n d) (ha : big ∣ a) (hp0 : 0 < big) (hn : n ≤ d.size) (hp : PermIn a (min (a + big) n) d d') (hso : SortedIn lt a (min (a + big) n) d') : Mid lt R big small (a + big) n d' where
  done := fun q h1 h2 h3 => by
    have h4 : q ≤ a := dvd_step ha h1 h2
    rcases Nat.lt_or_ge q a with g | g
    · have h5 : q + big ≤ a := by
        have := dvd_step (m := big) (a := q) (c := a) h1 ha
        rcases Nat.lt_or_ge a (q + big) with g' | g'
        · have := this g'; omega
        · exact g'
      intro i j i1 i2 i3
      rw [hp.2.1 i (by omega), hp.2.1 j (by omega)]
      exact h.done q h1 g h3 i j i1 i2 i3
    · obtain rfl : q = a := by omega
      exact hso
  todo := fun q h1 h2 h3 => by
    intro i j i1 i2 i3
    rw [hp.2.1 i (by omega), hp.2.1 j (by omega)]
    exact h.todo q h1 (by omega) h3 i j i1 i2 i3
  cuts := fun c h1 h2 => (h.cuts c h1 (by omega)).perm hn (by omega) hp (.inr (by omega))
  cutd := fun c h1 => (h.cutd c h1).perm hn (by omega) hp (by
    rcases Nat.lt_or_ge c (a + big) with g | g
    · exact .inl (dvd_step ha h1 g)
    · exact .inr (by omega))
theorem Mid.two {big small a m n e : Nat} {d : Array α} (h : Mid lt R big small a n d) (ha : small ∣ a) (hm : m = a + small) (hmn : m < n) (he : e ≤ n) (he2 : e ≤ m + small) : Two lt R d a m e := by
  refine ⟨fun i j h1 h2 h3 => ?_, fun i j h1 h2 h3 => ?_, fun i j h1 h2 h3 h4 => ?_⟩
  · exact h.todo a ha (Nat.le_refl _) (by omega) i j h1 h2 (by omega)
  · exact h.todo m (by rw [hm]; exact Nat.dvd_add ha (Nat.dvd_refl _)) (by omega) hmn i j h1 h2 (by omega)
  · exact h.cuts m (by rw [hm]; exact Nat.dvd_add ha (Nat.dvd_refl _)) (by omega) i j h2 h3 (by omega)
theorem Mid.end {big small a n : Nat} {d : Array α} (h : Mid lt R big small a n d) (ha : n ≤ a) (hn : n ≤ big) : SortedIn lt 0 n d := by
  rcases Nat.eq_zero_or_pos n with rfl | g
  · intro i j h1 h2 h3; omega
  · have := h.done 0 (Nat.dvd_zero _) (by omega) g
    rwa [Nat.zero_add, Nat.min_eq_right hn] at this
end
end Go.Proofs.YtlhpbfjelgmkeaaGreat
