/- Plain mathematics: where liftAll changes nothing nothing can be lifted, and few nodes are left. Conditions: as stated. -/
import Derived.Test.YtahaoodklfmddaaDigFitA
set_option maxRecDepth 100000
namespace Go.Proofs.Ytahaoodklfmddaa
open Go.RowKit Go.Maps Go.Sort Go.Shelf

theorem inner_true {most : Int} {lv : Nat} : ∀ (us : List UInt64) (L : DL) (st : Nat) (L' : DL) (ch' : Bool) (st' : Nat) (b : Bool), innerL most lv us L true st = (L', ch', st', b) → ch' = true
  | [], L, st, L', ch', st', b, e => by
    cases e
    rfl
  | u :: us, L, st, L', ch', st', b, e => by
    unfold innerL at e
    split at e
    · exact inner_true us _ _ _ _ _ _ e
    · split at e
      · cases e
        rfl
      · exact inner_true us _ _ _ _ _ _ e
theorem outer_true {most : Int} {lv st : Nat} {L L' : DL} {ch ch' : Bool} (h : OuterL most lv L ch st L' ch') : ch = true → ch' = true := by
  induction h with
  | top L ch st => exact id
  | stop hl hx hn hp e => exact fun hc => by subst hc; exact inner_true _ _ _ _ _ _ _ e
  | next hl hx hn hp e k ih => exact fun hc => by subst hc; exact ih (inner_true _ _ _ _ _ _ _ e)
/-- a level where nothing changed -/
theorem inner_same {most : Int} {lv : Nat} : ∀ (us : List UInt64) (L : DL) (st : Nat) (L' : DL) (st' : Nat) (b : Bool), innerL most lv us L false st = (L', false, st', b) →
    L' = L ∧ ∃ us1 us2, us = us1 ++ us2 ∧ (∀ u ∈ us1, most < allC L (cd lv u.toNat)) ∧ st' = st + us1.length ∧ (b = false → us2 = []) ∧ (b = true → st' = L.length)
  | [], L, st, L', st', b, e => by
    cases e
    exact ⟨rfl, [], [], rfl, (fun u hu => by cases hu), rfl, (fun _ => rfl), fun e => by cases e⟩
  | u :: us, L, st, L', st', b, e => by
    unfold innerL at e
    split at e
    · exact absurd (inner_true us _ _ _ _ _ _ e) (by decide)
    · rename_i hm
      split at e
      · rename_i hq
        cases e
        refine ⟨rfl, [u], us, rfl, fun v hv => ?_, rfl, (fun e => by cases e), fun _ => hq⟩
        rw [List.mem_singleton] at hv
        subst hv
        omega
      · obtain ⟨rfl, us1, us2, h1, h2, h3, h4, h5⟩ := inner_same us L (st + 1) L' st' b e
        refine ⟨rfl, u :: us1, us2, by rw [h1]; rfl, fun v hv => ?_, by rw [List.length_cons]; omega, h4, h5⟩
        rcases List.mem_cons.1 hv with rfl | hv
        · omega
        · exact h2 v hv
/-- how many nodes are below level lv -/
def below (lv : Nat) (L : DL) : Nat := L.countP fun q => decide (q.1 / 18446744073709551616 < lv)
theorem below_next (lv : Nat) (L : DL) : below (lv + 1) L = below lv L + (L.filter fun q => decide (((q.1 / 18446744073709551616 : Nat) : Int) = (lv : Int))).length := by
  unfold below
  induction L with
  | nil => rfl
  | cons q r ih =>
    rw [List.countP_cons, List.countP_cons, ih, List.filter_cons]
    by_cases h1 : q.1 / 18446744073709551616 < lv
    · rw [if_pos (by simp; omega), if_pos (by simpa using h1), if_neg (by simp; omega)]
      omega
    · by_cases h2 : q.1 / 18446744073709551616 = lv
      · rw [if_pos (by simp; omega), if_neg (by simpa using h1), if_pos (by simp [h2]), List.length_cons]
        omega
      · rw [if_neg (by simp; omega), if_neg (by simpa using h1), if_neg (by simp; omega)]
        omega
theorem below_le (lv : Nat) (L : DL) : below lv L ≤ L.length := List.countP_le_length
theorem level_len {L xs : DL} {lv : Nat} {us : List UInt64} (hL : L.Nodup) (hx : ∀ p, p ∈ xs ↔ p ∈ L) (hn : xs.Nodup) (hp : us.Perm (preL lv xs)) : us.length = below (lv + 1) L - below lv L := by
  have h1 : xs.Perm L := (List.perm_ext_iff_of_nodup hn hL).2 hx
  rw [hp.length_eq, below_next]
  unfold preL
  rw [List.length_map, (h1.filter _).length_eq]
  omega
/-- a level's node is among its prefixes -/
theorem level_mem {L xs : DL} {lv : Nat} {us : List UInt64} (hx : ∀ p, p ∈ xs ↔ p ∈ L) (hp : us.Perm (preL lv xs)) {q : Nat × Int} (hq : q ∈ L) (hl : q.1 / 18446744073709551616 = lv) : ∃ u ∈ us, cd lv u.toNat = q.1 := by
  refine ⟨UInt64.ofNat (q.1 % 18446744073709551616), hp.mem_iff.2 ?_, ?_⟩
  · unfold preL
    exact List.mem_map.2 ⟨q, List.mem_filter.2 ⟨(hx q).2 hq, by simp [hl]⟩, rfl⟩
  · have h6 : (UInt64.ofNat (q.1 % 18446744073709551616)).toNat = q.1 % 18446744073709551616 := by simp
    rw [h6, ← hl]
    exact cd_self q.1
theorem nodup_of_asc {L : DL} (h : DAsc L) : L.Nodup := by
  refine h.imp fun {a b} hab e => ?_
  subst e
  omega
/-- nothing changed: no node from level lv on, below the top, can be lifted -/
theorem outer_same {most : Int} {lv st : Nat} {L L' : DL} {ch ch' : Bool} (h : OuterL most lv L ch st L' ch') (hA : DAsc L) (hc : ch = false) (hc' : ch' = false) (hst : st = below lv L) :
    ∀ q ∈ L, lv ≤ q.1 / 18446744073709551616 → q.1 / 18446744073709551616 < 64 → most < allC L q.1 := by
  induction h with
  | top L ch st => exact fun q hq h1 h2 => absurd h1 (by omega)
  | @stop lv st st' L L' xs ch ch' us hl hx hn hp e =>
    subst hc hc'
    obtain ⟨_, us1, us2, h1, h2, h3, _, h5⟩ := inner_same us L st L' st' true e
    have h6 := level_len (nodup_of_asc hA) hx hn hp
    have h7 := below_le (lv + 1) L
    have h8 := below_next lv L
    have h9 := h5 rfl
    have h10 : us.length = us1.length + us2.length := by rw [h1, List.length_append]
    have h11 : us2 = [] := List.length_eq_zero_iff.1 (by omega)
    rw [h11, List.append_nil] at h1
    intro q hq g1 g2
    rcases Nat.lt_or_ge lv (q.1 / 18446744073709551616) with g | g
    · exfalso
      have h12 : below (lv + 1) L < L.length := by
        unfold below
        refine Nat.lt_of_le_of_ne List.countP_le_length fun e => ?_
        have := List.countP_eq_length.1 e q hq
        have := of_decide_eq_true this
        omega
      omega
    · obtain ⟨u, hu, e2⟩ := level_mem hx hp hq (by omega)
      rw [← e2]
      exact h2 u (h1 ▸ hu)
  | @next lv st st1 L L1 L2 xs ch ch1 ch2 us hl hx hn hp e k ih =>
    subst hc hc'
    have hc1 : ch1 = false := by
      cases ch1 with
      | false => rfl
      | true => exact absurd (outer_true k rfl) (by decide)
    subst hc1
    obtain ⟨rfl, us1, us2, h1, h2, h3, h4, _⟩ := inner_same us L st L1 st1 false e
    rw [h4 rfl, List.append_nil] at h1
    have h6 := level_len (nodup_of_asc hA) hx hn hp
    have h8 := below_next lv L1
    intro q hq g1 g2
    rcases Nat.lt_or_ge lv (q.1 / 18446744073709551616) with g | g
    · exact ih hA rfl rfl (by rw [h3, hst, ← h1]; omega) q hq (by omega) g2
    · obtain ⟨u, hu, e2⟩ := level_mem hx hp hq (by omega)
      rw [← e2]
      exact h2 u (h1 ▸ hu)
/-- where fit ends, nothing more can be lifted -/
theorem fit_end {n : Nat} {most : Int} {L L' : DL} (h : FitL most L L') (hI : LInv n L) : LInv n L' ∧ ∀ q ∈ L', q.1 / 18446744073709551616 < 64 → most < allC L' q.1 := by
  induction h with
  | last h =>
    have ho := outer_onto h hI
    obtain ⟨_, rfl⟩ := ho.same rfl
    exact ⟨hI, fun q hq g => outer_same h hI.inv.asc rfl rfl (by unfold below; exact (List.countP_eq_zero.2 (fun q _ => by simp)).symm) q hq (Nat.zero_le _) g⟩
  | again h k ih => exact ih (outer_onto h hI).inv

/-- the sum over A of what L counts at f -/
def sumAt (f : Nat → Nat) (L : DL) : DL → Int
  | [] => 0
  | q :: r => dcnt L (f q.1) + sumAt f L r
theorem sumAt_nil (f : Nat → Nat) : ∀ A : DL, sumAt f [] A = 0
  | [] => rfl
  | q :: r => by
    show dcnt [] (f q.1) + sumAt f [] r = 0
    rw [sumAt_nil f r]
    rfl
theorem sumAt_cons (f : Nat → Nat) {p : Nat × Int} {L : DL} (hp : 0 ≤ p.2) (hL : ∀ q ∈ L, 1 ≤ q.2) : ∀ A : DL, sumAt f (p :: L) A ≤ p.2 * (A.countP fun q => decide (f q.1 = p.1) : Nat) + sumAt f L A
  | [] => by simp [sumAt]
  | q :: r => by
    have ih := sumAt_cons f hp hL r
    have h0 := dcnt_nonneg hL (f q.1)
    show (if p.1 = f q.1 then p.2 else dcnt L (f q.1)) + sumAt f (p :: L) r ≤ _ + (dcnt L (f q.1) + sumAt f L r)
    rw [List.countP_cons]
    by_cases e : f q.1 = p.1
    · rw [if_pos e.symm, if_pos (by simpa using e), Int.natCast_add, Int.mul_add]
      simp
      omega
    · rw [if_neg (fun h => e h.symm), if_neg (by simpa using e), Nat.add_zero]
      omega
theorem sumAt_le (f : Nat → Nat) (m : Nat) (A : DL) : ∀ {L : DL}, (∀ q ∈ L, 1 ≤ q.2) → (∀ p ∈ L, (A.countP fun q => decide (f q.1 = p.1)) ≤ m) → sumAt f L A ≤ m * total L
  | [], _, _ => by rw [sumAt_nil]; simp [total, csum]
  | p :: L, hp, hm => by
    have h1 := hp p (List.mem_cons_self ..)
    have h2 := fun q hq => hp q (List.mem_cons_of_mem _ hq)
    have ih := sumAt_le f m A h2 fun q hq => hm q (List.mem_cons_of_mem _ hq)
    have h3 := sumAt_cons f (by omega : 0 ≤ p.2) h2 A
    have h4 : p.2 * ((A.countP fun q => decide (f q.1 = p.1) : Nat) : Int) ≤ p.2 * (m : Int) := Int.mul_le_mul_of_nonneg_left (by have := hm p (List.mem_cons_self ..); omega) (by omega)
    rw [total_cons, Int.mul_add, Int.mul_comm (m : Int) p.2]
    omega
theorem count_one {A : DL} (hA : DAsc A) (x : Nat) : (A.countP fun q => decide (q.1 = x)) ≤ 1 := by
  induction A with
  | nil => simp
  | cons q r ih =>
    rw [List.countP_cons]
    have := ih (dasc_tail hA)
    by_cases e : q.1 = x
    · have h0 : (r.countP fun q => decide (q.1 = x)) = 0 := List.countP_eq_zero.2 fun p hp => by
        have := dasc_head hA p hp
        simp
        omega
      rw [h0]
      split <;> omega
    · rw [if_neg (by simpa using e)]
      omega
theorem sib_sib (c : Nat) : sibC (sibC c) = c := by
  have h1 := sib_lev c
  have h2 : sibC (sibC c) = cd (sibC c / 18446744073709551616) (sibC c % 18446744073709551616 ^^^ 1) := rfl
  rw [h2, h1.1, h1.2, Nat.xor_assoc, Nat.xor_self, Nat.xor_zero]
  exact cd_self c
theorem count_mono {A : DL} {f g : Nat × Int → Bool} (h : ∀ q ∈ A, f q = true → g q = true) : A.countP f ≤ A.countP g := List.countP_mono_left h
theorem count_or (A : DL) (f g : Nat × Int → Bool) : (A.countP fun q => f q || g q) ≤ A.countP f + A.countP g := by
  induction A with
  | nil => simp
  | cons q r ih =>
    rw [List.countP_cons, List.countP_cons, List.countP_cons]
    cases f q <;> cases g q <;> simp <;> omega
theorem count_sib {A : DL} (hA : DAsc A) (x : Nat) : (A.countP fun q => decide (sibC q.1 = x)) ≤ 1 := by
  refine Nat.le_trans (count_mono (g := fun q => decide (q.1 = sibC x)) fun q _ h => ?_) (count_one hA (sibC x))
  have := of_decide_eq_true h
  exact decide_eq_true (by rw [← this, sib_sib])
theorem count_up {A : DL} (hA : DAsc A) (x : Nat) : (A.countP fun q => decide (upC q.1 = x)) ≤ 2 := by
  refine Nat.le_trans (count_mono (g := fun q => decide (q.1 = cd (x / 18446744073709551616 - 1) (x % 18446744073709551616 * 2)) || decide (q.1 = cd (x / 18446744073709551616 - 1) (x % 18446744073709551616 * 2 + 1))) fun q _ h => ?_)
    (Nat.le_trans (count_or A _ _) (Nat.add_le_add (count_one hA _) (count_one hA _)))
  have h1 := of_decide_eq_true h
  have h2 := up_lev q.1
  rw [h1] at h2
  have h3 := cd_self q.1
  simp only [Bool.or_eq_true, decide_eq_true_eq]
  rw [h2.1, h2.2]
  unfold cd at *
  omega
theorem sumAt_all {L : DL} {m : Int} : ∀ A : DL, (∀ q ∈ A, m ≤ allC L q.1) → m * A.length ≤ sumAt id L A + sumAt sibC L A + sumAt upC L A
  | [], _ => by simp [sumAt]
  | q :: r, h => by
    have ih := sumAt_all r fun p hp => h p (List.mem_cons_of_mem _ hp)
    have h1 := h q (List.mem_cons_self ..)
    unfold allC at h1
    show m * ((r.length + 1 : Nat) : Int) ≤ dcnt L (id q.1) + sumAt id L r + (dcnt L (sibC q.1) + sumAt sibC L r) + (dcnt L (upC q.1) + sumAt upC L r)
    rw [Int.natCast_add, Int.mul_add]
    simp only [id]
    omega
theorem len_split (f : Nat × Int → Bool) : ∀ L : DL, L.length = (L.filter f).length + (L.filter fun q => !f q).length
  | [] => rfl
  | q :: r => by
    have ih := len_split f r
    rw [List.filter_cons, List.filter_cons, List.length_cons]
    cases f q <;> simp <;> omega
/-- few nodes are left -/
theorem few_nodes {n k : Nat} {L : DL} (h : LInv n L) (hk1 : 1 ≤ k) (hk : k ≤ 64) (hm : ∀ q ∈ L, q.1 / 18446744073709551616 < 64 → ((n / k : Nat) : Int) < allC L q.1) : L.length ≤ 3 * k + 64 := by
  obtain ⟨A, hA⟩ : ∃ A, A = L.filter fun q => decide (q.1 / 18446744073709551616 < 64) := ⟨_, rfl⟩
  have hAA : DAsc A := by rw [hA]; exact h.inv.asc.filter _
  have h1 := sumAt_all (L := L) (m := ((n / k : Nat) : Int) + 1) A fun q hq => by
    rw [hA] at hq
    obtain ⟨g1, g2⟩ := List.mem_filter.1 hq
    have := hm q g1 (of_decide_eq_true g2)
    omega
  have h2 := sumAt_le id 1 A h.inv.pos fun p _ => count_one hAA p.1
  have h3 := sumAt_le sibC 1 A h.inv.pos fun p _ => count_sib hAA p.1
  have h4 := sumAt_le upC 2 A h.inv.pos fun p _ => count_up hAA p.1
  rw [h.inv.sum] at h2 h3 h4
  have h5 : L.length ≤ A.length + 1 := by
    have e : L.length = A.length + (L.filter fun q => !decide (q.1 / 18446744073709551616 < 64)).length := by
      rw [hA]
      exact len_split (fun q => decide (q.1 / 18446744073709551616 < 64)) L
    have e2 : (L.filter fun q => !decide (q.1 / 18446744073709551616 < 64)).length ≤ 1 := by
      rw [← List.countP_eq_length_filter]
      refine Nat.le_trans (count_mono (g := fun q => decide (q.1 = cd 64 0)) fun q hq g => ?_) (count_one h.inv.asc (cd 64 0))
      have g1 := h.low q hq
      have g2 : ¬ q.1 / 18446744073709551616 < 64 := by simpa using g
      have g3 : q.1 / 18446744073709551616 = 64 := by have := g1.1; omega
      have g4 := g1.2
      rw [g3] at g4
      have g5 := cd_self q.1
      rw [g3, show q.1 % 18446744073709551616 = 0 by simpa using g4] at g5
      exact decide_eq_true g5.symm
    omega
  -- A.length * (n / k + 1) ≤ 4 * n < 4 * k * (n / k + 1)
  have h7 : (((n / k : Nat) : Int) + 1) * (A.length : Int) ≤ 4 * (n : Int) := by omega
  have h8 : (n / k + 1) * A.length ≤ 4 * n := by exact_mod_cast h7
  have h9 : n < k * (n / k + 1) := by
    have := Nat.div_add_mod n k
    have := Nat.mod_lt n (show 0 < k by omega)
    rw [Nat.mul_add, Nat.mul_one]
    omega
  have h10 : A.length < 4 * k := by
    refine Nat.lt_of_not_le fun hge => ?_
    have h11 : (n / k + 1) * (4 * k) ≤ (n / k + 1) * A.length := Nat.mul_le_mul_left _ hge
    have h12 : (n / k + 1) * (4 * k) = 4 * (k * (n / k + 1)) := by rw [Nat.mul_comm, Nat.mul_assoc]
    omega
  omega
end Go.Proofs.Ytahaoodklfmddaa
