/- What a digest's nodes tell of the numbers that went in: none is counted below its place nor above it; no node above the first level counts more than n / k. Plain mathematics. Conditions: as stated. -/
import Derived.Test.YtahaoodklfmddaaDigBound2
import Derived.Test.YtahaoodklfmddaaDigG
set_option maxRecDepth 100000
namespace Go.Proofs.Ytahaoodklfmddaa
open Go.RowKit Go.Maps Go.Sort Go.Shelf

/-- the greatest and the least number of a code's interval -/
def gR (c : Nat) : Nat := c % 18446744073709551616 * 2 ^ (c / 18446744073709551616) + (2 ^ (c / 18446744073709551616) - 1)
def lR (c : Nat) : Nat := c % 18446744073709551616 * 2 ^ (c / 18446744073709551616)
theorem half_up (u P : Nat) (hP : 1 ≤ P) : u * P + (P - 1) ≤ u / 2 * (P * 2) + (P * 2 - 1) ∧ u / 2 * (P * 2) ≤ u * P := by
  have h1 : u * P ≤ (2 * (u / 2) + 1) * P := Nat.mul_le_mul_right _ (by omega)
  have h2 : 2 * (u / 2) * P ≤ u * P := Nat.mul_le_mul_right _ (by omega)
  have e1 : (2 * (u / 2) + 1) * P = u / 2 * (P * 2) + P := by rw [Nat.add_mul, Nat.one_mul, Nat.mul_comm 2 (u / 2), Nat.mul_assoc, Nat.mul_comm 2 P]
  have e2 : 2 * (u / 2) * P = u / 2 * (P * 2) := by rw [Nat.mul_comm 2 (u / 2), Nat.mul_assoc, Nat.mul_comm 2 P]
  omega
theorem gR_up (c : Nat) : gR c ≤ gR (upC c) := by
  unfold gR
  rw [(up_lev c).1, (up_lev c).2, Nat.pow_succ]
  exact (half_up _ _ Nat.one_le_two_pow).1
theorem lR_up (c : Nat) : lR (upC c) ≤ lR c := by
  unfold lR
  rw [(up_lev c).1, (up_lev c).2, Nat.pow_succ]
  exact (half_up _ _ Nat.one_le_two_pow).2
theorem gR_sib (c : Nat) : gR (sibC c) ≤ gR (upC c) := by rw [← up_sib c]; exact gR_up _
theorem lR_sib (c : Nat) : lR (upC c) ≤ lR (sibC c) := by rw [← up_sib c]; exact lR_up _
theorem gr_gR {c : Nat} (h : NodeC c) : gr c = gR c := by unfold gr gR; rw [show asN c = c from if_pos h]
/-- the nodes cover the numbers -/
structure Cov (k n : Nat) (xs : List Nat) (L : DL) : Prop where
  upto : ∀ t, csum (fun c => decide (gR c ≤ t)) L ≤ (xs.countP (fun x => decide (x ≤ t)) : Nat)
  low : ∀ t, ((xs.countP (fun x => decide (x < t)) : Nat) : Int) ≤ csum (fun c => decide (lR c < t)) L
  few : ∀ c, 18446744073709551616 ≤ c → dcnt L c * k ≤ n
theorem cov_none (k : Nat) : Cov k 0 [] [] := ⟨fun t => by simp [csum], fun t => by simp [csum], fun c _ => by simp [dcnt]⟩
theorem Cov.lift {k n : Nat} {xs : List Nat} {L : DL} (h : Cov k n xs L) (hA : DAsc L) (hp : ∀ q ∈ L, 1 ≤ q.2) {c : Nat} (hc : allC L c * k ≤ n) : Cov k n xs (liftL L c) where
  upto t := by
    have h1 := h.upto t
    have d1 := dcnt_nonneg hp c
    have d2 := dcnt_nonneg hp (sibC c)
    have g1 := gR_up c
    have g2 := gR_sib c
    rw [lift_sum _ hA]
    unfold allC
    by_cases hu : gR (upC c) ≤ t
    · rw [if_pos (by simpa using hu), if_pos (by simp; omega), if_pos (by simp; omega)]
      omega
    · rw [if_neg (by simpa using hu)]
      split <;> split <;> omega
  low t := by
    have h1 := h.low t
    have d1 := dcnt_nonneg hp c
    have d2 := dcnt_nonneg hp (sibC c)
    have g1 := lR_up c
    have g2 := lR_sib c
    rw [lift_sum _ hA]
    unfold allC
    by_cases hu : lR (upC c) < t
    · rw [if_pos (by simpa using hu)]
      split <;> split <;> omega
    · rw [if_neg (by simpa using hu), if_neg (by simp; omega), if_neg (by simp; omega)]
      omega
  few y hy := by
    have h1 := dasc_putD hA (upC c) (allC L c)
    unfold liftL
    rw [dcnt_delD (dasc_delD h1 c), dcnt_delD h1, dcnt_putD hA]
    split
    · simp
    · split
      · simp
      · split
        · exact hc
        · exact h.few y hy
/-- what each lift keeps, all of them keep -/
theorem inner_keep {n : Nat} {most : Int} {lv : Nat} (hlv : lv < 64) {Q : DL → Prop} (hQ : ∀ L c, LInv n L → allC L c ≤ most → Q L → Q (liftL L c)) :
    ∀ (us : List UInt64) (L : DL) (ch : Bool) (st : Nat), LInv n L → Pend L lv us → Q L → ∀ (L' : DL) (ch' : Bool) (st' : Nat) (b : Bool), innerL most lv us L ch st = (L', ch', st', b) → Q L' ∧ LInv n L'
  | [], L, ch, st, hI, _, hq, L', ch', st', b, e => by
    cases e
    exact ⟨hq, hI⟩
  | u :: us, L, ch, st, hI, hP, hq, L', ch', st', b, e => by
    have hP2 : Pend L lv us := fun v hv => hP v (List.mem_cons_of_mem _ hv)
    unfold innerL at e
    split at e
    · rename_i hle
      exact inner_keep hlv hQ us _ true st (hI.lift hP hlv (List.mem_cons_self ..)) (pend_step hP2 (low_cd (lv := lv) (u := u))) (hQ _ _ hI hle hq) L' ch' st' b e
    · split at e
      · cases e
        exact ⟨hq, hI⟩
      · exact inner_keep hlv hQ us L ch (st + 1) hI hP2 hq L' ch' st' b e
theorem outer_keep {n : Nat} {most : Int} {Q : DL → Prop} (hQ : ∀ L c, LInv n L → allC L c ≤ most → Q L → Q (liftL L c)) {lv st : Nat} {L L' : DL} {ch ch' : Bool} (h : OuterL most lv L ch st L' ch') (hI : LInv n L) (hq : Q L) : Q L' ∧ LInv n L' := by
  induction h with
  | top L ch st => exact ⟨hq, hI⟩
  | stop hl hx hn hp e => exact inner_keep hl hQ _ _ _ _ hI (pend_start hI hx hp) hq _ _ _ _ e
  | next hl hx hn hp e k ih =>
    have h1 := inner_keep hl hQ _ _ _ _ hI (pend_start hI hx hp) hq _ _ _ _ e
    exact ih h1.2 h1.1
theorem fit_keep {n : Nat} {most : Int} {Q : DL → Prop} (hQ : ∀ L c, LInv n L → allC L c ≤ most → Q L → Q (liftL L c)) {L L' : DL} (h : FitL most L L') (hI : LInv n L) (hq : Q L) : Q L' ∧ LInv n L' := by
  induction h with
  | last h => exact outer_keep hQ h hI hq
  | again h _ ih =>
    have h1 := outer_keep hQ h hI hq
    exact ih h1.2 h1.1
theorem Cov.fit {k n : Nat} {xs : List Nat} {L L' : DL} (hk : 1 ≤ k) (h : Cov k n xs L) (hI : LInv n L) (hf : FitL ((n / k : Nat) : Int) L L') : Cov k n xs L' :=
  (fit_keep (Q := Cov k n xs) (fun A c hA hle hq => hq.lift hA.inv.asc hA.inv.pos (by
    have h1 : allC A c * k ≤ ((n / k : Nat) : Int) * k := Int.mul_le_mul_of_nonneg_right hle (by omega)
    have h2 : n / k * k ≤ n := Nat.div_mul_le_self n k
    have h3 : ((n / k * k : Nat) : Int) ≤ n := Int.ofNat_le.2 h2
    rw [Int.natCast_mul] at h3
    omega)) hf hI h).1
/-- a number more -/
theorem Cov.ins {k n : Nat} {xs : List Nat} {L : DL} (h : Cov k n xs L) (hA : DAsc L) {x : Nat} (hx : x < 18446744073709551616) : Cov k (n + 1) (xs ++ [x]) (putD x (dcnt L x + 1) L) where
  upto t := by
    have h1 := h.upto t
    have e : gR x = x := by unfold gR; rw [Nat.div_eq_of_lt hx, Nat.mod_eq_of_lt hx]; simp
    rw [csum_putD _ hA, e, List.countP_append, List.countP_singleton]
    split <;> omega
  low t := by
    have h1 := h.low t
    have e : lR x = x := by unfold lR; rw [Nat.div_eq_of_lt hx, Nat.mod_eq_of_lt hx]; simp
    rw [csum_putD _ hA, e, List.countP_append, List.countP_singleton]
    split <;> omega
  few y hy := by
    have h1 := h.few y hy
    rw [dcnt_putD hA, if_neg (by omega)]
    omega
/-- nodes of another digest added, one after the other -/
def addAll : DL → DL → DL
  | A, [] => A
  | A, p :: r => addAll (putD p.1 (dcnt A p.1 + p.2) A) r
theorem addAll_snoc : ∀ (N A : DL) (p : Nat × Int), addAll A (N ++ [p]) = putD p.1 (dcnt (addAll A N) p.1 + p.2) (addAll A N)
  | [], _, _ => rfl
  | _ :: r, _, p => addAll_snoc r _ p
theorem addAll_asc : ∀ (N A : DL), DAsc A → DAsc (addAll A N)
  | [], _, h => h
  | _ :: r, _, h => addAll_asc r _ (dasc_putD h _ _)
theorem addAll_csum (f : Nat → Bool) : ∀ (N A : DL), DAsc A → csum f (addAll A N) = csum f A + csum f N
  | [], A, h => by simp [addAll, csum]
  | p :: r, A, h => by
    have e : csum f (p :: r) = (if f p.1 then p.2 else 0) + csum f r := rfl
    unfold addAll
    rw [addAll_csum f r _ (dasc_putD h _ _), csum_putD f h, e]
    split <;> omega
theorem csum_at : ∀ {L : DL}, DAsc L → ∀ x, csum (fun c => decide (c = x)) L = dcnt L x
  | [], _, x => rfl
  | p :: r, h, x => by
    have e : csum (fun c => decide (c = x)) (p :: r) = (if decide (p.1 = x) then p.2 else 0) + csum (fun c => decide (c = x)) r := rfl
    have hr := (List.pairwise_cons.1 h)
    rw [e]
    by_cases hp : p.1 = x
    · have h0 : csum (fun c => decide (c = x)) r = 0 := csum_no fun q hq => by
        have := hr.1 q hq
        simp
        omega
      rw [h0]
      simp [dcnt, hp]
    · have ih := csum_at hr.2 x
      rw [ih]
      simp [dcnt, hp]
theorem addAll_dcnt (N A : DL) (hA : DAsc A) (hN : DAsc N) (x : Nat) : dcnt (addAll A N) x = dcnt A x + dcnt N x := by
  have h := addAll_csum (fun c => decide (c = x)) N A hA
  rw [csum_at (addAll_asc N A hA), csum_at hA, csum_at hN] at h
  exact h
theorem addAll_pos : ∀ (N A : DL), (∀ q ∈ A, 1 ≤ q.2) → (∀ q ∈ N, 1 ≤ q.2) → ∀ q ∈ addAll A N, 1 ≤ q.2
  | [], A, h, _ => h
  | p :: r, A, h, hN => addAll_pos r _ (fun q hq => by
      rcases putD_sub hq with rfl | hq
      · have := dcnt_nonneg h p.1
        have := hN p (List.mem_cons_self ..)
        show 1 ≤ dcnt A p.1 + p.2
        omega
      · exact h q hq) (fun q hq => hN q (List.mem_cons_of_mem _ hq))
theorem addAll_low : ∀ (N A : DL), (∀ q ∈ A, LowC q.1) → (∀ q ∈ N, LowC q.1) → ∀ q ∈ addAll A N, LowC q.1
  | [], A, h, _ => h
  | p :: r, A, h, hN => addAll_low r _ (fun q hq => by
      rcases putD_sub hq with rfl | hq
      · exact hN p (List.mem_cons_self ..)
      · exact h q hq) (fun q hq => hN q (List.mem_cons_of_mem _ hq))
theorem addAll_len : ∀ (N A : DL), (addAll A N).length ≤ A.length + N.length
  | [], A => Nat.le_refl _
  | p :: r, A => by
    have h1 := addAll_len r (putD p.1 (dcnt A p.1 + p.2) A)
    have h2 := putD_len A p.1 (dcnt A p.1 + p.2)
    unfold addAll
    simp only [List.length_cons]
    omega
theorem LInv.addAll {n m : Nat} {A N : DL} (h : LInv n A) (k : LInv m N) (hl : A.length + N.length ≤ 100000) : LInv (n + m) (addAll A N) where
  inv := ⟨addAll_asc N A h.inv.asc, addAll_pos N A h.inv.pos k.inv.pos, by
    have e := addAll_csum (fun _ => true) N A h.inv.asc
    have h1 := h.inv.sum
    have h2 := k.inv.sum
    unfold total at h1 h2 ⊢
    rw [e]
    omega⟩
  low := addAll_low N A h.low k.low
  short := Nat.le_trans (addAll_len N A) hl
theorem Cov.addAll {k n m : Nat} {xs ys : List Nat} {A N : DL} (h : Cov k n xs A) (g : Cov k m ys N) (hA : DAsc A) (hN : DAsc N) : Cov k (n + m) (xs ++ ys) (addAll A N) where
  upto t := by
    have h1 := h.upto t
    have h2 := g.upto t
    rw [addAll_csum _ N A hA, List.countP_append]
    omega
  low t := by
    have h1 := h.low t
    have h2 := g.low t
    rw [addAll_csum _ N A hA, List.countP_append]
    omega
  few c hc := by
    have h1 := h.few c hc
    have h2 := g.few c hc
    rw [addAll_dcnt N A hA hN, Int.add_mul]
    omega
/-- a sum over some is at most the sums over kinds of them -/
theorem csum_kinds {f : Nat → Bool} {g : Nat → Nat → Bool} : ∀ {L : DL}, (∀ q ∈ L, 1 ≤ q.2) → ∀ (m : Nat), (∀ q ∈ L, f q.1 = true → ∃ j, j < m ∧ g j q.1 = true) → csum f L ≤ ((List.range m).map fun j => csum (g j) L).sum
  | L, hp, 0, h => by
    rw [csum_no fun q hq => by
      cases hf : f q.1 with
      | false => rfl
      | true => obtain ⟨j, hj, _⟩ := h q hq hf; omega]
    simp
  | L, hp, m + 1, h => by
    rw [List.range_succ, List.map_append, List.sum_append]
    have h1 := csum_kinds (f := fun c => f c && !g m c) (g := g) hp m (fun q hq hf => by
      simp only [Bool.and_eq_true, Bool.not_eq_true'] at hf
      obtain ⟨j, hj, hg⟩ := h q hq hf.1
      have : j ≠ m := fun e => by rw [e, hf.2] at hg; cases hg
      exact ⟨j, by omega, hg⟩)
    have h2 : csum f L ≤ csum (fun c => f c && !g m c) L + csum (g m) L := by
      clear h1 h
      induction L with
      | nil => simp [csum]
      | cons p r ih =>
        have ih := ih fun q hq => hp q (List.mem_cons_of_mem _ hq)
        have hpp := hp p (List.mem_cons_self ..)
        show (if f p.1 then p.2 else 0) + csum f r ≤ ((if (f p.1 && !g m p.1) then p.2 else 0) + csum (fun c => f c && !g m c) r) + ((if g m p.1 then p.2 else 0) + csum (g m) r)
        cases f p.1 <;> cases g m p.1 <;> simp <;> omega
    simp
    omega
theorem sum_le (f : Nat → Int) (b : Int) : ∀ m : Nat, (∀ j, j < m → f j ≤ b) → ((List.range m).map f).sum ≤ m * b
  | 0, _ => by simp
  | m + 1, h => by
    have ih := sum_le f b m fun j hj => h j (by omega)
    have h1 := h m (by omega)
    rw [List.range_succ, List.map_append, List.sum_append]
    have e : ((m + 1 : Nat) : Int) * b = (m : Int) * b + b := by rw [Int.natCast_add, Int.add_mul]; simp
    rw [e]
    simp
    omega
/-- at each level one node at most is about a number -/
theorem about_one {c v : Nat} (h1 : lR c < v) (h2 : v ≤ gR c) (hl : c / 18446744073709551616 ≤ 64) : ∃ j, j < 64 ∧ c = cd (j + 1) (v / 2 ^ (j + 1)) := by
  obtain ⟨l, hle⟩ : ∃ l, c / 18446744073709551616 = l := ⟨_, rfl⟩
  obtain ⟨u, hu⟩ : ∃ u, c % 18446744073709551616 = u := ⟨_, rfl⟩
  unfold lR at h1
  unfold gR at h2
  rw [hle, hu] at h1 h2
  rw [hle] at hl
  cases l with
  | zero => simp at h1 h2; omega
  | succ j =>
    refine ⟨j, by omega, ?_⟩
    have hP : 1 ≤ 2 ^ (j + 1) := Nat.one_le_two_pow
    have e : v / 2 ^ (j + 1) = u := by
      generalize 2 ^ (j + 1) = P at h1 h2 hP
      exact Nat.div_eq_of_lt_le (by omega) (by rw [Nat.add_mul]; omega)
    rw [e]
    have := cd_self c
    rw [hle, hu] at this
    exact this.symm
end Go.Proofs.Ytahaoodklfmddaa
