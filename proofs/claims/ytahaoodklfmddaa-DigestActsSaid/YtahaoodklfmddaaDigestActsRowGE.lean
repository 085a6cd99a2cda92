/- The texts DigCov DigUniq, one behind the other; each one's own comment says what it holds. -/
import Derived.Test.YtahaoodklfmddaaDigestActsRowGD
import Derived.Test.YtahaoodklfmddaaDigG
/- What a digest's nodes tell of the numbers that went in: none is counted below its place nor above it; no node above the first level counts more than n / k. Plain mathematics. Conditions: as stated. -/
set_option maxRecDepth 100000
namespace Go.Proofs.Ytahaoodklfmddaa
open Go.RowKit Go.Maps Go.Sort Go.Shelf

/-- the greatest and the least number of a code's interval -/
def gR (c : Nat) : Nat := c % 18446744073709551616 * 2 ^ (c / 18446744073709551616) + (2 ^ (c / 18446744073709551616) - 1)
def lR (c : Nat) : Nat := c % 18446744073709551616 * 2 ^ (c / 18446744073709551616)
theorem half_up (u P : Nat) (hP : 1 ≤ P) : u * P + (P - 1) ≤ u / 2 * (P * 2) + (P * 2 - 1) ∧ u / 2 * (P * 2) ≤ u * P := by
  have h1 : u * P ≤ (2 * (u / 2) + 1) * P := Nat.mul_le_mul_right _ (by omega)
  have h2 : 2 * (u / 2) * P ≤ u * P := Nat.mul_le_mul_right _ (by omega)
  have e1 : (2 * (u / 2) + 1) * P = u / 2 * (P * 2) + P := by rw [Nat.add_mul, Nat.one_mul, Nat.mul_comm 2 (u / 2), Nat.mul_assoc, Nat.mul_comm 2 P]
  have e2 : 2 * (u / 2) * P = u / 2 * (P * 2) := by rw [Nat.mul_comm 2 (u / 2), Nat.mul_assoc, Nat.mul_comm 2 P]
  omega
theorem gR_up (c : Nat) : gR c ≤ gR (upC c) := by
  unfold gR
  rw [(up_lev c).1, (up_lev c).2, Nat.pow_succ]
  exact (half_up _ _ Nat.one_le_two_pow).1
theorem lR_up (c : Nat) : lR (upC c) ≤ lR c := by
  unfold lR
  rw [(up_lev c).1, (up_lev c).2, Nat.pow_succ]
  exact (half_up _ _ Nat.one_le_two_pow).2
theorem gR_sib (c : Nat) : gR (sibC c) ≤ gR (upC c) := by rw [← up_sib c]; exact gR_up _
theorem lR_sib (c : Nat) : lR (upC c) ≤ lR (sibC c) := by rw [← up_sib c]; exact lR_up _
theorem gr_gR {c : Nat} (h : NodeC c) : gr c = gR c := by unfold gr gR; rw [show asN c = c from if_pos h]
/-- the nodes cover the numbers -/
structure Cov (k n : Nat) (xs : List Nat) (L : DL) : Prop where
  upto : ∀ t, csum (fun c => decide (gR c ≤ t)) L ≤ (xs.countP (fun x => decide (x ≤ t)) : Nat)
  low : ∀ t, ((xs.countP (fun x => decide (x < t)) : Nat) : Int) ≤ csum (fun c => decide (lR c < t)) L
  few : ∀ c, 18446744073709551616 ≤ c → dcnt L c * k ≤ n
theorem cov_none (k : Nat) : Cov k 0 [] [] := ⟨fun t => by simp [csum], fun t => by simp [csum], fun c _ => by simp [dcnt]⟩
theorem Cov.lift {k n : Nat} {xs : List Nat} {L : DL} (h : Cov k n xs L) (hA : DAsc L) (hp : ∀ q ∈ L, 1 ≤ q.2) {c : Nat} (hc : allC L c * k ≤ n) : Cov k n xs (liftL L c) where
  upto t := by
    have h1 := h.upto t
    have d1 := dcnt_nonneg hp c
    have d2 := dcnt_nonneg hp (sibC c)
    have g1 := gR_up c
    have g2 := gR_sib c
    rw [lift_sum _ hA]
    unfold allC
    by_cases hu : gR (upC c) ≤ t
    · rw [if_pos (by simpa using hu), if_pos (by simp; omega), if_pos (by simp; omega)]
      omega
    · rw [if_neg (by simpa using hu)]
      split <;> split <;> omega
  low t := by
    have h1 := h.low t
    have d1 := dcnt_nonneg hp c
    have d2 := dcnt_nonneg hp (sibC c)
    have g1 := lR_up c
    have g2 := lR_sib c
    rw [lift_sum _ hA]
    unfold allC
    by_cases hu : lR (upC c) < t
    · rw [if_pos (by simpa using hu)]
      split <;> split <;> omega
    · rw [if_neg (by simpa using hu), if_neg (by simp; omega), if_neg (by simp; omega)]
      omega
  few y hy := by
    have h1 := dasc_putD hA (upC c) (allC L c)
    unfold liftL
    rw [dcnt_delD (dasc_delD h1 c), dcnt_delD h1, dcnt_putD hA]
    split
    · simp
    · split
      · simp
      · split
        · exact hc
        · exact h.few y hy
/-- what each lift keeps, all of them keep -/
theorem inner_keep {n : Nat} {most : Int} {lv : Nat} (hlv : lv < 64) {Q : DL → Prop} (hQ : ∀ L c, LInv n L → allC L c ≤ most → Q L → Q (liftL L c)) :
    ∀ (us : List UInt64) (L : DL) (ch : Bool) (st : Nat), LInv n L → Pend L lv us → Q L → ∀ (L' : DL) (ch' : Bool) (st' : Nat) (b : Bool), innerL most lv us L ch st = (L', ch', st', b) → Q L' ∧ LInv n L'
  | [], L, ch, st, hI, _, hq, L', ch', st', b, e => by
    cases e
    exact ⟨hq, hI⟩
  | u :: us, L, ch, st, hI, hP, hq, L', ch', st', b, e => by
    have hP2 : Pend L lv us := fun v hv => hP v (List.mem_cons_of_mem _ hv)
    unfold innerL at e
    split at e
    · rename_i hle
      exact inner_keep hlv hQ us _ true st (hI.lift hP hlv (List.mem_cons_self ..)) (pend_step hP2 (low_cd (lv := lv) (u := u))) (hQ _ _ hI hle hq) L' ch' st' b e
    · split at e
      · cases e
        exact ⟨hq, hI⟩
      · exact inner_keep hlv hQ us L ch (st + 1) hI hP2 hq L' ch' st' b e
theorem outer_keep {n : Nat} {most : Int} {Q : DL → Prop} (hQ : ∀ L c, LInv n L → allC L c ≤ most → Q L → Q (liftL L c)) {lv st : Nat} {L L' : DL} {ch ch' : Bool} (h : OuterL most lv L ch st L' ch') (hI : LInv n L) (hq : Q L) : Q L' ∧ LInv n L' := by
  induction h with
  | top L ch st => exact ⟨hq, hI⟩
  | stop hl hx hn hp e => exact inner_keep hl hQ _ _ _ _ hI (pend_start hI hx hp) hq _ _ _ _ e
  | next hl hx hn hp e k ih =>
    have h1 := inner_keep hl hQ _ _ _ _ hI (pend_start hI hx hp) hq _ _ _ _ e
    exact ih h1.2 h1.1
theorem fit_keep {n : Nat} {most : Int} {Q : DL → Prop} (hQ : ∀ L c, LInv n L → allC L c ≤ most → Q L → Q (liftL L c)) {L L' : DL} (h : FitL most L L') (hI : LInv n L) (hq : Q L) : Q L' ∧ LInv n L' := by
  induction h with
  | last h => exact outer_keep hQ h hI hq
  | again h _ ih =>
    have h1 := outer_keep hQ h hI hq
    exact ih h1.2 h1.1
theorem Cov.fit {k n : Nat} {xs : List Nat} {L L' : DL} (hk : 1 ≤ k) (h : Cov k n xs L) (hI : LInv n L) (hf : FitL ((n / k : Nat) : Int) L L') : Cov k n xs L' :=
  (fit_keep (Q := Cov k n xs) (fun A c hA hle hq => hq.lift hA.inv.asc hA.inv.pos (by
    have h1 : allC A c * k ≤ ((n / k : Nat) : Int) * k := Int.mul_le_mul_of_nonneg_right hle (by omega)
    have h2 : n / k * k ≤ n := Nat.div_mul_le_self n k
    have h3 : ((n / k * k : Nat) : Int) ≤ n := Int.ofNat_le.2 h2
    rw [Int.natCast_mul] at h3
    omega)) hf hI h).1
/-- a number more -/
theorem Cov.ins {k n : Nat} {xs : List Nat} {L : DL} (h : Cov k n xs L) (hA : DAsc L) {x : Nat} (hx : x < 18446744073709551616) : Cov k (n + 1) (xs ++ [x]) (putD x (dcnt L x + 1) L) where
  upto t := by
    have h1 := h.upto t
    have e : gR x = x := by unfold gR; rw [Nat.div_eq_of_lt hx, Nat.mod_eq_of_lt hx]; simp
    rw [csum_putD _ hA, e, List.countP_append, List.countP_singleton]
    split <;> omega
  low t := by
    have h1 := h.low t
    have e : lR x = x := by unfold lR; rw [Nat.div_eq_of_lt hx, Nat.mod_eq_of_lt hx]; simp
    rw [csum_putD _ hA, e, List.countP_append, List.countP_singleton]
    split <;> omega
  few y hy := by
    have h1 := h.few y hy
    rw [dcnt_putD hA, if_neg (by omega)]
    omega
/-- nodes of another digest added, one after the other -/
def addAll : DL → DL → DL
  | A, [] => A
  | A, p :: r => addAll (putD p.1 (dcnt A p.1 + p.2) A) r
theorem addAll_snoc : ∀ (N A : DL) (p : Nat × Int), addAll A (N ++ [p]) = putD p.1 (dcnt (addAll A N) p.1 + p.2) (addAll A N)
  | [], _, _ => rfl
  | _ :: r, _, p => addAll_snoc r _ p
theorem addAll_asc : ∀ (N A : DL), DAsc A → DAsc (addAll A N)
  | [], _, h => h
  | _ :: r, _, h => addAll_asc r _ (dasc_putD h _ _)
theorem addAll_csum (f : Nat → Bool) : ∀ (N A : DL), DAsc A → csum f (addAll A N) = csum f A + csum f N
  | [], A, h => by simp [addAll, csum]
  | p :: r, A, h => by
    have e : csum f (p :: r) = (if f p.1 then p.2 else 0) + csum f r := rfl
    unfold addAll
    rw [addAll_csum f r _ (dasc_putD h _ _), csum_putD f h, e]
    split <;> omega
theorem csum_at : ∀ {L : DL}, DAsc L → ∀ x, csum (fun c => decide (c = x)) L = dcnt L x
  | [], _, x => rfl
  | p :: r, h, x => by
    have e : csum (fun c => decide (c = x)) (p :: r) = (if decide (p.1 = x) then p.2 else 0) + csum (fun c => decide (c = x)) r := rfl
    have hr := (List.pairwise_cons.1 h)
    rw [e]
    by_cases hp : p.1 = x
    · have h0 : csum (fun c => decide (c = x)) r = 0 := csum_no fun q hq => by
        have := hr.1 q hq
        simp
        omega
      rw [h0]
      simp [dcnt, hp]
    · have ih := csum_at hr.2 x
      rw [ih]
      simp [dcnt, hp]
theorem addAll_dcnt (N A : DL) (hA : DAsc A) (hN : DAsc N) (x : Nat) : dcnt (addAll A N) x = dcnt A x + dcnt N x := by
  have h := addAll_csum (fun c => decide (c = x)) N A hA
  rw [csum_at (addAll_asc N A hA), csum_at hA, csum_at hN] at h
  exact h
theorem addAll_pos : ∀ (N A : DL), (∀ q ∈ A, 1 ≤ q.2) → (∀ q ∈ N, 1 ≤ q.2) → ∀ q ∈ addAll A N, 1 ≤ q.2
  | [], A, h, _ => h
  | p :: r, A, h, hN => addAll_pos r _ (fun q hq => by
      rcases putD_sub hq with rfl | hq
      · have := dcnt_nonneg h p.1
        have := hN p (List.mem_cons_self ..)
        show 1 ≤ dcnt A p.1 + p.2
        omega
      · exact h q hq) (fun q hq => hN q (List.mem_cons_of_mem _ hq))
theorem addAll_low : ∀ (N A : DL), (∀ q ∈ A, LowC q.1) → (∀ q ∈ N, LowC q.1) → ∀ q ∈ addAll A N, LowC q.1
  | [], A, h, _ => h
  | p :: r, A, h, hN => addAll_low r _ (fun q hq => by
      rcases putD_sub hq with rfl | hq
      · exact hN p (List.mem_cons_self ..)
      · exact h q hq) (fun q hq => hN q (List.mem_cons_of_mem _ hq))
theorem addAll_len : ∀ (N A : DL), (addAll A N).length ≤ A.length + N.length
  | [], A => Nat.le_refl _
  | p :: r, A => by
    have h1 := addAll_len r (putD p.1 (dcnt A p.1 + p.2) A)
    have h2 := putD_len A p.1 (dcnt A p.1 + p.2)
    unfold addAll
    simp only [List.length_cons]
    omega
theorem LInv.addAll {n m : Nat} {A N : DL} (h : LInv n A) (k : LInv m N) (hl : A.length + N.length ≤ 100000) : LInv (n + m) (addAll A N) where
  inv := ⟨addAll_asc N A h.inv.asc, addAll_pos N A h.inv.pos k.inv.pos, by
    have e := addAll_csum (fun _ => true) N A h.inv.asc
    have h1 := h.inv.sum
    have h2 := k.inv.sum
    unfold total at h1 h2 ⊢
    rw [e]
    omega⟩
  low := addAll_low N A h.low k.low
  short := Nat.le_trans (addAll_len N A) hl
theorem Cov.addAll {k n m : Nat} {xs ys : List Nat} {A N : DL} (h : Cov k n xs A) (g : Cov k m ys N) (hA : DAsc A) (hN : DAsc N) : Cov k (n + m) (xs ++ ys) (addAll A N) where
  upto t := by
    have h1 := h.upto t
    have h2 := g.upto t
    rw [addAll_csum _ N A hA, List.countP_append]
    omega
  low t := by
    have h1 := h.low t
    have h2 := g.low t
    rw [addAll_csum _ N A hA, List.countP_append]
    omega
  few c hc := by
    have h1 := h.few c hc
    have h2 := g.few c hc
    rw [addAll_dcnt N A hA hN, Int.add_mul]
    omega
/-- a sum over some is at most the sums over kinds of them -/
theorem csum_kinds {f : Nat → Bool} {g : Nat → Nat → Bool} : ∀ {L : DL}, (∀ q ∈ L, 1 ≤ q.2) → ∀ (m : Nat), (∀ q ∈ L, f q.1 = true → ∃ j, j < m ∧ g j q.1 = true) → csum f L ≤ ((List.range m).map fun j => csum (g j) L).sum
  | L, hp, 0, h => by
    rw [csum_no fun q hq => by
      cases hf : f q.1 with
      | false => rfl
      | true => obtain ⟨j, hj, _⟩ := h q hq hf; omega]
    simp
  | L, hp, m + 1, h => by
    rw [List.range_succ, List.map_append, List.sum_append]
    have h1 := csum_kinds (f := fun c => f c && !g m c) (g := g) hp m (fun q hq hf => by
      simp only [Bool.and_eq_true, Bool.not_eq_true'] at hf
      obtain ⟨j, hj, hg⟩ := h q hq hf.1
      have : j ≠ m := fun e => by rw [e, hf.2] at hg; cases hg
      exact ⟨j, by omega, hg⟩)
    have h2 : csum f L ≤ csum (fun c => f c && !g m c) L + csum (g m) L := by
      clear h1 h
      induction L with
      | nil => simp [csum]
      | cons p r ih =>
        have ih := ih fun q hq => hp q (List.mem_cons_of_mem _ hq)
        have hpp := hp p (List.mem_cons_self ..)
        show (if f p.1 then p.2 else 0) + csum f r ≤ ((if (f p.1 && !g m p.1) then p.2 else 0) + csum (fun c => f c && !g m c) r) + ((if g m p.1 then p.2 else 0) + csum (g m) r)
        cases f p.1 <;> cases g m p.1 <;> simp <;> omega
    simp
    omega
theorem sum_le (f : Nat → Int) (b : Int) : ∀ m : Nat, (∀ j, j < m → f j ≤ b) → ((List.range m).map f).sum ≤ m * b
  | 0, _ => by simp
  | m + 1, h => by
    have ih := sum_le f b m fun j hj => h j (by omega)
    have h1 := h m (by omega)
    rw [List.range_succ, List.map_append, List.sum_append]
    have e : ((m + 1 : Nat) : Int) * b = (m : Int) * b + b := by rw [Int.natCast_add, Int.add_mul]; simp
    rw [e]
    simp
    omega
/-- at each level one node at most is about a number -/
theorem about_one {c v : Nat} (h1 : lR c < v) (h2 : v ≤ gR c) (hl : c / 18446744073709551616 ≤ 64) : ∃ j, j < 64 ∧ c = cd (j + 1) (v / 2 ^ (j + 1)) := by
  obtain ⟨l, hle⟩ : ∃ l, c / 18446744073709551616 = l := ⟨_, rfl⟩
  obtain ⟨u, hu⟩ : ∃ u, c % 18446744073709551616 = u := ⟨_, rfl⟩
  unfold lR at h1
  unfold gR at h2
  rw [hle, hu] at h1 h2
  rw [hle] at hl
  cases l with
  | zero => simp at h1 h2; omega
  | succ j =>
    refine ⟨j, by omega, ?_⟩
    have hP : 1 ≤ 2 ^ (j + 1) := Nat.one_le_two_pow
    have e : v / 2 ^ (j + 1) = u := by
      generalize 2 ^ (j + 1) = P at h1 h2 hP
      exact Nat.div_eq_of_lt_le (by omega) (by rw [Nat.add_mul]; omega)
    rw [e]
    have := cd_self c
    rw [hle, hu] at this
    exact this.symm
end Go.Proofs.Ytahaoodklfmddaa
/- Lifts of a level give the same in whatever order, so what fit leaves is one. Plain mathematics. Conditions: as stated. -/
set_option maxRecDepth 100000
namespace Go.Proofs.Ytahaoodklfmddaa
open Go.RowKit Go.Maps Go.Sort Go.Shelf

/-- two digests that count alike are alike -/
theorem dl_ext : ∀ {A B : DL}, DAsc A → DAsc B → (∀ q ∈ A, 1 ≤ q.2) → (∀ q ∈ B, 1 ≤ q.2) → (∀ x, dcnt A x = dcnt B x) → A = B
  | [], [], _, _, _, _, _ => rfl
  | [], b :: B, _, hB, _, hp, h => by
    have h1 := h b.1
    have h2 := dcnt_has hB hp (x := b.1) ⟨b, List.mem_cons_self .., rfl⟩
    rw [← h1] at h2
    simp [dcnt] at h2
  | a :: A, [], hA, _, hp, _, h => by
    have h1 := h a.1
    have h2 := dcnt_has hA hp (x := a.1) ⟨a, List.mem_cons_self .., rfl⟩
    rw [h1] at h2
    simp [dcnt] at h2
  | a :: A, b :: B, hA, hB, pA, pB, h => by
    have hasA : ∀ x, 1 ≤ dcnt (a :: A) x → ∃ q ∈ a :: A, q.1 = x := fun x hx => Classical.byContradiction fun hn => by
      rw [dcnt_none (fun p hp e => hn ⟨p, hp, e⟩)] at hx
      omega
    have hasB : ∀ x, 1 ≤ dcnt (b :: B) x → ∃ q ∈ b :: B, q.1 = x := fun x hx => Classical.byContradiction fun hn => by
      rw [dcnt_none (fun p hp e => hn ⟨p, hp, e⟩)] at hx
      omega
    have e1 : a.1 = b.1 := by
      obtain ⟨q, hq, e⟩ := hasB a.1 (by rw [← h]; exact dcnt_has hA pA ⟨a, List.mem_cons_self .., rfl⟩)
      obtain ⟨r, hr, e'⟩ := hasA b.1 (by rw [h]; exact dcnt_has hB pB ⟨b, List.mem_cons_self .., rfl⟩)
      rcases List.mem_cons.1 hq with rfl | hq
      · exact e.symm
      · rcases List.mem_cons.1 hr with rfl | hr
        · exact e'
        · have := dasc_head hB q hq
          have := dasc_head hA r hr
          omega
    have e2 : a.2 = b.2 := by
      have h1 := dcnt_mem hA (id := a.1) (c := a.2) (List.mem_cons_self ..)
      have h2 := dcnt_mem hB (id := b.1) (c := b.2) (List.mem_cons_self ..)
      rw [e1, h] at h1
      omega
    have e : a = b := Prod.ext e1 e2
    subst e
    rw [dl_ext (dasc_tail hA) (dasc_tail hB) (fun q hq => pA q (List.mem_cons_of_mem _ hq)) (fun q hq => pB q (List.mem_cons_of_mem _ hq)) fun x => ?_]
    have hx := h x
    by_cases hax : a.1 = x
    · rw [dcnt_none fun p hp e => by have := dasc_head hA p hp; omega, dcnt_none fun p hp e => by have := dasc_head hB p hp; omega]
    · simpa [dcnt, hax] using hx
/-- what a pair and its parent count -/
def allF (f : Nat → Int) (c : Nat) : Int := f c + f (sibC c) + f (upC c)
theorem allF_sib (f : Nat → Int) (c : Nat) : allF f (sibC c) = allF f c := by unfold allF; rw [sib_sib, up_sib]; omega
theorem allF_dcnt (L : DL) (c : Nat) : allC L c = allF (dcnt L) c := rfl
/-- same parent, same level: the same or the sibling -/
theorem xor_one_of_half {u v : Nat} (h : u / 2 = v / 2) : u = v ∨ u = v ^^^ 1 := by
  rcases Nat.mod_two_eq_zero_or_one u with a | a <;> rcases Nat.mod_two_eq_zero_or_one v with b | b
  · left; omega
  · right
    have e : v = 2 * (v / 2) + 1 := by omega
    have h2 : (v ^^^ 1) / 2 = v / 2 := xor_one_half v
    have h3 : (v ^^^ 1) % 2 = 0 := by have e := Nat.xor_mod_two_pow (a := v) (b := 1) (n := 1); rw [Nat.pow_one, b] at e; exact e
    omega
  · right
    have h2 : (v ^^^ 1) / 2 = v / 2 := xor_one_half v
    have h3 : (v ^^^ 1) % 2 = 1 := by have e := Nat.xor_mod_two_pow (a := v) (b := 1) (n := 1); rw [Nat.pow_one, b] at e; exact e
    omega
  · left; omega
theorem up_inj {c d : Nat} (hl : c / 18446744073709551616 = d / 18446744073709551616) (h : upC c = upC d) : c = d ∨ c = sibC d := by
  have h1 := up_lev c
  have h2 := up_lev d
  rw [h] at h1
  have h3 := cd_self c
  rcases xor_one_of_half (u := c % 18446744073709551616) (v := d % 18446744073709551616) (by omega) with e | e
  · left; omega
  · right
    unfold sibC
    rw [← hl, ← e]
    exact h3.symm
/-- the pair of a code is gone through -/
def PU (lv : Nat) (us : List UInt64) (c : Nat) : Prop := ∃ u ∈ us, cd lv u.toNat = c ∨ cd lv u.toNat = sibC c
theorem PU.sib {lv : Nat} {us : List UInt64} {c : Nat} : PU lv us (sibC c) ↔ PU lv us c := by
  unfold PU
  rw [sib_sib]
  exact ⟨fun ⟨u, h, e⟩ => ⟨u, h, e.symm⟩, fun ⟨u, h, e⟩ => ⟨u, h, e.symm⟩⟩
/-- a level's pairs lifted, those that are in P and few enough -/
structure StepR (most : Int) (lv : Nat) (P : Nat → Prop) (f g : Nat → Int) : Prop where
  yes : ∀ c, c / 18446744073709551616 = lv → P c → allF f c ≤ most → g c = 0 ∧ g (upC c) = allF f c
  no : ∀ c, c / 18446744073709551616 = lv → ¬ (P c ∧ allF f c ≤ most) → g c = f c ∧ g (upC c) = f (upC c)
  off : ∀ y, y / 18446744073709551616 ≠ lv → (∀ c, c / 18446744073709551616 = lv → upC c ≠ y) → g y = f y
theorem StepR.start (most : Int) (lv : Nat) (f : Nat → Int) : StepR most lv (PU lv []) f f where
  yes c _ h := by obtain ⟨u, hu, _⟩ := h; cases hu
  no c _ _ := ⟨rfl, rfl⟩
  off y _ _ := rfl
theorem StepR.uniq {most : Int} {lv : Nat} {P Q : Nat → Prop} {f g h : Nat → Int} (a : StepR most lv P f g) (b : StepR most lv Q f h) (hPQ : ∀ c, P c ↔ Q c) (y : Nat) : g y = h y := by
  by_cases hy : y / 18446744073709551616 = lv
  · by_cases hp : P y ∧ allF f y ≤ most
    · rw [(a.yes y hy hp.1 hp.2).1, (b.yes y hy ((hPQ y).1 hp.1) hp.2).1]
    · rw [(a.no y hy hp).1, (b.no y hy (fun h => hp ⟨(hPQ y).2 h.1, h.2⟩)).1]
  · by_cases hu : ∃ c, c / 18446744073709551616 = lv ∧ upC c = y
    · obtain ⟨c, hc, rfl⟩ := hu
      by_cases hp : P c ∧ allF f c ≤ most
      · rw [(a.yes c hc hp.1 hp.2).2, (b.yes c hc ((hPQ c).1 hp.1) hp.2).2]
      · rw [(a.no c hc hp).2, (b.no c hc (fun h => hp ⟨(hPQ c).2 h.1, h.2⟩)).2]
    · rw [a.off y hy fun c hc e => hu ⟨c, hc, e⟩, b.off y hy fun c hc e => hu ⟨c, hc, e⟩]
theorem dcnt_lift {L : DL} (hA : DAsc L) (c x : Nat) : dcnt (liftL L c) x = if x = sibC c then 0 else if x = c then 0 else if x = upC c then allC L c else dcnt L x := by
  unfold liftL
  have h1 := dasc_putD hA (upC c) (allC L c)
  rw [dcnt_delD (dasc_delD h1 c), dcnt_delD h1, dcnt_putD hA]
/-- whatever is there ahead of it, a pair counts as it did at the level's start -/
theorem StepR.all {most : Int} {lv : Nat} {us : List UInt64} {f g : Nat → Int} (h : StepR most lv (PU lv us) f g) {c : Nat} (hc : c / 18446744073709551616 = lv) : allF g c = allF f c := by
  have hs : sibC c / 18446744073709551616 = lv := by rw [(sib_lev c).1]; exact hc
  by_cases hp : PU lv us c ∧ allF f c ≤ most
  · have a := h.yes c hc hp.1 hp.2
    have b := h.yes (sibC c) hs (PU.sib.2 hp.1) (by rw [allF_sib]; exact hp.2)
    unfold allF at a ⊢
    rw [a.1, a.2, b.1]
    omega
  · have a := h.no c hc hp
    have b := h.no (sibC c) hs (fun h => hp ⟨PU.sib.1 h.1, by rw [← allF_sib]; exact h.2⟩)
    unfold allF
    rw [a.1, a.2, b.1]
theorem pu_snoc {lv : Nat} {us : List UInt64} {u : UInt64} {c : Nat} : PU lv (us ++ [u]) c ↔ PU lv us c ∨ (cd lv u.toNat = c ∨ cd lv u.toNat = sibC c) := by
  unfold PU
  constructor
  · rintro ⟨v, hv, e⟩
    rcases List.mem_append.1 hv with hv | hv
    · exact .inl ⟨v, hv, e⟩
    · rw [List.mem_singleton] at hv; subst hv; exact .inr e
  · rintro (⟨v, hv, e⟩ | e)
    · exact ⟨v, List.mem_append_left _ hv, e⟩
    · exact ⟨u, List.mem_append_right _ (List.mem_singleton.2 rfl), e⟩
theorem StepR.stay {most : Int} {lv : Nat} {us : List UInt64} {f g : Nat → Int} (h : StepR most lv (PU lv us) f g) {u : UInt64} (hm : most < allF f (cd lv u.toNat)) : StepR most lv (PU lv (us ++ [u])) f g where
  yes c hc hp hf := by
    rcases pu_snoc.1 hp with hp | e | e
    · exact h.yes c hc hp hf
    · subst e; omega
    · rw [← allF_sib, ← e] at hf; omega
  no c hc hn := h.no c hc fun k => hn ⟨pu_snoc.2 (.inl k.1), k.2⟩
  off := h.off
theorem StepR.lift {most : Int} {lv : Nat} {us : List UInt64} {f : Nat → Int} {L : DL} (hA : DAsc L) (h : StepR most lv (PU lv us) f (dcnt L)) {u : UInt64} (hm : allF f (cd lv u.toNat) ≤ most) : StepR most lv (PU lv (us ++ [u])) f (dcnt (liftL L (cd lv u.toNat))) := by
  obtain ⟨c, hce⟩ : ∃ c, cd lv u.toNat = c := ⟨_, rfl⟩
  have hcl : c / 18446744073709551616 = lv := by rw [← hce]; exact low_cd
  have hall : allC L c = allF f c := by rw [allF_dcnt]; exact h.all hcl
  have hul := (up_lev c).1
  rw [hce] at hm ⊢
  refine ⟨fun d hd hp hf => ?_, fun d hd hn => ?_, fun y hy hy2 => ?_⟩
  · have hud := (up_lev d).1
    by_cases e : d = c ∨ d = sibC c
    · have e1 : dcnt (liftL L c) d = 0 := by
        rw [dcnt_lift hA]
        rcases e with rfl | rfl
        · rw [if_neg (fun e => sib_ne _ e.symm), if_pos rfl]
        · rw [if_pos rfl]
      have e2 : upC d = upC c := by
        rcases e with rfl | rfl
        · rfl
        · exact up_sib c
      have e3 : allF f d = allF f c := by
        rcases e with rfl | rfl
        · rfl
        · exact allF_sib f c
      refine ⟨e1, ?_⟩
      rw [e2, e3, dcnt_lift hA, if_neg (up_ne_sib c), if_neg (up_ne c), if_pos rfl]
      exact hall
    · have hp2 : PU lv us d := by
        rcases pu_snoc.1 hp with hp | e' | e'
        · exact hp
        · exact absurd (.inl (e'.symm.trans hce)) e
        · exact absurd (.inr (by rw [← hce, e', sib_sib])) e
      have a := h.yes d hd hp2 hf
      rw [dcnt_lift hA, dcnt_lift hA, if_neg (fun x => e (.inr x)), if_neg (fun x => e (.inl x)), if_neg (fun x => by rw [x] at hd; omega),
        if_neg (fun x => by have := (sib_lev c).1; rw [x] at hud; omega), if_neg (fun x => by rw [x] at hud; omega), if_neg (fun x => e (up_inj (by omega) x))]
      exact a
  · have hud := (up_lev d).1
    have e : ¬ (d = c ∨ d = sibC c) := by
      rintro (rfl | rfl)
      · exact hn ⟨pu_snoc.2 (.inr (.inl hce)), hm⟩
      · exact hn ⟨pu_snoc.2 (.inr (.inr (by rw [sib_sib]; exact hce))), by rw [allF_sib]; exact hm⟩
    have a := h.no d hd fun k => hn ⟨pu_snoc.2 (.inl k.1), k.2⟩
    rw [dcnt_lift hA, dcnt_lift hA, if_neg (fun x => e (.inr x)), if_neg (fun x => e (.inl x)), if_neg (fun x => by rw [x] at hd; omega),
      if_neg (fun x => by have := (sib_lev c).1; rw [x] at hud; omega), if_neg (fun x => by rw [x] at hud; omega), if_neg (fun x => e (up_inj (by omega) x))]
    exact a
  · rw [dcnt_lift hA, if_neg (fun x => by have := (sib_lev c).1; rw [x] at hy; omega), if_neg (fun x => hy (by rw [x]; exact hcl)), if_neg (fun x => hy2 c hcl x.symm)]
    exact h.off y hy hy2
/-- those that stayed -/
def Stay (most : Int) (lv : Nat) (f : Nat → Int) (vs : List UInt64) (L : DL) (st : Nat) : Prop :=
  ∃ Z : List Nat, Z.Nodup ∧ Z.length = st ∧ ∀ z ∈ Z, (∃ q ∈ L, q.1 = z) ∧ (z / 18446744073709551616 < lv ∨ ∃ u ∈ vs, z = cd lv u.toNat ∧ most < allF f z)
theorem codes_len {Z : List Nat} {L : DL} (hZ : Z.Nodup) (h : ∀ z ∈ Z, ∃ q ∈ L, q.1 = z) : Z.length ≤ L.length := by
  have h1 := hZ.length_le_of_subset (l₂ := L.map Prod.fst) (fun z hz => by
    obtain ⟨q, hq, e⟩ := h z hz
    exact List.mem_map.2 ⟨q, hq, e⟩)
  simpa using h1
theorem cd_inj {lv : Nat} {u v : UInt64} (h : cd lv u.toNat = cd lv v.toNat) : u = v := by
  unfold cd at h
  exact UInt64.toNat_inj.1 (by omega)
theorem inner_step {n : Nat} {most : Int} {lv : Nat} (hlv : lv < 64) (f : Nat → Int) : ∀ (us vs : List UInt64) (L : DL) (ch : Bool) (st : Nat), LInv n L → Pend L lv us → (vs ++ us).Nodup → (∀ u ∈ us, 1 ≤ f (cd lv u.toNat)) →
    StepR most lv (PU lv vs) f (dcnt L) → Stay most lv f vs L st → ∀ (L' : DL) (ch' : Bool) (st' : Nat) (b : Bool), innerL most lv us L ch st = (L', ch', st', b) →
    LInv n L' ∧ StepR most lv (PU lv (vs ++ us)) f (dcnt L') ∧ (b = false → Stay most lv f (vs ++ us) L' st') ∧ (b = true → ∀ q ∈ L', q.1 / 18446744073709551616 ≤ lv)
  | [], vs, L, ch, st, hI, _, _, _, hS, hZ, L', ch', st', b, e => by
    cases e
    rw [List.append_nil]
    exact ⟨hI, hS, (fun _ => hZ), (fun e => by cases e)⟩
  | u :: us, vs, L, ch, st, hI, hP, hN, hF, hS, hZ, L', ch', st', b, e => by
    have hP2 : Pend L lv us := fun v hv => hP v (List.mem_cons_of_mem _ hv)
    have hF2 : ∀ v ∈ us, 1 ≤ f (cd lv v.toNat) := fun v hv => hF v (List.mem_cons_of_mem _ hv)
    have happ : vs ++ u :: us = (vs ++ [u]) ++ us := by simp
    have hall : allC L (cd lv u.toNat) = allF f (cd lv u.toNat) := by rw [allF_dcnt]; exact hS.all low_cd
    have huv : u ∉ vs := fun hu => by
      rw [List.nodup_append] at hN
      exact hN.2.2 u hu u (List.mem_cons_self ..) rfl
    rw [happ] at hN ⊢
    unfold innerL at e
    split at e
    · rename_i hle
      refine inner_step hlv f us (vs ++ [u]) _ true st (hI.lift hP hlv (List.mem_cons_self ..)) (pend_step hP2 low_cd) hN hF2 (hS.lift hI.inv.asc (by rw [← hall]; exact hle)) ?_ L' ch' st' b e
      obtain ⟨Z, z1, z2, z3⟩ := hZ
      refine ⟨Z, z1, z2, fun z hz => ?_⟩
      obtain ⟨k1, k2⟩ := z3 z hz
      have hul := (up_lev (cd lv u.toNat)).1
      have hsl := (sib_lev (cd lv u.toNat)).1
      have hcl : cd lv u.toNat / 18446744073709551616 = lv := low_cd
      refine ⟨(lift_has _ _).2 ⟨.inr k1, ?_, ?_⟩, ?_⟩
      · rintro rfl
        rcases k2 with k2 | ⟨_, _, _, k2⟩ <;> omega
      · rintro rfl
        rcases k2 with k2 | ⟨_, _, _, k2⟩
        · omega
        · rw [allF_sib] at k2; omega
      · rcases k2 with k2 | ⟨v, hv, k2⟩
        · exact .inl k2
        · exact .inr ⟨v, List.mem_append_left _ hv, k2⟩
    · rename_i hgt
      have hm : most < allF f (cd lv u.toNat) := by omega
      have hS2 := hS.stay hm
      have hhas : ∃ q ∈ L, q.1 = cd lv u.toNat := Classical.byContradiction fun hn => by
        have h1 := (hS.no (cd lv u.toNat) low_cd (fun k => by omega)).1
        rw [dcnt_none (fun p hp e => hn ⟨p, hp, e⟩)] at h1
        have := hF u (List.mem_cons_self ..)
        omega
      have hZ2 : Stay most lv f (vs ++ [u]) L (st + 1) := by
        obtain ⟨Z, z1, z2, z3⟩ := hZ
        refine ⟨cd lv u.toNat :: Z, List.nodup_cons.2 ⟨fun hz => ?_, z1⟩, by simp [z2], fun z hz => ?_⟩
        · rcases (z3 _ hz).2 with k | ⟨v, hv, k, _⟩
          · rw [low_cd] at k; omega
          · rw [cd_inj k] at huv; exact huv hv
        · rcases List.mem_cons.1 hz with rfl | hz
          · exact ⟨hhas, .inr ⟨u, List.mem_append_right _ (List.mem_singleton.2 rfl), rfl, hm⟩⟩
          · refine ⟨(z3 z hz).1, ?_⟩
            rcases (z3 z hz).2 with k | ⟨v, hv, k⟩
            · exact .inl k
            · exact .inr ⟨v, List.mem_append_left _ hv, k⟩
      split at e
      · rename_i hst
        cases e
        obtain ⟨Z, z1, z2, z3⟩ := hZ2
        have hin : ∀ q ∈ L, q.1 ∈ Z := fun q hq => Classical.byContradiction fun hn => by
          have := codes_len (Z := q.1 :: Z) (L := L) (List.nodup_cons.2 ⟨hn, z1⟩) (fun z hz => by
            rcases List.mem_cons.1 hz with rfl | hz
            · exact ⟨q, hq, rfl⟩
            · exact (z3 z hz).1)
          simp at this
          omega
        have hdone : ∀ c, c / 18446744073709551616 = lv → PU lv ((vs ++ [u]) ++ us) c → allF f c ≤ most → PU lv (vs ++ [u]) c := fun c hc hp hf => Classical.byContradiction fun hn => by
          obtain ⟨v, hv, ev⟩ := hp
          rcases List.mem_append.1 hv with hv | hv
          · exact hn ⟨v, hv, ev⟩
          · have hvl : cd lv v.toNat / 18446744073709551616 = lv := low_cd
            have h1 := (hS2.no (cd lv v.toNat) hvl (fun k => hn (by
              rcases ev with e1 | e1
              · rw [e1] at k; exact k.1
              · rw [e1] at k; exact PU.sib.1 k.1))).1
            have h2 := hF2 v hv
            have h3 : ∃ q ∈ L, q.1 = cd lv v.toNat := Classical.byContradiction fun hn2 => by
              rw [dcnt_none (fun p hp e => hn2 ⟨p, hp, e⟩)] at h1
              omega
            obtain ⟨q, hq, eq⟩ := h3
            rcases (z3 _ (hin q hq)).2 with k | ⟨t, ht, k, _⟩
            · rw [eq, hvl] at k; omega
            · rw [eq] at k
              rw [cd_inj k] at hv
              rw [List.nodup_append] at hN
              exact hN.2.2 t ht t hv rfl
        refine ⟨hI, ⟨fun c hc hp hf => hS2.yes c hc (hdone c hc hp hf) hf, fun c hc hn => hS2.no c hc (fun k => hn ⟨?_, k.2⟩), hS2.off⟩, (fun e => by cases e), fun _ q hq => ?_⟩
        · obtain ⟨v, hv, ev⟩ := k.1
          exact ⟨v, List.mem_append_left _ hv, ev⟩
        · rcases (z3 _ (hin q hq)).2 with k | ⟨t, _, k, _⟩
          · omega
          · rw [k, low_cd]; exact Nat.le_refl _
      · exact inner_step hlv f us (vs ++ [u]) L ch (st + 1) hI hP2 hN hF2 hS2 hZ2 L' ch' st' b e
/-- the prefixes of a level are unlike -/
theorem pre_nodup {L xs : DL} (hA : DAsc L) {lv : Nat} {us : List UInt64} (hx : ∀ p, p ∈ xs ↔ p ∈ L) (hn : xs.Nodup) (hp : us.Perm (preL lv xs)) : us.Nodup := by
  rw [hp.nodup_iff]
  unfold preL List.Nodup
  rw [List.pairwise_map]
  have h1 : (xs.filter fun p => decide (((p.1 / 18446744073709551616 : Nat) : Int) = (lv : Int))).Nodup := List.Pairwise.filter _ hn
  refine h1.imp_of_mem fun {p q} hp hq hne he => hne ?_
  obtain ⟨m1, l1⟩ := List.mem_filter.1 hp
  obtain ⟨m2, l2⟩ := List.mem_filter.1 hq
  have l1 := of_decide_eq_true l1
  have l2 := of_decide_eq_true l2
  have e0 : p.1 % 18446744073709551616 = q.1 % 18446744073709551616 := by
    have := congrArg UInt64.toNat he
    simpa using this
  have e1 : p.1 = q.1 := by omega
  have d1 := dcnt_mem hA (id := p.1) (c := p.2) ((hx p).1 m1)
  have d2 := dcnt_mem hA (id := q.1) (c := q.2) ((hx q).1 m2)
  rw [e1, d2] at d1
  exact Prod.ext e1 d1.symm
theorem pu_level {L xs : DL} {lv : Nat} {us : List UInt64} (hx : ∀ p, p ∈ xs ↔ p ∈ L) (hp : us.Perm (preL lv xs)) (c : Nat) : PU lv us c ↔ ∃ q ∈ L, q.1 / 18446744073709551616 = lv ∧ (q.1 = c ∨ q.1 = sibC c) := by
  constructor
  · rintro ⟨u, hu, e⟩
    obtain ⟨q, hq, eq⟩ := here_start hx hp u hu
    exact ⟨q, hq, by rw [eq, low_cd], by rw [eq]; exact e⟩
  · rintro ⟨q, hq, hl, e⟩
    obtain ⟨u, hu, eu⟩ := level_mem hx hp hq hl
    exact ⟨u, hu, by rw [eu]; exact e⟩
theorem outer_none {most : Int} {lv st : Nat} {L L' : DL} {ch ch' : Bool} (h : OuterL most lv L ch st L' ch') (hL : ∀ q ∈ L, q.1 / 18446744073709551616 < lv) : L' = L := by
  have emp : ∀ {lv : Nat} {L xs : DL} {us : List UInt64}, (∀ q ∈ L, q.1 / 18446744073709551616 < lv) → (∀ p, p ∈ xs ↔ p ∈ L) → us.Perm (preL lv xs) → us = [] := fun {lv L xs us} hL hx hp => by
    cases us with
    | nil => rfl
    | cons u r =>
      obtain ⟨q, hq, e⟩ := here_start hx hp u (List.mem_cons_self ..)
      have := hL q hq
      rw [e, low_cd] at this
      omega
  induction h with
  | top L ch st => rfl
  | stop hl hx hn hp e =>
    rw [emp hL hx hp] at e
    cases e
  | next hl hx hn hp e k ih =>
    rw [emp hL hx hp] at e
    cases e
    exact ih fun q hq => Nat.lt_succ_of_lt (hL q hq)
/-- one level, from its start -/
theorem level_step {n : Nat} {most : Int} {lv st : Nat} {L L' xs : DL} {ch ch' : Bool} {us : List UInt64} {st' : Nat} {b : Bool} (hI : LInv n L) (hl : lv < 64) (hx : ∀ p, p ∈ xs ↔ p ∈ L) (hn : xs.Nodup) (hp : us.Perm (preL lv xs)) (hZ : Stay most lv (dcnt L) [] L st) (e : innerL most lv us L ch st = (L', ch', st', b)) :
    LInv n L' ∧ StepR most lv (PU lv us) (dcnt L) (dcnt L') ∧ (b = false → Stay most (lv + 1) (dcnt L') [] L' st') ∧ (b = true → ∀ q ∈ L', q.1 / 18446744073709551616 ≤ lv) := by
  have h := inner_step hl (dcnt L) us [] L ch st hI (pend_start hI hx hp) (pre_nodup hI.inv.asc hx hn hp) (fun u hu => by
    exact dcnt_has hI.inv.asc hI.inv.pos (here_start hx hp u hu)) (StepR.start most lv _) hZ L' ch' st' b e
  refine ⟨h.1, h.2.1, fun hb => ?_, h.2.2.2⟩
  obtain ⟨Z, z1, z2, z3⟩ := h.2.2.1 hb
  refine ⟨Z, z1, z2, fun z hz => ⟨(z3 z hz).1, .inl ?_⟩⟩
  rcases (z3 z hz).2 with k | ⟨t, _, k, _⟩
  · omega
  · rw [k, low_cd]; exact Nat.lt_succ_self _
theorem same_step {n : Nat} {most : Int} {lv : Nat} {L A B xs ys : DL} {us vs : List UInt64} (hA : LInv n A) (hB : LInv n B) (hx : ∀ p, p ∈ xs ↔ p ∈ L) (hp : us.Perm (preL lv xs)) (hy : ∀ p, p ∈ ys ↔ p ∈ L) (hq : vs.Perm (preL lv ys))
    (a : StepR most lv (PU lv us) (dcnt L) (dcnt A)) (b : StepR most lv (PU lv vs) (dcnt L) (dcnt B)) : A = B :=
  dl_ext hA.inv.asc hB.inv.asc hA.inv.pos hB.inv.pos (a.uniq b fun c => (pu_level hx hp c).trans (pu_level hy hq c).symm)
theorem outer_det {n : Nat} {most : Int} {lv st : Nat} {L A : DL} {ch ca : Bool} (h : OuterL most lv L ch st A ca) : LInv n L → Stay most lv (dcnt L) [] L st → ∀ (ch2 : Bool) (st2 : Nat) (B : DL) (cb : Bool), OuterL most lv L ch2 st2 B cb → Stay most lv (dcnt L) [] L st2 → A = B := by
  induction h with
  | top L ch st =>
    intro _ _ ch2 st2 B cb k _
    cases k with
    | top => rfl
    | stop hl => omega
    | next hl => omega
  | stop hl hx hn hp e =>
    intro hI hZ ch2 st2 B cb k hZ2
    have s1 := level_step hI hl hx hn hp hZ e
    cases k with
    | top => omega
    | stop _ hy hm hq e2 =>
      have s2 := level_step hI hl hy hm hq hZ2 e2
      exact same_step s1.1 s2.1 hx hp hy hq s1.2.1 s2.2.1
    | next _ hy hm hq e2 k2 =>
      have s2 := level_step hI hl hy hm hq hZ2 e2
      have e3 := same_step s1.1 s2.1 hx hp hy hq s1.2.1 s2.2.1
      rw [outer_none k2 (by rw [← e3]; exact fun q hq => Nat.lt_succ_of_le (s1.2.2.2 rfl q hq))]
      exact e3
  | next hl hx hn hp e k1 ih =>
    intro hI hZ ch2 st2 B cb k hZ2
    have s1 := level_step hI hl hx hn hp hZ e
    cases k with
    | top => omega
    | stop _ hy hm hq e2 =>
      have s2 := level_step hI hl hy hm hq hZ2 e2
      have e3 := same_step s1.1 s2.1 hx hp hy hq s1.2.1 s2.2.1
      rw [outer_none k1 (by rw [e3]; exact fun q hq => Nat.lt_succ_of_le (s2.2.2.2 rfl q hq))]
      exact e3
    | next _ hy hm hq e2 k2 =>
      have s2 := level_step hI hl hy hm hq hZ2 e2
      have e3 := same_step s1.1 s2.1 hx hp hy hq s1.2.1 s2.2.1
      subst e3
      exact ih s1.1 (s1.2.2.1 rfl) _ _ _ _ k2 (s2.2.2.1 rfl)
theorem stay_none (most : Int) (f : Nat → Int) (L : DL) : Stay most 0 f [] L 0 := ⟨[], List.nodup_nil, rfl, fun z hz => by cases hz⟩
/-- what fit leaves is one -/
theorem fit_det {n : Nat} {most : Int} {L A : DL} (h : FitL most L A) : LInv n L → ∀ B, FitL most L B → A = B := by
  induction h with
  | last h =>
    intro hI B k
    cases k with
    | last k => exact outer_det h hI (stay_none ..) _ _ _ _ k (stay_none ..)
    | again k _ =>
      exfalso
      have e := outer_det h hI (stay_none ..) _ _ _ _ k (stay_none ..)
      have a := (outer_onto h hI).same rfl
      rcases (outer_onto k hI).less rfl with x | x
      · cases x
      · rw [← e, a.2] at x; omega
  | again h _ ih =>
    intro hI B k
    cases k with
    | last k =>
      exfalso
      have e := outer_det h hI (stay_none ..) _ _ _ _ k (stay_none ..)
      have a := (outer_onto k hI).same rfl
      rcases (outer_onto h hI).less rfl with x | x
      · cases x
      · rw [e, a.2] at x; omega
    | again k k2 =>
      have e := outer_det h hI (stay_none ..) _ _ _ _ k (stay_none ..)
      subst e
      exact ih (outer_onto h hI).inv B k2
end Go.Proofs.Ytahaoodklfmddaa
