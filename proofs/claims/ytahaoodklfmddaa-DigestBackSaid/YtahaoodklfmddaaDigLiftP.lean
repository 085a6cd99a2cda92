/- Plain mathematics of lifting a digest's nodes: what stays, what grows less. Conditions: as stated. -/
import Derived.Test.YtahaoodklfmddaaDigSum
set_option maxRecDepth 100000
namespace Go.Proofs.Ytahaoodklfmddaa
open Go.RowKit Go.Maps Go.Sort

/-- the code of a level and a prefix -/
def cd (l u : Nat) : Nat := l * 18446744073709551616 + u
def upC (c : Nat) : Nat := cd (c / 18446744073709551616 + 1) (c % 18446744073709551616 / 2)
def sibC (c : Nat) : Nat := cd (c / 18446744073709551616) (c % 18446744073709551616 ^^^ 1)
theorem xor_one_lt {u : Nat} (h : u < 18446744073709551616) : u ^^^ 1 < 18446744073709551616 := Nat.xor_lt_two_pow (n := 64) h (by decide)
theorem xor_one_half (u : Nat) : (u ^^^ 1) / 2 = u / 2 := by
  have := Nat.xor_div_two (a := u) (b := 1)
  simpa using this
theorem cd_lev {l u : Nat} (h : u < 18446744073709551616) : cd l u / 18446744073709551616 = l ∧ cd l u % 18446744073709551616 = u := by
  unfold cd
  omega
theorem cd_self (c : Nat) : cd (c / 18446744073709551616) (c % 18446744073709551616) = c := by
  unfold cd
  omega
theorem sib_lev (c : Nat) : sibC c / 18446744073709551616 = c / 18446744073709551616 ∧ sibC c % 18446744073709551616 = c % 18446744073709551616 ^^^ 1 := cd_lev (xor_one_lt (by omega))
theorem up_lev (c : Nat) : upC c / 18446744073709551616 = c / 18446744073709551616 + 1 ∧ upC c % 18446744073709551616 = c % 18446744073709551616 / 2 := cd_lev (by omega)
theorem up_ne (c : Nat) : upC c ≠ c := fun e => by
  have := (up_lev c).1
  rw [e] at this
  omega
theorem up_ne_sib (c : Nat) : upC c ≠ sibC c := fun e => by
  have h1 := (up_lev c).1
  have h2 := (sib_lev c).1
  rw [e] at h1
  omega
theorem sib_ne (c : Nat) : sibC c ≠ c := fun e => by
  have h := (sib_lev c).2
  rw [e] at h
  have h2 : (c % 18446744073709551616) ^^^ (c % 18446744073709551616 ^^^ 1) = 1 := by rw [← Nat.xor_assoc, Nat.xor_self, Nat.zero_xor]
  rw [← h, Nat.xor_self] at h2
  cases h2
theorem up_sib (c : Nat) : upC (sibC c) = upC c := by
  unfold upC
  rw [(sib_lev c).1, (sib_lev c).2, xor_one_half]

/-- what a node and its sibling and parent count -/
def allC (L : DL) (c : Nat) : Int := dcnt L c + dcnt L (sibC c) + dcnt L (upC c)
/-- lifted -/
def liftL (L : DL) (c : Nat) : DL := delD (sibC c) (delD c (putD (upC c) (allC L c) L))

theorem csum_delD (f : Nat → Bool) {L : DL} (hA : DAsc L) (x : Nat) : csum f (delD x L) = csum f L - (if f x then dcnt L x else 0) := by
  induction L with
  | nil => simp [delD, csum, dcnt]
  | cons p r ih =>
    have ih := ih (dasc_tail hA)
    have h1 := dasc_head hA
    unfold delD at ih ⊢
    by_cases e : p.1 = x
    · have e0 : dcnt r x = 0 := dcnt_none fun q hq => by have := h1 q hq; omega
      rw [List.filter_cons_of_neg (by simp [e]), ih, e0]
      have e1 : dcnt (p :: r) x = p.2 := by show (if p.1 = x then p.2 else _) = _; rw [if_pos e]
      rw [e1]
      show _ = (if f p.1 then p.2 else 0) + csum f r - _
      rw [e]
      split <;> omega
    · rw [List.filter_cons_of_pos (by simp [e])]
      show (if f p.1 then p.2 else 0) + csum f _ = (if f p.1 then p.2 else 0) + csum f r - _
      rw [ih]
      have e1 : dcnt (p :: r) x = dcnt r x := by show (if p.1 = x then p.2 else _) = _; rw [if_neg e]
      rw [e1]
      omega
/-- how far there is to the top -/
def wgt (c : Nat) : Int := 65 - ((c / 18446744073709551616 : Nat) : Int)
def meas : DL → Int
  | [] => 0
  | p :: r => wgt p.1 + meas r
theorem meas_delD {L : DL} (hA : DAsc L) (x : Nat) : meas (delD x L) = meas L - (if ∃ q ∈ L, q.1 = x then wgt x else 0) := by
  induction L with
  | nil => simp [delD, meas]
  | cons p r ih =>
    have ih := ih (dasc_tail hA)
    have h1 := dasc_head hA
    unfold delD at ih ⊢
    by_cases e : p.1 = x
    · have e0 : ¬ ∃ q ∈ r, q.1 = x := fun ⟨q, hq, e'⟩ => by have := h1 q hq; omega
      rw [List.filter_cons_of_neg (by simp [e]), ih, if_neg e0, if_pos ⟨p, List.mem_cons_self .., e⟩]
      show _ = wgt p.1 + meas r - wgt x
      rw [e]; omega
    · rw [List.filter_cons_of_pos (by simp [e])]
      show wgt p.1 + meas _ = wgt p.1 + meas r - _
      rw [ih]
      by_cases g : ∃ q ∈ r, q.1 = x
      · rw [if_pos g, if_pos (by obtain ⟨q, hq, e'⟩ := g; exact ⟨q, List.mem_cons_of_mem _ hq, e'⟩)]; omega
      · rw [if_neg g, if_neg (by
          rintro ⟨q, hq, e'⟩
          rcases List.mem_cons.1 hq with rfl | hq
          · exact e e'
          · exact g ⟨q, hq, e'⟩)]
        omega
theorem meas_putD {L : DL} (hA : DAsc L) (x : Nat) (c : Int) : meas (putD x c L) = meas L + (if ∃ q ∈ L, q.1 = x then 0 else wgt x) := by
  induction L with
  | nil => simp [putD, meas]
  | cons p r ih =>
    have ih := ih (dasc_tail hA)
    have h1 := dasc_head hA
    unfold putD
    by_cases e1 : x < p.1
    · rw [if_pos e1, if_neg (by
        rintro ⟨q, hq, e'⟩
        rcases List.mem_cons.1 hq with rfl | hq
        · omega
        · have := h1 q hq; omega)]
      show wgt x + (wgt p.1 + meas r) = wgt p.1 + meas r + wgt x
      omega
    · rw [if_neg e1]
      by_cases e2 : p.1 = x
      · rw [if_pos e2, if_pos ⟨p, List.mem_cons_self .., e2⟩]
        show wgt x + meas r = wgt p.1 + meas r + 0
        rw [e2]; omega
      · rw [if_neg e2]
        show wgt p.1 + meas (putD x c r) = wgt p.1 + meas r + _
        rw [ih]
        by_cases g : ∃ q ∈ r, q.1 = x
        · rw [if_pos g, if_pos (by obtain ⟨q, hq, e'⟩ := g; exact ⟨q, List.mem_cons_of_mem _ hq, e'⟩)]; omega
        · rw [if_neg g, if_neg (by
            rintro ⟨q, hq, e'⟩
            rcases List.mem_cons.1 hq with rfl | hq
            · exact e2 e'
            · exact g ⟨q, hq, e'⟩)]
          omega
theorem mem_delD {L : DL} {x : Nat} {q : Nat × Int} : q ∈ delD x L ↔ q ∈ L ∧ q.1 ≠ x := by
  unfold delD
  rw [List.mem_filter]
  simp
theorem has_putD {L : DL} (x y : Nat) (c : Int) : (∃ q ∈ putD x c L, q.1 = y) ↔ (y = x ∨ ∃ q ∈ L, q.1 = y) := by
  induction L with
  | nil => simp [putD, eq_comm]
  | cons p r ih =>
    unfold putD
    split
    · simp [eq_comm]
    · split
      · rename_i g1 g2
        constructor
        · rintro ⟨q, hq, e⟩
          rcases List.mem_cons.1 hq with rfl | hq
          · exact .inl e.symm
          · exact .inr ⟨q, List.mem_cons_of_mem _ hq, e⟩
        · rintro (e | ⟨q, hq, e⟩)
          · exact ⟨(x, c), List.mem_cons_self .., e.symm⟩
          · rcases List.mem_cons.1 hq with rfl | hq
            · exact ⟨(x, c), List.mem_cons_self .., by show x = y; omega⟩
            · exact ⟨q, List.mem_cons_of_mem _ hq, e⟩
      · constructor
        · rintro ⟨q, hq, e⟩
          rcases List.mem_cons.1 hq with rfl | hq
          · exact .inr ⟨q, List.mem_cons_self .., e⟩
          · rcases ih.1 ⟨q, hq, e⟩ with e' | ⟨q', hq', e'⟩
            · exact .inl e'
            · exact .inr ⟨q', List.mem_cons_of_mem _ hq', e'⟩
        · rintro (e | ⟨q, hq, e⟩)
          · obtain ⟨q', hq', e'⟩ := ih.2 (.inl e)
            exact ⟨q', List.mem_cons_of_mem _ hq', e'⟩
          · rcases List.mem_cons.1 hq with rfl | hq
            · exact ⟨q, List.mem_cons_self .., e⟩
            · obtain ⟨q', hq', e'⟩ := ih.2 (.inr ⟨q, hq, e⟩)
              exact ⟨q', List.mem_cons_of_mem _ hq', e'⟩

/-- what holds of the nodes of a digest of n numbers -/
structure DInv (n : Nat) (L : DL) : Prop where
  asc : DAsc L
  pos : ∀ q ∈ L, 1 ≤ q.2
  sum : total L = n
/-- a code of a node: its level, its prefix -/
def LowC (c : Nat) : Prop := c / 18446744073709551616 ≤ 64 ∧ c % 18446744073709551616 < 2 ^ (64 - c / 18446744073709551616)
theorem dcnt_nonneg {L : DL} (hp : ∀ q ∈ L, 1 ≤ q.2) (x : Nat) : 0 ≤ dcnt L x := by
  by_cases e : dcnt L x = 0
  · omega
  · have := hp _ (mem_of_dcnt e); simp only at this; omega
theorem dcnt_has {L : DL} (hA : DAsc L) (hp : ∀ q ∈ L, 1 ≤ q.2) {x : Nat} (h : ∃ q ∈ L, q.1 = x) : 1 ≤ dcnt L x := by
  obtain ⟨⟨a, b⟩, hq, e⟩ := h
  simp only at e
  subst e
  rw [dcnt_mem hA hq]
  exact hp _ hq
theorem csum_le_total (f : Nat → Bool) : ∀ {L : DL}, (∀ q ∈ L, 1 ≤ q.2) → csum f L ≤ total L
  | [], _ => Int.le_refl _
  | p :: r, h => by
    have ih := csum_le_total f (L := r) fun q hq => h q (List.mem_cons_of_mem _ hq)
    have := h p (List.mem_cons_self ..)
    show (if f p.1 then p.2 else 0) + csum f r ≤ p.2 + total r
    split <;> omega
theorem all_le {n : Nat} {L : DL} (h : DInv n L) (c : Nat) : 0 ≤ allC L c ∧ allC L c ≤ n := by
  have d := fun x => dcnt_nonneg h.pos x
  have h1 : DAsc (delD c L) := dasc_delD h.asc _
  have s1 := csum_delD (fun _ => true) h.asc c
  have s2 := csum_delD (fun _ => true) h1 (sibC c)
  have s3 := csum_delD (fun _ => true) (dasc_delD h1 (sibC c)) (upC c)
  rw [dcnt_delD h.asc, if_neg (sib_ne c)] at s2
  rw [dcnt_delD h1, if_neg (up_ne_sib c), dcnt_delD h.asc, if_neg (up_ne c)] at s3
  have p3 : 0 ≤ csum (fun _ => true) (delD (upC c) (delD (sibC c) (delD c L))) := csum_nonneg _ fun q hq => by
    have := (mem_delD.1 (mem_delD.1 (mem_delD.1 hq).1).1).1
    exact h.pos q this
  have hs := h.sum
  unfold total at hs
  simp only [if_true] at s1 s2 s3
  unfold allC
  have := d c; have := d (sibC c); have := d (upC c)
  omega
theorem lift_has {L : DL} (c y : Nat) : (∃ q ∈ liftL L c, q.1 = y) ↔ ((y = upC c ∨ ∃ q ∈ L, q.1 = y) ∧ y ≠ c ∧ y ≠ sibC c) := by
  unfold liftL
  constructor
  · rintro ⟨q, hq, e⟩
    obtain ⟨h1, h2⟩ := mem_delD.1 hq
    obtain ⟨h3, h4⟩ := mem_delD.1 h1
    subst e
    exact ⟨(has_putD _ _ _).1 ⟨q, h3, rfl⟩, h4, h2⟩
  · rintro ⟨h, h1, h2⟩
    obtain ⟨q, hq, e⟩ := (has_putD (upC c) y (allC L c)).2 h
    exact ⟨q, mem_delD.2 ⟨mem_delD.2 ⟨hq, by rw [e]; exact h1⟩, by rw [e]; exact h2⟩, e⟩
theorem lift_sum (f : Nat → Bool) {L : DL} (hA : DAsc L) (c : Nat) : csum f (liftL L c) = csum f L + (if f (upC c) then allC L c - dcnt L (upC c) else 0) - (if f c then dcnt L c else 0) - (if f (sibC c) then dcnt L (sibC c) else 0) := by
  unfold liftL
  have h1 := dasc_putD hA (upC c) (allC L c)
  have e1 : dcnt (delD c (putD (upC c) (allC L c) L)) (sibC c) = dcnt L (sibC c) := by
    rw [dcnt_delD h1, if_neg (sib_ne c), dcnt_putD hA, if_neg (fun e => up_ne_sib c e.symm)]
  have e2 : dcnt (putD (upC c) (allC L c) L) c = dcnt L c := by rw [dcnt_putD hA, if_neg (fun e => up_ne c e.symm)]
  rw [csum_delD f (dasc_delD h1 c), csum_delD f h1, csum_putD f hA, e1, e2]
theorem lift_inv {n : Nat} {L : DL} (h : DInv n L) {c : Nat} (hc : (∃ q ∈ L, q.1 = c) ∨ ∃ q ∈ L, q.1 = upC c) : DInv n (liftL L c) where
  asc := dasc_delD (dasc_delD (dasc_putD h.asc _ _) _) _
  pos := fun q hq => by
    have h1 := (mem_delD.1 (mem_delD.1 hq).1).1
    rcases putD_sub h1 with rfl | h1
    · show 1 ≤ allC L c
      unfold allC
      have a1 := dcnt_nonneg h.pos c
      have a2 := dcnt_nonneg h.pos (sibC c)
      have a3 := dcnt_nonneg h.pos (upC c)
      rcases hc with hc | hc
      · have := dcnt_has h.asc h.pos hc; omega
      · have := dcnt_has h.asc h.pos hc; omega
    · exact h.pos q h1
  sum := by
    have := lift_sum (fun _ => true) h.asc c
    unfold total
    rw [this]
    have hs := h.sum
    unfold total at hs
    simp only [if_true]
    unfold allC
    omega
theorem lift_codes {L : DL} (h : ∀ q ∈ L, LowC q.1) {c : Nat} (hc : c / 18446744073709551616 ≤ 63) (hl : LowC c) : ∀ q ∈ liftL L c, LowC q.1 := fun q hq => by
  have h1 := (mem_delD.1 (mem_delD.1 hq).1).1
  rcases putD_sub h1 with rfl | h1
  · show LowC (upC c)
    unfold LowC
    rw [(up_lev c).1, (up_lev c).2]
    refine ⟨by omega, ?_⟩
    have e : 64 - c / 18446744073709551616 = (64 - (c / 18446744073709551616 + 1)) + 1 := by omega
    have := hl.2
    rw [e, Nat.pow_succ] at this
    omega
  · exact h q h1
theorem wgt_pos {c : Nat} (h : c / 18446744073709551616 ≤ 64) : 1 ≤ wgt c := by unfold wgt; omega
theorem meas_nonneg : ∀ {L : DL}, (∀ q ∈ L, LowC q.1) → 0 ≤ meas L
  | [], _ => by simp [meas]
  | p :: r, h => by
    have ih := meas_nonneg (L := r) fun q hq => h q (List.mem_cons_of_mem _ hq)
    have := wgt_pos (h p (List.mem_cons_self ..)).1
    show 0 ≤ wgt p.1 + meas r
    omega
theorem meas_del_le {L : DL} (hA : DAsc L) (x : Nat) (hx : x / 18446744073709551616 ≤ 64) : meas (delD x L) ≤ meas L := by
  rw [meas_delD hA]
  have := wgt_pos hx
  split <;> omega
/-- a lift does not raise the measure; a real one lessens it -/
theorem lift_meas {L : DL} (hA : DAsc L) {c : Nat} (hc : c / 18446744073709551616 ≤ 63) :
    ((∃ q ∈ L, q.1 = upC c) → meas (liftL L c) ≤ meas L) ∧ ((∃ q ∈ L, q.1 = c) → meas (liftL L c) < meas L) := by
  have h1 := dasc_putD hA (upC c) (allC L c)
  have m1 := meas_putD hA (upC c) (allC L c)
  have m2 := meas_delD h1 c
  have m3 := meas_del_le (dasc_delD h1 c) (sibC c) (by rw [(sib_lev c).1]; omega)
  have m4 := meas_del_le h1 c (by omega)
  have w1 : wgt (upC c) = wgt c - 1 := by unfold wgt; rw [(up_lev c).1]; omega
  constructor
  · intro h
    rw [if_pos h] at m1
    show meas (delD (sibC c) (delD c _)) ≤ _
    omega
  · intro h
    rw [if_pos ((has_putD _ _ _).2 (.inr h))] at m2
    have : meas (putD (upC c) (allC L c) L) ≤ meas L + wgt c - 1 := by
      rw [m1]
      have := wgt_pos (c := upC c) (by rw [(up_lev c).1]; omega)
      split <;> omega
    show meas (delD (sibC c) (delD c _)) < _
    omega
end Go.Proofs.Ytahaoodklfmddaa
