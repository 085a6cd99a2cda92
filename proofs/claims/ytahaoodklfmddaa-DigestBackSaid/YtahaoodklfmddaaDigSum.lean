/- Plain mathematics of sums over a digest's nodes: numbers inserted one after another with no need to compress. Conditions: none. -/
import Derived.Test.YtahaoodklfmddaaDigFew
set_option maxRecDepth 100000
namespace Go.Proofs.Ytahaoodklfmddaa
open Go.RowKit Go.Maps Go.Sort

/-- how many the nodes count whose codes are so -/
def csum (f : Nat → Bool) : DL → Int
  | [] => 0
  | p :: r => (if f p.1 then p.2 else 0) + csum f r
def total (L : DL) : Int := csum (fun _ => true) L
theorem total_cons (p : Nat × Int) (r : DL) : total (p :: r) = p.2 + total r := rfl
theorem csum_append (f : Nat → Bool) : ∀ A B : DL, csum f (A ++ B) = csum f A + csum f B
  | [], B => by simp [csum]
  | p :: r, B => by
    have ih := csum_append f r B
    show (if f p.1 then p.2 else 0) + csum f (r ++ B) = (if f p.1 then p.2 else 0) + csum f r + csum f B
    omega
theorem csum_all {f : Nat → Bool} : ∀ {L : DL}, (∀ q ∈ L, f q.1 = true) → csum f L = total L
  | [], _ => rfl
  | p :: r, h => by
    have ih := csum_all (f := f) (L := r) fun q hq => h q (List.mem_cons_of_mem _ hq)
    show (if f p.1 then p.2 else 0) + csum f r = p.2 + total r
    rw [h p (List.mem_cons_self ..), ih]; rfl
theorem csum_no {f : Nat → Bool} : ∀ {L : DL}, (∀ q ∈ L, f q.1 = false) → csum f L = 0
  | [], _ => rfl
  | p :: r, h => by
    have ih := csum_no (f := f) (L := r) fun q hq => h q (List.mem_cons_of_mem _ hq)
    show (if f p.1 then p.2 else 0) + csum f r = 0
    rw [h p (List.mem_cons_self ..), ih]; rfl
theorem csum_perm (f : Nat → Bool) {A B : DL} (h : A.Perm B) : csum f A = csum f B := by
  induction h with
  | nil => rfl
  | cons x _ ih =>
    show (if f x.1 then x.2 else 0) + _ = (if f x.1 then x.2 else 0) + _
    rw [ih]
  | swap x y l =>
    show (if f y.1 then y.2 else 0) + ((if f x.1 then x.2 else 0) + csum f l) = (if f x.1 then x.2 else 0) + ((if f y.1 then y.2 else 0) + csum f l)
    omega
  | trans _ _ i1 i2 => exact i1.trans i2
theorem csum_putD (f : Nat → Bool) {L : DL} (hA : DAsc L) (x : Nat) (c : Int) : csum f (putD x c L) = csum f L + (if f x then c - dcnt L x else 0) := by
  induction L with
  | nil => simp [putD, csum, dcnt]
  | cons p r ih =>
    have h1 := dasc_head hA
    have ih := ih (dasc_tail hA)
    unfold putD
    by_cases e1 : x < p.1
    · rw [if_pos e1]
      have e : dcnt (p :: r) x = 0 := dcnt_none fun q hq => by
        rcases List.mem_cons.1 hq with rfl | hq
        · omega
        · have := h1 q hq; omega
      rw [e]
      show (if f x then c else 0) + csum f (p :: r) = _
      split <;> omega
    · rw [if_neg e1]
      by_cases e2 : p.1 = x
      · rw [if_pos e2]
        have e : dcnt (p :: r) x = p.2 := by unfold dcnt; rw [if_pos e2]
        rw [e]
        show (if f x then c else 0) + csum f r = (if f p.1 then p.2 else 0) + csum f r + _
        rw [e2]
        split <;> omega
      · rw [if_neg e2]
        have e : dcnt (p :: r) x = dcnt r x := by show (if p.1 = x then _ else _) = _; rw [if_neg e2]
        rw [e]
        show (if f p.1 then p.2 else 0) + csum f (putD x c r) = (if f p.1 then p.2 else 0) + csum f r + _
        rw [ih]
        omega
theorem csum_nonneg (f : Nat → Bool) : ∀ {L : DL}, (∀ q ∈ L, 1 ≤ q.2) → 0 ≤ csum f L
  | [], _ => by simp [csum]
  | p :: r, h => by
    have ih := csum_nonneg f (L := r) fun q hq => h q (List.mem_cons_of_mem _ hq)
    have := h p (List.mem_cons_self ..)
    show 0 ≤ (if f p.1 then p.2 else 0) + csum f r
    split <;> omega

/-- all of these inserted -/
def DV.insAll (V : DV) (xs : List Nat) : DV := xs.foldl DV.ins0 V
theorem insAll_snoc (V : DV) (xs : List Nat) (x : Nat) : V.insAll (xs ++ [x]) = (V.insAll xs).ins0 x := by simp [DV.insAll]
theorem ins_csum (f : Nat → Bool) {V : DV} (hA : DAsc V.L) (x : Nat) : csum f (V.ins0 x).L = csum f V.L + (if f x then 1 else 0) := by
  show csum f (putD x (dcnt V.L x + 1) V.L) = _
  rw [csum_putD f hA]
  split <;> omega
/-- what is known of them -/
structure DV.Of (k : Nat) (xs : List Nat) (V : DV) : Prop where
  k : V.k = k
  n : V.n = xs.length
  asc : DAsc V.L
  len : V.L.length ≤ xs.length
  codes : ∀ q ∈ V.L, q.1 ∈ xs
  sums : ∀ f, csum f V.L = (xs.countP f : Int)
theorem of_none (k : Nat) : DV.Of k [] (DV.none_k k) := ⟨rfl, rfl, List.Pairwise.nil, Nat.le_refl _, (fun q hq => by cases hq), fun f => rfl⟩
theorem DV.Of.ins {k : Nat} {xs : List Nat} {V : DV} (h : DV.Of k xs V) (x : Nat) : DV.Of k (xs ++ [x]) (V.ins0 x) where
  k := h.k
  n := by show V.n + 1 = _; rw [h.n, List.length_append]; rfl
  asc := dasc_putD h.asc _ _
  len := by
    have := putD_len V.L x (dcnt V.L x + 1)
    have := h.len
    show (putD x (dcnt V.L x + 1) V.L).length ≤ _
    rw [List.length_append]; simp; omega
  codes := fun q hq => by
    rcases putD_sub hq with rfl | hq
    · simp
    · exact List.mem_append_left _ (h.codes q hq)
  sums := fun f => by
    rw [ins_csum f h.asc, h.sums, List.countP_append]
    simp [List.countP_cons]
    split <;> simp_all
end Go.Proofs.Ytahaoodklfmddaa
