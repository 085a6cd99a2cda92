/- Plain mathematics of quoted texts: each quote doubled, and taken back. Conditions: none. -/
import Derived.Test.YtbijpjoljljlpaaGreatDoorValD
set_option maxRecDepth 100000
namespace Go.Proofs.YtbijpjoljljlpaaGreatDoor
open Go.RowKit Go.Lib

/-- each quote doubled -/
def dbl : List UInt8 → List UInt8
  | [] => []
  | b :: r => if b = 39 then 39 :: 39 :: dbl r else b :: dbl r
theorem dbl_quote (r : List UInt8) : dbl (39 :: r) = 39 :: 39 :: dbl r := by
  conv => lhs; unfold dbl
  rw [if_pos rfl]
theorem dbl_other {b : UInt8} (h : b ≠ 39) (r : List UInt8) : dbl (b :: r) = b :: dbl r := by
  conv => lhs; unfold dbl
  rw [if_neg h]
theorem dbl_app : ∀ a r : List UInt8, dbl (a ++ r) = dbl a ++ dbl r
  | [], r => rfl
  | b :: a, r => by
    by_cases h : b = 39
    · subst h; rw [List.cons_append, dbl_quote, dbl_quote, dbl_app a r]; rfl
    · rw [List.cons_append, dbl_other h, dbl_other h, dbl_app a r]; rfl
theorem dbl_none : ∀ a : List UInt8, 39 ∉ a → dbl a = a
  | [], _ => rfl
  | b :: a, h => by
    rw [dbl_other (fun e => h (by rw [e]; simp)), dbl_none a (fun hm => h (List.mem_cons_of_mem _ hm))]
theorem dbl_len : ∀ a : List UInt8, a.length ≤ (dbl a).length ∧ (dbl a).length ≤ 2 * a.length
  | [] => by simp [dbl]
  | b :: a => by
    have := dbl_len a
    by_cases h : b = 39
    · subst h; rw [dbl_quote]; simp only [List.length_cons]; omega
    · rw [dbl_other h]; simp only [List.length_cons]; omega
theorem idx1 : ∀ s : List UInt8, (Lib.index s [39] = -1 ∧ 39 ∉ s) ∨ ∃ a r, Lib.index s [39] = (a.length : Int) ∧ s = a ++ 39 :: r ∧ 39 ∉ a
  | [] => .inl ⟨rfl, by simp⟩
  | b :: s => by
    by_cases h : b = 39
    · subst h
      exact .inr ⟨[], s, by unfold Lib.index; simp [List.isPrefixOf], rfl, by simp⟩
    · have hp : ([39] : List UInt8).isPrefixOf (b :: s) = false := by
        have hb : ((39 : UInt8) == b) = false := by rw [beq_eq_false_iff_ne]; exact fun e => h e.symm
        simp [List.isPrefixOf, hb]
      have e : Lib.index (b :: s) [39] = if Lib.index s [39] == -1 then -1 else Lib.index s [39] + 1 := by
        conv => lhs; unfold Lib.index
        rw [hp]; rfl
      rcases idx1 s with ⟨h1, h2⟩ | ⟨a, r, h1, h2, h3⟩
      · refine .inl ⟨by rw [e, h1]; rfl, ?_⟩
        intro hm
        rcases List.mem_cons.1 hm with hm | hm
        · exact h hm.symm
        · exact h2 hm
      · have hne : (Lib.index s [39] == -1) = false := by rw [beq_eq_false_iff_ne, h1]; omega
        refine .inr ⟨b :: a, r, by rw [e, hne, h1]; simp, by rw [h2]; rfl, ?_⟩
        intro hm
        rcases List.mem_cons.1 hm with hm | hm
        · exact h hm.symm
        · exact h3 hm
theorem idx2 : ∀ s : List UInt8, (Lib.index (dbl s) [39, 39] = -1 ∧ 39 ∉ s) ∨ ∃ a r, Lib.index (dbl s) [39, 39] = (a.length : Int) ∧ s = a ++ 39 :: r ∧ 39 ∉ a
  | [] => .inl ⟨rfl, by simp⟩
  | b :: s => by
    by_cases h : b = 39
    · subst h
      refine .inr ⟨[], s, ?_, rfl, by simp⟩
      rw [dbl_quote]
      unfold Lib.index
      simp [List.isPrefixOf]
    · have hp : ([39, 39] : List UInt8).isPrefixOf (b :: dbl s) = false := by
        have hb : ((39 : UInt8) == b) = false := by rw [beq_eq_false_iff_ne]; exact fun e => h e.symm
        simp [List.isPrefixOf, hb]
      have e : Lib.index (dbl (b :: s)) [39, 39] = if Lib.index (dbl s) [39, 39] == -1 then -1 else Lib.index (dbl s) [39, 39] + 1 := by
        rw [dbl_other h]
        conv => lhs; unfold Lib.index
        rw [hp]; rfl
      rcases idx2 s with ⟨h1, h2⟩ | ⟨a, r, h1, h2, h3⟩
      · refine .inl ⟨by rw [e, h1]; rfl, ?_⟩
        intro hm
        rcases List.mem_cons.1 hm with hm | hm
        · exact h hm.symm
        · exact h2 hm
      · have hne : (Lib.index (dbl s) [39, 39] == -1) = false := by rw [beq_eq_false_iff_ne, h1]; omega
        refine .inr ⟨b :: a, r, by rw [e, hne, h1]; simp, by rw [h2]; rfl, ?_⟩
        intro hm
        rcases List.mem_cons.1 hm with hm | hm
        · exact h hm.symm
        · exact h3 hm
theorem rep_miss {s old new : List UInt8} (h : Lib.index s old = -1) (k : Nat) : Lib.replaceK old new k s = s := by
  cases k with
  | zero => rfl
  | succ k => unfold Lib.replaceK; rw [h]; rfl
theorem rep_dbl : ∀ (n : Nat) (s : List UInt8), s.length ≤ n → ∀ k, Lib.count s [39] ≤ k → Lib.replaceK [39] [39, 39] k s = dbl s := by
  intro n
  induction n with
  | zero =>
    intro s hs k _
    have : s = [] := List.eq_nil_of_length_eq_zero (by omega)
    subst this
    exact rep_miss rfl k
  | succ n ih =>
    intro s hs k hk
    rcases idx1 s with ⟨h1, h2⟩ | ⟨a, r, h1, h2, h3⟩
    · rw [rep_miss h1, dbl_none s h2]
    · have hd : s.drop (a.length + ([39] : List UInt8).length) = r := by
        rw [h2]; simp
      have hc := Lib.count_hit (s := s) (sub := [39]) (i := a.length) (by simp) h1
      rw [hd] at hc
      obtain ⟨k', rfl⟩ : ∃ k', k = k' + 1 := ⟨k - 1, by omega⟩
      rw [Lib.replaceK_hit _ _ _ _ _ h1, hd, ih r (by have := congrArg List.length h2; simp at this; omega) k' (by omega)]
      have ht : s.take a.length = a := by rw [h2]; exact List.take_left
      rw [ht]
      conv => rhs; rw [h2, dbl_app, dbl_none a h3, dbl_quote]
      simp
theorem rep_back : ∀ (n : Nat) (s : List UInt8), s.length ≤ n → ∀ k, Lib.count (dbl s) [39, 39] ≤ k → Lib.replaceK [39, 39] [39] k (dbl s) = s := by
  intro n
  induction n with
  | zero =>
    intro s hs k _
    have : s = [] := List.eq_nil_of_length_eq_zero (by omega)
    subst this
    exact rep_miss rfl k
  | succ n ih =>
    intro s hs k hk
    rcases idx2 s with ⟨h1, h2⟩ | ⟨a, r, h1, h2, h3⟩
    · rw [rep_miss h1, dbl_none s h2]
    · have hdb : dbl s = a ++ 39 :: 39 :: dbl r := by rw [h2, dbl_app, dbl_none a h3, dbl_quote]
      have hd : (dbl s).drop (a.length + ([39, 39] : List UInt8).length) = dbl r := by
        rw [hdb]; simp
      have hc := Lib.count_hit (s := dbl s) (sub := [39, 39]) (i := a.length) (by simp) h1
      rw [hd] at hc
      obtain ⟨k', rfl⟩ : ∃ k', k = k' + 1 := ⟨k - 1, by omega⟩
      rw [Lib.replaceK_hit _ _ _ _ _ h1, hd, ih r (by have := congrArg List.length h2; simp at this; omega) k' (by omega)]
      have ht : (dbl s).take a.length = a := by rw [hdb]; exact List.take_left
      rw [ht, h2]
      simp
theorem all_num (s old : List UInt8) : Lib.replaceNum s old (-1) = Lib.count s old := by unfold Lib.replaceNum; rw [if_pos (by omega)]
theorem quote_dbl (s : List UInt8) : Lib.replaceAll s [39] [39, 39] = dbl s := by
  have h1 : Lib.replaceAll s [39] [39, 39] = Lib.replaceK [39] [39, 39] (Lib.replaceNum s [39] (-1)) s := rfl
  rw [h1, all_num]
  exact rep_dbl _ s (Nat.le_refl _) _ (Nat.le_refl _)
theorem quote_back (s : List UInt8) : Lib.replaceAll (dbl s) [39, 39] [39] = s := by
  have h1 : Lib.replaceAll (dbl s) [39, 39] [39] = Lib.replaceK [39, 39] [39] (Lib.replaceNum (dbl s) [39, 39] (-1)) (dbl s) := rfl
  rw [h1, all_num]
  exact rep_back _ s (Nat.le_refl _) _ (Nat.le_refl _)
theorem quoteB_eq (s : ByteArray) : quoteB s = ⟨(39 :: (dbl s.data.toList ++ [39])).toArray⟩ := by
  unfold quoteB
  rw [quote_dbl]
  apply ByteArray.ext
  simp
end Go.Proofs.YtbijpjoljljlpaaGreatDoor
