/- What texts of numbers say: plain mathematics. Conditions: none. -/
import Derived.Test.YtnljlbdecknbpaaWideM
import Derived.Test.YtnljlbdecknbpaaWideQ
import Derived.Test.YtnljlbdecknbpaaDigs
set_option maxRecDepth 100000
namespace Go.Proofs.Ytnljlbdecknbpaa
open Go.RowKit

theorem digs_no45 (m : Nat) : (digs m).head? ≠ some 45 := by
  intro h
  cases hd : digs m with
  | nil => exact digs_ne m hd
  | cons c k =>
    rw [hd] at h
    have hc := digs_isD m c (by rw [hd]; simp)
    have e : c = 45 := by simpa using h
    have := hc.1
    rw [e] at this
    have h45 : (45 : UInt8).toNat = 45 := rfl
    omega
/-- a text with its sign taken off -/
def Cut (l k : List UInt8) (neg : Bool) : Prop := (neg = true ∧ l = 45 :: k) ∨ (neg = false ∧ l = k ∧ l.head? ≠ some 45)
theorem cut_of (l : List UInt8) : Cut l (Lib.trimPrefix l [45]) (Lib.hasPrefix l [45]) := by
  cases l with
  | nil => exact .inr ⟨rfl, rfl, by simp⟩
  | cons c k =>
    by_cases h : c = 45
    · subst h; exact .inl ⟨by simp [Lib.hasPrefix, List.isPrefixOf], by simp [Lib.trimPrefix, Lib.hasPrefix, List.isPrefixOf]⟩
    · have hb : (45 == c) = false := by rw [beq_eq_false_iff_ne]; exact fun e => h e.symm
      refine .inr ⟨by simp [Lib.hasPrefix, List.isPrefixOf, hb], by simp [Lib.trimPrefix, Lib.hasPrefix, List.isPrefixOf, hb], by simpa using h⟩
/-- no number is told so -/
def NoText (l : List UInt8) : Prop := ∀ M, fitW M = true → l ≠ printL M
theorem cut_no {l k : List UInt8} {neg : Bool} (hc : Cut l k neg) (h : ∀ m, m < 340282366920938463463374607431768211456 → k ≠ digs m) : NoText l := by
  intro M hf e
  have hf := fit_iff.1 hf
  rcases hc with ⟨_, hl⟩ | ⟨_, hl, hh⟩
  · rcases Int.lt_or_le M 0 with hm | hm
    · rw [print_neg hm, hl] at e
      exact h M.natAbs (by omega) (List.cons.inj e).2
    · rw [print_pos hm, hl] at e
      exact digs_no45 M.natAbs (by rw [← e]; rfl)
  · rcases Int.lt_or_le M 0 with hm | hm
    · rw [print_neg hm] at e
      exact hh (by rw [e]; rfl)
    · rw [print_pos hm, hl] at e
      exact h M.natAbs (by omega) e
theorem cut_yes {l k : List UInt8} {neg : Bool} {m : Nat} (hc : Cut l k neg) (hk : k = digs m) (h : sgnOk (m : Int) neg = true) : fitW (sgnW (m : Int) neg) = true ∧ l = printL (sgnW (m : Int) neg) := by
  unfold sgnW
  rw [h, if_pos rfl]
  rcases hc with ⟨rfl, hl⟩ | ⟨rfl, hl, _⟩
  · unfold sgnOk at h
    rw [if_pos rfl, decide_eq_true_iff] at h
    rw [if_pos rfl]
    exact ⟨fit_iff.2 (by omega), by rw [print_neg (by omega), hl, hk, show (-(m : Int)).natAbs = m by omega]⟩
  · unfold sgnOk at h
    rw [if_neg (by decide), decide_eq_true_iff] at h
    rw [if_neg (by decide)]
    exact ⟨fit_iff.2 (by omega), by rw [print_pos (by omega), hl, hk, show (m : Int).natAbs = m by omega]⟩
theorem cut_not {l k : List UInt8} {neg : Bool} {m : Nat} (hc : Cut l k neg) (hk : k = digs m) (h : sgnOk (m : Int) neg = false) : sgnW (m : Int) neg = 0 ∧ NoText l := by
  refine ⟨by unfold sgnW; rw [h, if_neg (by decide)], fun M hf e => ?_⟩
  have hf := fit_iff.1 hf
  rcases hc with ⟨rfl, hl⟩ | ⟨rfl, hl, hh⟩
  · unfold sgnOk at h
    rw [if_pos rfl, decide_eq_false_iff_not] at h
    rcases Int.lt_or_le M 0 with hm | hm
    · rw [print_neg hm, hl, hk] at e
      have := digs_inj (List.cons.inj e).2
      omega
    · rw [print_pos hm, hl] at e
      exact digs_no45 M.natAbs (by rw [← e]; rfl)
  · unfold sgnOk at h
    rw [if_neg (by decide), decide_eq_false_iff_not] at h
    rcases Int.lt_or_le M 0 with hm | hm
    · rw [print_neg hm] at e
      exact hh (by rw [e]; rfl)
    · rw [print_pos hm, hl, hk] at e
      have := digs_inj e
      omega
/-- what a parser answers -/
def ParseP (l : List UInt8) (w : World) (e : Ending) (w' : World) : Prop :=
  ∃ (N : Int) (b : Bool), e = .returned (.tuple #[wv N, .bool b]) ∧ Below w.heap.size w w' ∧ (b = true → fitW N = true ∧ l = printL N) ∧ (b = false → N = 0 ∧ NoText l)
theorem print_inj {A B : Int} (h : printL A = printL B) : A = B := by
  rcases Int.lt_or_le A 0 with ha | ha <;> rcases Int.lt_or_le B 0 with hb | hb
  · rw [print_neg ha, print_neg hb] at h
    have := digs_inj (List.cons.inj h).2
    omega
  · rw [print_neg ha, print_pos hb] at h
    exact absurd (by rw [← h]; rfl) (digs_no45 B.natAbs)
  · rw [print_pos ha, print_neg hb] at h
    exact absurd (by rw [h]; rfl) (digs_no45 A.natAbs)
  · rw [print_pos ha, print_pos hb] at h
    have := digs_inj h
    omega
/-- two parsers answer alike -/
theorem parse_alike {l : List UInt8} {N M : Int} {b c : Bool} (h1 : b = true → fitW N = true ∧ l = printL N) (h2 : b = false → N = 0 ∧ NoText l) (h3 : c = true → fitW M = true ∧ l = printL M) (h4 : c = false → M = 0 ∧ NoText l) : N = M ∧ b = c := by
  cases b <;> cases c
  · exact ⟨by rw [(h2 rfl).1, (h4 rfl).1], rfl⟩
  · exact absurd (h3 rfl).2 ((h2 rfl).2 M (h3 rfl).1)
  · exact absurd (h1 rfl).2 ((h4 rfl).2 N (h1 rfl).1)
  · exact ⟨print_inj ((h1 rfl).2.symm.trans (h3 rfl).2), rfl⟩
end Go.Proofs.Ytnljlbdecknbpaa
