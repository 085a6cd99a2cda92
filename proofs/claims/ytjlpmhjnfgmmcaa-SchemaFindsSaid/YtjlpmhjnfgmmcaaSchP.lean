/- Names, plain: the words of queries, which texts are words, which texts are names. Conditions: none. -/
import Derived.Test.YtjlpmhjnfgmmcaaGen
set_option maxRecDepth 100000
namespace Go.Proofs.Ytjlpmhjnfgmmcaa
open Go.RowKit

/-- the words, each with a blank behind it -/
def wordsB : List UInt8 := [115, 101, 108, 101, 99, 116, 32, 102, 114, 111, 109, 32, 119, 104, 101, 114, 101, 32, 103, 114, 111, 117, 112, 32, 98, 121, 32, 104, 97, 118, 105, 110, 103, 32, 111, 114, 100, 101, 114, 32, 108, 105, 109, 105, 116, 32, 97, 115, 32, 97, 110, 100, 32, 111, 114, 32, 110, 111, 116, 32, 105, 115, 32, 110, 117, 108, 108, 32, 116, 114, 117, 101, 32, 102, 97, 108, 115, 101, 32, 97, 115, 99, 32, 100, 101, 115, 99, 32, 110, 97, 110, 32, 105, 110, 102, 32]
/-- the words -/
def wordList : List (List UInt8) := [[115, 101, 108, 101, 99, 116], [102, 114, 111, 109], [119, 104, 101, 114, 101], [103, 114, 111, 117, 112], [98, 121], [104, 97, 118, 105, 110, 103], [111, 114, 100, 101, 114], [108, 105, 109, 105, 116], [97, 115], [97, 110, 100], [111, 114], [110, 111, 116], [105, 115], [110, 117, 108, 108], [116, 114, 117, 101], [102, 97, 108, 115, 101], [97, 115, 99], [100, 101, 115, 99], [110, 97, 110], [105, 110, 102]]
/-- where the word begins that p stands in -/
def bgn : Nat → Nat
  | 0 => 0
  | p + 1 => if wordsB[p]? = some 32 then p + 1 else bgn p
def wordL (l : List UInt8) : Bool := wordList.contains l
theorem bgn_le (p : Nat) : bgn p ≤ p := by
  induction p with
  | zero => exact Nat.le_refl _
  | succ p ih => unfold bgn; split <;> omega
theorem bgn_skip {p : Nat} (h : wordsB[p]? ≠ some 32) : bgn (p + 1) = bgn p := by rw [bgn, if_neg h]
theorem bgn_cut {p : Nat} (h : wordsB[p]? = some 32) : bgn (p + 1) = p + 1 := by rw [bgn, if_pos h]
theorem piece_word : ∀ p, p < 96 → wordsB[p]? = some 32 → wordL (wordsB.extract (bgn p) p) = true := by decide +kernel
theorem word_piece {l : List UInt8} (h : wordL l = true) : ∃ p, p < 96 ∧ wordsB[p]? = some 32 ∧ wordsB.extract (bgn p) p = l := by
  have key : ∀ w ∈ wordList, ∃ p, p < 96 ∧ wordsB[p]? = some 32 ∧ wordsB.extract (bgn p) p = w := by decide +kernel
  exact key l (List.contains_iff_mem.1 h)
/-- no word ahead of p is l -/
def NoW (l : List UInt8) (p : Nat) : Prop := ∀ q, q < p → wordsB[q]? = some 32 → wordsB.extract (bgn q) q ≠ l
theorem NoW.zero (l : List UInt8) : NoW l 0 := fun q h => by omega
theorem NoW.skip {l : List UInt8} {p : Nat} (h : NoW l p) (hp : wordsB[p]? ≠ some 32) : NoW l (p + 1) := fun q hq hb => by
  by_cases e : q = p
  · subst e; exact absurd hb hp
  · exact h q (by omega) hb
theorem NoW.cut {l : List UInt8} {p : Nat} (h : NoW l p) (hp : wordsB.extract (bgn p) p ≠ l) : NoW l (p + 1) := fun q hq hb => by
  by_cases e : q = p
  · subst e; exact hp
  · exact h q (by omega) hb
theorem NoW.done {l : List UInt8} {p : Nat} (h : NoW l p) (hp : ¬ p < 96) : wordL l = false := by
  cases e : wordL l
  · rfl
  · obtain ⟨q, h1, h2, h3⟩ := word_piece e
    exact absurd h3 (h q (by omega) h2)

/-- the document's words: a blank ahead -/
def wordsR : List UInt8 := 32 :: wordsB
def HitR (l : List UInt8) (i : Nat) : Prop := i + l.length + 1 < 97 ∧ wordsR[i]? = some 32 ∧ wordsR.extract (i + 1) (i + 1 + l.length) = l ∧ wordsR[i + 1 + l.length]? = some 32
theorem hit_word {l : List UInt8} {i : Nat} (h : HitR l i) (hb : ¬ 32 ∈ l) : l.length = 0 ∨ wordL l = true := by
  have key : ∀ i, i < 97 → ∀ n, n < 97 → (wordsR[i]? = some 32 ∧ i + n + 1 < 97 ∧ wordsR[i + 1 + n]? = some 32) → (wordsR.extract (i + 1) (i + 1 + n)).contains 32 = true ∨ n = 0 ∨ wordL (wordsR.extract (i + 1) (i + 1 + n)) = true := by decide +kernel
  obtain ⟨h1, h2, h3, h4⟩ := h
  rcases key i (by omega) l.length (by omega) ⟨h2, h1, h4⟩ with g | g | g
  · rw [h3] at g; exact absurd (List.contains_iff_mem.1 g) hb
  · exact .inl g
  · rw [h3] at g; exact .inr g
theorem word_hit {l : List UInt8} (h : wordL l = true) : 0 < l.length ∧ ¬ 32 ∈ l ∧ ∃ i, HitR l i := by
  have key : ∀ w ∈ wordList, 0 < w.length ∧ ¬ 32 ∈ w ∧ ∃ i, i < 97 ∧ (i + w.length + 1 < 97 ∧ wordsR[i]? = some 32 ∧ wordsR.extract (i + 1) (i + 1 + w.length) = w ∧ wordsR[i + 1 + w.length]? = some 32) := by decide +kernel
  obtain ⟨h1, h2, i, _, h3⟩ := key l (List.contains_iff_mem.1 h)
  exact ⟨h1, h2, i, h3⟩
theorem blank_no {l : List UInt8} (h : 32 ∈ l) : wordL l = false := by
  cases e : wordL l
  · rfl
  · exact absurd h (word_hit e).2.1
theorem no_hit {l : List UInt8} {i : Nat} (h : ∀ q, q < i → ¬ HitR l q) (hi : ¬ i + l.length + 1 < 97) : wordL l = false := by
  cases e : wordL l
  · rfl
  · obtain ⟨_, _, q, hq⟩ := word_hit e
    exact absurd hq (h q (by have := hq.1; omega))
theorem hit_ans {l : List UInt8} {i : Nat} (h : HitR l i) (hb : ¬ 32 ∈ l) : wordL l = decide (0 < l.length) := by
  rcases hit_word h hb with g | g
  · have : l = [] := List.eq_nil_of_length_eq_zero g
    subst this; decide
  · rw [g, decide_eq_true (word_hit g).1]

def letB (c : UInt8) : Bool := decide (97 ≤ c.toNat ∧ c.toNat ≤ 122)
def innB (c : UInt8) : Bool := decide ((48 ≤ c.toNat ∧ c.toNat ≤ 57) ∨ c.toNat = 95)
/-- may this byte stand at this place of a name? -/
def okAt (j : Nat) (c : UInt8) : Bool := letB c || (decide (j ≠ 0) && innB c)
def okL (l : List UInt8) : Prop := ∀ j c, l[j]? = some c → okAt j c = true
/-- is it a name? -/
def nameL (l : List UInt8) : Bool := decide (1 ≤ l.length ∧ l.length ≤ 16) && ((List.range l.length).all fun j => okAt j (l.getD j 0)) && !wordL l
theorem okL_iff {l : List UInt8} : ((List.range l.length).all fun j => okAt j (l.getD j 0)) = true ↔ okL l := by
  rw [List.all_eq_true]
  constructor
  · intro h j c hc
    obtain ⟨hj, e⟩ := List.getElem?_eq_some_iff.1 hc
    have := h j (List.mem_range.2 hj)
    rwa [List.getD_eq_getElem?_getD, hc] at this
  · intro h j hj
    have hj := List.mem_range.1 hj
    have := h j l[j] (List.getElem?_eq_getElem hj)
    rwa [List.getD_eq_getElem?_getD, List.getElem?_eq_getElem hj]
theorem name_len {l : List UInt8} (h : l.length < 1 ∨ 16 < l.length) : nameL l = false := by
  unfold nameL; rw [decide_eq_false (by omega)]; rfl
theorem name_bad {l : List UInt8} {j : Nat} {c : UInt8} (h : l[j]? = some c) (hc : okAt j c = false) : nameL l = false := by
  unfold nameL
  cases e : (List.range l.length).all fun j => okAt j (l.getD j 0)
  · simp
  · have := okL_iff.1 e j c h
    rw [this] at hc; cases hc
theorem name_word {l : List UInt8} (h1 : 1 ≤ l.length) (h2 : l.length ≤ 16) (h : okL l) : nameL l = !wordL l := by
  unfold nameL; rw [decide_eq_true ⟨h1, h2⟩, okL_iff.2 h]; simp
theorem name_iff {l : List UInt8} : nameL l = true ↔ (1 ≤ l.length ∧ l.length ≤ 16) ∧ okL l ∧ wordL l = false := by
  unfold nameL
  rw [Bool.and_eq_true, Bool.and_eq_true, okL_iff, decide_eq_true_iff, Bool.not_eq_true']
  constructor
  · rintro ⟨⟨a, b⟩, c⟩; exact ⟨a, b, c⟩
  · rintro ⟨a, b, c⟩; exact ⟨⟨a, b⟩, c⟩
end Go.Proofs.Ytjlpmhjnfgmmcaa
