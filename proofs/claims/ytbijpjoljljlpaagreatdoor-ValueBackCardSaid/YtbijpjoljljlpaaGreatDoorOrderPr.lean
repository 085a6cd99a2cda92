/- A float's text, plain: it tells the good float. Conditions: words below 2^64. -/
import Derived.Test.YtbijpjoljljlpaaGreatDoorFloatOrder
import Derived.Test.YtbijpjoljljlpaaGreatDoorHex
set_option maxRecDepth 100000
namespace Go.Proofs.YtbijpjoljljlpaaGreatDoor

/-- a float's text -/
def prW (u : Nat) : List UInt8 := if nanW u then [78, 65, 78] else if u = 9218868437227405312 then [73, 78, 70] else if u = 18442240474082181120 then [45, 73, 78, 70] else [48, 102] ++ hexN 16 (canonW u)
theorem pr_nan {u : Nat} (h : nanW u = true) : prW u = [78, 65, 78] := by unfold prW; rw [h]; rfl
theorem pr_num {u : Nat} (h0 : nanW u = false) (h1 : u ≠ 9218868437227405312) (h2 : u ≠ 18442240474082181120) : prW u = [48, 102] ++ hexN 16 (canonW u) := by unfold prW; rw [h0, if_neg (by decide), if_neg h1, if_neg h2]
theorem pr_inf : prW 9218868437227405312 = [73, 78, 70] := by decide +kernel
theorem pr_minf : prW 18442240474082181120 = [45, 73, 78, 70] := by decide +kernel
/-- which of the four -/
theorem pr_cases (u : Nat) : (nanW u = true ∧ prW u = [78, 65, 78]) ∨ (u = 9218868437227405312 ∧ prW u = [73, 78, 70]) ∨ (u = 18442240474082181120 ∧ prW u = [45, 73, 78, 70]) ∨ (nanW u = false ∧ u ≠ 9218868437227405312 ∧ u ≠ 18442240474082181120 ∧ prW u = [48, 102] ++ hexN 16 (canonW u)) := by
  cases h0 : nanW u
  · by_cases h1 : u = 9218868437227405312
    · subst h1; exact .inr (.inl ⟨rfl, pr_inf⟩)
    · by_cases h2 : u = 18442240474082181120
      · subst h2; exact .inr (.inr (.inl ⟨rfl, pr_minf⟩))
      · exact .inr (.inr (.inr ⟨rfl, h1, h2, pr_num h0 h1 h2⟩))
  · exact .inl ⟨rfl, pr_nan h0⟩
theorem canon_infs {u : Nat} (h : nanW u = false) (k : Nat) (hk : k = 9218868437227405312 ∨ k = 18442240474082181120) : (canonW u = k) ↔ u = k := by
  rw [canon_not h]
  split <;> omega
theorem pr_canon (u : Nat) : prW (canonW u) = prW u := by
  rcases pr_cases u with ⟨h, e⟩ | ⟨h, e⟩ | ⟨h, e⟩ | ⟨h0, h1, h2, e⟩
  · rw [e, canon_nan h]; exact pr_nan (by decide)
  · subst h; rfl
  · subst h; rfl
  · rw [e, pr_num (by rw [nan_canon]; exact h0) (fun c => h1 ((canon_infs h0 _ (.inl rfl)).1 c)) (fun c => h2 ((canon_infs h0 _ (.inr rfl)).1 c)), canon_idem]
/-- the word that read tells if it tells one: of a text of a float that one -/
def ReadsAs (l : List UInt8) (n : Nat) : Prop := ∀ y < 18446744073709551616, prW y = l → n = canonW y
def NoFloat (l : List UInt8) : Prop := ∀ y < 18446744073709551616, prW y ≠ l
theorem reads_nan : ReadsAs [78, 65, 78] 9221120237041090560 := fun y _ e => by
  rcases pr_cases y with ⟨h, e2⟩ | ⟨h, e2⟩ | ⟨h, e2⟩ | ⟨h0, h1, h2, e2⟩
  · rw [canon_nan h]
  all_goals (rw [e2] at e; exact absurd e (by simp))
theorem reads_inf : ReadsAs [73, 78, 70] 9218868437227405312 := fun y _ e => by
  rcases pr_cases y with ⟨h, e2⟩ | ⟨h, e2⟩ | ⟨h, e2⟩ | ⟨h0, h1, h2, e2⟩
  · rw [e2] at e; exact absurd e (by simp)
  · rw [h]; rfl
  all_goals (rw [e2] at e; exact absurd e (by simp))
theorem reads_minf : ReadsAs [45, 73, 78, 70] 18442240474082181120 := fun y _ e => by
  rcases pr_cases y with ⟨h, e2⟩ | ⟨h, e2⟩ | ⟨h, e2⟩ | ⟨h0, h1, h2, e2⟩
  · rw [e2] at e; exact absurd e (by simp)
  · rw [e2] at e; exact absurd e (by simp)
  · rw [h]; rfl
  · rw [e2] at e; exact absurd e (by simp)
/-- a text that is none of the three is that of digits -/
theorem pr_other {l : List UInt8} (n1 : l ≠ [78, 65, 78]) (n2 : l ≠ [73, 78, 70]) (n3 : l ≠ [45, 73, 78, 70]) {y : Nat} (e : prW y = l) : l = [48, 102] ++ hexN 16 (canonW y) := by
  rcases pr_cases y with ⟨h, e2⟩ | ⟨h, e2⟩ | ⟨h, e2⟩ | ⟨h0, h1, h2, e2⟩
  · exact absurd (e.symm.trans e2) n1
  · exact absurd (e.symm.trans e2) n2
  · exact absurd (e.symm.trans e2) n3
  · exact e.symm.trans e2
theorem reads_hex {l hex : List UInt8} {n : Nat} (n1 : l ≠ [78, 65, 78]) (n2 : l ≠ [73, 78, 70]) (n3 : l ≠ [45, 73, 78, 70]) (hl : l = [48, 102] ++ hex) (h : ∀ c < 18446744073709551616, hex = hexN 16 c → n = c) : ReadsAs l n := fun y hy e => by
  have h1 := pr_other n1 n2 n3 e
  rw [hl] at h1
  exact h _ (canon_lt y hy) (List.append_cancel_left h1)
theorem no_hex {l hex : List UInt8} (n1 : l ≠ [78, 65, 78]) (n2 : l ≠ [73, 78, 70]) (n3 : l ≠ [45, 73, 78, 70]) (hl : l = [48, 102] ++ hex) (h : ∀ c < 18446744073709551616, hex ≠ hexN 16 c) : NoFloat l := fun y hy e => by
  have h1 := pr_other n1 n2 n3 e
  rw [hl] at h1
  exact h _ (canon_lt y hy) (List.append_cancel_left h1)
theorem no_prefix {l : List UInt8} (n1 : l ≠ [78, 65, 78]) (n2 : l ≠ [73, 78, 70]) (n3 : l ≠ [45, 73, 78, 70]) (hl : ∀ hex, l ≠ [48, 102] ++ hex) : NoFloat l := fun _ _ e => hl _ (pr_other n1 n2 n3 e)
theorem reads_drop {l : List UInt8} {n : Nat} (n1 : l ≠ [78, 65, 78]) (n2 : l ≠ [73, 78, 70]) (n3 : l ≠ [45, 73, 78, 70]) (h : ∀ c < 18446744073709551616, l.drop 2 = hexN 16 c → n = c) : ReadsAs l n := fun y hy e => by
  have h1 := pr_other n1 n2 n3 e
  exact h _ (canon_lt y hy) (by rw [h1]; rfl)
theorem no_drop {l : List UInt8} (n1 : l ≠ [78, 65, 78]) (n2 : l ≠ [73, 78, 70]) (n3 : l ≠ [45, 73, 78, 70]) (h : ∀ c < 18446744073709551616, l.drop 2 ≠ hexN 16 c) : NoFloat l := fun y hy e => by
  have h1 := pr_other n1 n2 n3 e
  exact h _ (canon_lt y hy) (by rw [h1]; rfl)
theorem no_len {l : List UInt8} (n1 : l ≠ [78, 65, 78]) (n2 : l ≠ [73, 78, 70]) (n3 : l ≠ [45, 73, 78, 70]) (h : l.length ≠ 18) : NoFloat l := fun y _ e => by
  have h1 := pr_other n1 n2 n3 e
  exact h (by rw [h1, List.length_append, hexN_len]; rfl)
/-- what Parse answers -/
def ParseP (l : List UInt8) (x : Nat) (ok : Bool) : Prop := x < 18446744073709551616 ∧ ((ok = true ∧ prW x = l ∧ canonW x = x ∧ ReadsAs l x) ∨ (ok = false ∧ x = 0 ∧ NoFloat l))
theorem parseP_yes {l : List UInt8} {n : Nat} (hn : n < 18446744073709551616) (h : ReadsAs l n) (e : prW n = l) : ParseP l n true := ⟨hn, .inl ⟨rfl, e, (h n hn e).symm, h⟩⟩
theorem noFloat_of {l : List UInt8} {n : Nat} (h : ReadsAs l n) (e : prW n ≠ l) : NoFloat l := fun y hy e2 => by
  have := h y hy e2
  exact e (by rw [this, pr_canon]; exact e2)
theorem parseP_no {l : List UInt8} (h : NoFloat l) : ParseP l 0 false := ⟨by omega, .inr ⟨rfl, rfl, h⟩⟩
theorem parseP_same {l : List UInt8} {x y : Nat} {a b : Bool} (h : ParseP l x a) (k : ParseP l y b) : x = y ∧ a = b := by
  obtain ⟨hx, ⟨rfl, h1, h2, h3⟩ | ⟨rfl, rfl, h1⟩⟩ := h
  · obtain ⟨hy, ⟨rfl, k1, k2, k3⟩ | ⟨rfl, rfl, k1⟩⟩ := k
    · exact ⟨by rw [h3 y hy k1, k2], rfl⟩
    · exact absurd h1 (k1 x hx)
  · obtain ⟨hy, ⟨rfl, k1, k2, k3⟩ | ⟨rfl, rfl, k1⟩⟩ := k
    · exact absurd k1 (h1 y hy)
    · exact ⟨rfl, rfl⟩
/-- a float's text is read as the good float -/
theorem parseP_pr {u x : Nat} {ok : Bool} (hu : u < 18446744073709551616) (h : ParseP (prW u) x ok) : x = canonW u ∧ ok = true := by
  obtain ⟨hx, ⟨rfl, h1, h2, h3⟩ | ⟨rfl, rfl, h1⟩⟩ := h
  · exact ⟨h3 u hu rfl, rfl⟩
  · exact absurd rfl (h1 u hu)
end Go.Proofs.YtbijpjoljljlpaaGreatDoor
