/- KmvBack: the states of its two drawn regions. Conditions: none. -/
import Derived.Test.YtadlfmdliinnnaaKmvLoad
set_option maxRecDepth 100000
namespace Go.Proofs.Ytadlfmdliinnnaa
open Go.RowKit Go.Maps Go.Sort

section
variable {w : World} {sa : Option Addr} {n sc : Nat} {S : List (Nat × Nat)} {t : Nat} {k m : Int} {p q : Nat} {V : SkV} {W : World}

theorem skv_eta {V : SkV} (ht : V.t = t) (hs : V.seeds = S) : (⟨t, S, V.L⟩ : SkV) = V := by
  cases V
  simp only at ht hs
  subst ht hs
  rfl
theorem side_good {E : List (Nat × Thing)} {i : Nat} (h : Side w E W) (hx : (i, Sk p V) ∈ E) : V.Good := by
  obtain ⟨T, hA⟩ := side_thing h hx
  obtain ⟨_, _, _, _, g⟩ := hA
  exact g.good
theorem bytes_small (hV : V.Good) : (bytesL V.L).length ≤ 5000 := by
  have h1 := bytesL_len hV.row hV.set.t64 V.L.length (Nat.le_refl _)
  rw [List.take_length] at h1
  have h2 := hV.set.n7
  have h3 := hV.len
  omega

/-- behind Bytes: a row of its own, what was there ahead of it is as it was -/
structure StQ (w : World) (E : List (Nat × Thing)) (bs : List UInt8) (v : Value) (W : World) : Prop where
  side : Side w E W
  old : ∃ W0, Side w E W0 ∧ Below W0.heap.size W0 W ∧ W.ownsRow W0.heap.size 5 1 v bs.length (u8s bs)
theorem StQ.bytes {E : List (Nat × Thing)} {i : Nat} (h : Side w E W) (hx : (i, Sk p V) ∈ E) :
    Calls Try.prog 22 #[.pointer (some ⟨p, 0, none⟩)] W fun e w' => ∃ v, e = .returned v ∧ StQ w E (bytesL V.L) v w' := by
  refine (side_bytes h hx).mono ?_
  rintro e w' ⟨v, rfl, ho, hb⟩
  exact ⟨v, rfl, h.below hb, W, h, hb, ho⟩
theorem StQ.form {E : List (Nat × Thing)} {bs : List UInt8} {v : Value} (h : StQ w E bs v W) : ∃ a c, v = .slice a bs.length c := by
  obtain ⟨_, _, _, ho⟩ := h.old
  obtain ⟨a, c, e, _, _⟩ := ownsRow_form ho
  exact ⟨a, c, e⟩
theorem StQ.holds {E : List (Nat × Thing)} {bs : List UInt8} {v : Value} (h : StQ w E bs v W) : Holds W v (u8s bs) := by
  obtain ⟨_, _, _, ho⟩ := h.old
  exact Holds.of_row (by rw [u8s_len]; exact ho)

/-- Load of a sketch's bytes -/
theorem back_load (hs : SetAt w sa n sc S) (hg : goodB t S k m = true) {E : List (Nat × Thing)} (hi : ∀ e ∈ E, e.1 ≠ 1) (ht : V.t = t) (hS : V.seeds = S) (hV : V.Good) {a : Option Addr} {bn c : Nat} (h : StQ w E (bytesL V.L) (.slice a bn c) W) :
    Calls Try.prog 27 #[setV t sa n sc k m, .slice a bn c] W fun e w' => ∃ q, e = .returned (.tuple #[.pointer (some ⟨q, 0, none⟩), .int .i64 0]) ∧ Side w ((1, Sk q V) :: E) w' := by
  have hsm := bytes_small hV
  have hH := h.holds
  have hl := hH.len.1
  rw [u8s_len] at hl
  have K := load_main h.side hi (hs.below h.side.base) t k m hg (L := V.L) (by rw [skv_eta ht hS]; exact hV) (tail := []) (by rw [List.append_nil]; exact hH) (by omega)
  rw [skv_eta ht hS] at K
  refine K.mono ?_
  rintro e w' (⟨_, q, he, hs'⟩ | ⟨hne, _⟩)
  · exact ⟨q, he, hs'⟩
  · exact absurd rfl hne

/-- a byte more -/
structure StP (w : World) (E : List (Nat × Thing)) (bs : List UInt8) (b : Nat) (v : Value) (W : World) : Prop where
  q : StQ w E bs v W
  one : Holds W (.slice (some ⟨b, 0, none⟩) 1 1) (u8s [0])
def zeroO : Obj := .cells #[.int .u8 0] 5
theorem zero_holds (W : World) : Holds (W.alloc zeroO) (.slice (some ⟨W.heap.size, 0, none⟩) 1 1) (u8s [0]) := holds_one8 W 0 0 rfl
theorem StP.bytes {E : List (Nat × Thing)} {i : Nat} (h : Side w E W) (hx : (i, Sk p V) ∈ E) :
    Calls Try.prog 22 #[.pointer (some ⟨p, 0, none⟩)] (W.alloc zeroO) fun e w' => ∃ v, e = .returned v ∧ StP w E (bytesL V.L) W.heap.size v w' := by
  have h1 := h.below ((Below.refl W.heap.size W).alloc (Nat.le_refl _) zeroO)
  refine (side_bytes h1 hx).mono ?_
  rintro e w' ⟨v, rfl, ho, hb⟩
  exact ⟨v, rfl, ⟨h1.below hb, _, h1, hb, ho⟩, (zero_holds W).below hb⟩
theorem StQ.late {E : List (Nat × Thing)} {bs : List UInt8} {v : Value} (h : StQ w E bs v W) : StP w E bs W.heap.size v (W.alloc zeroO) := by
  have hb := (Below.refl W.heap.size W).alloc (Nat.le_refl _) zeroO
  obtain ⟨W0, h0, h1, ho⟩ := h.old
  exact ⟨⟨h.side.below hb, W0, h0, h1.trans (hb.mono h1.size), ownsRow_below ho hb⟩, zero_holds W⟩
/-- behind the append -/
structure StR (w : World) (E : List (Nat × Thing)) (bs : List UInt8) (v : Value) (W : World) : Prop where
  side : Side w E W
  holds : Holds W v (u8s (bs ++ [0]))
theorem StP.app {E : List (Nat × Thing)} {bs : List UInt8} {b : Nat} {v : Value} (h : StP w E bs b v W) (hl : bs.length ≤ 100000) :
    ∃ v' w', (∀ ty, (Builtin.append_ #[46, 46] ty #[v, .slice (some ⟨b, 0, none⟩) 1 1]).run Try.prog W = .ok v' w') ∧ StR w E bs v' w' := by
  obtain ⟨W0, h0, h1, ho⟩ := h.q.old
  obtain ⟨v', w', hr, h2, h3, h4⟩ := app8 ho h1.size h.one (by simp; omega)
  exact ⟨v', w', hr, h0.below (h1.grown h3 h1.size (fun k hk => (ho.lt k hk).1)), Holds.of_row (by rw [u8s_len]; exact h2)⟩
/-- Load of bytes with one too many -/
theorem back_trail (hs : SetAt w sa n sc S) (hg : goodB t S k m = true) {E : List (Nat × Thing)} (hi : ∀ e ∈ E, e.1 ≠ 7) (ht : V.t = t) (hS : V.seeds = S) (hV : V.Good) {v : Value} (h : StR w E (bytesL V.L) v W) :
    Calls Try.prog 27 #[setV t sa n sc k m, v] W fun e w' => e = .returned (.tuple #[.pointer none, .int .i64 8]) ∧ Side w E w' := by
  have hsm := bytes_small hV
  have hH := h.holds
  obtain ⟨a, c, rfl, _⟩ := hH.form
  have hl := hH.len.1
  rw [u8s_len, List.length_append] at hl
  have K := load_main h.side hi (hs.below h.side.base) t k m hg (L := V.L) (by rw [skv_eta ht hS]; exact hV) (tail := [0]) hH (by rw [u8s_len, List.length_append]; simp; omega)
  refine K.mono ?_
  rintro e w' (⟨hn, _⟩ | ⟨_, he, hs'⟩)
  · cases hn
  · exact ⟨he, hs'⟩
end
end Go.Proofs.Ytadlfmdliinnnaa
