/- Rows of nodes (level, prefix, count) in memory. Conditions: none. -/
import Derived.Test.YtahaoodklfmddaaDigSk
import Derived.Test.YtahaoodklfmddaaRows
import Derived.Shelf.SlSortCmp.KitK
import Derived.Sort.OwnSorted
set_option maxRecDepth 100000
namespace Go.Proofs.Ytahaoodklfmddaa
open Go.RowKit Go.Maps Go.Sort

/-- a node's cells -/
def encN (p : Nat × Int) : List Value := [.int .i64 ((p.1 / 18446744073709551616 : Nat) : Int), .int .u64 ((p.1 % 18446744073709551616 : Nat) : Int), .int .i64 p.2]
theorem encN_len (p : Nat × Int) : (encN p).length = 3 := rfl
theorem encN_one (p : Nat × Int) : ∀ u ∈ encN p, u.oneCell' = true := fun u hu => by
  simp [encN] at hu
  rcases hu with rfl | rfl | rfl <;> rfl
def flatN (L : DL) : List Value := L.flatMap encN
theorem flatN_len : ∀ L : DL, (flatN L).length = L.length * 3
  | [] => rfl
  | p :: r => by
    have := flatN_len r
    unfold flatN at this ⊢
    rw [List.flatMap_cons, List.length_append, this, List.length_cons, encN_len]
    omega
theorem flatN_snoc (L : DL) (p : Nat × Int) : flatN (L ++ [p]) = flatN L ++ encN p := by simp [flatN]
theorem flatN_one (L : DL) : ∀ u ∈ flatN L, u.oneCell' = true := fun u hu => by
  obtain ⟨p, _, hp⟩ := List.mem_flatMap.1 hu
  exact encN_one p u hp
theorem flatN_at : ∀ (L : DL) (k : Nat) (p : Nat × Int), L[k]? = some p → (flatN L)[k * 3]? = some (.int .i64 ((p.1 / 18446744073709551616 : Nat) : Int)) ∧ (flatN L)[k * 3 + 1]? = some (.int .u64 ((p.1 % 18446744073709551616 : Nat) : Int)) ∧ (flatN L)[k * 3 + 2]? = some (.int .i64 p.2)
  | [], k, p, h => by simp at h
  | q :: r, 0, p, h => by
    simp at h
    subst h
    simp [flatN, encN]
  | q :: r, k + 1, p, h => by
    have := flatN_at r k p (by simpa using h)
    unfold flatN at this ⊢
    rw [List.flatMap_cons, show (k + 1) * 3 = k * 3 + 3 by omega, show k * 3 + 3 + 1 = (k * 3 + 1) + 3 by omega, show k * 3 + 3 + 2 = (k * 3 + 2) + 3 by omega]
    exact this

/-- at block g lie these counters, from its head on -/
def RowN (w : World) (g : Nat) (L : DL) : Prop := HoldsK encN 3 w g 0 L.toArray ∧ g < w.heap.size
theorem RowN.cell {w : World} {g : Nat} {L : DL} (h : RowN w g L) {k : Nat} {p : Nat × Int} (hp : L[k]? = some p) :
    w.cell? ⟨g, k * 3, none⟩ = some (.int .i64 ((p.1 / 18446744073709551616 : Nat) : Int)) ∧ w.cell? ⟨g, k * 3 + 1, none⟩ = some (.int .u64 ((p.1 % 18446744073709551616 : Nat) : Int)) ∧ w.cell? ⟨g, k * 3 + 2, none⟩ = some (.int .i64 p.2) := by
  obtain ⟨hk, e⟩ := List.getElem?_eq_some_iff.1 hp
  have h0 := h.1.cell (i := k) (c := 0) (by simpa using hk) (by omega)
  have h1 := h.1.cell (i := k) (c := 1) (by simpa using hk) (by omega)
  have h2 := h.1.cell (i := k) (c := 2) (by simpa using hk) (by omega)
  have e2 : L.toArray[k]! = p := by rw [getElem!_pos _ k (by simpa using hk)]; simpa using e
  rw [e2] at h0 h1 h2
  simp only [Nat.zero_add, Nat.add_zero] at h0 h1 h2
  exact ⟨h0.1, h1.1, h2.1⟩
theorem rowN_of_owns {w : World} {B g c : Nat} {L : DL} (h : w.ownsRow B 50 3 (.slice (some ⟨g, 0, none⟩) L.length c) L.length (flatN L)) : RowN w g L := by
  have hc := h.cells (g := g) rfl
  have hf : ∀ o, w.frozen? ⟨g, o, none⟩ = false := fun o => by
    rcases h.2 with ⟨e, _⟩ | ⟨g', cap, cur, e, _, hg, _⟩
    · simp at e
    · simp at e
      obtain ⟨rfl, _⟩ := e
      exact free_of_row hg o
  refine ⟨fun j hj => ?_, (h.lt g rfl).2⟩
  rw [size_flatK] at hj
  have hj' : j / 3 < L.length := by simp at hj; omega
  obtain ⟨p, hp, e2⟩ : ∃ p, L[j / 3]? = some p ∧ L.toArray[j / 3]! = p := ⟨L[j / 3], List.getElem?_eq_getElem hj', by rw [getElem!_pos _ _ (by simpa using hj')]; simp⟩
  obtain ⟨a0, a1, a2⟩ := flatN_at L (j / 3) _ hp
  refine ⟨?_, by rw [Nat.zero_add]; exact hf j⟩
  rw [get_flatK _ _ _ _ hj, e2, Nat.zero_add]
  rcases (by omega : j % 3 = 0 ∨ j % 3 = 1 ∨ j % 3 = 2) with e | e | e
  · rw [e]
    have := hc (j / 3 * 3) _ a0
    rw [Addr.add_at, Nat.zero_add, show j / 3 * 3 = j by omega] at this
    exact this
  · rw [e]
    have := hc (j / 3 * 3 + 1) _ a1
    rw [Addr.add_at, Nat.zero_add, show j / 3 * 3 + 1 = j by omega] at this
    exact this
  · rw [e]
    have := hc (j / 3 * 3 + 2) _ a2
    rw [Addr.add_at, Nat.zero_add, show j / 3 * 3 + 2 = j by omega] at this
    exact this
theorem RowN.of_block {w w' : World} {g : Nat} {L : DL} (h : RowN w g L) (hb : w'.heap[g]? = w.heap[g]?) (hs : w.heap.size ≤ w'.heap.size) : RowN w' g L :=
  ⟨fun j hj => by rw [World.cell?_of_block (w := w) hb, World.frozen?_of_block (w := w) hb]; exact h.1 j hj, Nat.lt_of_lt_of_le h.2 hs⟩
theorem RowN.below {w w' : World} {g : Nat} {L : DL} (h : RowN w g L) (hb : Below w.heap.size w w') : RowN w' g L := h.of_block (hb.block g h.2) hb.size

/-- behind a sort: the row, and what is as it was -/
theorem rowN_of_swk {w w' : World} {g : Nat} {L L' : DL} (h : RowN w g L) (hs : SWK encN 3 w g 0 L'.toArray w') (hl : L'.length = L.length) : RowN w' g L' ∧ w.grownBy w' (some g) := by
  have hd : L'.toArray.size = L.toArray.size := by simp [hl]
  refine ⟨⟨hs.holds h.2 h.1 hd, hs.lt h.2⟩, ?_⟩
  obtain ⟨n, os, rfl⟩ := hs
  refine ⟨rfl, rfl, rfl, by unfold sortWorldK; rw [size_grow, size_putRowK]; exact Nat.le_add_right _ _, fun k hk hne => ?_⟩
  unfold sortWorldK
  rw [heap_grow_old _ _ (by rw [size_putRowK]; exact hk)]
  have : g ≠ k := fun e => hne (by rw [e])
  simp [putRowK, putRow, mapBlock, Sort.ahead, Array.getElem?_modify, this]

end Go.Proofs.Ytahaoodklfmddaa
