/- Contracts of kmv's Copies and Copy. Conditions: a sketch that was made. -/
import Derived.Test.YtlhpbfjelgmkeaaGreatKmvAns
set_option maxRecDepth 100000
namespace Go.Proofs.YtlhpbfjelgmkeaaGreat
open Go.RowKit Go.Maps Go.Sort

/-- a row of rows of numbers, all of the call's own -/
structure RowsAt (w : World) (B g : Nat) (rows : List Value) (L : List (List Nat)) : Prop where
  tab : w.heap[g]? = some (.cells rows.toArray 208 (0, 0))
  hg : B ≤ g
  len : rows.length = L.length
  row : ∀ (j : Nat) v l, rows[j]? = some v → L[j]? = some l → w.ownsRow B 43 1 v l.length (nats l)
  apart : ∀ (j j' : Nat) v v' g, rows[j]? = some v → rows[j']? = some v' → v.ownBlock = some g → v'.ownBlock = some g → j = j'

theorem set_cases {α : Type} {l : List α} {j k : Nat} {x y : α} (h : (l.set j x)[k]? = some y) : (k = j ∧ y = x) ∨ (k ≠ j ∧ l[k]? = some y) := by
  rw [List.getElem?_set] at h
  split at h
  · rename_i e
    split at h
    · exact .inl ⟨e.symm, (Option.some.inj h).symm⟩
    · cases h
  · rename_i e
    exact .inr ⟨fun e' => e e'.symm, h⟩
theorem row_ne_tab {w : World} {B g : Nat} {v : Value} {n : Nat} {xs : List Value} {rows : List Value} (h : w.ownsRow B 43 1 v n xs) (ht : w.heap[g]? = some (.cells rows.toArray 208 (0, 0))) : v.ownBlock ≠ some g := by
  intro e
  rcases h.2 with ⟨rfl, _⟩ | ⟨g', cap, cur, rfl, _, hgg, _⟩
  · simp [Value.ownBlock] at e
  · simp [Value.ownBlock] at e
    rw [e, ht] at hgg
    simp at hgg
theorem RowsAt.below {w w' : World} {B g : Nat} {rows : List Value} {L : List (List Nat)} (h : RowsAt w B g rows L) (hb : Below w.heap.size w w') : RowsAt w' B g rows L where
  tab := (hb.block g (lt_of_heap h.tab)).trans h.tab
  hg := h.hg
  len := h.len
  row := fun j v l hv hl => ownsRow_below (h.row j v l hv hl) hb
  apart := h.apart
theorem RowsAt.put {w w1 : World} {B g j : Nat} {rows : List Value} {L : List (List Nat)} {v : Value} {l : List Nat} (h : RowsAt w B g rows L) (hb : Below w.heap.size w w1) (hB : B ≤ w.heap.size)
    (hv : w1.ownsRow w.heap.size 43 1 v l.length (nats l)) : RowsAt (w1.setCell ⟨g, j, none⟩ v) B g (rows.set j v) (L.set j l) := by
  have h1 := h.below hb
  have hlt := lt_of_heap h.tab
  have hh : ∀ k, k ≠ g → (w1.setCell ⟨g, j, none⟩ v).heap[k]? = w1.heap[k]? := fun k hk => Below.heap_setCell _ _ _ _ (by simpa using hk)
  have hlo : ∀ (k : Nat) u x, rows[k]? = some u → u.ownBlock = some x → x < w.heap.size := fun k u x hu hx => by
    have hk : k < L.length := by rw [← h.len]; exact (List.getElem?_eq_some_iff.1 hu).1
    exact ((h.row k u _ hu (List.getElem?_eq_getElem hk)).lt x hx).2
  refine ⟨?_, h.hg, by rw [List.length_set, List.length_set]; exact h.len, fun k u m hu hm => ?_, fun k k' u u' x hu hu' hx hx' => ?_⟩
  · rw [heap_set h1.tab]; simp
  · rcases set_cases hu with ⟨rfl, rfl⟩ | ⟨hne, hu⟩
    · rcases set_cases hm with ⟨_, rfl⟩ | ⟨hne, _⟩
      · exact ownsRow_rebase (ownsRow_of_block hv fun x hx => hh x (fun e => row_ne_tab hv h1.tab (e ▸ hx))) (fun x hx => Nat.le_trans hB (hv.lt x hx).1)
      · exact absurd rfl hne
    · rcases set_cases hm with ⟨e, _⟩ | ⟨_, hm⟩
      · exact absurd e hne
      · have h2 := h1.row k u m hu hm
        exact ownsRow_of_block h2 fun x hx => hh x (fun e => row_ne_tab h2 h1.tab (e ▸ hx))
  · rcases set_cases hu with ⟨rfl, rfl⟩ | ⟨_, hu1⟩
    · rcases set_cases hu' with ⟨rfl, rfl⟩ | ⟨_, hu2⟩
      · rfl
      · have a := (hv.lt x hx).1
        have b := hlo k' u' x hu2 hx'
        omega
    · rcases set_cases hu' with ⟨rfl, rfl⟩ | ⟨_, hu2⟩
      · have a := (hv.lt x hx').1
        have b := hlo k u x hu1 hx
        omega
      · exact h.apart k k' u u' x hu1 hu2 hx hx'
theorem RowsAt.made (w : World) (n : Nat) : RowsAt (w.alloc (.cells (nilRows n).toArray 208)) w.heap.size w.heap.size (nilRows n) (List.replicate n []) := by
  have hnil : ∀ (j : Nat) v, (nilRows n)[j]? = some v → v = .slice none 0 0 := fun j v hv => by
    rw [nilRows, List.getElem?_replicate] at hv
    split at hv
    · exact (Option.some.inj hv).symm
    · cases hv
  refine ⟨heap_alloc_new w _, Nat.le_refl _, by simp [nilRows], fun j v l hv hl => ?_, fun j j' v v' g hv _ hg _ => ?_⟩
  · rw [hnil j v hv]
    rw [List.getElem?_replicate] at hl
    split at hl
    · rw [← Option.some.inj hl]; exact World.ownsRow_nil _ _ _ _
    · cases hl
  · rw [hnil j v hv] at hg
    simp [Value.ownBlock] at hg

/-- the copies behind m rounds -/
def copPart (L : List (List Nat)) (m : Nat) : List (List Nat) := L.take m ++ List.replicate (L.length - m) []
theorem copPart_next (A : List (List Nat)) (m : Nat) (h : m < A.length) : (copPart A m).set m A[m] = copPart A (m + 1) := by
  unfold copPart
  rw [List.set_append_right _ _ (by simp; omega), List.length_take, Nat.min_eq_left (by omega), Nat.sub_self, show A.length - m = (A.length - (m + 1)) + 1 by omega, List.replicate_succ, List.set_cons_zero, List.take_succ_eq_append_getElem h, List.append_assoc]
  rfl
theorem copPart_len (A : List (List Nat)) (m : Nat) (h : m ≤ A.length) : (copPart A m).length = A.length := by simp [copPart]; omega

/-- a new row of copies of the copies -/
def CopAt (w : World) (L : List (List Nat)) (e : Ending) (w' : World) : Prop :=
  ∃ g rows, e = .returned (.slice (some ⟨g, 0, none⟩) L.length L.length) ∧ RowsAt w' w.heap.size g rows L ∧ Below w.heap.size w w'

end Go.Proofs.YtlhpbfjelgmkeaaGreat
