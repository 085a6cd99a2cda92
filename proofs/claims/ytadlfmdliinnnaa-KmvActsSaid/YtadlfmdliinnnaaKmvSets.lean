/- Sketches as sets: which numbers a sketch stands for; insertions and merges; equal sets, equal sketches. Conditions: none. -/
import Derived.Test.YtadlfmdliinnnaaKmvSide
set_option maxRecDepth 100000
namespace Go.Proofs.Ytadlfmdliinnnaa
open Go.RowKit Go.Maps Go.Sort

/-- V has T and seeds, and each copy has the least hashes of the numbers of X -/
structure OfSet (t : Nat) (S : List (Nat × Nat)) (X : Nat → Prop) (V : SkV) : Prop where
  ht : V.t = t
  hs : V.seeds = S
  hl : V.L.length = S.length
  least : ∀ j (hj : j < V.L.length), Least t (fun y => ∃ x, X x ∧ y = V.hash j x) V.L[j]

section
variable {t : Nat} {S : List (Nat × Nat)} {X Y : Nat → Prop} {V U : SkV}
theorem SkV.hash_eq (h : U.seeds = V.seeds) (j x : Nat) : U.hash j x = V.hash j x := by unfold SkV.hash; rw [h]
theorem OfSet.empty (t : Nat) (S : List (Nat × Nat)) : OfSet t S (fun _ => False) (SkV.empty t S) where
  ht := rfl
  hs := rfl
  hl := by simp [SkV.empty]
  least := fun j hj => by
    simp only [SkV.empty, List.getElem_replicate]
    exact Least.iff (Least.nil t) fun x => ⟨fun ⟨_, h, _⟩ => h, fun h => h.elim⟩
theorem OfSet.ins (h : OfSet t S X V) (x : Nat) : OfSet t S (fun z => z = x ∨ X z) (V.ins x) where
  ht := h.ht
  hs := h.hs
  hl := by simp [SkV.ins, h.hl]
  least := fun j hj => by
    have hj' : j < V.L.length := by simpa [SkV.ins] using hj
    have := (h.least j hj').add (V.hash j x)
    have e : (V.ins x).L[j] = addL t (V.hash j x) V.L[j] := by simp [SkV.ins, h.ht]
    rw [e]
    refine this.iff fun y => ?_
    constructor
    · rintro ⟨z, rfl | hz, rfl⟩
      · exact .inl rfl
      · exact .inr ⟨z, hz, rfl⟩
    · rintro (rfl | ⟨z, hz, rfl⟩)
      · exact ⟨x, .inl rfl, rfl⟩
      · exact ⟨z, .inr hz, rfl⟩
theorem OfSet.merge (h : OfSet t S X V) (g : OfSet t S Y U) : OfSet t S (fun z => X z ∨ Y z) (V.merge U) where
  ht := h.ht
  hs := h.hs
  hl := by simp [SkV.merge, h.hl]
  least := fun j hj => by
    have hj' : j < V.L.length := by simpa [SkV.merge] using hj
    have hjU : j < U.L.length := by rw [g.hl, ← h.hl]; exact hj'
    have := (h.least j hj').merge (g.least j hjU)
    have e : (V.merge U).L[j] = mergeL t V.L[j] U.L[j] := by
      simp only [SkV.merge, List.getElem_mapIdx, h.ht]
      rw [getD_at hjU]
    rw [e]
    refine this.iff fun y => ?_
    have hh : ∀ z, U.hash j z = V.hash j z := fun z => SkV.hash_eq (by rw [h.hs, g.hs]) j z
    constructor
    · rintro ⟨z, hz | hz, rfl⟩
      · exact .inl ⟨z, hz, rfl⟩
      · exact .inr ⟨z, hz, (hh z).symm⟩
    · rintro (⟨z, hz, rfl⟩ | ⟨z, hz, rfl⟩)
      · exact ⟨z, .inl hz, rfl⟩
      · exact ⟨z, .inr hz, hh z⟩
theorem OfSet.iff (h : OfSet t S X V) (hXY : ∀ z, Y z ↔ X z) : OfSet t S Y V :=
  ⟨h.ht, h.hs, h.hl, fun j hj => (h.least j hj).iff fun _ => ⟨fun ⟨x, hx, e⟩ => ⟨x, (hXY x).1 hx, e⟩, fun ⟨x, hx, e⟩ => ⟨x, (hXY x).2 hx, e⟩⟩⟩
/-- one set, one sketch -/
theorem OfSet.eq (h : OfSet t S X V) (g : OfSet t S X U) : V = U := by
  have hL : V.L = U.L := by
    refine List.ext_getElem (by rw [h.hl, g.hl]) fun j h1 h2 => ?_
    exact least_eq (h.least j h1) ((g.least j h2).iff fun _ => ⟨fun ⟨x, hx, e⟩ => ⟨x, hx, by rw [e]; exact (SkV.hash_eq (by rw [h.hs, g.hs]) j x).symm⟩, fun ⟨x, hx, e⟩ => ⟨x, hx, by rw [e]; exact SkV.hash_eq (by rw [h.hs, g.hs]) j x⟩⟩)
  cases V; cases U
  simp only [SkV.mk.injEq]
  exact ⟨h.ht.trans g.ht.symm, h.hs.trans g.hs.symm, hL⟩
theorem OfSet.eq' (h : OfSet t S X V) (g : OfSet t S Y U) (hXY : ∀ z, Y z ↔ X z) : V = U := h.eq (g.iff fun z => (hXY z).symm)
theorem OfSet.ins_take {l : List Nat} {m : Nat} (hm : m < l.length) (h : OfSet t S (fun z => z ∈ l.take m) V) : OfSet t S (fun z => z ∈ l.take (m + 1)) (V.ins l[m]) :=
  (h.ins l[m]).iff fun z => by rw [List.take_succ_eq_append_getElem hm]; simp only [List.mem_append, List.mem_singleton, or_comm]
end

theorem u64s_nats (l : List UInt64) : u64s l = nats (l.map UInt64.toNat) := by simp [u64s, nats]
theorem toNat_lt (l : List UInt64) : ∀ x ∈ l.map UInt64.toNat, x < 18446744073709551616 := by
  intro x hx
  obtain ⟨c, _, rfl⟩ := List.mem_map.1 hx
  exact c.toNat_lt
end Go.Proofs.Ytadlfmdliinnnaa
