/- What a sketch of package heavy is in memory; rows of counters. Conditions: none. -/
import Derived.Test.YtkmonecolkamjaaHeavyPlain
import Derived.Test.YtkmonecolkamjaaThings
import Derived.Test.YtkmonecolkamjaaStable
import Derived.Sort.OwnSorted
set_option maxRecDepth 100000
namespace Go.Proofs.Ytkmonecolkamjaa
open Go.RowKit Go.Maps Go.Sort

def flatP (L : CL) : List Value := L.flatMap encP
theorem flatP_len : ∀ L : CL, (flatP L).length = L.length * 2
  | [] => rfl
  | p :: r => by
    have := flatP_len r
    unfold flatP at this ⊢
    rw [List.flatMap_cons, List.length_append, this, List.length_cons, encP_len]
    omega
theorem flatP_snoc (L : CL) (p : Int × Int) : flatP (L ++ [p]) = flatP L ++ encP p := by simp [flatP]
theorem flatP_one (L : CL) : ∀ u ∈ flatP L, u.oneCell' = true := fun u hu => by
  obtain ⟨p, _, hp⟩ := List.mem_flatMap.1 hu
  exact encP_one p u hp
theorem flatP_at : ∀ (L : CL) (k : Nat) (p : Int × Int), L[k]? = some p → (flatP L)[k * 2]? = some (.int .i64 p.1) ∧ (flatP L)[k * 2 + 1]? = some (.int .i64 p.2)
  | [], k, p, h => by simp at h
  | q :: r, 0, p, h => by
    simp at h
    subst h
    simp [flatP, encP]
  | q :: r, k + 1, p, h => by
    have := flatP_at r k p (by simpa using h)
    unfold flatP at this ⊢
    rw [List.flatMap_cons, show (k + 1) * 2 = k * 2 + 2 by omega, show k * 2 + 2 + 1 = (k * 2 + 1) + 2 by omega]
    exact this

/-- at block g lie these counters, from its head on -/
def RowP (w : World) (g : Nat) (L : CL) : Prop := HoldsK encP 2 w g 0 L.toArray ∧ g < w.heap.size
theorem RowP.cell {w : World} {g : Nat} {L : CL} (h : RowP w g L) {k : Nat} {p : Int × Int} (hp : L[k]? = some p) :
    w.cell? ⟨g, k * 2, none⟩ = some (.int .i64 p.1) ∧ w.cell? ⟨g, k * 2 + 1, none⟩ = some (.int .i64 p.2) ∧ w.frozen? ⟨g, k * 2, none⟩ = false ∧ w.frozen? ⟨g, k * 2 + 1, none⟩ = false := by
  obtain ⟨hk, e⟩ := List.getElem?_eq_some_iff.1 hp
  have h0 := h.1.cell (i := k) (c := 0) (by simpa using hk) (by omega)
  have h1 := h.1.cell (i := k) (c := 1) (by simpa using hk) (by omega)
  have e2 : L.toArray[k]! = p := by rw [getElem!_pos _ k (by simpa using hk)]; simpa using e
  rw [e2] at h0 h1
  simp only [Nat.zero_add, Nat.add_zero] at h0 h1
  exact ⟨h0.1, h1.1, h0.2, h1.2⟩
theorem row_of_owns {w : World} {B g c : Nat} {L : CL} (h : w.ownsRow B 50 2 (.slice (some ⟨g, 0, none⟩) L.length c) L.length (flatP L)) : RowP w g L := by
  have hc := h.cells (g := g) rfl
  have hf : ∀ o, w.frozen? ⟨g, o, none⟩ = false := fun o => by
    rcases h.2 with ⟨e, _⟩ | ⟨g', cap, cur, e, _, hg, _⟩
    · simp at e
    · simp at e
      obtain ⟨rfl, _⟩ := e
      exact free_of_row hg o
  refine ⟨fun j hj => ?_, (h.lt g rfl).2⟩
  rw [size_flatK] at hj
  have hj' : j / 2 < L.length := by simp at hj; omega
  obtain ⟨p, hp, e2⟩ : ∃ p, L[j / 2]? = some p ∧ L.toArray[j / 2]! = p := ⟨L[j / 2], List.getElem?_eq_getElem hj', by rw [getElem!_pos _ _ (by simpa using hj')]; simp⟩
  obtain ⟨a0, a1⟩ := flatP_at L (j / 2) _ hp
  refine ⟨?_, by rw [Nat.zero_add]; exact hf j⟩
  rw [get_flatK _ _ _ _ hj, e2, Nat.zero_add]
  rcases (by omega : j % 2 = 0 ∨ j % 2 = 1) with e | e
  · rw [e]
    have := hc (j / 2 * 2) _ a0
    rw [Addr.add_at, Nat.zero_add, show j / 2 * 2 = j by omega] at this
    exact this
  · rw [e]
    have := hc (j / 2 * 2 + 1) _ a1
    rw [Addr.add_at, Nat.zero_add, show j / 2 * 2 + 1 = j by omega] at this
    exact this
theorem RowP.of_block {w w' : World} {g : Nat} {L : CL} (h : RowP w g L) (hb : w'.heap[g]? = w.heap[g]?) (hs : w.heap.size ≤ w'.heap.size) : RowP w' g L :=
  ⟨fun j hj => by rw [World.cell?_of_block (w := w) hb, World.frozen?_of_block (w := w) hb]; exact h.1 j hj, Nat.lt_of_lt_of_le h.2 hs⟩
theorem RowP.below {w w' : World} {g : Nat} {L : CL} (h : RowP w g L) (hb : Below w.heap.size w w') : RowP w' g L := h.of_block (hb.block g h.2) hb.size

/-- behind a sort: the row, and what is as it was -/
theorem row_of_swk {w w' : World} {g : Nat} {L L' : CL} (h : RowP w g L) (hs : SWK encP 2 w g 0 L'.toArray w') (hl : L'.length = L.length) : RowP w' g L' ∧ w.grownBy w' (some g) := by
  have hd : L'.toArray.size = L.toArray.size := by simp [hl]
  refine ⟨⟨hs.holds h.2 h.1 hd, hs.lt h.2⟩, ?_⟩
  obtain ⟨n, os, rfl⟩ := hs
  refine ⟨rfl, rfl, rfl, by unfold sortWorldK; rw [size_grow, size_putRowK]; exact Nat.le_add_right _ _, fun k hk hne => ?_⟩
  unfold sortWorldK
  rw [heap_grow_old _ _ (by rw [size_putRowK]; exact hk)]
  have : g ≠ k := fun e => hne (by rw [e])
  simp [putRowK, putRow, mapBlock, Sort.ahead, Array.getElem?_modify, this]

/-- a sketch, as plain lists -/
structure HV where
  m : Nat
  n : Nat
  L : CL
def total (L : CL) : Int := (L.map Prod.snd).sum

structure HV.Good (V : HV) : Prop where
  m1 : 1 ≤ V.m
  m64 : V.m ≤ 64
  n50 : V.n ≤ 1125899906842624
  len : V.L.length ≤ V.m
  pos : ∀ p ∈ V.L, 1 ≤ p.2
  sum : total V.L ≤ V.n

theorem total_cons (p : Int × Int) (r : CL) : total (p :: r) = p.2 + total r := by simp [total]
theorem total_nonneg {L : CL} (h : ∀ p ∈ L, 1 ≤ p.2) : 0 ≤ total L := by
  induction L with
  | nil => exact Int.le_refl _
  | cons p r ih =>
    have := h p (List.mem_cons_self ..)
    have := ih fun q hq => h q (List.mem_cons_of_mem _ hq)
    rw [total_cons]; omega
theorem le_total {L : CL} (h : ∀ p ∈ L, 1 ≤ p.2) : ∀ p ∈ L, p.2 ≤ total L := by
  induction L with
  | nil => intro p hp; cases hp
  | cons q r ih =>
    intro p hp
    have h1 := h q (List.mem_cons_self ..)
    have h2 := total_nonneg fun x hx => h x (List.mem_cons_of_mem _ hx)
    rw [total_cons]
    rcases List.mem_cons.1 hp with rfl | hp
    · omega
    · have := ih (fun x hx => h x (List.mem_cons_of_mem _ hx)) p hp; omega

structure HkAt (T : Tags) (i : Nat) (w : World) (p m n b : Nat) (L : CL) : Prop where
  head : w.heap[p]? = some (.cells #[.int .i64 m, .int .i64 n, .map (some b)] 57 (0, 0))
  tp : T p = some i
  map : MapAt w b L
  tb : T b = some i
/-- a sketch in memory -/
def Hk (p : Nat) (V : HV) : Thing := fun T i w => ∃ b, HkAt T i w p V.m V.n b V.L ∧ V.Good
theorem Hk.framed (p : Nat) (V : HV) : Framed (Hk p V) := by
  rintro T T' i w w' ⟨b, h, hG⟩ hT hw
  exact ⟨b, ⟨(hw p (lt_of_heap h.head) (.inr h.tp)).trans h.head, (hT p (lt_of_heap h.head)).trans h.tp, h.map.of_block (hw b h.map.lt (.inr h.tb)), (hT b h.map.lt).trans h.tb⟩, hG⟩
theorem HkAt.ne {T : Tags} {i : Nat} {w : World} {p m n b : Nat} {L : CL} (h : HkAt T i w p m n b L) : p ≠ b := by
  rintro rfl
  obtain ⟨es, clock, h1, _⟩ := h.map.own
  rw [h.head] at h1
  cases h1
theorem HkAt.cells {T : Tags} {i : Nat} {w : World} {p m n b : Nat} {L : CL} (h : HkAt T i w p m n b L) :
    w.cell? ⟨p, 0, none⟩ = some (.int .i64 m) ∧ w.cell? ⟨p, 1, none⟩ = some (.int .i64 n) ∧ w.cell? ⟨p, 2, none⟩ = some (.map (some b)) ∧ ∀ j, w.frozen? ⟨p, j, none⟩ = false :=
  ⟨by rw [cell_of_row _ _ _ _ _ _ h.head]; rfl, by rw [cell_of_row _ _ _ _ _ _ h.head]; rfl, by rw [cell_of_row _ _ _ _ _ _ h.head]; rfl, free_of_row h.head⟩
end Go.Proofs.Ytkmonecolkamjaa
