/- Slices of structs of two cells, of texts, of columns and measures, in memory. Conditions: none. -/
import Derived.Test.YtjlpmhjnfgmmcaaGen
set_option maxRecDepth 100000
namespace Go.Proofs.Ytjlpmhjnfgmmcaa
open Go.RowKit Go.Maps Go.Sort

def colC (c : ByteArray × Int) : Value × Value := (.string c.1, .int .i64 c.2)
def meaC (m : Int × ByteArray) : Value × Value := (.int .i64 m.1, .string m.2)
def strs (l : List ByteArray) : List Value := l.map Value.string
theorem strs_len (l : List ByteArray) : (strs l).length = l.length := by simp [strs]
/-- a slice of structs of two cells holds these -/
def Holds2 (w : World) (v : Value) (l : List (Value × Value)) : Prop :=
  ∃ a c, v = .slice a l.length c ∧ l.length ≤ c ∧ ((a = none ∧ l = [] ∧ c = 0) ∨ ∃ ad : Addr, a = some ad ∧ ∀ i x, l[i]? = some x →
    w.cell? (ad.add (i * 2)) = some x.1 ∧ w.cell? ⟨(ad.add (i * 2)).block, (ad.add (i * 2)).off + 1, none⟩ = some x.2)
theorem Holds2.kept {w w' : World} {v : Value} {l : List (Value × Value)} (h : Holds2 w v l) (hc : ∀ (a : Addr) u, w.cell? a = some u → w'.cell? a = some u) : Holds2 w' v l := by
  obtain ⟨a, c, h1, h2, h3⟩ := h
  refine ⟨a, c, h1, h2, ?_⟩
  rcases h3 with h3 | ⟨ad, h3, h4⟩
  · exact .inl h3
  · exact .inr ⟨ad, h3, fun i x hx => ⟨hc _ _ (h4 i x hx).1, hc _ _ (h4 i x hx).2⟩⟩
theorem Holds2.form {w : World} {v : Value} {l : List (Value × Value)} (h : Holds2 w v l) : ∃ a c, v = .slice a l.length c ∧ l.length ≤ c := by
  obtain ⟨a, c, h1, h2, _⟩ := h
  exact ⟨a, c, h1, h2⟩
theorem Holds2.at_ {w : World} {a : Option Addr} {n c : Nat} {l : List (Value × Value)} (h : Holds2 w (.slice a n c) l) {i : Nat} {x : Value × Value} (hx : l[i]? = some x) : ∃ ad : Addr, a = some ad ∧ w.cell? (ad.add (i * 2)) = some x.1 ∧ w.cell? ⟨(ad.add (i * 2)).block, (ad.add (i * 2)).off + 1, none⟩ = some x.2 := by
  obtain ⟨a', c', h1, _, h3⟩ := h
  cases h1
  rcases h3 with ⟨_, e, _⟩ | ⟨ad, h3, h4⟩
  · subst e; simp at hx
  · exact ⟨ad, h3, h4 i x hx⟩
theorem kept_of_below {w w' : World} (hb : Below w.heap.size w w') : ∀ (p : Addr) u, w.cell? p = some u → w'.cell? p = some u := fun p u hp => by rw [hb.cell (World.block_lt_of_cell? w p hp)]; exact hp
theorem Holds2.below {w w' : World} {v : Value} {l : List (Value × Value)} (h : Holds2 w v l) (hb : Below w.heap.size w w') : Holds2 w' v l := h.kept (kept_of_below hb)
/-- cells of structs of two cells -/
def fl2 (ps : List (Value × Value)) : List Value := ps.flatMap fun x => [x.1, x.2]
theorem fl2_at : ∀ (l : List (Value × Value)) (i : Nat) (x : Value × Value), l[i]? = some x → (fl2 l)[i * 2]? = some x.1 ∧ (fl2 l)[i * 2 + 1]? = some x.2
  | [], i, x, h => by simp at h
  | q :: r, 0, x, h => by
    simp at h
    subst h
    simp [fl2]
  | q :: r, i + 1, x, h => by
    have := fl2_at r i x (by simpa using h)
    unfold fl2 at this ⊢
    rw [List.flatMap_cons, show (i + 1) * 2 = i * 2 + 2 by omega, show i * 2 + 2 + 1 = (i * 2 + 1) + 2 by omega]
    exact this
/-- a new block of structs of two cells -/
theorem holds2_new (w : World) (T : TypeId) (l : List (Value × Value)) (n : Nat) (hn : l.length = n) (cs : Array Value) (hc : cs.toList = fl2 l) : Holds2 (w.alloc (.cells cs T)) (.slice (some ⟨w.heap.size, 0, none⟩) n n) l := by
  subst hn
  refine ⟨_, _, rfl, Nat.le_refl _, .inr ⟨_, rfl, fun i x hx => ?_⟩⟩
  obtain ⟨a0, a1⟩ := fl2_at l i x hx
  have hb : (w.alloc (.cells cs T)).heap[w.heap.size]? = some (.cells cs T (0, 0)) := heap_alloc_new w _
  rw [Addr.add_at, Nat.zero_add, cell_of_row _ _ _ _ _ _ hb, cell_of_row _ _ _ _ _ _ hb, ← Array.getElem?_toList, ← Array.getElem?_toList, hc]
  exact ⟨a0, a1⟩
end Go.Proofs.Ytjlpmhjnfgmmcaa
