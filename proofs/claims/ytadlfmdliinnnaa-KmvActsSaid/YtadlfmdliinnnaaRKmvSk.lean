/- What a sketch of the reference is in memory. Conditions: none. -/
import Derived.Test.YtadlfmdliinnnaaRKmvAdd
set_option maxRecDepth 100000
namespace Go.Proofs.Ytadlfmdliinnnaa
open Go.RowKit Go.Maps Go.Sort

structure RAt (T : Tags) (i : Nat) (w : World) (p : Nat) (V : SkV) (sa : Addr) (sc cb c : Nat) (cur : Array Value) : Prop where
  head : w.heap[p]? = some (.cells #[.int .i64 V.t, .slice (some sa) V.seeds.length sc, .slice (some ⟨cb, 0, none⟩) V.L.length c] 67 (0, 0))
  tp : T p = none
  seeds : SeedsIn w sa V.seeds
  ts : T sa.block = none
  slen : V.seeds.length ≤ sc
  smax : sc ≤ maxLen
  tab : w.heap[cb]? = some (.cells cur 43 (0, 0))
  tc : T cb = some i
  lc : V.L.length ≤ c
  cmax : c ≤ maxLen
  rlen : V.L.length ≤ cur.size
  row : ∀ (j : Nat) v l, cur[j]? = some v → V.L[j]? = some l → w.ownsRow 0 32 1 v l.length (nats l)
  tr : ∀ (j : Nat) v g, j < V.L.length → cur[j]? = some v → v.ownBlock = some g → T g = none
  good : V.Good
/-- a sketch of the reference in memory: its table alone is written -/
def RSk (p : Nat) (V : SkV) : Thing := fun T i w => ∃ sa sc cb c cur, RAt T i w p V sa sc cb c cur

theorem RSk.framed (p : Nat) (V : SkV) : Framed (RSk p V) := by
  rintro T T' i w w' ⟨sa, sc, cb, c, cur, h⟩ hT hw
  have hs := seeds_lt h.seeds h.good.set.n1
  have hrl : ∀ (j : Nat) v g, j < V.L.length → cur[j]? = some v → v.ownBlock = some g → g < w.heap.size := fun j v g hj hv hg => ((h.row j v _ hv (List.getElem?_eq_getElem hj)).lt g hg).2
  exact ⟨sa, sc, cb, c, cur, {
    head := (hw p (lt_of_heap h.head) (.inl h.tp)).trans h.head
    tp := (hT p (lt_of_heap h.head)).trans h.tp
    seeds := h.seeds.keep (hw _ hs (.inl h.ts))
    ts := (hT _ hs).trans h.ts
    slen := h.slen
    smax := h.smax
    tab := (hw cb (lt_of_heap h.tab) (.inr h.tc)).trans h.tab
    tc := (hT cb (lt_of_heap h.tab)).trans h.tc
    lc := h.lc
    cmax := h.cmax
    rlen := h.rlen
    row := fun j v l hj hl => ownsRow_of_block (h.row j v l hj hl) fun g hg => hw g ((h.row j v l hj hl).lt g hg).2 (.inl (h.tr j v g (List.getElem?_eq_some_iff.1 hl).1 hj hg))
    tr := fun j v g hjl hj hg => (hT g (hrl j v g hjl hj hg)).trans (h.tr j v g hjl hj hg)
    good := h.good }⟩

section
variable {T : Tags} {i : Nat} {w : World} {p : Nat} {V : SkV} {sa : Addr} {sc cb c : Nat} {cur : Array Value}
/-- the cells, as the walk reads them -/
theorem RAt.cells (h : RAt T i w p V sa sc cb c cur) :
    w.cell? ⟨p, 0, none⟩ = some (.int .i64 V.t) ∧ w.cell? ⟨p, 1, none⟩ = some (.slice (some sa) V.seeds.length sc) ∧ w.cell? ⟨p, 2, none⟩ = some (.slice (some ⟨cb, 0, none⟩) V.L.length c) := by
  refine ⟨?_, ?_, ?_⟩ <;> (rw [cell_of_row w p _ _ _ _ h.head]; rfl)
theorem RAt.at_ (h : RAt T i w p V sa sc cb c cur) {j : Nat} (hj : j < V.L.length) :
    ∃ v, cur[j]? = some v ∧ w.cell? ⟨cb, j, none⟩ = some v ∧ w.frozen? ⟨cb, j, none⟩ = false ∧ w.ownsRow 0 32 1 v V.L[j].length (nats V.L[j]) ∧ GoodL V.t V.L[j] := by
  have hjr : j < cur.size := Nat.lt_of_lt_of_le hj h.rlen
  refine ⟨cur[j], Array.getElem?_eq_getElem hjr, ?_, ?_, h.row j _ _ (Array.getElem?_eq_getElem hjr) (List.getElem?_eq_getElem hj), h.good.row _ (List.getElem_mem hj)⟩
  · rw [cell_of_row _ _ _ _ _ _ h.tab]
    exact Array.getElem?_eq_getElem hjr
  · have := h.tab
    rw [show cur = cur.toList.toArray by simp] at this
    exact free_of_row this j
/-- row j anew: a new row stands in the table -/
theorem RAt.put (h : RAt T i w p V sa sc cb c cur) {w1 : World} {j : Nat} {v' : Value} {l' : List Nat} (hj : j < V.L.length) (hb : Below w.heap.size w w1) (ho : w1.ownsRow w.heap.size 32 1 v' l'.length (nats l')) (hl : GoodL V.t l') :
    Goes T i w (RSk p { V with L := V.L.set j l' }) (w1.setCell ⟨cb, j, none⟩ v') := by
  have hs := seeds_lt h.seeds h.good.set.n1
  have hpl := lt_of_heap h.head
  have hcl := lt_of_heap h.tab
  have hT' : ∀ k, k < w.heap.size → (fun k => if k < w.heap.size then T k else none) k = T k := fun k hlt => if_pos hlt
  have hk : ∀ k, k < w.heap.size → k ≠ cb → (w1.setCell ⟨cb, j, none⟩ v').heap[k]? = w.heap[k]? := fun k hlt hne => by
    rw [Below.heap_setCell _ _ _ _ hne]; exact hb.block k hlt
  have hne : ∀ k, T k = none → k ≠ cb := fun k hT e => by rw [e, h.tc] at hT; cases hT
  have htab : (w1.setCell ⟨cb, j, none⟩ v').heap[cb]? = some (.cells (cur.setIfInBounds j v') 43 (0, 0)) := heap_set ((hb.block cb hcl).trans h.tab) v'
  have hrl : ∀ (k : Nat) v g, k < V.L.length → cur[k]? = some v → v.ownBlock = some g → g < w.heap.size := fun k v g hk hv hg => ((h.row k v _ hv (List.getElem?_eq_getElem hk)).lt g hg).2
  have hcase : ∀ (k : Nat) u, (cur.setIfInBounds j v')[k]? = some u → (k = j ∧ u = v') ∨ (k ≠ j ∧ cur[k]? = some u) := fun k u hu => by
    rw [Array.getElem?_setIfInBounds] at hu
    split at hu
    · rename_i e
      split at hu
      · exact .inl ⟨e.symm, (Option.some.inj hu).symm⟩
      · cases hu
    · rename_i e
      exact .inr ⟨fun e' => e e'.symm, hu⟩
  refine ⟨fun k => if k < w.heap.size then T k else none, hT', ⟨by simpa [World.setCell] using hb.os, by simpa [World.setCell] using hb.tape, by simpa [World.setCell] using hb.output, by simpa [World.setCell] using hb.size, fun k hlt hT => hk k hlt (fun e => hT (e ▸ h.tc))⟩, sa, sc, cb, c, cur.setIfInBounds j v', {
    head := by
      have e : ({ V with L := V.L.set j l' } : SkV).L.length = V.L.length := by simp
      rw [e]
      exact (hk p hpl (hne p h.tp)).trans h.head
    tp := (hT' p hpl).trans h.tp
    seeds := h.seeds.keep (hk _ hs (hne _ h.ts))
    ts := (hT' _ hs).trans h.ts
    slen := h.slen
    smax := h.smax
    tab := htab
    tc := (hT' cb hcl).trans h.tc
    lc := by simpa using h.lc
    cmax := h.cmax
    rlen := by simpa using h.rlen
    row := fun k u m hu hm => ?_
    tr := fun k u g hkl hu hg => ?_
    good := ⟨h.good.set, by simpa using h.good.len, fun m hm => ?_⟩ }⟩
  · rcases hcase k u hu with ⟨rfl, rfl⟩ | ⟨hne', hu⟩
    · rw [List.getElem?_set_self hj] at hm
      rw [← Option.some.inj hm]
      exact ownsRow_rebase (ownsRow_of_block ho fun g hg => Below.heap_setCell _ _ _ _ (fun e => by have := (ho.lt g hg).1; simp only at e; omega)) (fun _ _ => Nat.zero_le _)
    · rw [List.getElem?_set_ne (fun e => hne' e.symm)] at hm
      have h1 := h.row k u m hu hm
      exact ownsRow_of_block h1 fun g hg => hk g (h1.lt g hg).2 (hne g (h.tr k u g (List.getElem?_eq_some_iff.1 hm).1 hu hg))
  · have hkl' : k < V.L.length := by simpa using hkl
    rcases hcase k u hu with ⟨rfl, rfl⟩ | ⟨hne', hu⟩
    · have := (ho.lt g hg).1
      show (if g < w.heap.size then T g else none) = none
      rw [if_neg (by omega)]
    · exact (hT' g (hrl k u g hkl' hu hg)).trans (h.tr k u g hkl' hu hg)
  · rcases List.mem_or_eq_of_mem_set hm with hm | rfl
    · exact h.good.row m hm
    · exact hl
end
end Go.Proofs.Ytadlfmdliinnnaa
