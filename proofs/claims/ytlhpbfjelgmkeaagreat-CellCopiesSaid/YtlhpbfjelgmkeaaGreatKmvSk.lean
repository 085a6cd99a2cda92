/- What a sketch of package kmv is in memory. Conditions: none. -/
import Derived.Test.YtlhpbfjelgmkeaaGreatSlicesInsert
set_option maxRecDepth 100000
namespace Go.Proofs.YtlhpbfjelgmkeaaGreat
open Go.RowKit Go.Maps Go.Sort

/-- a sketch, as plain lists -/
structure SkV where
  t : Nat
  seeds : List (Nat × Nat)
  L : List (List Nat)

/-- a list of hashes that may be -/
structure GoodL (t : Nat) (l : List Nat) : Prop where
  up : Up l
  len : l.length ≤ t
  lt : ∀ x ∈ l, x < 2305843009213693951

/-- settings that may be, of which a sketch has T and the seeds -/
structure GoodS (t : Nat) (S : List (Nat × Nat)) : Prop where
  t2 : 2 ≤ t
  t64 : t ≤ 64
  n1 : 1 ≤ S.length
  n7 : S.length ≤ 7
  odd : S.length % 2 = 1
  seed : ∀ s ∈ S, 0 < s.1 ∧ s.1 < 2305843009213693951 ∧ s.2 < 2305843009213693951

structure SkV.Good (V : SkV) : Prop where
  set : GoodS V.t V.seeds
  len : V.L.length = V.seeds.length
  row : ∀ l ∈ V.L, GoodL V.t l

def flat (S : List (Nat × Nat)) : List Value := S.flatMap fun s => [.int .u64 (s.1 : Int), .int .u64 (s.2 : Int)]

/-- seeds behind an address -/
def SeedsIn (w : World) (sa : Addr) (S : List (Nat × Nat)) : Prop := ∀ j u, (flat S)[j]? = some u → w.cell? (sa.add j) = some u

structure SkAt (T : Tags) (i : Nat) (w : World) (p : Nat) (V : SkV) (sa : Addr) (sc cb : Nat) (rows : List Value) : Prop where
  head : w.heap[p]? = some (.cells #[.int .i64 V.t, .slice (some sa) V.seeds.length sc, .slice (some ⟨cb, 0, none⟩) V.L.length V.L.length] 197 (0, 0))
  tp : T p = none
  seeds : SeedsIn w sa V.seeds
  ts : T sa.block = none
  slen : V.seeds.length ≤ sc
  smax : sc ≤ maxLen
  tab : w.heap[cb]? = some (.cells rows.toArray 208 (0, 0))
  tc : T cb = some i
  rlen : rows.length = V.L.length
  row : ∀ (j : Nat) v l, rows[j]? = some v → V.L[j]? = some l → w.ownsRow 0 43 1 v l.length (nats l)
  tr : ∀ (j : Nat) v g, rows[j]? = some v → v.ownBlock = some g → T g = some i
  apart : ∀ (j j' : Nat) v v' g, rows[j]? = some v → rows[j']? = some v' → v.ownBlock = some g → v'.ownBlock = some g → j = j'
  good : V.Good

/-- a sketch in memory -/
def Sk (p : Nat) (V : SkV) : Thing := fun T i w => ∃ sa sc cb rows, SkAt T i w p V sa sc cb rows

theorem flat_len : ∀ S : List (Nat × Nat), (flat S).length = 2 * S.length
  | [] => rfl
  | s :: S => by
    have := flat_len S
    unfold flat at this ⊢
    rw [List.flatMap_cons, List.length_append, this, List.length_cons]
    simp; omega
theorem flat_at : ∀ (S : List (Nat × Nat)) (k : Nat) (hk : k < S.length), (flat S)[k * 2]? = some (.int .u64 (S[k].1 : Int)) ∧ (flat S)[k * 2 + 1]? = some (.int .u64 (S[k].2 : Int))
  | [], k, hk => by simp at hk
  | s :: S, 0, _ => by simp [flat]
  | s :: S, k + 1, hk => by
    have := flat_at S k (by simpa using hk)
    unfold flat at this ⊢
    rw [List.flatMap_cons, show (k + 1) * 2 = k * 2 + 2 by omega, show k * 2 + 2 + 1 = (k * 2 + 1) + 2 by omega]
    exact this
theorem seeds_lt {w : World} {sa : Addr} {S : List (Nat × Nat)} (h : SeedsIn w sa S) (hn : 1 ≤ S.length) : sa.block < w.heap.size := by
  have := World.block_lt_of_cell? w _ (h 0 _ (flat_at S 0 (by omega)).1)
  rwa [Addr.add_block] at this
theorem SeedsIn.keep {w w' : World} {sa : Addr} {S : List (Nat × Nat)} (h : SeedsIn w sa S) (hb : w'.heap[sa.block]? = w.heap[sa.block]?) : SeedsIn w' sa S := fun j u hj => by
  rw [World.cell?_of_block (w := w) (by rw [Addr.add_block]; exact hb)]
  exact h j u hj

theorem Sk.framed (p : Nat) (V : SkV) : Framed (Sk p V) := by
  rintro T T' i w w' ⟨sa, sc, cb, rows, h⟩ hT hw
  have hs := seeds_lt h.seeds h.good.set.n1
  exact ⟨sa, sc, cb, rows, {
    head := (hw p (lt_of_heap h.head) (.inl h.tp)).trans h.head
    tp := (hT p (lt_of_heap h.head)).trans h.tp
    seeds := h.seeds.keep (hw _ hs (.inl h.ts))
    ts := (hT _ hs).trans h.ts
    slen := h.slen
    smax := h.smax
    tab := (hw cb (lt_of_heap h.tab) (.inr h.tc)).trans h.tab
    tc := (hT cb (lt_of_heap h.tab)).trans h.tc
    rlen := h.rlen
    row := fun j v l hj hl => ownsRow_of_block (h.row j v l hj hl) fun g hg => hw g ((h.row j v l hj hl).lt g hg).2 (.inr (h.tr j v g hj hg))
    tr := fun j v g hj hg => by
      have hjl : j < V.L.length := by rw [← h.rlen]; exact (List.getElem?_eq_some_iff.1 hj).1
      exact (hT g ((h.row j v _ hj (List.getElem?_eq_getElem hjl)).lt g hg).2).trans (h.tr j v g hj hg)
    apart := h.apart
    good := h.good }⟩

/-- row j anew -/
theorem SkAt.put {T : Tags} {i : Nat} {w w' : World} {p : Nat} {V : SkV} {sa : Addr} {sc cb : Nat} {rows : List Value} (h : SkAt T i w p V sa sc cb rows) {j : Nat} {v v' : Value} {l' : List Nat} (hj : rows[j]? = some v)
    (ho : w'.os = w.os) (ht : w'.tape = w.tape) (hp : w'.output = w.output) (hsz : w.heap.size ≤ w'.heap.size) (hk : ∀ k, k < w.heap.size → k ≠ cb → v.ownBlock ≠ some k → w'.heap[k]? = w.heap[k]?)
    (hcb : w'.heap[cb]? = some (.cells (rows.set j v').toArray 208 (0, 0))) (hown : w'.ownsRow 0 43 1 v' l'.length (nats l')) (hat : ∀ g, v'.ownBlock = some g → v.ownBlock = some g ∨ w.heap.size ≤ g) (hl : GoodL V.t l') :
    Goes T i w (Sk p { V with L := V.L.set j l' }) w' := by
  have hjl : j < rows.length := (List.getElem?_eq_some_iff.1 hj).1
  have hjV : j < V.L.length := by rw [← h.rlen]; exact hjl
  have hs := seeds_lt h.seeds h.good.set.n1
  have hsame : ∀ k, k < w.heap.size → T k ≠ some i → w'.heap[k]? = w.heap[k]? := fun k hlt hT => hk k hlt (fun e => hT (e ▸ h.tc)) (fun e => hT (h.tr j v k hj e))
  have hT' : ∀ k, k < w.heap.size → (fun k => if k < w.heap.size then T k else some i) k = T k := fun k hlt => if_pos hlt
  refine ⟨fun k => if k < w.heap.size then T k else some i, hT', ⟨ho, ht, hp, hsz, hsame⟩, sa, sc, cb, rows.set j v', ?_⟩
  have hp' := lt_of_heap h.head
  have hrowlt : ∀ (j : Nat) v l, rows[j]? = some v → V.L[j]? = some l → ∀ g, v.ownBlock = some g → g < w.heap.size := fun j v l h1 h2 g hg => ((h.row j v l h1 h2).lt g hg).2
  have hnew : ∀ g, v'.ownBlock = some g → (if g < w.heap.size then T g else some i) = some i := fun g hg => by
    by_cases hlt : g < w.heap.size
    · rw [if_pos hlt]
      rcases hat g hg with e | e
      · exact h.tr j v g hj e
      · omega
    · rw [if_neg hlt]
  have hrow : ∀ (k : Nat) u, (rows.set j v')[k]? = some u → (k = j ∧ u = v') ∨ (k ≠ j ∧ rows[k]? = some u) := fun k u hu => by
    rw [List.getElem?_set] at hu
    split at hu
    · rename_i e
      exact .inl ⟨e.symm, (Option.some.inj hu).symm⟩
    · rename_i e
      exact .inr ⟨fun e' => e e'.symm, hu⟩
  have hcl : ∀ (k : Nat) u, rows[k]? = some u → k < V.L.length := fun k u hu => by rw [← h.rlen]; exact (List.getElem?_eq_some_iff.1 hu).1
  refine {
    head := ?_
    tp := (hT' p hp').trans h.tp
    seeds := h.seeds.keep (hsame _ hs (by rw [h.ts]; simp))
    ts := (hT' _ hs).trans h.ts
    slen := h.slen
    smax := h.smax
    tab := hcb
    tc := (hT' cb (lt_of_heap h.tab)).trans h.tc
    rlen := by rw [List.length_set, List.length_set]; exact h.rlen
    row := fun k u l hu hl' => ?_
    tr := fun k u g hu hg => ?_
    apart := fun k k' u u' g hu hu' hg hg' => ?_
    good := ⟨h.good.set, by rw [List.length_set]; exact h.good.len, fun l hm => ?_⟩ }
  · show w'.heap[p]? = some (.cells #[.int .i64 V.t, .slice (some sa) V.seeds.length sc, .slice (some ⟨cb, 0, none⟩) (V.L.set j l').length (V.L.set j l').length] _ _)
    rw [List.length_set, hsame p hp' (by rw [h.tp]; simp)]
    exact h.head
  · rcases hrow k u hu with ⟨rfl, rfl⟩ | ⟨hne, hu⟩
    · have e : (V.L.set k l')[k]? = some l' := by simp [hjV]
      rw [e] at hl'
      cases hl'
      exact hown
    · have e : (V.L.set j l')[k]? = V.L[k]? := List.getElem?_set_ne (fun e => hne e.symm)
      rw [e] at hl'
      refine ownsRow_of_block (h.row k u l hu hl') fun g hg => hk g (hrowlt k u l hu hl' g hg) (fun e => ?_) (fun e => hne (h.apart k j u v g hu hj hg e))
      have h1 := (h.row k u l hu hl')
      rcases h1.2 with ⟨rfl, _⟩ | ⟨g', cap, cur, rfl, _, hgg, _⟩
      · simp [Value.ownBlock] at hg
      · simp [Value.ownBlock] at hg
        subst hg
        rw [e, h.tab] at hgg
        simp at hgg
  · rcases hrow k u hu with ⟨rfl, rfl⟩ | ⟨hne, hu⟩
    · exact hnew g hg
    · have hlt := hrowlt k u _ hu (List.getElem?_eq_getElem (hcl k u hu)) g hg
      exact (hT' g hlt).trans (h.tr k u g hu hg)
  · rcases hrow k u hu with ⟨rfl, rfl⟩ | ⟨hne, hu1⟩
    · rcases hrow k' u' hu' with ⟨rfl, rfl⟩ | ⟨hne', hu1'⟩
      · rfl
      · rcases hat g hg with e | e
        · exact h.apart k k' v u' g hj hu1' e hg'
        · have := hrowlt k' u' _ hu1' (List.getElem?_eq_getElem (hcl k' u' hu1')) g hg'
          omega
    · rcases hrow k' u' hu' with ⟨rfl, rfl⟩ | ⟨hne', hu1'⟩
      · rcases hat g hg' with e | e
        · exact h.apart k k' u v g hu1 hj hg e
        · have := hrowlt k u _ hu1 (List.getElem?_eq_getElem (hcl k u hu1)) g hg
          omega
      · exact h.apart k k' u u' g hu1 hu1' hg hg'
  · rcases List.mem_or_eq_of_mem_set hm with hm | rfl
    · exact h.good.row l hm
    · exact hl

/-- the cells of a sketch, as the walk reads them -/
theorem SkAt.cells {T : Tags} {i : Nat} {w : World} {p : Nat} {V : SkV} {sa : Addr} {sc cb : Nat} {rows : List Value} (h : SkAt T i w p V sa sc cb rows) :
    w.cell? ⟨p, 0, none⟩ = some (.int .i64 V.t) ∧ w.cell? ⟨p, 1, none⟩ = some (.slice (some sa) V.seeds.length sc) ∧ w.cell? ⟨p, 2, none⟩ = some (.slice (some ⟨cb, 0, none⟩) V.L.length V.L.length) := by
  refine ⟨?_, ?_, ?_⟩ <;> (rw [cell_of_row w p _ _ _ _ h.head]; rfl)
theorem SkAt.at_ {T : Tags} {i : Nat} {w : World} {p : Nat} {V : SkV} {sa : Addr} {sc cb : Nat} {rows : List Value} (h : SkAt T i w p V sa sc cb rows) {j : Nat} (hj : j < V.L.length) :
    ∃ v, rows[j]? = some v ∧ w.cell? ⟨cb, j, none⟩ = some v ∧ w.frozen? ⟨cb, j, none⟩ = false ∧ w.ownsRow 0 43 1 v V.L[j].length (nats V.L[j]) ∧ GoodL V.t V.L[j] := by
  have hjr : j < rows.length := by rw [h.rlen]; exact hj
  refine ⟨rows[j], List.getElem?_eq_getElem hjr, ?_, free_of_row h.tab j, h.row j _ _ (List.getElem?_eq_getElem hjr) (List.getElem?_eq_getElem hj), h.good.row _ (List.getElem_mem hj)⟩
  rw [cell_of_row _ _ _ _ _ _ h.tab]
  simp [hjr]
end Go.Proofs.YtlhpbfjelgmkeaaGreat
