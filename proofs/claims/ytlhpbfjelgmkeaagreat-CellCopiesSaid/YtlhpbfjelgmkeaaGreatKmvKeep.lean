/- Contract of kmv's keep: a hash into one copy. Conditions: a sketch that was made. -/
import Derived.Test.YtlhpbfjelgmkeaaGreatKmvSk
import Derived.Deep.RegionHeld3
set_option maxRecDepth 100000
namespace Go.Proofs.YtlhpbfjelgmkeaaGreat
open Go.RowKit Go.Maps Go.Sort

/-- what keep leaves -/
def KeptAt (T : Tags) (i p : Nat) (V : SkV) (w : World) (e : Ending) (w' : World) : Prop :=
  e = .returned (.tuple #[]) ∧ Goes T i w (Sk p V) w'

theorem below_two (w : World) (o o' : Obj) : Below w.heap.size w ((w.alloc o).alloc o') := ((Below.refl _ _).alloc (Nat.le_refl _) _).alloc (by simp) _
/-- the search that keep makes -/
theorem keep_search {w : World} {x c : Nat} {a : Option Addr} {l : List Nat} (hown : w.ownsRow 0 43 1 (.slice a l.length c) l.length (nats l)) (hu : Up l) (hl : l.length ≤ 1000000) :
    Calls Tryz.prog 211 #[.int .i64 (l.length : Int), .func (.func 212) #[] #[.pointer (some ⟨w.heap.size + 1, 0, none⟩), .pointer (some ⟨w.heap.size, 0, none⟩)]]
      ((w.alloc (.cells #[.int .u64 (x : Int)] 43)).alloc (.cells #[.slice a l.length c] 208))
      (Draws (.int .i64 (cntL x l : Int)) ((w.alloc (.cells #[.int .u64 (x : Int)] 43)).alloc (.cells #[.slice a l.length c] 208))) := by
  refine search_any hl (cntL_le x l) fun m k hk => ?_
  obtain ⟨ad, rfl⟩ := (Holds.of_row (by rw [nats_len]; exact hown)).ptr (by omega : 0 < l.length)
  have hcell : w.cell? (ad.add k) = some (.int .u64 (l[k] : Int)) := (Holds.of_row (by rw [nats_len]; exact hown)).cell (nats_at hk)
  have e : decide (cntL x l ≤ k) = decide (x ≤ l[k]) := by
    rw [decide_eq_decide]
    have := cntL_at x l hu k hk
    omega
  rw [e]
  refine clos_any (la := ⟨w.heap.size + 1, 0, none⟩) (ha := ⟨w.heap.size, 0, none⟩) (ad := ad) (n := l.length) (c := c) ?_ ?_ ?_ hk
  · show World.cell? ((w.alloc _).alloc _) _ = _
    go_simp
  · show World.cell? ((w.alloc _).alloc _) _ = _
    go_simp
  · show World.cell? ((w.alloc _).alloc _) _ = _
    rw [(below_two w _ _).cell (World.block_lt_of_cell? w _ hcell)]
    exact hcell

/-- the walk of keep to its test, over letters -/
def SearchOf (w : World) (x n c : Nat) (a : Option Addr) (cnt : Nat) : Prop :=
    Calls Tryz.prog 211 #[.int .i64 (n : Int), .func (.func 212) #[] #[.pointer (some ⟨w.heap.size + 1, 0, none⟩), .pointer (some ⟨w.heap.size, 0, none⟩)]]
      ((w.alloc (.cells #[.int .u64 (x : Int)] 43)).alloc (.cells #[.slice a n c] 208))
      (Draws (.int .i64 (cnt : Int)) ((w.alloc (.cells #[.int .u64 (x : Int)] 43)).alloc (.cells #[.slice a n c] 208)))

set_option maxHeartbeats 3200000 in
/-- the list is full and lies below the hash -/
theorem keep_full {w : World} {p j x cb N t n c : Nat} {a : Option Addr} (c0 : w.cell? ⟨p, 0, none⟩ = some (.int .i64 t)) (c2 : w.cell? ⟨p, 2, none⟩ = some (.slice (some ⟨cb, 0, none⟩) N N)) (c3 : w.cell? ⟨cb, j, none⟩ = some (.slice a n c))
    (hpl : p < w.heap.size) (hcl : cb < w.heap.size) (hj : j < N) (KS : SearchOf w x n c a t) :
    Calls Tryz.prog 209 #[.pointer (some ⟨p, 0, none⟩), .int .i64 (j : Int), .int .u64 (x : Int)] w fun e w' => e = .returned (.tuple #[]) ∧ Below w.heap.size w w' := by
  have hjl : (j : Int) < (N : Int) := by omega
  have hj0 : (0 : Int) ≤ (j : Int) := by omega
  go_enter Tryz.func209, Tryz.ntmps209
  go_wp2_with fail
  refine KS.mono ?_
  rintro e w1 ⟨rfl, q, rfl⟩
  clear KS
  go_wp2_with fail
  go_quiet (fail)
  go_wp2_with fail
  refine bodyPost_ret (results_none rfl _ _ _) rfl ?_
  exact ⟨rfl, below_dN (below_dN (below_two w _ _) _) _⟩

set_option maxHeartbeats 3200000 in
/-- the hash is there -/
theorem keep_there {w : World} {p j x cb N t n c cnt : Nat} {ad : Addr} (c0 : w.cell? ⟨p, 0, none⟩ = some (.int .i64 t)) (c2 : w.cell? ⟨p, 2, none⟩ = some (.slice (some ⟨cb, 0, none⟩) N N)) (c3 : w.cell? ⟨cb, j, none⟩ = some (.slice (some ad) n c))
    (c4 : w.cell? (ad.add cnt) = some (.int .u64 (x : Int)))
    (hpl : p < w.heap.size) (hcl : cb < w.heap.size) (hal : (ad.add cnt).block < w.heap.size) (hj : j < N) (hcn : cnt < n) (hct : cnt ≠ t) (KS : SearchOf w x n c (some ad) cnt) :
    Calls Tryz.prog 209 #[.pointer (some ⟨p, 0, none⟩), .int .i64 (j : Int), .int .u64 (x : Int)] w fun e w' => e = .returned (.tuple #[]) ∧ Below w.heap.size w w' := by
  have hjl : (j : Int) < (N : Int) := by omega
  have hj0 : (0 : Int) ≤ (j : Int) := by omega
  have t1 : ((cnt : Int) == (t : Int)) = false := by rw [beq_eq_false_iff_ne]; omega
  have t2 : decide (cnt < n) = true := decide_eq_true hcn
  have b0 : (0 : Int) ≤ (cnt : Int) := by omega
  have b1 : (cnt : Int) < (n : Int) := by omega
  go_enter Tryz.func209, Tryz.ntmps209
  go_wp2_with fail
  refine KS.mono ?_
  rintro e w1 ⟨rfl, q, rfl⟩
  clear KS
  go_wp2_with fail
  go_quiet (fail)
  go_wp2_with fail
  refine bodyPost_ret (results_none rfl _ _ _) rfl ?_
  exact ⟨rfl, below_dN (below_dN (below_two w _ _) _) _⟩

/-- the insertion that keep makes -/
def InsertOf (w : World) (x n c : Nat) (a : Option Addr) (cnt : Nat) (xs : List Nat) : Prop :=
  ∀ W g, Below w.heap.size w W → W.heap[g]? = some (.cells #[.int .u64 (x : Int)] 43 (0, 0)) → w.heap.size ≤ g →
    Calls Tryz.prog 213 #[.slice a n c, .int .i64 (cnt : Int), .slice (some ⟨g, 0, none⟩) 1 1] W (InsPost 0 W (.slice a n c) xs)

theorem keep_after {w W w3 : World} {p cb n c t N j : Nat} {a : Option Addr} {v0 : Value} {rows : List Value} (hb : Below w.heap.size w W) (hW : W.heap[w.heap.size + 1]? = some (.cells #[.slice a n c] 208 (0, 0)))
    (hp : w.heap[p]? = some (.cells #[.int .i64 t, v0, .slice (some ⟨cb, 0, none⟩) N N] 197 (0, 0))) (hr : w.heap[cb]? = some (.cells rows.toArray 208 (0, 0))) (hj : rows[j]? = some (.slice a n c)) (hrow : ∀ g, (Value.slice a n c).ownBlock = some g → g < w.heap.size ∧ g ≠ p ∧ g ≠ cb)
    (hg : W.grownBy w3 (Value.slice a n c).ownBlock) :
    w3.cell? ⟨w.heap.size + 1, 0, none⟩ = some (.slice a n c) ∧ w3.frozen? ⟨w.heap.size + 1, 0, none⟩ = false ∧ w.heap.size + 1 < w3.heap.size ∧ w3.cell? ⟨p, 0, none⟩ = some (.int .i64 t) ∧ w3.cell? ⟨p, 2, none⟩ = some (.slice (some ⟨cb, 0, none⟩) N N) ∧ w3.cell? ⟨cb, j, none⟩ = some (.slice a n c) ∧ w3.frozen? ⟨cb, j, none⟩ = false ∧
      w3.heap[cb]? = some (.cells rows.toArray 208 (0, 0)) ∧ (∀ k, k < w.heap.size → (Value.slice a n c).ownBlock ≠ some k → w3.heap[k]? = w.heap[k]?) ∧ w3.os = w.os ∧ w3.tape = w.tape ∧ w3.output = w.output := by
  have hlt := lt_of_heap hW
  have hs : ∀ k, k < w.heap.size → (Value.slice a n c).ownBlock ≠ some k → w3.heap[k]? = w.heap[k]? := fun k hk hn => (hg.block k (Nat.lt_of_lt_of_le hk hb.size) (fun e => hn e.symm)).trans (hb.block k hk)
  have h1 : w3.heap[w.heap.size + 1]? = some (.cells #[.slice a n c] 208 (0, 0)) := (hg.block _ hlt (fun e => by have := (hrow _ e.symm).1; omega)).trans hW
  have h2 : w3.heap[p]? = _ := (hs p (lt_of_heap hp) (fun e => (hrow _ e).2.1 rfl)).trans hp
  have h3 : w3.heap[cb]? = _ := (hs cb (lt_of_heap hr) (fun e => (hrow _ e).2.2 rfl)).trans hr
  refine ⟨?_, free_of_row h1 _, lt_of_heap h1, ?_, ?_, ?_, free_of_row h3 _, h3, hs, hg.os.trans hb.os, hg.tape.trans hb.tape, hg.output.trans hb.output⟩
  · rw [cell_of_row _ _ _ _ _ _ h1]; rfl
  · rw [cell_of_row _ _ _ _ _ _ h2]; rfl
  · rw [cell_of_row _ _ _ _ _ _ h2]; rfl
  · rw [cell_of_row _ _ _ _ _ _ h3]; simpa using hj

theorem three_a (w : World) (A B C : Obj) (m : Nat) : Below w.heap.size w ((((w.alloc A).alloc B).drewN m).alloc C) := (below_dN (below_two w _ _) _).alloc (by simp; omega) _
theorem three_b (w : World) (A B C : Obj) (m : Nat) : ((((w.alloc A).alloc B).drewN m).alloc C).heap[w.heap.size + 1]? = some B := by
  have h := heap_alloc_new (w.alloc A) B
  rw [World.size_alloc] at h
  exact (Below.heap_alloc (((w.alloc A).alloc B).drewN m) C (w.heap.size + 1) (by simp)).trans h
theorem three_c (w : World) (A B C : Obj) (m : Nat) : ((((w.alloc A).alloc B).drewN m).alloc C).heap[w.heap.size + 1 + 1]? = some C := by
  have h := heap_alloc_new (((w.alloc A).alloc B).drewN m) C
  rw [show (((w.alloc A).alloc B).drewN m).heap.size = w.heap.size + 1 + 1 by show ((w.alloc A).alloc B).heap.size = _; simp] at h
  exact h
/-- what a new hash leaves -/
def NewAt (w : World) (cb j t : Nat) (v : Value) (rows : List Value) (xs : List Nat) (e : Ending) (w' : World) : Prop :=
  e = .returned (.tuple #[]) ∧ ∃ v', w'.ownsRow 0 43 1 v' (xs.take t).length (nats (xs.take t)) ∧ (∀ g, v'.ownBlock = some g → v.ownBlock = some g ∨ w.heap.size ≤ g) ∧ w'.heap[cb]? = some (.cells (rows.set j v').toArray 208 (0, 0)) ∧
    (∀ k, k < w.heap.size → k ≠ cb → v.ownBlock ≠ some k → w'.heap[k]? = w.heap[k]?) ∧ w.heap.size ≤ w'.heap.size ∧ w'.os = w.os ∧ w'.tape = w.tape ∧ w'.output = w.output

theorem ownsRow_cut {w : World} {B : Nat} {a : Option Addr} {n c m : Nat} {xs : List Nat} (h : w.ownsRow B 43 1 (.slice a n c) n (nats xs)) (hx : xs.length = n) (h0 : 0 < n) (hm : m ≤ n) : w.ownsRow B 43 1 (.slice a m c) m (nats (xs.take m)) := by
  rcases h.2 with ⟨e, rfl⟩ | ⟨g, cap, cur, e, hb, hg, h1, h2, h3, h4⟩
  · omega
  · cases e
    refine ⟨by simp [nats]; omega, .inr ⟨g, c, cur, rfl, hb, hg, by omega, h2, h3, ?_⟩⟩
    rw [Nat.mul_one] at h4 ⊢
    rw [nats_take, ← h4, List.take_take, Nat.min_eq_left hm]

theorem new_done {w w3 : World} {cb j t n c c' m : Nat} {a a' : Option Addr} {rows : List Value} {xs : List Nat} {u : Value} (ho : w3.ownsRow 0 43 1 (.slice a' xs.length c') xs.length (nats xs)) (hx : xs.length = n + 1)
    (ha : ∀ g, (Value.slice a' xs.length c').ownBlock = some g → (Value.slice a n c).ownBlock = some g ∨ w.heap.size + 1 < g)
    (hf : w3.heap[cb]? = some (.cells rows.toArray 208 (0, 0)) ∧ (∀ k, k < w.heap.size → (Value.slice a n c).ownBlock ≠ some k → w3.heap[k]? = w.heap[k]?) ∧ w3.os = w.os ∧ w3.tape = w.tape ∧ w3.output = w.output)
    (hcl : cb < w.heap.size) (hrow : ∀ g, (Value.slice a n c).ownBlock = some g → g < w.heap.size ∧ g ≠ cb) (h3 : w.heap.size + 1 < w3.heap.size) (hm : m = min (n + 1) t) :
    NewAt w cb j t (.slice a n c) rows xs (.returned (.tuple #[])) ((w3.setCell ⟨w.heap.size + 1, 0, none⟩ u).setCell ⟨cb, j, none⟩ (.slice a' m c')).drew := by
  obtain ⟨f1, f2, f3, f4, f5⟩ := hf
  replace ha : ∀ g, (Value.slice a' m c').ownBlock = some g → (Value.slice a n c).ownBlock = some g ∨ w.heap.size + 1 < g := fun g hg => ha g (by cases a' <;> exact hg)
  have hh : ∀ k, k ≠ w.heap.size + 1 → k ≠ cb → ((w3.setCell ⟨w.heap.size + 1, 0, none⟩ u).setCell ⟨cb, j, none⟩ (.slice a' m c')).heap[k]? = w3.heap[k]? := fun k h1 h2 => by
    rw [Below.heap_setCell _ _ _ _ (by simpa using h2), Below.heap_setCell _ _ _ _ (by simpa using h1)]
  have ho' := ownsRow_cut (m := m) ho rfl (by omega) (by omega)
  have e1 : (xs.take t).length = m := by rw [List.length_take]; omega
  have e2 : xs.take t = xs.take m := by
    rw [hm]
    by_cases g : n + 1 ≤ t
    · rw [Nat.min_eq_left g, List.take_of_length_le (by omega), List.take_of_length_le (by omega)]
    · rw [Nat.min_eq_right (by omega)]
  refine ⟨rfl, .slice a' m c', ?_, fun g hg => ?_, ?_, fun k hk h1 h2 => ?_, ?_, f3, f4, f5⟩
  · rw [e1, e2]
    refine ownsRow_of_block ho' fun g hg => ?_
    show ((w3.setCell _ _).setCell _ _).heap[g]? = _
    rcases ha g hg with e | e
    · have := hrow g e
      exact hh g (by omega) this.2
    · exact hh g (by omega) (by omega)
  · rcases ha g hg with e | e
    · exact .inl e
    · exact .inr (by omega)
  · show ((w3.setCell _ _).setCell _ _).heap[cb]? = _
    rw [heap_set (w := w3.setCell ⟨w.heap.size + 1, 0, none⟩ u) (g := cb) (cs := rows.toArray) (t := 208) (fr := (0, 0)) (by rw [Below.heap_setCell _ _ _ _ (by show cb ≠ w.heap.size + 1; omega)]; exact f1)]
    simp
  · show ((w3.setCell _ _).setCell _ _).heap[k]? = _
    rw [hh k (by omega) h1]
    exact f2 k hk h2
  · show w.heap.size ≤ ((w3.setCell _ _).setCell _ _).heap.size
    simp [World.setCell]
    omega

set_option maxHeartbeats 6400000 in
theorem keep_new {w : World} {p j x cb N t n c cnt : Nat} {a : Option Addr} {v0 : Value} {rows : List Value} {xs : List Nat}
    (hp : w.heap[p]? = some (.cells #[.int .i64 t, v0, .slice (some ⟨cb, 0, none⟩) N N] 197 (0, 0))) (hr : w.heap[cb]? = some (.cells rows.toArray 208 (0, 0))) (hv : rows[j]? = some (.slice a n c)) (hrow : ∀ g, (Value.slice a n c).ownBlock = some g → g < w.heap.size ∧ g ≠ p ∧ g ≠ cb)
    (htest : cnt = n ∨ ∃ ad y, a = some ad ∧ (ad.add cnt).block < w.heap.size ∧ w.cell? (ad.add cnt) = some (.int .u64 ((y : Nat) : Int)) ∧ y ≠ x ∧ cnt < n)
    (hj : j < N) (ht2 : 2 ≤ t) (ht : t ≤ 64) (hx : xs.length = n + 1) (hn : n ≤ 64) (hct : cnt ≠ t) (KS : SearchOf w x n c a cnt) (KI : InsertOf w x n c a cnt xs) :
    Calls Tryz.prog 209 #[.pointer (some ⟨p, 0, none⟩), .int .i64 (j : Int), .int .u64 (x : Int)] w (NewAt w cb j t (.slice a n c) rows xs) := by
  have hjl : (j : Int) < (N : Int) := by omega
  have hj0 : (0 : Int) ≤ (j : Int) := by omega
  have t1 : ((cnt : Int) == (t : Int)) = false := by rw [beq_eq_false_iff_ne]; omega
  have b0 : (0 : Int) ≤ (cnt : Int) := by omega
  have hpl := lt_of_heap hp
  have hcl := lt_of_heap hr
  have c0 : w.cell? ⟨p, 0, none⟩ = some (.int .i64 t) := by rw [cell_of_row _ _ _ _ _ _ hp]; rfl
  have c2 : w.cell? ⟨p, 2, none⟩ = some (.slice (some ⟨cb, 0, none⟩) N N) := by rw [cell_of_row _ _ _ _ _ _ hp]; rfl
  have c3 : w.cell? ⟨cb, j, none⟩ = some (.slice a n c) := by rw [cell_of_row _ _ _ _ _ _ hr]; simpa using hv
  have HA := fun W w3 h1 h2 h3 => keep_after (w := w) (W := W) (w3 := w3) h1 h2 hp hr hv hrow h3
  replace KI := Lib.hid KI
  replace HA := Lib.hid HA
  have HR := Lib.hid hrow
  have HX := Lib.hid hx
  clear hp hr hv hrow hx
  rcases htest with rfl | ⟨ad, y, rfl, hal, hy, hne, hlt⟩
  · have t2 : decide (cnt < cnt) = false := decide_eq_false (by omega)
    go_enter Tryz.func209, Tryz.ntmps209
    go_wp2_with fail
    refine KS.mono ?_
    rintro e w1 ⟨rfl, q, rfl⟩
    clear KS
    go_wp2_with fail
    go_quiet (fail)
    go_wp2_with fail
    refine (KI.out _ _ (three_a _ _ _ _ _) (three_c _ _ _ _ _) (by omega)).mono ?_
    rintro e w3 ⟨v', rfl, ho3, hg3, ha3⟩
    obtain ⟨f1, f2, f3, f4, f5, f6, f7, f8, f9, f10⟩ := HA.out _ _ (three_a _ _ _ _ _) (three_b _ _ _ _ _) hg3
    have ha4 : ∀ g, v'.ownBlock = some g → (Value.slice a cnt c).ownBlock = some g ∨ w.heap.size + 1 < g := fun g hg => by
      rcases ha3 with e | e
      · exact .inl (e ▸ hg)
      · rw [hg] at e
        simp at e
        exact .inr (by omega)
    obtain ⟨a', c', rfl, hc', hm'⟩ := ownsRow_form ho3
    have HO := Lib.hid ho3
    have HA4 := Lib.hid ha4
    have HF := Lib.hid (And.intro f8 (And.intro f9 f10))
    rw [HX.out] at hc' ⊢
    clear ho3 hg3 ha3 ha4 f8 f9 f10
    unfold maxLen at hm'
    have g0 : ¬ (c' = 0) := by omega
    go_wp2_with fail
    go_region
    all_goals go_wp2_with fail
    all_goals
      go_end0
      exact new_done HO.out HX.out HA4.out HF.out hcl (fun g hg => ⟨(HR.out g hg).1, (HR.out g hg).2.2⟩) f3 (by omega)
  · have t2 : decide (cnt < n) = true := decide_eq_true hlt
    have t3 : ((y : Int) == (x : Int)) = false := by rw [beq_eq_false_iff_ne]; omega
    have b1 : (cnt : Int) < (n : Int) := by omega
    go_enter Tryz.func209, Tryz.ntmps209
    go_wp2_with fail
    refine KS.mono ?_
    rintro e w1 ⟨rfl, q, rfl⟩
    clear KS
    go_wp2_with fail
    go_quiet (fail)
    go_wp2_with fail
    refine (KI.out _ _ (three_a _ _ _ _ _) (three_c _ _ _ _ _) (by omega)).mono ?_
    rintro e w3 ⟨v', rfl, ho3, hg3, ha3⟩
    obtain ⟨f1, f2, f3, f4, f5, f6, f7, f8, f9, f10⟩ := HA.out _ _ (three_a _ _ _ _ _) (three_b _ _ _ _ _) hg3
    have ha4 : ∀ g, v'.ownBlock = some g → (Value.slice (some ad) n c).ownBlock = some g ∨ w.heap.size + 1 < g := fun g hg => by
      rcases ha3 with e | e
      · exact .inl (e ▸ hg)
      · rw [hg] at e
        simp at e
        exact .inr (by omega)
    obtain ⟨a', c', rfl, hc', hm'⟩ := ownsRow_form ho3
    have HO := Lib.hid ho3
    have HA4 := Lib.hid ha4
    have HF := Lib.hid (And.intro f8 (And.intro f9 f10))
    rw [HX.out] at hc' ⊢
    clear ho3 hg3 ha3 ha4 f8 f9 f10
    unfold maxLen at hm'
    have g0 : ¬ (c' = 0) := by omega
    go_wp2_with fail
    go_region
    all_goals go_wp2_with fail
    all_goals
      go_end0
      exact new_done HO.out HX.out HA4.out HF.out hcl (fun g hg => ⟨(HR.out g hg).1, (HR.out g hg).2.2⟩) f3 (by omega)

theorem set_self {α : Type} : ∀ (l : List α) (j : Nat) (h : j < l.length), l.set j l[j] = l
  | _ :: _, 0, _ => rfl
  | a :: r, j + 1, h => by simp
theorem SkAt.below {T : Tags} {i : Nat} {w w' : World} {p : Nat} {V : SkV} {sa : Addr} {sc cb : Nat} {rows : List Value} (h : SkAt T i w p V sa sc cb rows) (hb : Below w.heap.size w w') : Sk p V T i w' :=
  Sk.framed p V T T i w w' ⟨sa, sc, cb, rows, h⟩ (fun _ _ => rfl) (fun k hk _ => hb.block k hk)

theorem keep_any {T : Tags} {i : Nat} {w : World} {p : Nat} {V : SkV} {sa : Addr} {sc cb : Nat} {rows : List Value} (h : SkAt T i w p V sa sc cb rows) {j x : Nat} (hj : j < V.L.length) (hx : x < 2305843009213693951) :
    Calls Tryz.prog 209 #[.pointer (some ⟨p, 0, none⟩), .int .i64 (j : Int), .int .u64 (x : Int)] w (KeptAt T i p { V with L := V.L.set j (addL V.t x V.L[j]) } w) := by
  obtain ⟨c0, c1, c2⟩ := h.cells
  obtain ⟨v, hv, c3, f3, hown, hgl⟩ := h.at_ hj
  have hp := lt_of_heap h.head
  have hc := lt_of_heap h.tab
  have hn7 : V.L.length ≤ 7 := by rw [h.good.len]; exact h.good.set.n7
  have h64 : V.L[j].length ≤ 64 := by have := hgl.len; have := h.good.set.t64; omega
  obtain ⟨a, c, rfl, hac, hcm⟩ := ownsRow_form hown
  have KS : SearchOf w x V.L[j].length c a (cntL x V.L[j]) := keep_search hown hgl.up (by omega)
  have hcn := cntL_le x V.L[j]
  have hsame : ∀ (e : Ending) (w' : World), addL V.t x V.L[j] = V.L[j] → (e = .returned (.tuple #[]) ∧ Below w.heap.size w w') → KeptAt T i p { V with L := V.L.set j (addL V.t x V.L[j]) } w e w' := fun e w' e1 ⟨e2, hb⟩ => by
    rw [e1, set_self]
    exact ⟨e2, T, fun _ _ => rfl, Else.of_below hb, h.below hb⟩
  by_cases hf : cntL x V.L[j] = V.t
  · rw [hf] at KS
    exact (keep_full c0 c2 c3 hp hc (by omega) KS).mono fun e w' r => hsame e w' (addL_full (by have := hgl.len; omega) hf) r
  · by_cases hm : x ∈ V.L[j]
    · obtain ⟨hk, e⟩ := (mem_iff_at hgl.up).1 hm
      have HR := Holds.of_row (by rw [nats_len]; exact hown)
      obtain ⟨ad, rfl⟩ := HR.ptr (by omega : 0 < V.L[j].length)
      have hcell := HR.cell (nats_at hk)
      rw [e] at hcell
      exact (keep_there c0 c2 c3 hcell hp hc (World.block_lt_of_cell? w _ hcell) (by omega) hk hf KS).mono fun e w' r => hsame e w' (addL_old hm) r
    · have hrow : ∀ g, (Value.slice a V.L[j].length c).ownBlock = some g → g < w.heap.size ∧ g ≠ p ∧ g ≠ cb := fun g hg => by
        have h1 := h.tr j _ g hv hg
        refine ⟨(hown.lt g hg).2, fun e => ?_, fun e => ?_⟩
        · rw [e, h.tp] at h1; cases h1
        · rcases hown.2 with ⟨e', _⟩ | ⟨g', cap, cur, e', _, hgg, _⟩
          · rw [e'] at hg; simp [Value.ownBlock] at hg
          · rw [e'] at hg
            simp [Value.ownBlock] at hg
            subst hg
            rw [e, h.tab] at hgg
            simp at hgg
      have KI : InsertOf w x V.L[j].length c a (cntL x V.L[j]) (V.L[j].take (cntL x V.L[j]) ++ x :: V.L[j].drop (cntL x V.L[j])) := fun W g hb hg hge =>
        insert_any (ownsRow_of_block hown fun k hk => hb.block k (hrow k hk).1) (Nat.zero_le _) hg (fun k hk e => by have := (hrow k hk).1; omega) (by omega) hcn
      refine (keep_new h.head h.tab hv hrow ?_ (by omega) h.good.set.t2 h.good.set.t64 full_len h64 hf KS KI).mono ?_
      · by_cases hk : cntL x V.L[j] < V.L[j].length
        · have HR := Holds.of_row (by rw [nats_len]; exact hown)
          obtain ⟨ad, rfl⟩ := HR.ptr (by omega : 0 < V.L[j].length)
          have hcell := HR.cell (nats_at hk)
          exact .inr ⟨ad, _, rfl, World.block_lt_of_cell? w _ hcell, hcell, fun e => hm ((mem_iff_at hgl.up).2 ⟨hk, e⟩), hk⟩
        · exact .inl (by omega)
      · rintro e w' ⟨he, v', ho, hat, hcb, hbk, hsz, h1, h2, h3⟩
        refine ⟨he, ?_⟩
        rw [← addL_new hm] at ho
        refine h.put hv h1 h2 h3 hsz hbk hcb ho hat ⟨addL_up hgl.up, addL_len hgl.len, fun y hy => ?_⟩
        rcases addL_mem hy with rfl | hy
        · exact hx
        · exact hgl.lt y hy
end Go.Proofs.YtlhpbfjelgmkeaaGreat
