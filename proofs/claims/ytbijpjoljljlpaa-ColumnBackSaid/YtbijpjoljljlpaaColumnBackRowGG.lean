/- The texts ColU ColT ColV ColW, one behind the other; each one's own comment says what it holds. -/
import Derived.Test.YtbijpjoljljlpaaColumnBackRowGF
import Derived.Deep.CutBlock
import Derived.Deep.DeepCutAuto
/- The walk of ColumnPicks. Conditions: none. -/
set_option maxRecDepth 100000
namespace Go.Proofs.Ytbijpjoljljlpaa
open Go.RowKit Go.Maps Go.Sort

theorem whereC_len (c : CV) (id : Int) : (whereC c id).length ≤ 1000 := by
  unfold whereC
  cases h : goodC c
  · simp
  · simp only [if_true]
    exact Nat.le_trans (whL_len c id _) (good_iff.1 h).2.1
theorem pickV_len (c : CV) (rows : List Int) : (pickV c rows).nl.length ≤ 1000 ∧ (pickV c rows).il.length ≤ 1000 := by
  unfold pickV
  cases h : pickOk c rows
  · simp
  · simp only [if_true, pickC, List.length_map]
    simp only [pickOk, Bool.and_eq_true, decide_eq_true_eq] at h
    exact ⟨h.1.2, h.1.2⟩
/-- a call behind a box: the box stays -/
theorem box_stays {w V : World} {x y : Value} {t : TypeId} (hb : Below (w.alloc (.cells #[x, y] t)).heap.size (w.alloc (.cells #[x, y] t)) V) : V.cell? ⟨w.heap.size, 0, none⟩ = some x ∧ V.cell? ⟨w.heap.size, 1, none⟩ = some y ∧ Below w.heap.size w V := by
  obtain ⟨h1, h2⟩ := box2 (hb.mono (by simp))
  exact ⟨h1, h2, (below_box w _).trans (hb.mono (by simp))⟩
theorem below_cells2 {B : Nat} {w V : World} {S : Nat} {x y : Value} (hb : Below B w V) (hS : S < B) (h0 : w.cell? ⟨S, 0, none⟩ = some x) (h1 : w.cell? ⟨S, 1, none⟩ = some y) : V.cell? ⟨S, 0, none⟩ = some x ∧ V.cell? ⟨S, 1, none⟩ = some y :=
  ⟨by rw [hb.cell (show S < B from hS)]; exact h0, by rw [hb.cell (show S < B from hS)]; exact h1⟩
end Go.Proofs.Ytbijpjoljljlpaa
/- The walk of ColumnRanges. Conditions: none. -/
set_option maxRecDepth 100000
namespace Go.Proofs.Ytbijpjoljljlpaa
open Go.RowKit Go.Maps Go.Sort

theorem foldl_min : ∀ (l : List Int) (a : Int), l.foldl min a ≤ a ∧ (∀ x ∈ l, l.foldl min a ≤ x) ∧ (l.foldl min a = a ∨ l.foldl min a ∈ l)
  | [], a => ⟨Int.le_refl _, fun x hx => by simp at hx, .inl rfl⟩
  | b :: r, a => by
    obtain ⟨h1, h2, h3⟩ := foldl_min r (min a b)
    refine ⟨by simp only [List.foldl_cons]; omega, fun x hx => ?_, ?_⟩
    · simp only [List.foldl_cons]
      rcases List.mem_cons.1 hx with rfl | hx
      · omega
      · exact h2 x hx
    · simp only [List.foldl_cons]
      rcases h3 with h3 | h3
      · rcases (by omega : min a b = a ∨ min a b = b) with e | e
        · exact .inl (by rw [h3, e])
        · exact .inr (by rw [h3, e]; exact List.mem_cons_self ..)
      · exact .inr (List.mem_cons_of_mem _ h3)
theorem foldl_max : ∀ (l : List Int) (a : Int), a ≤ l.foldl max a ∧ (∀ x ∈ l, x ≤ l.foldl max a) ∧ (l.foldl max a = a ∨ l.foldl max a ∈ l)
  | [], a => ⟨Int.le_refl _, fun x hx => by simp at hx, .inl rfl⟩
  | b :: r, a => by
    obtain ⟨h1, h2, h3⟩ := foldl_max r (max a b)
    refine ⟨by simp only [List.foldl_cons]; omega, fun x hx => ?_, ?_⟩
    · simp only [List.foldl_cons]
      rcases List.mem_cons.1 hx with rfl | hx
      · omega
      · exact h2 x hx
    · simp only [List.foldl_cons]
      rcases h3 with h3 | h3
      · rcases (by omega : max a b = a ∨ max a b = b) with e | e
        · exact .inl (by rw [h3, e])
        · exact .inr (by rw [h3, e]; exact List.mem_cons_self ..)
      · exact .inr (List.mem_cons_of_mem _ h3)
theorem min_of {l : List Int} : (∀ x ∈ l, Lib.minOf l ≤ x) ∧ (l ≠ [] → Lib.minOf l ∈ l) := by
  cases l with
  | nil => exact ⟨fun x hx => by simp at hx, fun h => absurd rfl h⟩
  | cons a r =>
    obtain ⟨h1, h2, h3⟩ := foldl_min (a :: r) a
    refine ⟨h2, fun _ => ?_⟩
    rcases h3 with e | e
    · show List.foldl min a (a :: r) ∈ _
      rw [e]; exact List.mem_cons_self ..
    · exact e
theorem max_of {l : List Int} : (∀ x ∈ l, x ≤ Lib.maxOf l) ∧ (l ≠ [] → Lib.maxOf l ∈ l) := by
  cases l with
  | nil => exact ⟨fun x hx => by simp at hx, fun h => absurd rfl h⟩
  | cons a r =>
    obtain ⟨h1, h2, h3⟩ := foldl_max (a :: r) a
    refine ⟨h2, fun _ => ?_⟩
    rcases h3 with e | e
    · show List.foldl max a (a :: r) ∈ _
      rw [e]; exact List.mem_cons_self ..
    · exact e
theorem pres_in (c : CV) : ∀ (k j : Nat), j < k → c.nl.getD j false = false → c.il.getD j 0 ∈ presL c k
  | k + 1, j, hj, hn => by
    unfold presL
    rcases Nat.lt_or_ge j k with g | g
    · have := pres_in c k j g hn
      split
      · exact this
      · exact List.mem_append_left _ this
    · obtain rfl : j = k := by omega
      rw [hn]
      simp
theorem pres_out (c : CV) : ∀ (k : Nat) (x : Int), x ∈ presL c k → ∃ j, j < k ∧ c.nl.getD j false = false ∧ c.il.getD j 0 = x
  | 0, x, hx => by simp [presL] at hx
  | k + 1, x, hx => by
    unfold presL at hx
    split at hx
    · obtain ⟨j, hj, h⟩ := pres_out c k x hx
      exact ⟨j, by omega, h⟩
    · rename_i hb
      rcases List.mem_append.1 hx with hx | hx
      · obtain ⟨j, hj, h⟩ := pres_out c k x hx
        exact ⟨j, by omega, h⟩
      · simp at hx
        exact ⟨k, by omega, by simpa using hb, hx.symm⟩
theorem wh_mem (c : CV) (id : Int) : ∀ (k j : Nat), j < k → c.nl.getD j false = false → c.il.getD j 0 = id → (j : Int) ∈ whL c id k
  | k + 1, j, hj, hn, hi => by
    unfold whL
    rcases Nat.lt_or_ge j k with g | g
    · have := wh_mem c id k j g hn hi
      split
      · exact List.mem_append_left _ this
      · exact this
    · obtain rfl : j = k := by omega
      rw [hn, hi]
      simp
theorem wh_pos {c : CV} (hg : goodC c = true) {id : Int} (h : id ∈ present c) : 0 < (whereC c id).length := by
  unfold present at h
  rw [hg] at h
  simp only [if_true] at h
  obtain ⟨j, hj, h1, h2⟩ := pres_out c _ _ h
  have := wh_mem c id _ j hj h1 h2
  unfold whereC
  rw [hg]
  simp only [if_true]
  exact List.length_pos_of_mem this
end Go.Proofs.Ytbijpjoljljlpaa
/- What follows for parts of a vector. Conditions: none. -/
set_option maxRecDepth 100000
namespace Go.Proofs.Ytbijpjoljljlpaa
open Go.RowKit Go.Maps Go.Sort

/-- all rows of a vector -/
def allRows (n : Nat) : List Int := (List.range n).map fun i : Nat => (i : Int)
theorem allRows_len (n : Nat) : (allRows n).length = n := by simp [allRows]
theorem allRows_snoc (n : Nat) : allRows (n + 1) = allRows n ++ [(n : Int)] := by simp [allRows, List.range_succ]
theorem allRows_mem {n : Nat} {x : Int} (h : x ∈ allRows n) : 0 ≤ x ∧ x < n := by
  obtain ⟨i, hi, rfl⟩ := List.mem_map.1 h
  have := List.mem_range.1 hi
  omega
theorem pick_sub {c : CV} (hg : goodC c = true) {rows : List Int} (hr : ∀ x ∈ rows, 0 ≤ x ∧ x < (c.il.length : Int)) (hl : rows.length ≤ 1000) : pickV c rows = pickC c rows ∧ pickE c rows = 0 ∧ goodC (pickC c rows) = true := by
  have ho : outL c.il.length rows = false := by
    rw [Bool.eq_false_iff]
    intro h
    obtain ⟨x, hx, hb⟩ := List.any_eq_true.1 h
    have := hr x hx
    simp only [outR, Bool.or_eq_true, decide_eq_true_eq] at hb
    omega
  have hok : pickOk c rows = true := by
    unfold pickOk
    rw [hg, ho, decide_eq_true hl]; rfl
  refine ⟨by simp [pickV, hok], by simp [pickE, hok], good_iff.2 ⟨by simp [pickC], by simp [pickC]; exact hl, fun k hk => ?_⟩⟩
  simp only [pickC, List.length_map] at hk
  have hx := hr rows[k] (List.getElem_mem _)
  have h2 := (good_iff.1 hg).2.2 rows[k].toNat (by omega)
  have e1 : (pickC c rows).nl.getD k false = c.nl.getD rows[k].toNat false := by
    simp only [pickC, List.getD_eq_getElem?_getD]
    rw [List.getElem?_map, List.getElem?_eq_getElem hk]; rfl
  have e2 : (pickC c rows).il.getD k 0 = c.il.getD rows[k].toNat 0 := by
    simp only [pickC, List.getD_eq_getElem?_getD]
    rw [List.getElem?_map, List.getElem?_eq_getElem hk]; rfl
  rw [e1, e2]
  exact h2
theorem list_of_getD {α : Type} (l : List α) (d : α) : (List.range l.length).map (fun i => l.getD i d) = l := by
  apply List.ext_getElem
  · simp
  · intro i h1 h2
    simp [List.getD_eq_getElem?_getD, h2]
theorem pick_all {c : CV} (hn : c.nl.length = c.il.length) : pickC c (allRows c.il.length) = c := by
  obtain ⟨nl, il⟩ := c
  simp only at hn
  simp only [pickC, allRows, List.map_map, CV.mk.injEq]
  constructor
  · rw [← hn]
    have := list_of_getD nl false
    simpa [Function.comp_def] using this
  · have := list_of_getD il 0
    simpa [Function.comp_def] using this
theorem join_parts {c : CV} (hg : goodC c = true) (r : Nat) :
    joinV [pickC c ((allRows c.il.length).take r), pickC c ((allRows c.il.length).drop r)] = c ∧ joinE [pickC c ((allRows c.il.length).take r), pickC c ((allRows c.il.length).drop r)] = 0 := by
  obtain ⟨hn, hl, _⟩ := good_iff.1 hg
  have h1 := (pick_sub hg (rows := (allRows c.il.length).take r) (fun x hx => allRows_mem (List.mem_of_mem_take hx)) (by rw [List.length_take, allRows_len]; omega)).2.2
  have h2 := (pick_sub hg (rows := (allRows c.il.length).drop r) (fun x hx => allRows_mem (List.mem_of_mem_drop hx)) (by rw [List.length_drop, allRows_len]; omega)).2.2
  have hall : [pickC c ((allRows c.il.length).take r), pickC c ((allRows c.il.length).drop r)].all goodC = true := by simp [h1, h2]
  have hc : joinC [pickC c ((allRows c.il.length).take r), pickC c ((allRows c.il.length).drop r)] = c := by
    have e : pickC c ((allRows c.il.length).take r ++ (allRows c.il.length).drop r) = c := by rw [List.take_append_drop]; exact pick_all hn
    have e1 := congrArg CV.nl e
    have e2 := congrArg CV.il e
    simp only [pickC, List.map_append] at e1 e2
    obtain ⟨nl, il⟩ := c
    simp only [joinC, List.flatMap_cons, List.flatMap_nil, List.append_nil, pickC, CV.mk.injEq]
    exact ⟨e1, e2⟩
  have hN : joinN [pickC c ((allRows c.il.length).take r), pickC c ((allRows c.il.length).drop r)] ≤ 1000 := by
    rw [← joinC_len, hc]; exact hl
  constructor
  · simp only [joinV, hall, Bool.true_and]
    rw [decide_eq_true hN, if_pos rfl, hc]
  · simp only [joinE, hall, if_true]
    rw [if_pos hN]
/-- a row is found by its id just if it is not null -/
theorem wh_iff {c : CV} (hg : goodC c = true) {i : Nat} (hi : i < c.il.length) : ((i : Int) ∈ whereC c (c.il.getD i 0)) ↔ c.nl.getD i false = false := by
  unfold whereC
  rw [hg]
  simp only [if_true]
  constructor
  · intro h
    have key : ∀ (k : Nat), (i : Int) ∈ whL c (c.il.getD i 0) k → c.nl.getD i false = false := by
      intro k
      induction k with
      | zero => intro h; simp [whL] at h
      | succ k ih =>
        intro h
        unfold whL at h
        split at h
        · rename_i hc
          rcases List.mem_append.1 h with h | h
          · exact ih h
          · simp at h
            obtain rfl : i = k := by omega
            simp only [Bool.and_eq_true, Bool.not_eq_true'] at hc
            exact hc.1
        · exact ih h
    exact key _ h
  · intro h
    exact wh_mem c _ _ i hi h rfl
end Go.Proofs.Ytbijpjoljljlpaa
/- The walk of ColumnBack. Conditions: none. -/
set_option maxRecDepth 100000
namespace Go.Proofs.Ytbijpjoljljlpaa
open Go.RowKit Go.Maps Go.Sort

theorem bytes_small {c : CV} (hg : goodC c = true) : (bytesC c).length ≤ 60000 := by
  obtain ⟨hn, hl, _⟩ := good_iff.1 hg
  have h1 := packAns_len (wdU (idsU c.il)) (idsU c.il)
  have h2 : (idsU c.il).length = c.il.length := by simp [idsU]
  have h3 := runsB_len (runsOf (idsU c.il)) (fun p hp => by have := (runs_le (idsU c.il)).2 p hp; omega)
  have h4 := (runs_le (idsU c.il)).1
  have h5 := deltaL_len c.il 0
  have h6 := marks_len c
  have h7 := dig_len10 (u := c.il.length) (by omega)
  have h8 : (encA (idsU c.il)).length ≤ 9000 := by simp only [encA, List.length_cons]; omega
  have h9 : (encB (idsU c.il)).length ≤ 20000 := by
    have : 20 * (runsOf (idsU c.il)).length ≤ 20 * c.il.length := by omega
    unfold encB; omega
  have hs : (shortL c.il).length ≤ 20001 := by
    rcases short_cases c.il with e | e | e
    · rw [e, List.length_cons]; omega
    · rw [e, List.length_cons]; omega
    · rw [e, List.length_cons]; omega
  unfold bytesC
  simp only [List.length_append]
  omega
theorem take_mem_snoc {l : List Int} {q : Nat} {x : Int} (hx : l[q]? = some x) (i : Int) (b : Bool) (hb : b = decide (i ∈ l.take q)) : (b = true → true = decide (i ∈ l.take (q + 1))) ∧ (b = false → (decide (x = i)) = decide (i ∈ l.take (q + 1))) := by
  rw [take_snoc hx]
  constructor
  · intro h
    rw [h] at hb
    have := of_decide_eq_true hb.symm
    exact (decide_eq_true (List.mem_append_left _ this)).symm
  · intro h
    rw [h] at hb
    have h2 := of_decide_eq_false hb.symm
    rw [Bool.eq_iff_iff, decide_eq_true_iff, decide_eq_true_iff]
    simp [h2]
    exact ⟨fun e => e.symm, fun e => e.symm⟩
/-- two vectors laid in a new slice -/
theorem two_vecs {W : World} {t : TypeId} {a1 a2 b1 b2 : Option Addr} {n1 n2 k1 k2 m1 m2 l1 l2 : Nat} {P Q : CV} (h1 : Holds W (.slice a1 n1 k1) (bls P.nl)) (h2 : Holds W (.slice a2 n2 k2) (i64s P.il)) (g1 : Holds W (.slice b1 m1 l1) (bls Q.nl)) (g2 : Holds W (.slice b2 m2 l2) (i64s Q.il)) :
    HoldsL (W.alloc (.cells #[.slice a1 n1 k1, .slice a2 n2 k2, .slice b1 m1 l1, .slice b2 m2 l2] t)) (some ⟨W.heap.size, 0, none⟩) 2 [P, Q] := by
  have hb := below_box W (.cells #[.slice a1 n1 k1, .slice a2 n2 k2, .slice b1 m1 l1, .slice b2 m2 l2] t)
  have h0 := heap_alloc_new W (.cells #[.slice a1 n1 k1, .slice a2 n2 k2, .slice b1 m1 l1, .slice b2 m2 l2] t)
  refine ⟨rfl, fun _ => ⟨_, rfl, fun i c hc => ?_⟩⟩
  rcases i with _ | _ | i
  · simp at hc
    subst hc
    exact ⟨a1, n1, k1, a2, n2, k2, by rw [Addr.add_at, cell_of_row _ _ _ _ _ _ h0]; rfl, by rw [Addr.add_at, cell_of_row _ _ _ _ _ _ h0]; rfl, h1.below hb, h2.below hb⟩
  · simp at hc
    subst hc
    exact ⟨b1, m1, l1, b2, m2, l2, by rw [Addr.add_at, cell_of_row _ _ _ _ _ _ h0]; rfl, by rw [Addr.add_at, cell_of_row _ _ _ _ _ _ h0]; rfl, g1.below hb, g2.below hb⟩
  · simp at hc
theorem set2_box {w : World} {S : Nat} {t : TypeId} {x0 x1 y0 y1 : Value} (h : w.heap[S]? = some (.cells #[x0, x1] t (0, 0))) :
    (w.cell? ⟨S, 0, none⟩ = some x0 ∧ w.cell? ⟨S, 1, none⟩ = some x1 ∧ w.frozen? ⟨S, 0, none⟩ = false ∧ w.frozen? ⟨S, 1, none⟩ = false) ∧
    ((w.setCell ⟨S, 0, none⟩ y0).setCell ⟨S, 1, none⟩ y1).heap[S]? = some (.cells #[y0, y1] t (0, 0)) ∧ Below S w ((w.setCell ⟨S, 0, none⟩ y0).setCell ⟨S, 1, none⟩ y1) := by
  refine ⟨⟨?_, ?_, free_of_row h 0, free_of_row h 1⟩, heap_set (heap_set h y0) y1, (vset_below (Nat.le_refl _) _).trans (vset_below (Nat.le_refl _) _)⟩
  · rw [cell_of_row _ _ _ _ _ _ h]; rfl
  · rw [cell_of_row _ _ _ _ _ _ h]; rfl
theorem below_boxd (w : World) (o : Obj) : Below w.heap.size w (w.alloc o).drew := (below_box w o).trans ((below_drew1 _).mono (below_box w o).size)
theorem heap_box {w w7 : World} {o : Obj} (hb : Below (w.alloc o).drew.heap.size (w.alloc o).drew w7) : w7.heap[w.heap.size]? = (w.alloc o).heap[w.heap.size]? := hb.block _ (by show w.heap.size < (w.alloc o).heap.size; simp)
def BoxAt (lo : Nat) (t : TypeId) (P : CV) (W0 : World) (u : Value) (W : World) : Prop :=
  ∃ (B : Nat) (na : Option Addr) (nc : Nat) (ia : Option Addr) (ic : Nat), u = .pointer (some ⟨B, 0, none⟩) ∧ lo ≤ B ∧ W.heap[B]? = some (.cells #[.slice na P.nl.length nc, .slice ia P.il.length ic] t (0, 0)) ∧
    Holds W (.slice na P.nl.length nc) (bls P.nl) ∧ Holds W (.slice ia P.il.length ic) (i64s P.il) ∧ Below lo W0 W
theorem box_after {w6 w7 : World} {t : TypeId} {P : CV} {na ia : Option Addr} {nc ic : Nat} (h1 : Holds w7 (.slice na P.nl.length nc) (bls P.nl)) (h2 : Holds w7 (.slice ia P.il.length ic) (i64s P.il)) (hb : Below w6.heap.size w6 w7) :
    BoxAt w6.heap.size t P w6 (.pointer (some ⟨w7.heap.size, 0, none⟩)) (w7.alloc (.cells #[.slice na P.nl.length nc, .slice ia P.il.length ic] t)) :=
  ⟨_, na, nc, ia, ic, rfl, hb.size, heap_alloc_new _ _, h1.below (below_box _ _), h2.below (below_box _ _), hb.trans ((below_box _ _).mono hb.size)⟩
theorem box_ahead {w6 w7 : World} {t : TypeId} {P : CV} {x0 x1 : Value} {na ia : Option Addr} {nc ic : Nat} (h0 : w7.heap[w6.heap.size]? = some (.cells #[x0, x1] t (0, 0))) (h1 : RowB (w6.heap.size + 1) (.slice na P.nl.length nc) P.nl w7)
    (h2 : RowI (w6.heap.size + 1) (.slice ia P.il.length ic) P.il w7) (hb : Below w6.heap.size w6 w7) :
    BoxAt w6.heap.size t P w6 (.pointer (some ⟨w6.heap.size, 0, none⟩)) ((w7.setCell ⟨w6.heap.size, 0, none⟩ (.slice na P.nl.length nc)).setCell ⟨w6.heap.size, 1, none⟩ (.slice ia P.il.length ic)) := by
  have hs := (set2_box (y0 := .slice na P.nl.length nc) (y1 := .slice ia P.il.length ic) h0).2
  have k1 : RowB (w6.heap.size + 1) (.slice na P.nl.length nc) P.nl ((w7.setCell ⟨w6.heap.size, 0, none⟩ (.slice na P.nl.length nc)).setCell ⟨w6.heap.size, 1, none⟩ (.slice ia P.il.length ic)) := ownsRow_of_block h1 (fun g hg => by have := (h1.lt g hg).1; rw [vset_other (by omega), vset_other (by omega)])
  have k2 : RowI (w6.heap.size + 1) (.slice ia P.il.length ic) P.il ((w7.setCell ⟨w6.heap.size, 0, none⟩ (.slice na P.nl.length nc)).setCell ⟨w6.heap.size, 1, none⟩ (.slice ia P.il.length ic)) := ownsRow_of_block h2 (fun g hg => by have := (h2.lt g hg).1; rw [vset_other (by omega), vset_other (by omega)])
  exact ⟨_, na, nc, ia, ic, rfl, Nat.le_refl _, hs.1, k1.holds, k2.holds, hb.trans hs.2⟩
theorem boxd_size (w : World) (o : Obj) : w.heap.size + 1 ≤ (w.alloc o).drew.heap.size := by show w.heap.size + 1 ≤ (w.alloc o).heap.size; simp
set_option maxHeartbeats 6400000 in
theorem cback_walk {w : World} {a1 a2 : Option Addr} {n1 n2 k1 k2 : Nat} {c : CV} (cut : Nat) (h1 : Holds w (.slice a1 n1 k1) (bls c.nl)) (h2 : Holds w (.slice a2 n2 k2) (i64s c.il)) :
    Calls Try.prog 3 #[.agg #[.slice a1 n1 k1, .slice a2 n2 k2], .int .u64 (cut : Int)] w fun e w' => e = .returned (.bool true) ∧ Below w.heap.size w w' := by
  have KL := clives_any
  obtain ⟨X, hX⟩ : ∃ X, w.alloc (.cells #[.slice a1 n1 k1, .slice a2 n2 k2] 25) = X := ⟨_, rfl⟩
  have hbox : Below w.heap.size w X := by rw [← hX]; exact below_box _ _
  have hx0 : X.heap[w.heap.size]? = some (.cells #[.slice a1 n1 k1, .slice a2 n2 k2] 25 (0, 0)) := by rw [← hX]; exact heap_alloc_new _ _
  have hs : X.heap.size = w.heap.size + 1 := by rw [← hX]; simp
  have c0 : X.cell? ⟨w.heap.size, 0, none⟩ = some (.slice a1 n1 k1) := by rw [cell_of_row _ _ _ _ _ _ hx0]; rfl
  have c1 : X.cell? ⟨w.heap.size, 1, none⟩ = some (.slice a2 n2 k2) := by rw [cell_of_row _ _ _ _ _ _ hx0]; rfl
  have HX := Lib.hid (show w.heap.size < X.heap.size by omega)
  have HQ := Lib.hid (fun (V : World) (hv : Below X.heap.size X V) => below_cells2 hv HX.out c0 c1)
  have g1 := h1.below hbox
  have g2 := h2.below hbox
  have KG := cgood_any g1 g2
  have HBy := Lib.hid (fun (V : World) (hv : Below X.heap.size X V) => cbytes_any (g1.below hv) (g2.below hv))
  have HB := Lib.hid hbox
  have e1 := h1.len.1
  have e2 := h2.len.1
  rw [bls_len] at e1
  rw [i64s_len] at e2
  by_cases hg : goodC c = true
  case neg =>
    have hg0 : goodC c = false := by simpa using hg
    have hv : bytV c = [] ∧ bytE c = 2 := by simp [bytV, bytE, hg0]
    rw [hv.1, hv.2] at HBy
    rw [hg0] at KG
    clear h1 h2 g1 g2 hbox hx0 hs hg hg0 hv e1 e2
    go_enter Try.func3, Try.ntmps3
    go_wp2_with fail
    (try rw [hX])
    clear hX
    refine KG.mono ?_
    rintro e w1 ⟨rfl, hb1⟩
    obtain ⟨d0, d1⟩ := HQ.out w1 hb1
    have KB := HBy.out w1 hb1
    have HB1 := Lib.hid hb1
    clear KG hb1 c0 c1 HBy
    go_wp2_with fail
    refine KB.mono ?_
    rintro e w2 ⟨ba, bk, rfl, _, hb2⟩
    have HB2 := Lib.hid (HB1.out.trans (hb2.mono HB1.out.size))
    clear KB hb2
    go_wp2_with fail
    refine (KL _).mono ?_
    rintro e w3 ⟨rfl, hb3⟩
    have HB3 := Lib.hid (HB.out.trans ((HB2.out.trans (hb3.mono HB2.out.size)).mono HB.out.size))
    clear hb3
    go_wp2_with fail
    go_ret
    exact ⟨rfl, HB3.out⟩
  obtain ⟨hn, hl, _⟩ := good_iff.1 hg
  obtain rfl : n2 = n1 := by omega
  rw [hg] at KG
  have hv : bytV c = bytesC c ∧ bytE c = 0 := by simp [bytV, bytE, hg]
  have hlb := load_bytes hg
  rw [hv.1, hv.2] at HBy
  obtain ⟨BY, hBY⟩ : ∃ BY, bytesC c = BY := ⟨_, rfl⟩
  have hbyl : BY.length ≤ 60000 := by rw [← hBY]; exact bytes_small hg
  rw [hBY] at HBy hlb
  obtain ⟨bl, hbl2⟩ : ∃ bl, BY.length = bl := ⟨_, rfl⟩
  unfold OutB at HBy
  rw [hbl2] at HBy
  have HLd := Lib.hid (fun (V : World) (a : Option Addr) (k : Nat) (h : Holds V (.slice a bl k) (u8s BY)) => cload_any (bs := BY) (by rw [← hbl2] at h; exact hbl2 ▸ h) (by omega))
  rw [hlb.1, hlb.2] at HLd
  have HPL := Lib.hid (fun (V : World) => plain_any V a1 a2 n2 n2 k1 k2)
  have HWh := Lib.hid (fun (V : World) (hv : Below X.heap.size X V) (id : Int) => cwhere_any (g1.below hv) (g2.below hv) id)
  have HPk := Lib.hid (fun (V : World) (hv : Below X.heap.size X V) (ra : Option Addr) (rn rk : Nat) (rows : List Int) (hr : Holds V (.slice ra rn rk) (i64s rows)) => cpick_any (g1.below hv) (g2.below hv) hr)
  have H1 := Lib.hid (fun (V : World) (hv : Below X.heap.size X V) => g1.below hv)
  have H2 := Lib.hid (fun (V : World) (hv : Below X.heap.size X V) => g2.below hv)
  have HG := Lib.hid hg
  have HN := Lib.hid hn
  have E1 := Lib.hid e1
  have E2 := Lib.hid e2
  have HL := Lib.hid (show n2 ≤ 1000 by omega)
  obtain ⟨r, hr⟩ : ∃ r : Nat, cut % (n2 + 1) = r := ⟨_, rfl⟩
  have hrn : r ≤ n2 := by rw [← hr]; have := Nat.mod_lt cut (show 0 < n2 + 1 by omega); omega
  have hri : (cut : Int) % ((n2 : Int) + 1) = (r : Int) := by rw [← hr]; simp
  have hw1 : IntKind.i64.wrap ((n2 : Int) + 1) = (n2 : Int) + 1 := by rw [IntKind.wrap_i64]; omega
  have hw2 : IntKind.u64.wrap ((n2 : Int) + 1) = (n2 : Int) + 1 := by rw [IntKind.wrap_u64]; omega
  have hw3 : IntKind.i64.wrap (r : Int) = (r : Int) := by rw [IntKind.wrap_i64]; omega
  clear h1 h2 g1 g2 hbox hx0 hs hg hv hlb hBY hbyl hbl2 hn hl e1 e2 hr
  go_enter Try.func3, Try.ntmps3
  go_wp2_with fail
  (try rw [hX])
  clear hX
  refine KG.mono ?_
  rintro e w1 ⟨rfl, hb1⟩
  obtain ⟨d0, d1⟩ := HQ.out w1 hb1
  have KB := HBy.out w1 hb1
  have HB1 := Lib.hid hb1
  clear KG hb1 c0 c1 HBy
  go_wp2_with fail
  refine KB.mono ?_
  rintro e w2 ⟨ba, bk, rfl, hbb, hb2⟩
  have KLd := HLd.out w2 ba bk hbb
  have HB2 := Lib.hid (HB1.out.trans (hb2.mono HB1.out.size))
  clear KB hbb hb2 HLd d0 d1 HB1
  go_wp2_with fail
  refine KLd.mono ?_
  rintro e w3 ⟨xa, xn, xk, ya, yn, yk, rfl, hx3, hy3, hb3⟩
  obtain ⟨B1, hB1⟩ : ∃ B, w3.heap.size = B := ⟨_, rfl⟩
  obtain ⟨X1, hX1⟩ : ∃ X1, w3.alloc (.cells #[.slice xa xn xk, .slice ya yn yk] 25) = X1 := ⟨_, rfl⟩
  have hbx1 : Below w3.heap.size w3 X1 := by rw [← hX1]; exact below_box _ _
  have hx1 : X1.heap[B1]? = some (.cells #[.slice xa xn xk, .slice ya yn yk] 25 (0, 0)) := by rw [← hX1, ← hB1]; exact heap_alloc_new _ _
  have hbX1 : Below X.heap.size X X1.drew := (HB2.out.trans (hb3.mono HB2.out.size)).trans ((hbx1.mono (Nat.le_trans HB2.out.size hb3.size)).trans ((below_drew1 X1).mono (Nat.le_trans (Nat.le_trans HB2.out.size hb3.size) hbx1.size)))
  have p0 : X1.drew.cell? ⟨B1, 0, none⟩ = some (.slice xa xn xk) := by show X1.cell? _ = _; rw [cell_of_row _ _ _ _ _ _ hx1]; rfl
  have p1 : X1.drew.cell? ⟨B1, 1, none⟩ = some (.slice ya yn yk) := by show X1.cell? _ = _; rw [cell_of_row _ _ _ _ _ _ hx1]; rfl
  have hlt1 : B1 < X1.drew.heap.size := lt_of_heap hx1
  have HSa := Lib.hid (fun (V : World) (hv : Below X1.drew.heap.size X1.drew V) => (⟨(below_cells2 hv hlt1 p0 p1).1, (below_cells2 hv hlt1 p0 p1).2, (HQ.out V (hbX1.trans (hv.mono hbX1.size))).1, (HQ.out V (hbX1.trans (hv.mono hbX1.size))).2⟩ : V.cell? ⟨B1, 0, none⟩ = some (.slice xa xn xk) ∧ V.cell? ⟨B1, 1, none⟩ = some (.slice ya yn yk) ∧ V.cell? ⟨w.heap.size, 0, none⟩ = some (.slice a1 n2 k1) ∧ V.cell? ⟨w.heap.size, 1, none⟩ = some (.slice a2 n2 k2)))
  have HSame := Lib.hid (fun (V : World) (hv : Below X1.drew.heap.size X1.drew V) => @csame_any V xa ya a1 a2 xn yn xk yk n2 n2 k1 k2 c ((hx3.below (hbx1.trans ((below_drew1 X1).mono hbx1.size))).below hv) ((hy3.below (hbx1.trans ((below_drew1 X1).mono hbx1.size))).below hv) (H1.out V (hbX1.trans (hv.mono hbX1.size))) (H2.out V (hbX1.trans (hv.mono hbX1.size))) (by have := E2.out; have := HL.out; omega) (by have := E1.out; have := HL.out; omega))
  have hS1 := HSa.out X1.drew (Below.refl _ _)
  have HbX1 := Lib.hid hbX1
  clear KLd hx3 hy3 hb3 hbx1 hx1 hbX1 p0 p1 hlt1 HB2
  go_wp2_with fail
  (try rw [hB1])
  (try rw [hX1])
  clear hX1
  refine wp_region_mix (fun V => V.cell? ⟨B1, 0, none⟩ = some (.slice xa xn xk) ∧ V.cell? ⟨B1, 1, none⟩ = some (.slice ya yn yk) ∧ V.cell? ⟨w.heap.size, 0, none⟩ = some (.slice a1 n2 k1) ∧ V.cell? ⟨w.heap.size, 1, none⟩ = some (.slice a2 n2 k2)) 13 [(true, 0), (true, 1), (true, 2), (true, 3), (true, 4), (true, 5), (true, 6), (true, 7), (true, 8), (false, 9), (false, 10), (true, 11), (true, 12)] (by kernel_rfl) (by decide +kernel) rfl (by decide +kernel) hS1 ?_
  iterate 9
    refine wpMix_take (v := ?_) rfl rfl ?_ ?_
    rotate_left
    · (intro V hV; (try dsimp only at hV); go_simp) <;> with_reducible rfl
    simp only [Act.put, List.setIfInBounds_toArray, List.set_cons_zero, List.set_cons_succ]
  refine wpMix_run rfl ?_
  intro K' hK
  go_wp2_with fail
  refine (HPL.out _).mono ?_
  rintro e w4 ⟨rfl, hb4⟩
  have HS4 := Lib.hid (HSa.out w4 hb4)
  have KSame := HSame.out w4 hb4
  have HB4 := Lib.hid hb4
  clear hb4 hS1 HSame
  go_wp2_with fail
  refine hK.out _ _ (fun _ => HS4.out) ?_
  clear hK K'
  refine wpMix_run rfl ?_
  intro K' hK
  go_wp2_with fail
  refine KSame.mono ?_
  rintro e w5 ⟨rfl, hb5⟩
  have hb45 := HB4.out.trans (hb5.mono HB4.out.size)
  have HS5 := Lib.hid (HSa.out w5 hb45)
  have hbX5 := HbX1.out.trans (hb45.mono HbX1.out.size)
  obtain ⟨d0, d1⟩ := HQ.out w5 hbX5
  have HB5 := Lib.hid hbX5
  clear hb5 hb45 hbX5 KSame
  go_wp2_with fail
  refine hK.out _ _ (fun _ => HS5.out) ?_
  clear hK K'
  iterate 2
    refine wpMix_take (v := ?_) rfl rfl ?_ ?_
    rotate_left
    · (intro V hV; (try dsimp only at hV); go_simp) <;> with_reducible rfl
    simp only [Act.put, List.setIfInBounds_toArray, List.set_cons_zero, List.set_cons_succ]
  refine wpMix_nil ?_
  clear HS4 HS5 HSa HB4 HbX1 hB1
  go_wp2_with fail
  simp only [hri]
  go_loopw [12, 70] (fun v s wr => ∃ (m : Nat) (sv : Value), sv = v ∧ s = .int .i64 m ∧ m ≤ n2 ∧ Hid (RowI w5.heap.size sv (allRows m) wr ∧ Below w5.heap.size w5 wr)) (fun _ s _ => n2 - (RowKit.intOf s).toNat)
  case atStart => exact ⟨0, _, rfl, rfl, Nat.zero_le _, Lib.hid ⟨RowI.nil _ _, Below.refl _ _⟩⟩
  case round =>
    obtain ⟨m, sv, rfl, rfl, hm, HR⟩ := hrel
    by_cases hlt : m < n2
    · have b0 : (0 : Int) ≤ (m : Int) := Int.natCast_nonneg m
      have b1 : (m : Int) < (n2 : Int) := Int.ofNat_lt.2 hlt
      have hw64 := col_next hlt HL.out
      obtain ⟨sa, sc, rfl, hsc, _⟩ := ownsRow_form HR.out.1
      obtain ⟨v', w6, r1, o1⟩ := pushI HR.out.1 HR.out.2.size (by rw [allRows_len]; have := HL.out; omega) (m : Int)
      have hh : Hid (RowI w5.heap.size v' (allRows (m + 1)) w6 ∧ Below w5.heap.size w5 w6) := Lib.hid ⟨by rw [allRows_snoc]; exact o1.out.1, HR.out.2.trans o1.out.2⟩
      have hal : (allRows m).length = m := allRows_len m
      clear HR o1
      go_wp2_with (at_builtin; refine wpList_append_run rfl _ _ 23 rfl rfl rfl (r1.out _) ?_)
      go_roundw
      case rel =>
        exact ⟨m + 1, _, rfl, by go_num, hlt, hh⟩
      case measure => simp [RowKit.intOf]; omega
    · obtain rfl : m = n2 := by omega
      obtain ⟨w6, rfl⟩ : ∃ x, x = wr := ⟨_, rfl⟩
      have hrow := HR.out.1.holds
      have hb56 := HR.out.2
      obtain ⟨ra, rc, rfl, hrc, _⟩ := ownsRow_form HR.out.1
      rw [allRows_len] at hrow hrc
      have hlr := hrow.len.2
      (try rw [allRows_len])
      have hbX6 : Below X.heap.size X w6.drew := (HB5.out.trans (hb56.mono HB5.out.size)).trans ((below_drew1 w6).mono (Nat.le_trans HB5.out.size hb56.size))
      have hS6 := HQ.out w6.drew hbX6
      have ht1 := hrow.take r hrn
      rw [show (i64s (allRows m)).take r = i64s ((allRows m).take r) by simp [i64s, List.map_take]] at ht1
      have hsub1 : ∀ x ∈ (allRows m).take r, 0 ≤ x ∧ x < (c.il.length : Int) := fun x hx => by rw [E2.out]; exact allRows_mem (List.mem_of_mem_take hx)
      have hsub2 : ∀ x ∈ (allRows m).drop r, 0 ≤ x ∧ x < (c.il.length : Int) := fun x hx => by rw [E2.out]; exact allRows_mem (List.mem_of_mem_drop hx)
      obtain ⟨pv1, pe1, _⟩ := pick_sub HG.out hsub1 (by rw [List.length_take, allRows_len]; have := HL.out; omega)
      obtain ⟨pv2, pe2, _⟩ := pick_sub HG.out hsub2 (by rw [List.length_drop, allRows_len]; have := HL.out; omega)
      have hjp := join_parts HG.out r
      rw [E2.out] at hjp
      obtain ⟨P, hP⟩ : ∃ P, pickC c ((allRows m).take r) = P := ⟨_, rfl⟩
      obtain ⟨Q, hQ⟩ : ∃ Q, pickC c ((allRows m).drop r) = Q := ⟨_, rfl⟩
      have hPl : P.nl.length = r ∧ P.il.length = r := by rw [← hP]; constructor <;> (simp only [pickC, List.length_map, List.length_take, allRows_len]; omega)
      have hQl : Q.nl.length = m - r ∧ Q.il.length = m - r := by rw [← hQ]; constructor <;> (simp only [pickC, List.length_map, List.length_drop, allRows_len])
      rw [hP] at pv1 hjp
      rw [hQ] at pv2 hjp
      have HK1 := Lib.hid (fun (V : World) (hv : Below w6.heap.size w6 V) => HPk.out V (HB5.out.trans ((hb56.trans (hv.mono hb56.size)).mono HB5.out.size)) ra r rc ((allRows m).take r) (ht1.below hv))
      rw [pv1, pe1] at HK1
      have HK2 := Lib.hid (fun (V : World) (hv : Below w6.heap.size w6 V) (A : Option Addr) (q k : Nat) (hd : Holds V (.slice A q k) (i64s ((allRows m).drop r))) => HPk.out V (HB5.out.trans ((hb56.trans (hv.mono hb56.size)).mono HB5.out.size)) A q k ((allRows m).drop r) hd)
      rw [pv2, pe2] at HK2
      have HROW := Lib.hid hrow
      have HJP := Lib.hid hjp
      have HPL1 := Lib.hid hPl
      have HQL1 := Lib.hid hQl
      have HBX6 := Lib.hid (HB5.out.trans (hb56.mono HB5.out.size))
      have r0 : (0 : Int) ≤ (r : Int) := Int.natCast_nonneg r
      have r1 : (r : Int) ≤ (m : Int) := by omega
      have r2 : (r : Int) ≤ (rc : Int) := by omega
      have r3 : (m : Int) ≤ (rc : Int) := by omega
      have HSQ := Lib.hid (fun (V : World) (hv : Below w6.heap.size w6 V) => HQ.out V (HBX6.out.trans (hv.mono HBX6.out.size)))
      clear HR hb56 hrow ht1 hsub1 hsub2 pv1 pe1 pv2 pe2 hjp hP hQ hPl hQl hbX6
      go_upto_region 15 with (fail)
      go_cut [14, 8] from 78 to 85 (fun u14 u8 wx => u8 = .int .i64 0 ∧ Hid (BoxAt w6.heap.size 25 P w6 u14 wx))
      case first =>
        go_region_held3 (fun V => V.cell? ⟨w.heap.size, 0, none⟩ = some (.slice a1 m k1) ∧ V.cell? ⟨w.heap.size, 1, none⟩ = some (.slice a2 m k2)) (first | assumption | exact HSQ.out _ (by first | assumption | exact Below.refl _ _ | exact below_drew1 _ | exact below_box _ _ | exact below_boxd _ _) | exact HSQ.out _ (Below.trans hb67 (hc7 _ _).2.2) | exact HSQ.out _ (Below.trans (by assumption) (by first | exact Below.mono (below_box _ _) (Below.size (by assumption)) | exact Below.mono (below_drew1 _) (Below.size (by assumption)) | exact Below.mono (below_boxd _ _) (Below.size (by assumption))))) (first | (go_at_call 10; refine (HK1.out _ (below_drew1 w6)).mono ?_; rintro e w7 ⟨nv, iv, rfl, hn7, hi7, hb7⟩; have hb67 := undrew hb7; obtain ⟨na, nc, rfl, _⟩ := ownsRow_form hn7; obtain ⟨ia, ic, rfl, _⟩ := ownsRow_form hi7; have hc7 := fun (y0 y1 : Value) => set2_box (y0 := y0) (y1 := y1) (heap_alloc_new w7 (.cells #[.slice none 0 0, .slice none 0 0] 25)); obtain ⟨hq0, hq1, hf0, hf1⟩ := (hc7 (.bool true) (.bool true)).1) | (go_at_call 10; refine (HK1.out _ (below_boxd w6 _)).mono ?_; rintro e w7 ⟨nv, iv, rfl, hn7, hi7, hb7⟩; have hb67 := (below_box w6 _).trans ((undrew hb7).mono (below_box w6 _).size); obtain ⟨na, nc, rfl, _⟩ := ownsRow_form hn7; obtain ⟨ia, ic, rfl, _⟩ := ownsRow_form hi7; have hc7 := fun (y0 y1 : Value) => set2_box (y0 := y0) (y1 := y1) ((heap_box hb7).trans (heap_alloc_new _ _)); obtain ⟨hq0, hq1, hf0, hf1⟩ := (hc7 (.bool true) (.bool true)).1))
        all_goals (go_wp2_with fail; go_meet)
        case _ => exact ⟨rfl, Lib.hid (box_after hn7.holds hi7.holds hb67)⟩
        case _ => exact ⟨rfl, Lib.hid (box_ahead ((heap_box hb7).trans (heap_alloc_new _ _)) (hn7.base (boxd_size _ _)) (hi7.base (boxd_size _ _)) hb67)⟩
      case rest =>
        obtain ⟨rfl, hcut⟩ := hcut
        obtain ⟨w7, hwc⟩ : ∃ x, x = wc := ⟨_, rfl⟩
        rw [← hwc] at hcut ⊢
        clear hwc
        obtain ⟨B2, na, nc, ia, ic, rfl, hlo, hbx, hnp, hip, hb7⟩ := hcut.out
        have HC7 := hcut
        have HB7 := Lib.hid hb7
        have HP2 := Lib.hid (And.intro hbx (And.intro hnp hip))
        clear hcut
        obtain ⟨s0, s1⟩ := HSQ.out w7 hb7
        clear hlo hbx hnp hip hb7 HK1
        go_upto_region 16 with (fail)
        go_cut [15, 10] from 86 to 93 (fun u15 u10 wx => u10 = .int .i64 0 ∧ Hid (BoxAt w7.heap.size 25 Q w7 u15 wx))
        case first =>
          have hx7 : ∀ V, Below w7.heap.size w7 V → Below w6.heap.size w6 V := fun V hv => HB7.out.trans (hv.mono HB7.out.size)
          have HSX := Lib.hid (fun (V : World) (hv : Below w7.heap.size w7 V) => HSQ.out V (hx7 V hv))
          cases ra with
          | none =>
            have KA := Lib.hid (fun (V : World) (hv : Below w7.heap.size w7 V) => HK2.out V (hx7 V hv) none (m - r) (rc - r) (by
              obtain ⟨a', c', e, _, h3⟩ := HROW.out
              have h0 : m = 0 ∧ rc = 0 := by
                rcases h3 with ⟨rfl, h1, rfl⟩ | ⟨ad', rfl, _⟩
                · rw [i64s_len, allRows_len] at e
                  simp only [Value.slice.injEq] at e
                  have h2 : (i64s (allRows m)).length = 0 := by rw [h1]; rfl
                  rw [i64s_len, allRows_len] at h2
                  exact ⟨h2, e.2.2⟩
                · simp at e
              have h1 : (allRows m).drop r = [] := List.eq_nil_of_length_eq_zero (by rw [List.length_drop, allRows_len]; omega)
              rw [h1, show m - r = 0 by omega, show rc - r = 0 by omega]
              exact Holds.nil V))
            clear hx7 HSQ HROW HK2 HC7
            go_region_held3 (fun V => V.cell? ⟨w.heap.size, 0, none⟩ = some (.slice a1 m k1) ∧ V.cell? ⟨w.heap.size, 1, none⟩ = some (.slice a2 m k2)) (first | assumption | exact HSX.out _ (by first | assumption | exact Below.refl _ _ | exact below_drew1 _ | exact below_box _ _ | exact below_boxd _ _) | exact HSX.out _ (Below.trans hb67 (hc7 _ _).2.2) | exact HSX.out _ (Below.trans (by assumption) (by first | exact Below.mono (below_box _ _) (Below.size (by assumption)) | exact Below.mono (below_drew1 _) (Below.size (by assumption)) | exact Below.mono (below_boxd _ _) (Below.size (by assumption))))) (first | (go_at_call 10; refine (KA.out _ (below_drew1 w7)).mono ?_; rintro e w8 ⟨nv, iv, rfl, hn7, hi7, hb7⟩; have hb67 := undrew hb7; obtain ⟨na', nc', rfl, _⟩ := ownsRow_form hn7; obtain ⟨ia', ic', rfl, _⟩ := ownsRow_form hi7; have hc7 := fun (y0 y1 : Value) => set2_box (y0 := y0) (y1 := y1) (heap_alloc_new w8 (.cells #[.slice none 0 0, .slice none 0 0] 25)); obtain ⟨hq0, hq1, hf0, hf1⟩ := (hc7 (.bool true) (.bool true)).1) | (go_at_call 10; refine (KA.out _ (below_boxd w7 _)).mono ?_; rintro e w8 ⟨nv, iv, rfl, hn7, hi7, hb7⟩; have hb67 := (below_box w7 _).trans ((undrew hb7).mono (below_box w7 _).size); obtain ⟨na', nc', rfl, _⟩ := ownsRow_form hn7; obtain ⟨ia', ic', rfl, _⟩ := ownsRow_form hi7; have hc7 := fun (y0 y1 : Value) => set2_box (y0 := y0) (y1 := y1) ((heap_box hb7).trans (heap_alloc_new _ _)); obtain ⟨hq0, hq1, hf0, hf1⟩ := (hc7 (.bool true) (.bool true)).1))
            all_goals (go_wp2_with fail; go_meet)
            case _ => exact ⟨rfl, Lib.hid (box_after hn7.holds hi7.holds hb67)⟩
            case _ => exact ⟨rfl, Lib.hid (box_ahead ((heap_box hb7).trans (heap_alloc_new _ _)) (hn7.base (boxd_size _ _)) (hi7.base (boxd_size _ _)) hb67)⟩
          | some ad =>
            have KA := Lib.hid (fun (V : World) (hv : Below w7.heap.size w7 V) => HK2.out V (hx7 V hv) (if rc = r then some ad else some (ad.add r)) (m - r) (rc - r) (by
              have h0 := HROW.out.below (hx7 V hv)
              have := h0.drop r hrn
              rw [show (i64s (allRows m)).drop r = i64s ((allRows m).drop r) by simp [i64s, List.map_drop]] at this
              split
              · have hl : ((allRows m).drop r).length = m - r := by rw [List.length_drop, allRows_len]
                have h1 : (allRows m).drop r = [] := List.eq_nil_of_length_eq_zero (by omega)
                rw [h1] at this ⊢
                exact ⟨some ad, rc - r, by rw [show m - r = 0 by omega]; rfl, Nat.zero_le _, .inr ⟨_, rfl, fun j u hj => by simp [i64s] at hj⟩⟩
              · exact this))
            obtain ⟨A, hA⟩ : ∃ A, (if rc = r then some ad else some (ad.add r)) = A := ⟨_, rfl⟩
            rw [hA] at KA
            clear hx7 HSQ HROW HK2 HC7
            go_region_held3 (fun V => V.cell? ⟨w.heap.size, 0, none⟩ = some (.slice a1 m k1) ∧ V.cell? ⟨w.heap.size, 1, none⟩ = some (.slice a2 m k2)) (first | assumption | exact HSX.out _ (by first | assumption | exact Below.refl _ _ | exact below_drew1 _ | exact below_box _ _ | exact below_boxd _ _) | exact HSX.out _ (Below.trans hb67 (hc7 _ _).2.2) | exact HSX.out _ (Below.trans (by assumption) (by first | exact Below.mono (below_box _ _) (Below.size (by assumption)) | exact Below.mono (below_drew1 _) (Below.size (by assumption)) | exact Below.mono (below_boxd _ _) (Below.size (by assumption))))) (first | (go_at_call 10; refine (KA.out _ (below_drew1 w7)).mono ?_; rintro e w8 ⟨nv, iv, rfl, hn7, hi7, hb7⟩; have hb67 := undrew hb7; obtain ⟨na', nc', rfl, _⟩ := ownsRow_form hn7; obtain ⟨ia', ic', rfl, _⟩ := ownsRow_form hi7; have hc7 := fun (y0 y1 : Value) => set2_box (y0 := y0) (y1 := y1) (heap_alloc_new w8 (.cells #[.slice none 0 0, .slice none 0 0] 25)); obtain ⟨hq0, hq1, hf0, hf1⟩ := (hc7 (.bool true) (.bool true)).1) | (go_at_call 10; refine (KA.out _ (below_boxd w7 _)).mono ?_; rintro e w8 ⟨nv, iv, rfl, hn7, hi7, hb7⟩; have hb67 := (below_box w7 _).trans ((undrew hb7).mono (below_box w7 _).size); obtain ⟨na', nc', rfl, _⟩ := ownsRow_form hn7; obtain ⟨ia', ic', rfl, _⟩ := ownsRow_form hi7; have hc7 := fun (y0 y1 : Value) => set2_box (y0 := y0) (y1 := y1) ((heap_box hb7).trans (heap_alloc_new _ _)); obtain ⟨hq0, hq1, hf0, hf1⟩ := (hc7 (.bool true) (.bool true)).1))
            all_goals (go_wp2_with fail; go_meet)
            case _ => exact ⟨rfl, Lib.hid (box_after hn7.holds hi7.holds hb67)⟩
            case _ => exact ⟨rfl, Lib.hid (box_ahead ((heap_box hb7).trans (heap_alloc_new _ _)) (hn7.base (boxd_size _ _)) (hi7.base (boxd_size _ _)) hb67)⟩
        case rest =>
          obtain ⟨rfl, hcut⟩ := hcut
          obtain ⟨w8, hwc⟩ : ∃ x, x = wc := ⟨_, rfl⟩
          rw [← hwc] at hcut ⊢
          clear hwc
          obtain ⟨B3, qa, qc, qia, qic, rfl, hlo3, hbx3, hnq, hiq, hb8⟩ := hcut.out
          obtain ⟨hbx2, hnp, hip⟩ := HP2.out
          have c20 : w8.cell? ⟨B2, 0, none⟩ = some (.slice na P.nl.length nc) := by rw [hb8.cell (show B2 < w7.heap.size from lt_of_heap hbx2), cell_of_row _ _ _ _ _ _ hbx2]; rfl
          have c21 : w8.cell? ⟨B2, 1, none⟩ = some (.slice ia P.il.length ic) := by rw [hb8.cell (show B2 < w7.heap.size from lt_of_heap hbx2), cell_of_row _ _ _ _ _ _ hbx2]; rfl
          have c30 : w8.cell? ⟨B3, 0, none⟩ = some (.slice qa Q.nl.length qc) := by rw [cell_of_row _ _ _ _ _ _ hbx3]; rfl
          have c31 : w8.cell? ⟨B3, 1, none⟩ = some (.slice qia Q.il.length qic) := by rw [cell_of_row _ _ _ _ _ _ hbx3]; rfl
          have KJ := fun (t : TypeId) => cjoin_any (k := 2) (two_vecs (t := t) (hnp.below hb8) (hip.below hb8) hnq hiq) (by omega)
          rw [HJP.out.1, HJP.out.2] at KJ
          have HB8 := Lib.hid (HB7.out.trans (hb8.mono HB7.out.size))
          obtain ⟨p1, hp1⟩ : ∃ x, P.nl.length = x := ⟨_, rfl⟩
          obtain ⟨p2, hp2⟩ : ∃ x, P.il.length = x := ⟨_, rfl⟩
          obtain ⟨q1, hq1⟩ : ∃ x, Q.nl.length = x := ⟨_, rfl⟩
          obtain ⟨q2, hq2⟩ : ∃ x, Q.il.length = x := ⟨_, rfl⟩
          rw [hp1] at c20 KJ
          rw [hp2] at c21 KJ
          rw [hq1] at c30 KJ
          rw [hq2] at c31 KJ
          have KJ := Lib.hid KJ
          clear hcut hbx2 hnp hip hbx3 hnq hiq hlo3 hb8 HP2 HC7 HSQ HK2 HROW HJP HPL1 HQL1 hp1 hp2 hq1 hq2 s0 s1
          go_wp2_with fail
          refine (KJ.out _).mono ?_
          rintro e w9 ⟨nv, iv, rfl, hn9, hi9, hb9⟩
          obtain ⟨ja, jc, rfl, _⟩ := ownsRow_form hn9
          obtain ⟨jia, jic, rfl, _⟩ := ownsRow_form hi9
          have hx9 := hn9.holds
          have hy9 := hi9.holds
          have hb89 := (below_box w8 _).trans (hb9.mono (below_box w8 _).size)
          have hb69 := HB8.out.trans (hb89.mono HB8.out.size)
          have hbX9 := HBX6.out.trans (hb69.mono HBX6.out.size)
          (try rw [E1.out] at hx9)
          (try rw [E2.out] at hy9)
          (try rw [E1.out])
          (try rw [E2.out])
          clear hn9 hi9 hb9 hb89 hb69 KJ c20 c21 c30 c31
          obtain ⟨B4, hB4⟩ : ∃ B, w9.heap.size = B := ⟨_, rfl⟩
          obtain ⟨X2, hX2⟩ : ∃ X1, w9.alloc (.cells #[.slice ja m jc, .slice jia m jic] 25) = X1 := ⟨_, rfl⟩
          have hbx1 : Below w9.heap.size w9 X2 := by rw [← hX2]; exact below_box _ _
          have hx1 : X2.heap[B4]? = some (.cells #[.slice ja m jc, .slice jia m jic] 25 (0, 0)) := by rw [← hX2, ← hB4]; exact heap_alloc_new _ _
          have hbX1 : Below X.heap.size X X2.drew := hbX9.trans ((hbx1.mono hbX9.size).trans ((below_drew1 X2).mono (Nat.le_trans hbX9.size hbx1.size)))
          have p0 : X2.drew.cell? ⟨B4, 0, none⟩ = some (.slice ja m jc) := by show X2.cell? _ = _; rw [cell_of_row _ _ _ _ _ _ hx1]; rfl
          have p1 : X2.drew.cell? ⟨B4, 1, none⟩ = some (.slice jia m jic) := by show X2.cell? _ = _; rw [cell_of_row _ _ _ _ _ _ hx1]; rfl
          have hlt1 : B4 < X2.drew.heap.size := lt_of_heap hx1
          have HSa := Lib.hid (fun (V : World) (hv : Below X2.drew.heap.size X2.drew V) => (⟨(below_cells2 hv hlt1 p0 p1).1, (below_cells2 hv hlt1 p0 p1).2, (HQ.out V (hbX1.trans (hv.mono hbX1.size))).1, (HQ.out V (hbX1.trans (hv.mono hbX1.size))).2⟩ : V.cell? ⟨B4, 0, none⟩ = some (.slice ja m jc) ∧ V.cell? ⟨B4, 1, none⟩ = some (.slice jia m jic) ∧ V.cell? ⟨w.heap.size, 0, none⟩ = some (.slice a1 m k1) ∧ V.cell? ⟨w.heap.size, 1, none⟩ = some (.slice a2 m k2)))
          have HSame := Lib.hid (fun (V : World) (hv : Below X2.drew.heap.size X2.drew V) => @csame_any V ja jia a1 a2 m m jc jic m m k1 k2 c ((hx9.below (hbx1.trans ((below_drew1 X2).mono hbx1.size))).below hv) ((hy9.below (hbx1.trans ((below_drew1 X2).mono hbx1.size))).below hv) (H1.out V (hbX1.trans (hv.mono hbX1.size))) (H2.out V (hbX1.trans (hv.mono hbX1.size))) (by have := E2.out; have := HL.out; omega) (by have := E1.out; have := HL.out; omega))
          have hS1 := HSa.out X2.drew (Below.refl _ _)
          have HbX1 := Lib.hid hbX1
          clear hx9 hy9 hbX9 hbx1 hx1 hbX1 p0 p1 hlt1 HBX6 HB8 HB7
          go_wp2_with fail
          (try rw [hB4])
          (try rw [hX2])
          clear hX2
          refine wp_region_mix (fun V => V.cell? ⟨B4, 0, none⟩ = some (.slice ja m jc) ∧ V.cell? ⟨B4, 1, none⟩ = some (.slice jia m jic) ∧ V.cell? ⟨w.heap.size, 0, none⟩ = some (.slice a1 m k1) ∧ V.cell? ⟨w.heap.size, 1, none⟩ = some (.slice a2 m k2)) 17 [(true, 0), (true, 1), (true, 2), (true, 3), (true, 4), (true, 5), (true, 6), (true, 7), (true, 8), (true, 9), (true, 10), (true, 11), (true, 12), (false, 13), (false, 14), (true, 15), (true, 16)] (by kernel_rfl) (by decide +kernel) rfl (by decide +kernel) hS1 ?_
          iterate 13
            refine wpMix_take (v := ?_) rfl rfl ?_ ?_
            rotate_left
            · (intro V hV; (try dsimp only at hV); go_simp) <;> with_reducible rfl
            simp only [Act.put, List.setIfInBounds_toArray, List.set_cons_zero, List.set_cons_succ]
          refine wpMix_run rfl ?_
          intro K' hK
          go_wp2_with fail
          refine (HPL.out _).mono ?_
          rintro e w10 ⟨rfl, hb4⟩
          have HS4 := Lib.hid (HSa.out w10 hb4)
          have KSame := HSame.out w10 hb4
          have HB4 := Lib.hid hb4
          clear hb4 hS1 HSame
          go_wp2_with fail
          refine hK.out _ _ (fun _ => HS4.out) ?_
          clear hK K'
          refine wpMix_run rfl ?_
          intro K' hK
          go_wp2_with fail
          refine KSame.mono ?_
          rintro e w11 ⟨rfl, hb5⟩
          have hb45 := HB4.out.trans (hb5.mono HB4.out.size)
          have HS5 := Lib.hid (HSa.out w11 hb45)
          have hbX5 := HbX1.out.trans (hb45.mono HbX1.out.size)
          obtain ⟨s0, s1⟩ := HQ.out w11 hbX5
          have HB11 := Lib.hid hbX5
          clear hb5 hb45 hbX5 KSame
          go_wp2_with fail
          refine hK.out _ _ (fun _ => HS5.out) ?_
          clear hK K'
          iterate 2
            refine wpMix_take (v := ?_) rfl rfl ?_ ?_
            rotate_left
            · (intro V hV; (try dsimp only at hV); go_simp) <;> with_reducible rfl
            simp only [Act.put, List.setIfInBounds_toArray, List.set_cons_zero, List.set_cons_succ]
          refine wpMix_nil ?_
          clear HS4 HS5 HSa HB4 HbX1 hB4 d0 d1
          go_wp2_with fail
          clear s0 s1
          go_loopw [121] (fun s wr => ∃ (i : Nat), s = .int .i64 i ∧ i ≤ m ∧ Hid (Below X.heap.size X wr)) (fun s _ => m - (RowKit.intOf s).toNat)
          case atStart => exact ⟨0, rfl, Nat.zero_le _, HB11⟩
          case round =>
            obtain ⟨i, rfl, hi, HR⟩ := hrel
            obtain ⟨wi, rfl⟩ : ∃ x, x = wr := ⟨_, rfl⟩
            by_cases hlt : i < m
            · have b0 : (0 : Int) ≤ (i : Int) := Int.natCast_nonneg i
              have b1 : (i : Int) < (m : Int) := Int.ofNat_lt.2 hlt
              have hw64 := col_next hlt HL.out
              have hk1 : i < c.nl.length := by have := E1.out; omega
              have hk2 : i < c.il.length := by have := E2.out; omega
              have G1 := H1.out wi HR.out
              have G2 := H2.out wi HR.out
              obtain ⟨d1, rfl⟩ := G1.ptr (by omega)
              obtain ⟨d2, rfl⟩ := G2.ptr (by omega)
              have c2 := G2.cell (i64s_get hk2)
              have KW := HWh.out wi HR.out (c.il.getD i 0)
              have hwi := wh_iff HG.out hk2
              have hLl : (whereC c (c.il.getD i 0)).length ≤ 1000 := by
                have h1 := HG.out
                have h2 := whL_len c (c.il.getD i 0) c.il.length
                have h3 := E2.out
                have h4 := HL.out
                simp only [whereC, h1, if_true]
                omega
              obtain ⟨L, hL⟩ : ∃ L, whereC c (c.il.getD i 0) = L := ⟨_, rfl⟩
              rw [hL] at KW hwi hLl
              obtain ⟨x, hx⟩ : ∃ x, c.il.getD i 0 = x := ⟨_, rfl⟩
              rw [hx] at c2 KW
              obtain ⟨nb, hnb⟩ : ∃ b, c.nl.getD i false = b := ⟨_, rfl⟩
              rw [hnb] at hwi
              have HWI := Lib.hid hwi
              have HNB := Lib.hid hnb
              have HK1 := Lib.hid hk1
              have HLL := Lib.hid hLl
              obtain ⟨f0, f1⟩ := HQ.out wi HR.out
              clear G1 G2 hk1 hk2 hL hx hwi hnb hLl
              go_wp2_with fail
              refine KW.mono ?_
              rintro e wq ⟨v, rfl, hrow, hbq⟩
              obtain ⟨la, lc, rfl, hlc, _⟩ := ownsRow_form hrow
              have hbXq := HR.out.trans (hbq.mono HR.out.size)
              have HH := Lib.hid hrow.holds
              obtain ⟨g0, g1⟩ := HQ.out wq hbXq
              have c1 := (H1.out wq hbXq).cell (bls_get HK1.out)
              rw [HNB.out] at c1
              have HBq := Lib.hid hbXq
              obtain ⟨ll, hll⟩ : ∃ l, L.length = l := ⟨_, rfl⟩
              rw [hll] at HH HLL hlc ⊢
              have HE := Lib.hid hll
              clear hrow hbq hbXq hll KW f0 f1 c2
              go_wp2_with fail
              go_loop [20, 130] (fun f s => ∃ (q : Nat) (b : Bool), f = .bool b ∧ s = .int .i64 q ∧ q ≤ ll ∧ Hid (b = decide ((i : Int) ∈ L.take q))) (fun _ s => ll - (RowKit.intOf s).toNat)
              case atStart => exact ⟨0, _, rfl, rfl, Nat.zero_le _, Lib.hid (by simp)⟩
              case round =>
                obtain ⟨q, b, rfl, rfl, hq, HF⟩ := hrel
                by_cases hql : q < ll
                · have q0 : (0 : Int) ≤ (q : Int) := Int.natCast_nonneg q
                  have q1 : (q : Int) < (ll : Int) := Int.ofNat_lt.2 hql
                  have hw65 := col_next hql HLL.out
                  obtain ⟨dl, rfl⟩ := HH.out.ptr (by omega)
                  have hqL : q < L.length := by have := HE.out; omega
                  have c3 := HH.out.cell (i64s_get hqL)
                  obtain ⟨y, hy⟩ : ∃ y, L.getD q 0 = y := ⟨_, rfl⟩
                  have hsn := take_mem_snoc (l := L) (q := q) (x := y) (by rw [← hy]; simp [List.getD, hqL]) (i : Int) b HF.out
                  rw [hy] at c3
                  have HSN := Lib.hid hsn
                  clear hsn hqL hy
                  cases b
                  · go_wp2_with fail
                    go_round
                    case rel => exact ⟨q + 1, _, rfl, by go_num, hql, Lib.hid (by have h9 := HSN.out.2 rfl; rw [← h9]; rfl)⟩
                    case measure => simp [RowKit.intOf]; omega
                  · go_wp2_with fail
                    go_round
                    case rel => exact ⟨q + 1, _, rfl, by go_num, hql, Lib.hid (HSN.out.1 rfl)⟩
                    case measure => simp [RowKit.intOf]; omega
                · obtain rfl : q = ll := by omega
                  have hf : b = decide (nb = false) := by
                    rw [HF.out]
                    have h1 := HE.out
                    rw [show L.take q = L by rw [← h1]; exact List.take_length]
                    simp only [HWI.out]
                  clear HF HE
                  cases nb
                  · obtain rfl : b = true := by simpa using hf
                    clear hf
                    by_cases h60 : 60 < i
                    · have z : (60 : Int) < (i : Int) := by omega
                      go_wp2_with fail
                      refine (KL _).mono ?_
                      rintro e wz ⟨rfl, hbz⟩
                      have HBz := Lib.hid (HB.out.trans ((HBq.out.trans (hbz.mono HBq.out.size)).mono HB.out.size))
                      clear hbz
                      go_wp2_with fail
                      go_ret
                      exact ⟨rfl, HBz.out⟩
                    · have z : ¬ (60 : Int) < (i : Int) := by omega
                      go_wp2_with fail
                      go_roundw
                      case rel => exact ⟨i + 1, by go_num, hlt, HBq⟩
                      case measure => simp [RowKit.intOf]; omega
                  · obtain rfl : b = false := by simpa using hf
                    clear hf
                    by_cases h60 : 60 < i
                    · have z : (60 : Int) < (i : Int) := by omega
                      go_wp2_with fail
                      refine (KL _).mono ?_
                      rintro e wz ⟨rfl, hbz⟩
                      have HBz := Lib.hid (HB.out.trans ((HBq.out.trans (hbz.mono HBq.out.size)).mono HB.out.size))
                      clear hbz
                      go_wp2_with fail
                      go_ret
                      exact ⟨rfl, HBz.out⟩
                    · have z : ¬ (60 : Int) < (i : Int) := by omega
                      go_wp2_with fail
                      go_roundw
                      case rel => exact ⟨i + 1, by go_num, hlt, HBq⟩
                      case measure => simp [RowKit.intOf]; omega
            · obtain rfl : i = m := by omega
              go_wp2_with fail
              refine (KL _).mono ?_
              rintro e wz ⟨rfl, hbz⟩
              have HBz := Lib.hid (HB.out.trans ((HR.out.trans (hbz.mono HR.out.size)).mono HB.out.size))
              clear hbz
              go_wp2_with fail
              go_ret
              exact ⟨rfl, HBz.out⟩
end Go.Proofs.Ytbijpjoljljlpaa
