/- What follows for parts of a vector. Conditions: none. -/
import Derived.Test.YtknghmcdnlkfcaaMColU
import Derived.Test.YtknghmcdnlkfcaaPackBD
set_option maxRecDepth 100000
namespace Go.Proofs.Ytknghmcdnlkfcaa
open Go.RowKit Go.Maps Go.Sort

/-- all rows of a vector -/
def allRows (n : Nat) : List Int := (List.range n).map fun i : Nat => (i : Int)
theorem allRows_len (n : Nat) : (allRows n).length = n := by simp [allRows]
theorem allRows_snoc (n : Nat) : allRows (n + 1) = allRows n ++ [(n : Int)] := by simp [allRows, List.range_succ]
theorem allRows_mem {n : Nat} {x : Int} (h : x ∈ allRows n) : 0 ≤ x ∧ x < n := by
  obtain ⟨i, hi, rfl⟩ := List.mem_map.1 h
  have := List.mem_range.1 hi
  omega
theorem pick_sub {c : CV} (hg : goodC c = true) {rows : List Int} (hr : ∀ x ∈ rows, 0 ≤ x ∧ x < (c.il.length : Int)) (hl : rows.length ≤ 1000) : pickV c rows = pickC c rows ∧ pickE c rows = 0 ∧ goodC (pickC c rows) = true := by
  have ho : outL c.il.length rows = false := by
    rw [Bool.eq_false_iff]
    intro h
    obtain ⟨x, hx, hb⟩ := List.any_eq_true.1 h
    have := hr x hx
    simp only [outR, Bool.or_eq_true, decide_eq_true_eq] at hb
    omega
  have hok : pickOk c rows = true := by
    unfold pickOk
    rw [hg, ho, decide_eq_true hl]; rfl
  refine ⟨by simp [pickV, hok], by simp [pickE, hok], good_iff.2 ⟨by simp [pickC], by simp [pickC]; exact hl, fun k hk => ?_⟩⟩
  simp only [pickC, List.length_map] at hk
  have hx := hr rows[k] (List.getElem_mem _)
  have h2 := (good_iff.1 hg).2.2 rows[k].toNat (by omega)
  have e1 : (pickC c rows).nl.getD k false = c.nl.getD rows[k].toNat false := by
    simp only [pickC, List.getD_eq_getElem?_getD]
    rw [List.getElem?_map, List.getElem?_eq_getElem hk]; rfl
  have e2 : (pickC c rows).il.getD k 0 = c.il.getD rows[k].toNat 0 := by
    simp only [pickC, List.getD_eq_getElem?_getD]
    rw [List.getElem?_map, List.getElem?_eq_getElem hk]; rfl
  rw [e1, e2]
  exact h2
theorem list_of_getD {α : Type} (l : List α) (d : α) : (List.range l.length).map (fun i => l.getD i d) = l := by
  apply List.ext_getElem
  · simp
  · intro i h1 h2
    simp [List.getD_eq_getElem?_getD, h2]
theorem pick_all {c : CV} (hn : c.nl.length = c.il.length) : pickC c (allRows c.il.length) = c := by
  obtain ⟨nl, il⟩ := c
  simp only at hn
  simp only [pickC, allRows, List.map_map, CV.mk.injEq]
  constructor
  · rw [← hn]
    have := list_of_getD nl false
    simpa [Function.comp_def] using this
  · have := list_of_getD il 0
    simpa [Function.comp_def] using this
theorem join_parts {c : CV} (hg : goodC c = true) (r : Nat) :
    joinV [pickC c ((allRows c.il.length).take r), pickC c ((allRows c.il.length).drop r)] = c ∧ joinE [pickC c ((allRows c.il.length).take r), pickC c ((allRows c.il.length).drop r)] = 0 := by
  obtain ⟨hn, hl, _⟩ := good_iff.1 hg
  have h1 := (pick_sub hg (rows := (allRows c.il.length).take r) (fun x hx => allRows_mem (List.mem_of_mem_take hx)) (by rw [List.length_take, allRows_len]; omega)).2.2
  have h2 := (pick_sub hg (rows := (allRows c.il.length).drop r) (fun x hx => allRows_mem (List.mem_of_mem_drop hx)) (by rw [List.length_drop, allRows_len]; omega)).2.2
  have hall : [pickC c ((allRows c.il.length).take r), pickC c ((allRows c.il.length).drop r)].all goodC = true := by simp [h1, h2]
  have hc : joinC [pickC c ((allRows c.il.length).take r), pickC c ((allRows c.il.length).drop r)] = c := by
    have e : pickC c ((allRows c.il.length).take r ++ (allRows c.il.length).drop r) = c := by rw [List.take_append_drop]; exact pick_all hn
    have e1 := congrArg CV.nl e
    have e2 := congrArg CV.il e
    simp only [pickC, List.map_append] at e1 e2
    obtain ⟨nl, il⟩ := c
    simp only [joinC, List.flatMap_cons, List.flatMap_nil, List.append_nil, pickC, CV.mk.injEq]
    exact ⟨e1, e2⟩
  have hN : joinN [pickC c ((allRows c.il.length).take r), pickC c ((allRows c.il.length).drop r)] ≤ 1000 := by
    rw [← joinC_len, hc]; exact hl
  constructor
  · simp only [joinV, hall, Bool.true_and]
    rw [decide_eq_true hN, if_pos rfl, hc]
  · simp only [joinE, hall, if_true]
    rw [if_pos hN]
/-- a row is found by its id just if it is not null -/
theorem wh_iff {c : CV} (hg : goodC c = true) {i : Nat} (hi : i < c.il.length) : ((i : Int) ∈ whereC c (c.il.getD i 0)) ↔ c.nl.getD i false = false := by
  unfold whereC
  rw [hg]
  simp only [if_true]
  constructor
  · intro h
    have key : ∀ (k : Nat), (i : Int) ∈ whL c (c.il.getD i 0) k → c.nl.getD i false = false := by
      intro k
      induction k with
      | zero => intro h; simp [whL] at h
      | succ k ih =>
        intro h
        unfold whL at h
        split at h
        · rename_i hc
          rcases List.mem_append.1 h with h | h
          · exact ih h
          · simp at h
            obtain rfl : i = k := by omega
            simp only [Bool.and_eq_true, Bool.not_eq_true'] at hc
            exact hc.1
        · exact ih h
    exact key _ h
  · intro h
    exact wh_mem c _ _ i hi h rfl
end Go.Proofs.Ytknghmcdnlkfcaa
