/- Contract of kmv's Estimate: the middle answer. Conditions: a sketch that was made. -/
import Derived.Test.YtlhpbfjelgmkeaaGreatKmvCopy
import Derived.Sort.OwnSortedInts
set_option maxRecDepth 100000
namespace Go.Proofs.YtlhpbfjelgmkeaaGreat
open Go.RowKit Go.Maps Go.Sort

/-- the middle one of numbers -/
def sortI (A : List Nat) : List Int := (A.map fun n : Nat => (n : Int)).mergeSort fun x y => decide (x ≤ y)
def midOf (A : List Nat) : Int := (sortI A).getD (A.length / 2) 0
theorem sortI_len (A : List Nat) : (sortI A).length = A.length := by simp [sortI]

/-- sorting a row of numbers of the call's own -/
theorem sort_ints {w : World} {g : Nat} {A : List Nat} (h : w.heap[g]? = some (.cells (ints A).toArray 3 (0, 0))) (hn : A.length ≤ 1000) :
    Calls Tryz.prog 71 #[.slice (some ⟨g, 0, none⟩) A.length A.length] w fun e w' => e = .returned (.tuple #[]) ∧ w.grownBy w' (some g) ∧ ∀ k (hk : k < A.length), w'.cell? ⟨g, k, none⟩ = some (.int .i64 ((sortI A)[k]'(by rw [sortI_len]; exact hk))) := by
  have hH : Go.Sort.Holds (Value.int .i64) w g 0 (A.map fun n : Nat => (n : Int)).toArray := fun j hj => by
    have hjA : j < A.length := by simpa using hj
    refine ⟨?_, free_of_row h _⟩
    rw [Nat.zero_add, cell_ints h hjA]
    simp [hjA]
  have hlt := lt_of_heap h
  have K := Tryz.slices_Sort_int g 0 A.length (A.map fun n : Nat => (n : Int)) w hH hlt (by simp; omega)
  rw [List.length_map] at K
  refine K.mono ?_
  rintro e w' ⟨rfl, n, os, rfl⟩
  refine ⟨rfl, grownBy_sortedI _, fun k hk => ?_⟩
  have hks : k < (sortI A).length := by rw [sortI_len]; exact hk
  rw [cell?_grow _ _ _ (by simpa using hlt)]
  have := cell?_putRow (Value.int .i64) (Sort.ahead w n) g 0 _ (sortI A).toArray (holds_ahead _ _ _ _ _ _ hH) (by simp [sortI]) k (by simpa using hks)
  rw [Nat.zero_add] at this
  rw [show ((A.map fun n : Nat => (n : Int)).mergeSort fun x y => decide (x ≤ y)) = sortI A from rfl, this]
  simp [hks]

theorem SkV.answers_len (V : SkV) : V.answers.length = V.L.length := by simp [SkV.answers]

set_option maxHeartbeats 1600000 in
theorem estimate_any {T : Tags} {i : Nat} {w : World} {p : Nat} {V : SkV} (h : Sk p V T i w) :
    Calls Tryz.prog 42 #[.pointer (some ⟨p, 0, none⟩)] w fun e w' => e = .returned (.int .i64 (midOf V.answers)) ∧ Below w.heap.size w w' := by
  have K := answers_any h
  obtain ⟨_, _, _, _, g⟩ := h
  have h1 := g.good.set.n1
  have h7 := g.good.set.n7
  have hl := g.good.len
  clear g
  have hA := V.answers_len
  unfold midOf
  generalize V.answers = A at *
  have hn1 : 1 ≤ A.length := by omega
  have hn7 : A.length ≤ 7 := by omega
  clear h1 h7 hl hA
  have hk : A.length / 2 < A.length := by omega
  have hks : A.length / 2 < (sortI A).length := by rw [sortI_len]; exact hk
  have eg : (sortI A).getD (A.length / 2) 0 = (sortI A)[A.length / 2] := by rw [List.getD_eq_getElem?_getD, List.getElem?_eq_getElem hks]; rfl
  rw [eg]
  have KS := fun (W : World) g (hg : W.heap[g]? = some (.cells (ints A).toArray 3 (0, 0))) => (sort_ints hg (by omega)).mono (fun e w' (q : e = .returned (.tuple #[]) ∧ W.grownBy w' (some g) ∧ ∀ k (hk : k < A.length), w'.cell? ⟨g, k, none⟩ = some (.int .i64 ((sortI A)[k]'(by rw [sortI_len]; exact hk)))) => (show e = .returned (.tuple #[]) ∧ W.grownBy w' (some g) ∧ w'.cell? ⟨g, A.length / 2, none⟩ = some (.int .i64 (sortI A)[A.length / 2]) from ⟨q.1, q.2.1, q.2.2 _ hk⟩))
  clear eg
  generalize (sortI A)[A.length / 2] = r at *
  have KS := Lib.hid KS
  go_enter Tryz.func42, Tryz.ntmps42
  go_wp2_with fail
  refine K.mono ?_
  rintro e w1 ⟨b, rfl, hg, hb, hbel⟩
  have KS2 := KS.out _ _ hb
  have t0 : ((A.length : Int) == 0) = false := by rw [beq_eq_false_iff_ne]; omega
  have HB := Lib.hid hbel
  clear K hb hbel KS hks
  generalize A.length = N at *
  have b0 : (0 : Int) ≤ (N : Int) / 2 := by omega
  have b1 : (N : Int) / 2 < (N : Int) := by omega
  have b2 : ((N : Int) / 2).toNat = N / 2 := by omega
  go_wp2_with fail
  refine KS2.mono ?_
  rintro e w2 ⟨rfl, hgr, hc⟩
  have HB2 := Lib.hid (HB.out.trans (below_grown hgr HB.out.size (fun k e => by cases e; omega)))
  clear hgr KS2
  go_wp2_with fail
  go_ret
  exact ⟨rfl, HB2.out⟩
end Go.Proofs.YtlhpbfjelgmkeaaGreat
