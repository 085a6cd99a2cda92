/- Range: the least and the greatest id, on both sides. Conditions: none. -/
import Derived.Test.YtbijpjoljljlpaaColR
import Derived.Test.YtbijpjoljljlpaaShelf
set_option maxRecDepth 100000
namespace Go.Proofs.Ytbijpjoljljlpaa
open Go.RowKit Go.Maps Go.Sort

theorem max_snoc {L : List Int} (h : L ≠ []) (x : Int) : Lib.maxOf (L ++ [x]) = max (Lib.maxOf L) x := by
  cases L with
  | nil => exact absurd rfl h
  | cons a r => simp [Lib.maxOf]
theorem min_snoc {L : List Int} (h : L ≠ []) (x : Int) : Lib.minOf (L ++ [x]) = min (Lib.minOf L) x := by
  cases L with
  | nil => exact absurd rfl h
  | cons a r => simp [Lib.minOf]
theorem max_one (x : Int) : Lib.maxOf [x] = x := by simp [Lib.maxOf]
theorem min_one (x : Int) : Lib.minOf [x] = x := by simp [Lib.minOf]
theorem RowI.ptr {B : Nat} {v : Value} {L : List Int} {w : World} (h : RowI B v L w) (hL : 0 < L.length) : ∃ g c, v = .slice (some ⟨g, 0, none⟩) L.length c ∧ ∀ j, j < L.length → w.cell? ⟨g, 0 + j, none⟩ = some (.int .i64 (L.getD j 0)) := by
  have hh := h
  rcases h.2 with ⟨_, e2⟩ | ⟨g, cap, cur, e, hB, hg, h1, h2, _⟩
  · omega
  · refine ⟨g, cap, e, fun j hj => ?_⟩
    have hc := World.ownsRow.cells hh (g := g) (by rw [e]; rfl) j _ (i64s_get hj)
    rw [Addr.add_at] at hc
    exact hc
theorem present_len (c : CV) : (present c).length ≤ 1000 := by
  unfold present
  cases h : goodC c
  · simp
  · simp only [if_true]
    exact Nat.le_trans (presL_len c _) (good_iff.1 h).2.1
/-- what Range tells -/
def rangeR (L : List Int) : Ending := .returned (.tuple #[.int .i64 (Lib.minOf L), .int .i64 (Lib.maxOf L), .bool (decide (0 < L.length))])
end Go.Proofs.Ytbijpjoljljlpaa
