/- Contract of codec.readPacked: numbers of so many bits, read. Conditions: small lists. -/
import Derived.Test.YtkjdilhhdphjgaaDoorUnpackPlain
import Derived.Test.YtkjdilhhdphjgaaDoorRangeOps
import Derived.Test.YtkjdilhhdphjgaaDoorCodecPut
import Derived.Sort.QuietTacIn
import Derived.Sort.BigQuietIn
set_option maxRecDepth 100000
namespace Go.Proofs.YtkjdilhhdphjgaaDoor
open Go.RowKit Go.Maps Go.Sort
attribute [local go_sem] Oper.semAt_some

theorem below1r (w : World) (o : Obj) : Below w.heap.size w (w.alloc o) := (Below.refl _ _).alloc (Nat.le_refl _) _

/-- how many bits are read ahead of step k -/
def stepD (f : Nat) : Nat → Nat
  | 0 => 0
  | k + 1 => stepD f k + (8 - (f + stepD f k) % 8)
theorem stepD_get (f w : Nat) : ∀ k, k < (stepsL f w 0).length → (stepsL f w 0)[k]? = some (stepD f k, f + stepD f k) ∧ stepD f k < w := by
  intro k
  induction k with
  | zero =>
    intro h
    by_cases hw : 0 < w
    · rw [steps_in hw]; exact ⟨rfl, hw⟩
    · rw [steps_out hw] at h; cases h
  | succ k ih =>
    intro h
    obtain ⟨e, _⟩ := ih (by omega)
    obtain ⟨_, _, e3⟩ := steps_get f w k 0 _ _ e
    rw [e3]
    split
    · rename_i hlt; exact ⟨rfl, hlt⟩
    · rename_i hge
      rw [if_neg hge] at e3
      rw [List.getElem?_eq_none_iff] at e3
      omega
theorem stepD_end (f w : Nat) : w ≤ stepD f (stepsL f w 0).length := by
  cases hl : (stepsL f w 0).length with
  | zero =>
    by_cases hw : 0 < w
    · rw [steps_in hw] at hl; cases hl
    · show w ≤ 0; omega
  | succ m =>
    obtain ⟨e, _⟩ := stepD_get f w m (by omega)
    obtain ⟨_, _, e3⟩ := steps_get f w m 0 _ _ e
    have hn : (stepsL f w 0)[m + 1]? = none := by rw [List.getElem?_eq_none_iff]; omega
    rw [hn] at e3
    split at e3
    · cases e3
    · rename_i h; show w ≤ stepD f m + (8 - (f + stepD f m) % 8); omega
/-- ErrCorrupt, as a panic -/
def corrupt : List PanicEntry := [{ v := .iface 37 (.int .i64 8), recovered := false }]

end Go.Proofs.YtkjdilhhdphjgaaDoor
