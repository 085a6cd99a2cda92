/- Contracts of codec.steps and its iterator: where each byte's bits begin. Conditions: small numbers. -/
import Derived.Test.YtehfoaicohnpfaaGreatDoorRange
import Derived.Test.YtehfoaicohnpfaaGreatDoorTells
import Derived.Outline
set_option maxRecDepth 100000
namespace Go.Proofs.YtehfoaicohnpfaaGreatDoor
open Go.RowKit Go.Maps Go.Sort
attribute [local go_sem] Oper.semAt_some

def stepsL (f w d : Nat) : List (Nat × Nat) := if h : d < w then (d, f + d) :: stepsL f w (d + (8 - (f + d) % 8)) else []
termination_by w - d
decreasing_by omega
theorem steps_in {f w d : Nat} (h : d < w) : stepsL f w d = (d, f + d) :: stepsL f w (d + (8 - (f + d) % 8)) := by rw [stepsL, dif_pos h]
theorem steps_out {f w d : Nat} (h : ¬ d < w) : stepsL f w d = [] := by rw [stepsL, dif_neg h]
def stepE (p : Nat × Nat) : Array Value := #[.int .i64 (p.1 : Int), .int .i64 (p.2 : Int)]
def stepsE (f w : Nat) : List (Array Value) := (stepsL f w 0).map stepE
theorem stepsE_at {f w d k : Nat} (h : (stepsL f w 0).drop k = stepsL f w d) (hd : d < w) : ∃ hk : k < (stepsE f w).length, (stepsE f w)[k] = #[.int .i64 (d : Int), .int .i64 ((f + d : Nat) : Int)] ∧ (stepsL f w 0).drop (k + 1) = stepsL f w (d + (8 - (f + d) % 8)) := by
  rw [steps_in hd] at h
  have hk : k < (stepsL f w 0).length := by
    rcases Nat.lt_or_ge k (stepsL f w 0).length with g | g
    · exact g
    · rw [List.drop_eq_nil_of_le g] at h; cases h
  rw [List.drop_eq_getElem_cons hk] at h
  injection h with h1 h2
  exact ⟨by simpa [stepsE] using hk, by simp [stepsE, h1, stepE], h2⟩

def stepsR (bw bf w f : Nat) (W : World) : Prop := W.cell? ⟨bw, 0, none⟩ = some (.int .i64 (w : Int)) ∧ W.cell? ⟨bf, 0, none⟩ = some (.int .i64 (f : Int))

end Go.Proofs.YtehfoaicohnpfaaGreatDoor
