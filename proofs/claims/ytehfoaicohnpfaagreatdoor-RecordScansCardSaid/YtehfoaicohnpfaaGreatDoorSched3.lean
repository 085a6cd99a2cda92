/- A drawn region by one order, calls of which may panic. Conditions: as stated. -/
import Derived.Test.YtehfoaicohnpfaaGreatDoorSched2
set_option maxRecDepth 100000
namespace Go.Proofs.YtehfoaicohnpfaaGreatDoor
open Go.RowKit

section
variable {P : Program} {ops : Array Oper} {Q : Exit → Act → World → Prop} {md : Region.Mode} {S : World → Prop} {st : Nat}
theorem wpMix_nilP {a : Act} {w : World} (h : Q .normal a w) : wpMix P ops Q S st [] a w := h
/-- a drawn region by one order, where a panic may come -/
theorem wp_region_mixP {id : Nat} {a : Act} {w : World} (S : World → Prop) (st : Nat) (is : List (Bool × Nat)) (hQ : ∀ c a d v w, Q (.panic c) (Act.put a d v) w → Q (.panic c) a w) (hm : P.follows .mixedOrders = true) (hn : Region.noSelect ops = true) (hl : is.length = ops.size) (hB : mixB .any ops st is (Array.replicate ops.size false) = true)
    (hS : S w.drew) (h : wpMix P ops Q S st is a w.drew) : (Code.region id ops true).wp P Q a w := by
  refine wp_region_any hm (wpAny_of_T (S := S) (st := st) _ _ _ _ ?_)
  have h4 := wpAnyT_mix (md := .any) (Q := Q) (st := st) hn hQ is (Array.replicate ops.size false) a w.drew (closed_none _) hB (fun _ => hS) h
  rw [hl] at h4
  exact h4
end
end Go.Proofs.YtehfoaicohnpfaaGreatDoor
