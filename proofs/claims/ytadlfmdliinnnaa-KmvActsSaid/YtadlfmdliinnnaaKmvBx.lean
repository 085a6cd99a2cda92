/- A world with the settings' box, and what New, Good and lives do beside other things. Conditions: none. -/
import Derived.Test.YtadlfmdliinnnaaKmvSide
set_option maxRecDepth 100000
namespace Go.Proofs.Ytadlfmdliinnnaa
open Go.RowKit Go.Maps Go.Sort

theorem setO_cell {w : World} {b : Nat} {t : Int} {sa : Option Addr} {n sc : Nat} {k m : Int} (h : w.heap[b]? = some (setO t sa n sc k m)) :
    w.cell? ⟨b, 0, none⟩ = some (.int .i64 t) ∧ w.cell? ⟨b, 1, none⟩ = some (.slice sa n sc) ∧ w.cell? ⟨b, 2, none⟩ = some (.int .i64 k) ∧ w.cell? ⟨b, 3, none⟩ = some (.int .i64 m) := by
  refine ⟨?_, ?_, ?_, ?_⟩ <;> (rw [cell_of_row w b _ _ _ _ h]; rfl)

/-- a world with the settings' box, and things beside it -/
abbrev Bx (w : World) (t : Int) (sa : Option Addr) (n sc : Nat) (k m : Int) : Nat × Thing := (9, Box w.heap.size (setO t sa n sc k m))

section
variable {w : World} {sa : Option Addr} {n sc : Nat} {S : List (Nat × Nat)}
theorem bx_start (w : World) (t : Int) (sa : Option Addr) (n sc : Nat) (k m : Int) : Side w [Bx w t sa n sc k m] (w.alloc (setO t sa n sc k m)) := (Side.nil w).alloc 9 _
theorem bx_cells {t k m : Int} {E : List (Nat × Thing)} {W : World} (h : Side w E W) (hx : Bx w t sa n sc k m ∈ E) :
    W.cell? ⟨w.heap.size, 0, none⟩ = some (.int .i64 t) ∧ W.cell? ⟨w.heap.size, 1, none⟩ = some (.slice sa n sc) ∧ W.cell? ⟨w.heap.size, 2, none⟩ = some (.int .i64 k) ∧ W.cell? ⟨w.heap.size, 3, none⟩ = some (.int .i64 m) := setO_cell (h.heap hx)

/-- New beside other things, the settings being good -/
theorem bx_new (hs : SetAt w sa n sc S) (t : Nat) (k m : Int) (hg : goodB t S k m = true) {E : List (Nat × Thing)} {W : World} (h : Side w E W) (i : Nat) :
    Calls Try.prog 9 #[.agg #[.int .i64 t, .slice sa n sc, .int .i64 k, .int .i64 m]] W fun e w' => ∃ p, e = .returned (.pointer (some ⟨p, 0, none⟩)) ∧ Side w ((i, Sk p (SkV.empty t S)) :: E) w' :=
  (side_new h i (hs.below h.base) t k m hg).mono fun _ _ ⟨p, a, b⟩ => ⟨p, a, b.out⟩
/-- .. or not -/
theorem bx_nil (hs : SetAt w sa n sc S) (t k m : Int) (hg : goodB t S k m = false) {E : List (Nat × Thing)} {W : World} (h : Side w E W) :
    Calls Try.prog 9 #[.agg #[.int .i64 t, .slice sa n sc, .int .i64 k, .int .i64 m]] W fun e w' => e = .returned (.pointer none) ∧ Side w E w' :=
  (new_no (hs.below h.base) t k m hg).mono fun _ _ ⟨a, b⟩ => ⟨a, h.below b⟩
theorem bx_good (hs : SetAt w sa n sc S) (t k m : Int) {E : List (Nat × Thing)} {W : World} (h : Side w E W) :
    Calls Try.prog 11 #[.agg #[.int .i64 t, .slice sa n sc, .int .i64 k, .int .i64 m]] W fun e w' => e = .returned (.bool (goodB t S k m)) ∧ Side w E w' :=
  (kgood_any (hs.below h.base) t k m).mono fun _ _ ⟨a, b⟩ => ⟨a, h.below b⟩
theorem bx_lives {E : List (Nat × Thing)} {W : World} (h : Side w E W) : Calls Try.prog 13 #[] W fun e w' => e = .returned (.bool true) ∧ Below w.heap.size w w' :=
  (lives_any W).mono fun _ _ ⟨a, b⟩ => ⟨a, (h.below b).base⟩
end
end Go.Proofs.Ytadlfmdliinnnaa
