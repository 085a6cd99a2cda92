/- What a digest is in memory; contracts of its smallest calls. Conditions: none. -/
import Derived.Test.YtahaoodklfmddaaDigEntry
import Derived.Test.YtahaoodklfmddaaThings
import Derived.Test.YtahaoodklfmddaaSched2
set_option maxRecDepth 100000
namespace Go.Proofs.Ytahaoodklfmddaa
open Go.RowKit Go.Maps Go.Sort

/-- a digest, as plain lists -/
structure DV where
  k : Nat
  n : Nat
  L : DL
structure DkAt (T : Tags) (i : Nat) (w : World) (p k : Nat) (n : Int) (b : Nat) (L : DL) : Prop where
  head : w.heap[p]? = some (.cells #[.int .i64 k, .int .i64 n, .map (some b)] 62 (0, 0))
  tp : T p = some i
  map : PAt w b L
  tb : T b = some i
/-- a digest in memory, whatever it counts -/
def Dl (p k : Nat) (n : Int) (L : DL) : Thing := fun T i w => ∃ b, DkAt T i w p k n b L
theorem Dl.framed (p k : Nat) (n : Int) (L : DL) : Framed (Dl p k n L) := by
  rintro T T' i w w' ⟨b, h⟩ hT hw
  exact ⟨b, ⟨(hw p (lt_of_heap h.head) (.inr h.tp)).trans h.head, (hT p (lt_of_heap h.head)).trans h.tp, h.map.of_block (hw b h.map.lt (.inr h.tb)), (hT b h.map.lt).trans h.tb⟩⟩
theorem DkAt.ne {T : Tags} {i : Nat} {w : World} {p k b : Nat} {n : Int} {L : DL} (h : DkAt T i w p k n b L) : p ≠ b := by
  rintro rfl
  obtain ⟨es, clock, h1, _⟩ := h.map.own
  rw [h.head] at h1
  cases h1
theorem DkAt.cells {T : Tags} {i : Nat} {w : World} {p k b : Nat} {n : Int} {L : DL} (h : DkAt T i w p k n b L) :
    w.cell? ⟨p, 0, none⟩ = some (.int .i64 k) ∧ w.cell? ⟨p, 1, none⟩ = some (.int .i64 n) ∧ w.cell? ⟨p, 2, none⟩ = some (.map (some b)) ∧ ∀ j, w.frozen? ⟨p, j, none⟩ = false :=
  ⟨by rw [cell_of_row _ _ _ _ _ _ h.head]; rfl, by rw [cell_of_row _ _ _ _ _ _ h.head]; rfl, by rw [cell_of_row _ _ _ _ _ _ h.head]; rfl, free_of_row h.head⟩

theorem made_at {w : World} {p : Nat} {k : Nat} (hk : 1 ≤ k) (c0 : w.cell? ⟨p, 0, none⟩ = some (.int .i64 k)) :
    Calls Try.prog 23 #[.pointer (some ⟨p, 0, none⟩)] w fun e w' => e = .returned (.bool true) ∧ w = w' := by
  have h2 : 0 < k := hk
  clear hk
  go_enter Try.func23, Try.ntmps23
  go_wp2_with fail
  go_ret
  exact ⟨rfl, rfl⟩
theorem count_at {w : World} {p : Nat} {k : Nat} {n : Int} (hk : 1 ≤ k) (c0 : w.cell? ⟨p, 0, none⟩ = some (.int .i64 k)) (c1 : w.cell? ⟨p, 1, none⟩ = some (.int .i64 n)) :
    Calls Try.prog 16 #[.pointer (some ⟨p, 0, none⟩)] w fun e w' => e = .returned (.int .i64 n) ∧ w = w' := by
  have K := made_at hk c0
  clear hk
  go_enter Try.func16, Try.ntmps16
  go_wp2_with fail
  refine K.mono ?_
  rintro e w' ⟨rfl, rfl⟩
  clear K
  go_wp2_with fail
  go_ret
  exact ⟨rfl, rfl⟩
theorem new_no (z : Int) (hz : z < 1 ∨ 64 < z) (w : World) :
    Calls Try.prog 6 #[.int .i64 z] w fun e w' => e = .returned (.pointer none) ∧ w = w' := by
  by_cases g : z < 1
  · have t0 : decide (z < 1) = true := decide_eq_true g
    clear hz g
    go_enter Try.func6, Try.ntmps6
    go_wp2_with fail
    go_ret
    exact ⟨rfl, rfl⟩
  · have t0 : decide (z < 1) = false := decide_eq_false g
    have t1 : decide (z > 64) = true := decide_eq_true (by omega)
    have t2 : decide (64 < z) = true := decide_eq_true (by omega)
    clear hz g
    go_enter Try.func6, Try.ntmps6
    go_wp2_with fail
    go_ret
    exact ⟨rfl, rfl⟩
end Go.Proofs.Ytahaoodklfmddaa
