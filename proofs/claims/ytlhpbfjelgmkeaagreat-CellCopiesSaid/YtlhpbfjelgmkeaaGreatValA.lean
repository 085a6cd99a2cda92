/- Values of rows: what contentOf and valueOf tell, a kind at a time. Conditions: none. -/
import Derived.Test.YtlhpbfjelgmkeaaGreatGen
import Derived.Test.YtlhpbfjelgmkeaaGreatShelf
import Derived.Outline
set_option maxRecDepth 100000
namespace Go.Proofs.YtlhpbfjelgmkeaaGreat
open Go.RowKit

abbrev vv (k n : Int) (s : ByteArray) : Value := .agg #[.int .i64 k, .int .i64 n, .string s]
/-- what a value says -/
def ctV (k n : Int) (s : ByteArray) : Value :=
  if k = 0 then .iface 170 (.agg #[]) else if k = 1 then .iface 212 (.int .i64 n) else if k = 2 then .iface 171 (.int .i64 n)
  else if k = 3 then .iface 172 (.string s) else if k = 4 then .iface 213 (.int .i64 n) else .iface 214 (.int .i64 n)

theorem content_null (n : Int) (s : ByteArray) (w : World) : Calls Tryz.prog 73 #[vv 0 n s] w fun e w' => e = .returned (.iface 170 (.agg #[])) ∧ Below w.heap.size w w' := by
  go_enter Tryz.func73, Tryz.ntmps73
  go_wp2_with fail
  go_ret
  exact ⟨rfl, (Below.refl _ _).alloc (Nat.le_refl _) _⟩
theorem content_int (n : Int) (s : ByteArray) (w : World) : Calls Tryz.prog 73 #[vv 1 n s] w fun e w' => e = .returned (.iface 212 (.int .i64 n)) ∧ Below w.heap.size w w' := by
  go_enter Tryz.func73, Tryz.ntmps73
  go_wp2_with fail
  go_ret
  exact ⟨rfl, (Below.refl _ _).alloc (Nat.le_refl _) _⟩
theorem content_float (n : Int) (s : ByteArray) (w : World) : Calls Tryz.prog 73 #[vv 2 n s] w fun e w' => e = .returned (.iface 171 (.int .i64 n)) ∧ Below w.heap.size w w' := by
  go_enter Tryz.func73, Tryz.ntmps73
  go_wp2_with fail
  go_ret
  exact ⟨rfl, (Below.refl _ _).alloc (Nat.le_refl _) _⟩
theorem content_str (n : Int) (s : ByteArray) (w : World) : Calls Tryz.prog 73 #[vv 3 n s] w fun e w' => e = .returned (.iface 172 (.string s)) ∧ Below w.heap.size w w' := by
  go_enter Tryz.func73, Tryz.ntmps73
  go_wp2_with fail
  go_ret
  exact ⟨rfl, (Below.refl _ _).alloc (Nat.le_refl _) _⟩
theorem content_bool (n : Int) (s : ByteArray) (w : World) : Calls Tryz.prog 73 #[vv 4 n s] w fun e w' => e = .returned (.iface 213 (.int .i64 n)) ∧ Below w.heap.size w w' := by
  go_enter Tryz.func73, Tryz.ntmps73
  go_wp2_with fail
  go_ret
  exact ⟨rfl, (Below.refl _ _).alloc (Nat.le_refl _) _⟩
theorem content_other (k n : Int) (s : ByteArray) (w : World) (h : k < 0 ∨ 4 < k) : Calls Tryz.prog 73 #[vv k n s] w fun e w' => e = .returned (.iface 214 (.int .i64 n)) ∧ Below w.heap.size w w' := by
  have h0 : (k == 0) = false := by rw [beq_eq_false_iff_ne]; omega
  have h1 : (k == 1) = false := by rw [beq_eq_false_iff_ne]; omega
  have h2 : (k == 2) = false := by rw [beq_eq_false_iff_ne]; omega
  have h3 : (k == 3) = false := by rw [beq_eq_false_iff_ne]; omega
  have h4 : (k == 4) = false := by rw [beq_eq_false_iff_ne]; omega
  clear h
  go_enter Tryz.func73, Tryz.ntmps73
  go_wp2_with fail
  go_ret
  exact ⟨rfl, (Below.refl _ _).alloc (Nat.le_refl _) _⟩
theorem content_any (k n : Int) (s : ByteArray) (w : World) : Calls Tryz.prog 73 #[vv k n s] w fun e w' => e = .returned (ctV k n s) ∧ Below w.heap.size w w' := by
  by_cases h0 : k = 0
  · subst h0; exact content_null n s w
  by_cases h1 : k = 1
  · subst h1; exact content_int n s w
  by_cases h2 : k = 2
  · subst h2; exact content_float n s w
  by_cases h3 : k = 3
  · subst h3; exact content_str n s w
  by_cases h4 : k = 4
  · subst h4; exact content_bool n s w
  have e : ctV k n s = .iface 214 (.int .i64 n) := by unfold ctV; rw [if_neg h0, if_neg h1, if_neg h2, if_neg h3, if_neg h4]
  rw [e]
  exact content_other k n s w (by omega)
end Go.Proofs.YtlhpbfjelgmkeaaGreat
