/- Values of rows: valueOf, logic of three truths, Of, on both sides. Conditions: none. -/
import Derived.Test.YtlhpbfjelgmkeaaGreatValA
import Derived.Lib.Hide
import Derived.Deep.RegionHeld3
import Derived.BigQuiet
set_option maxRecDepth 100000
namespace Go.Proofs.YtlhpbfjelgmkeaaGreat
open Go.RowKit Go.Lib

theorem as_nothing_nothing (v : Value) (w : World) : (Instr.typeAssert (.iface 170 v) 167 170 true).run Tryz.prog w = .ok (.tuple #[v, .bool true]) w := by kernel_rfl
theorem as_nothing_whole (v : Value) (w : World) : (Instr.typeAssert (.iface 170 v) 167 212 true).run Tryz.prog w = .ok (.tuple #[.int .i64 0, .bool false]) w := by kernel_rfl
theorem as_nothing_float (v : Value) (w : World) : (Instr.typeAssert (.iface 170 v) 167 171 true).run Tryz.prog w = .ok (.tuple #[.int .i64 0, .bool false]) w := by kernel_rfl
theorem as_nothing_str (v : Value) (w : World) : (Instr.typeAssert (.iface 170 v) 167 172 true).run Tryz.prog w = .ok (.tuple #[.string ⟨#[]⟩, .bool false]) w := by kernel_rfl
theorem as_nothing_truth (v : Value) (w : World) : (Instr.typeAssert (.iface 170 v) 167 213 true).run Tryz.prog w = .ok (.tuple #[.int .i64 0, .bool false]) w := by kernel_rfl
theorem as_whole_nothing (v : Value) (w : World) : (Instr.typeAssert (.iface 212 v) 167 170 true).run Tryz.prog w = .ok (.tuple #[.agg #[], .bool false]) w := by kernel_rfl
theorem as_whole_whole (v : Value) (w : World) : (Instr.typeAssert (.iface 212 v) 167 212 true).run Tryz.prog w = .ok (.tuple #[v, .bool true]) w := by kernel_rfl
theorem as_whole_float (v : Value) (w : World) : (Instr.typeAssert (.iface 212 v) 167 171 true).run Tryz.prog w = .ok (.tuple #[.int .i64 0, .bool false]) w := by kernel_rfl
theorem as_whole_str (v : Value) (w : World) : (Instr.typeAssert (.iface 212 v) 167 172 true).run Tryz.prog w = .ok (.tuple #[.string ⟨#[]⟩, .bool false]) w := by kernel_rfl
theorem as_whole_truth (v : Value) (w : World) : (Instr.typeAssert (.iface 212 v) 167 213 true).run Tryz.prog w = .ok (.tuple #[.int .i64 0, .bool false]) w := by kernel_rfl
theorem as_float_nothing (v : Value) (w : World) : (Instr.typeAssert (.iface 171 v) 167 170 true).run Tryz.prog w = .ok (.tuple #[.agg #[], .bool false]) w := by kernel_rfl
theorem as_float_whole (v : Value) (w : World) : (Instr.typeAssert (.iface 171 v) 167 212 true).run Tryz.prog w = .ok (.tuple #[.int .i64 0, .bool false]) w := by kernel_rfl
theorem as_float_float (v : Value) (w : World) : (Instr.typeAssert (.iface 171 v) 167 171 true).run Tryz.prog w = .ok (.tuple #[v, .bool true]) w := by kernel_rfl
theorem as_float_str (v : Value) (w : World) : (Instr.typeAssert (.iface 171 v) 167 172 true).run Tryz.prog w = .ok (.tuple #[.string ⟨#[]⟩, .bool false]) w := by kernel_rfl
theorem as_float_truth (v : Value) (w : World) : (Instr.typeAssert (.iface 171 v) 167 213 true).run Tryz.prog w = .ok (.tuple #[.int .i64 0, .bool false]) w := by kernel_rfl
theorem as_str_nothing (v : Value) (w : World) : (Instr.typeAssert (.iface 172 v) 167 170 true).run Tryz.prog w = .ok (.tuple #[.agg #[], .bool false]) w := by kernel_rfl
theorem as_str_whole (v : Value) (w : World) : (Instr.typeAssert (.iface 172 v) 167 212 true).run Tryz.prog w = .ok (.tuple #[.int .i64 0, .bool false]) w := by kernel_rfl
theorem as_str_float (v : Value) (w : World) : (Instr.typeAssert (.iface 172 v) 167 171 true).run Tryz.prog w = .ok (.tuple #[.int .i64 0, .bool false]) w := by kernel_rfl
theorem as_str_str (v : Value) (w : World) : (Instr.typeAssert (.iface 172 v) 167 172 true).run Tryz.prog w = .ok (.tuple #[v, .bool true]) w := by kernel_rfl
theorem as_str_truth (v : Value) (w : World) : (Instr.typeAssert (.iface 172 v) 167 213 true).run Tryz.prog w = .ok (.tuple #[.int .i64 0, .bool false]) w := by kernel_rfl
theorem as_truth_nothing (v : Value) (w : World) : (Instr.typeAssert (.iface 213 v) 167 170 true).run Tryz.prog w = .ok (.tuple #[.agg #[], .bool false]) w := by kernel_rfl
theorem as_truth_whole (v : Value) (w : World) : (Instr.typeAssert (.iface 213 v) 167 212 true).run Tryz.prog w = .ok (.tuple #[.int .i64 0, .bool false]) w := by kernel_rfl
theorem as_truth_float (v : Value) (w : World) : (Instr.typeAssert (.iface 213 v) 167 171 true).run Tryz.prog w = .ok (.tuple #[.int .i64 0, .bool false]) w := by kernel_rfl
theorem as_truth_str (v : Value) (w : World) : (Instr.typeAssert (.iface 213 v) 167 172 true).run Tryz.prog w = .ok (.tuple #[.string ⟨#[]⟩, .bool false]) w := by kernel_rfl
theorem as_truth_truth (v : Value) (w : World) : (Instr.typeAssert (.iface 213 v) 167 213 true).run Tryz.prog w = .ok (.tuple #[v, .bool true]) w := by kernel_rfl
theorem as_other_nothing (v : Value) (w : World) : (Instr.typeAssert (.iface 214 v) 167 170 true).run Tryz.prog w = .ok (.tuple #[.agg #[], .bool false]) w := by kernel_rfl
theorem as_other_whole (v : Value) (w : World) : (Instr.typeAssert (.iface 214 v) 167 212 true).run Tryz.prog w = .ok (.tuple #[.int .i64 0, .bool false]) w := by kernel_rfl
theorem as_other_float (v : Value) (w : World) : (Instr.typeAssert (.iface 214 v) 167 171 true).run Tryz.prog w = .ok (.tuple #[.int .i64 0, .bool false]) w := by kernel_rfl
theorem as_other_str (v : Value) (w : World) : (Instr.typeAssert (.iface 214 v) 167 172 true).run Tryz.prog w = .ok (.tuple #[.string ⟨#[]⟩, .bool false]) w := by kernel_rfl
theorem as_other_truth (v : Value) (w : World) : (Instr.typeAssert (.iface 214 v) 167 213 true).run Tryz.prog w = .ok (.tuple #[.int .i64 0, .bool false]) w := by kernel_rfl
theorem of_truth (n : Int) (w : World) : Calls Tryz.prog 135 #[.iface 213 (.int .i64 n)] w fun e w' => e = .returned (vv 4 n ⟨#[]⟩) ∧ Below w.heap.size w w' := by
  have q0 := as_truth_whole
  have q1 := as_truth_float
  have q2 := as_truth_str
  have q3 := as_truth_truth
  go_enter Tryz.func135, Tryz.ntmps135
  go_wp2_with fail
  refine bodyPost_ret (v := vv 4 n ⟨#[]⟩) ?_ rfl ⟨rfl, ?_⟩
  · simp [results, Tryz.results135, go_sem]
  · exact (Below.refl _ _).alloc (Nat.le_refl _) _
theorem of_int (n : Int) (w : World) : Calls Tryz.prog 135 #[.iface 212 (.int .i64 n)] w fun e w' => e = .returned (vv 1 n ⟨#[]⟩) ∧ Below w.heap.size w w' := by
  have q0 := as_whole_whole
  have q1 := as_whole_float
  have q2 := as_whole_str
  have q3 := as_whole_truth
  go_enter Tryz.func135, Tryz.ntmps135
  go_wp2_with fail
  refine bodyPost_ret (v := vv 1 n ⟨#[]⟩) ?_ rfl ⟨rfl, ?_⟩
  · simp [results, Tryz.results135, go_sem]
  · exact (Below.refl _ _).alloc (Nat.le_refl _) _
theorem of_float (n : Int) (w : World) : Calls Tryz.prog 135 #[.iface 171 (.int .i64 n)] w fun e w' => e = .returned (vv 2 n ⟨#[]⟩) ∧ Below w.heap.size w w' := by
  have q0 := as_float_whole
  have q1 := as_float_float
  have q2 := as_float_str
  have q3 := as_float_truth
  go_enter Tryz.func135, Tryz.ntmps135
  go_wp2_with fail
  refine bodyPost_ret (v := vv 2 n ⟨#[]⟩) ?_ rfl ⟨rfl, ?_⟩
  · simp [results, Tryz.results135, go_sem]
  · exact (Below.refl _ _).alloc (Nat.le_refl _) _
theorem of_str (s : ByteArray) (w : World) : Calls Tryz.prog 135 #[.iface 172 (.string s)] w fun e w' => e = .returned (vv 3 0 s) ∧ Below w.heap.size w w' := by
  have q0 := as_str_whole
  have q1 := as_str_float
  have q2 := as_str_str
  have q3 := as_str_truth
  go_enter Tryz.func135, Tryz.ntmps135
  go_wp2_with fail
  refine bodyPost_ret (v := vv 3 0 s) ?_ rfl ⟨rfl, ?_⟩
  · simp [results, Tryz.results135, go_sem]
  · exact (Below.refl _ _).alloc (Nat.le_refl _) _
theorem of_null (w : World) : Calls Tryz.prog 135 #[.iface 170 (.agg #[])] w fun e w' => e = .returned (vv 0 0 ⟨#[]⟩) ∧ Below w.heap.size w w' := by
  have q0 := as_nothing_whole
  have q1 := as_nothing_float
  have q2 := as_nothing_str
  have q3 := as_nothing_truth
  go_enter Tryz.func135, Tryz.ntmps135
  go_wp2_with fail
  refine bodyPost_ret (v := vv 0 0 ⟨#[]⟩) ?_ rfl ⟨rfl, ?_⟩
  · simp [results, Tryz.results135, go_sem]
  · exact (Below.refl _ _).alloc (Nat.le_refl _) _
theorem of_other (n : Int) (w : World) : Calls Tryz.prog 135 #[.iface 214 (.int .i64 n)] w fun e w' => e = .returned (vv 0 0 ⟨#[]⟩) ∧ Below w.heap.size w w' := by
  have q0 := as_other_whole
  have q1 := as_other_float
  have q2 := as_other_str
  have q3 := as_other_truth
  go_enter Tryz.func135, Tryz.ntmps135
  go_wp2_with fail
  refine bodyPost_ret (v := vv 0 0 ⟨#[]⟩) ?_ rfl ⟨rfl, ?_⟩
  · simp [results, Tryz.results135, go_sem]
  · exact (Below.refl _ _).alloc (Nat.le_refl _) _

def andV (a b : Int) : Int := if a = 0 ∨ b = 0 then 0 else if a < 0 ∨ b < 0 then -1 else 1
def orV (a b : Int) : Int := if 0 < a ∨ 0 < b then 1 else if a < 0 ∨ b < 0 then -1 else 0
def notV (a : Int) : Int := if a < 0 then -1 else if a = 0 then 1 else 0
theorem sign3 (a : Int) : ((a == 0) = true ∧ decide (a < 0) = false ∧ decide (0 < a) = false ∧ Hid (a = 0)) ∨ ((a == 0) = false ∧ decide (a < 0) = true ∧ decide (0 < a) = false ∧ Hid (a < 0)) ∨ ((a == 0) = false ∧ decide (a < 0) = false ∧ decide (0 < a) = true ∧ Hid (0 < a)) := by
  rcases Int.lt_trichotomy a 0 with h | h | h
  · exact .inr (.inl ⟨by rw [beq_eq_false_iff_ne]; omega, decide_eq_true h, decide_eq_false (by omega), Lib.hid h⟩)
  · exact .inl ⟨by rw [beq_iff_eq]; exact h, decide_eq_false (by omega), decide_eq_false (by omega), Lib.hid h⟩
  · exact .inr (.inr ⟨by rw [beq_eq_false_iff_ne]; omega, decide_eq_false (by omega), decide_eq_true h, Lib.hid h⟩)
/-- three cells of a block -/
def C3 (w : World) (B : Nat) (x y z : Value) : Prop := w.cell? ⟨B, 0, none⟩ = some x ∧ w.cell? ⟨B, 1, none⟩ = some y ∧ w.cell? ⟨B, 2, none⟩ = some z
theorem C3.keep {w w' : World} {B n : Nat} {x y z : Value} (h : C3 w B x y z) (hb : Below n w w') (hn : B < n) : C3 w' B x y z :=
  ⟨by rw [hb.cell hn]; exact h.1, by rw [hb.cell hn]; exact h.2.1, by rw [hb.cell hn]; exact h.2.2⟩
theorem C3.new (w : World) (x y z : Value) (t : Nat) : C3 (w.alloc (.cells #[x, y, z] t)) w.heap.size x y z :=
  ⟨by go_simp, by go_simp, by go_simp⟩
theorem frz3 {w w' : World} {x y z : Value} {t n : Nat} (hb : Below n (w.alloc (.cells #[x, y, z] t)) w') (hn : w.heap.size < n) : w'.frozen? ⟨w.heap.size, 0, none⟩ = false ∧ w'.frozen? ⟨w.heap.size, 1, none⟩ = false ∧ w'.frozen? ⟨w.heap.size, 2, none⟩ = false :=
  ⟨by rw [hb.frozen (p := ⟨w.heap.size, 0, none⟩) hn]; go_simp, by rw [hb.frozen (p := ⟨w.heap.size, 1, none⟩) hn]; go_simp, by rw [hb.frozen (p := ⟨w.heap.size, 2, none⟩) hn]; go_simp⟩
theorem C3.set {w : World} {B : Nat} {x y z : Value} (h : C3 w B x y z) (u v t : Value) : (w.setCell ⟨B, 0, none⟩ u).cell? ⟨B, 0, none⟩ = some u ∧ ((w.setCell ⟨B, 0, none⟩ u).setCell ⟨B, 1, none⟩ v).cell? ⟨B, 1, none⟩ = some v ∧ (((w.setCell ⟨B, 0, none⟩ u).setCell ⟨B, 1, none⟩ v).setCell ⟨B, 2, none⟩ t).cell? ⟨B, 2, none⟩ = some t :=
  ⟨World.cell?_setCell_same _ _ _ h.1, World.cell?_setCell_same _ _ _ (u := y) (by rw [World.cell?_setCell_other _ _ _ _ (by simp)]; exact h.2.1),
    World.cell?_setCell_same _ _ _ (u := z) (by rw [World.cell?_setCell_other _ _ _ _ (by simp), World.cell?_setCell_other _ _ _ _ (by simp)]; exact h.2.2)⟩
theorem below_set3 {w w' : World} {n B : Nat} (hb : Below n w w') (h : n ≤ B) (u v t : Value) : Below n w (((w'.setCell ⟨B, 0, none⟩ u).setCell ⟨B, 1, none⟩ v).setCell ⟨B, 2, none⟩ t) :=
  ((hb.setCell h _).setCell h _).setCell h _
/-- the value of a truth -/
def ofK (t : Int) : Int := if t = 0 ∨ t = 1 then 4 else 0
def ofN (t : Int) : Int := if t = 1 then 1 else 0
end Go.Proofs.YtlhpbfjelgmkeaaGreat
