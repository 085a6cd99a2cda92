/- Contracts of codec.face at uint64: what read answers, or the error that it panics with. Conditions: none. -/
import Derived.Test.YtbijpjoljljlpaaCodecRead
import Derived.Tactics
import Derived.Tactics2
import Derived.Defers
import Derived.Recover
import Derived.Laws.Pointers
set_option maxRecDepth 100000
namespace Go.Proofs.Ytbijpjoljljlpaa
open Go.RowKit Go.Maps Go.Sort

theorem assert_errno (n : Int) (W : World) : (Instr.typeAssert (.iface 29 (.int .i64 n)) 20 29 true).run Try.prog W = .ok (.tuple #[.int .i64 n, .bool true]) W := by kernel_rfl

theorem catch_idle (p q : Addr) (w : World) :
    CallsD Try.prog 60 #[.pointer (some p), .pointer (some q)] .returning w fun e u' w' => e = .returned (.tuple #[]) ∧ u' = .returning ∧ w' = w := by
  refine callsD_of_wpS Try.func60 rfl fun c₀ cs hu => ?_
  apply wpS_seq
  apply wpS_region
  simp [wpOpsS, go_sem, recoverD, hu, Try.ntmps60, Exit.thenS]
  simp only [Array.replicate_succ, Array.replicate_zero, List.push_toArray, List.append_toArray, List.nil_append, List.cons_append, List.setIfInBounds_toArray, List.set_cons_succ, List.set_cons_zero]
  refine wpS_of_wp ?_
  go_wp2
  cases c₀
  simp_all [bodyPostS, results, Try.results60]

set_option maxHeartbeats 800000 in
theorem catch_errno (b c : Nat) (n : Int) (w : World) (hp : w.cell? ⟨b, 0, none⟩ = some (.slice none 0 0)) (hpf : w.frozen? ⟨b, 0, none⟩ = false) (hq : w.cell? ⟨c, 0, none⟩ = some (.int .i64 0)) (hqf : w.frozen? ⟨c, 0, none⟩ = false) (hne : b ≠ c) :
    CallsD Try.prog 60 #[.pointer (some ⟨b, 0, none⟩), .pointer (some ⟨c, 0, none⟩)] (.panicking [{ v := .iface 29 (.int .i64 n), recovered := false }]) w fun e u' w' =>
      e = .returned (.tuple #[]) ∧ u' = .panicking [{ v := .iface 29 (.int .i64 n), recovered := true }] ∧ w' = ((w.setCell ⟨b, 0, none⟩ (.slice none 0 0)).setCell ⟨c, 0, none⟩ (.int .i64 8)).setCell ⟨c, 0, none⟩ (.int .i64 n) := by
  refine callsD_of_wpS Try.func60 rfl fun c₀ cs hu => ?_
  apply wpS_seq
  apply wpS_region
  simp [wpOpsS, go_sem, recoverD, hu, Try.ntmps60, Exit.thenS]
  simp only [Array.replicate_succ, Array.replicate_zero, List.push_toArray, List.append_toArray, List.nil_append, List.cons_append, List.setIfInBounds_toArray, List.set_cons_succ, List.set_cons_zero]
  refine wpS_of_wp ?_
  have hc := Ne.symm hne
  have hta := assert_errno n
  go_wp2
  cases c₀
  simp_all [bodyPostS, results, Try.results60]

theorem below2r (w : World) (A B : Obj) : Below w.heap.size w ((w.alloc A).alloc B) := ((Below.refl _ _).alloc (Nat.le_refl _) _).alloc (by simp) _

set_option maxHeartbeats 800000 in
theorem face_ok {w : World} {g : Nat} {caps : Array Value} (heg : ∀ args w, (callFunc g args).run Try.prog w = .ok (.enter g args) w) {xs : List Value} {k : Nat}
    (hcall : ∀ W, Below w.heap.size w W → Calls Try.prog g caps W fun e w' => ∃ v, e = .returned v ∧ Hid (w'.ownsRow W.heap.size 44 1 v k xs ∧ Below W.heap.size W w')) :
    Calls Try.prog 51 #[.func (.func g) #[] caps] w fun e w' => ∃ v, e = .returned (.tuple #[v, .int .i64 0]) ∧ Hid (w'.ownsRow w.heap.size 44 1 v k xs ∧ Below w.heap.size w w') := by
  have hmf : ∀ (fn : Fn) (first cap : Array Value) (w : World), (Instr.makeFunc fn first cap).run Try.prog w = .ok (.func fn first cap) w := fun _ _ _ _ => rfl
  have HC := Lib.hid hcall
  clear hcall
  go_enter_defers Try.func51, Try.ntmps51
  go_wp2_with fail
  refine (HC.out _ (below2r _ _ _)).mono ?_
  rintro e w1 ⟨v, rfl, h1⟩
  obtain ⟨va, vc, hv, _⟩ := ownsRow_form h1.out.1
  have hB := h1.out.2
  have a0 : w1.heap[w.heap.size]? = some (.cells #[.slice none 0 0] 46 (0, 0)) :=
    (hB.block _ (by simp; omega)).trans ((Below.heap_alloc _ _ _ (by simp)).trans (alloc1 _ _))
  have a1 : w1.heap[w.heap.size + 1]? = some (.cells #[.int .i64 0] 29 (0, 0)) := by
    have := alloc1 (w.alloc (Obj.cells #[Value.slice none 0 0] 46)) (Obj.cells #[Value.int IntKind.i64 0] 29)
    exact (hB.block _ (by simp)).trans (by simpa using this)
  have c0 : w1.cell? ⟨w.heap.size, 0, none⟩ = some (.slice none 0 0) := by rw [cell_of_row _ _ _ _ _ _ a0]; rfl
  have c1 : w1.cell? ⟨w.heap.size + 1, 0, none⟩ = some (.int .i64 0) := by rw [cell_of_row _ _ _ _ _ _ a1]; rfl
  have f0 := free_of_row a0 0
  have f1 := free_of_row a1 0
  have b0 := heap_set (j := 0) a0 v
  have b1 := heap_set (j := 0) ((Below.heap_setCell w1 ⟨w.heap.size, 0, none⟩ v (w.heap.size + 1) (by simp)).trans a1) (.int .i64 0)
  have b2 := (Below.heap_setCell (w1.setCell ⟨w.heap.size, 0, none⟩ v) ⟨w.heap.size + 1, 0, none⟩ (.int .i64 0) w.heap.size (by simp)).trans b0
  have d0 : ((w1.setCell ⟨w.heap.size, 0, none⟩ v).setCell ⟨w.heap.size + 1, 0, none⟩ (.int .i64 0)).cell? ⟨w.heap.size, 0, none⟩ = some v := by rw [cell_of_row _ _ _ _ _ _ b2]; rfl
  have d1 : ((w1.setCell ⟨w.heap.size, 0, none⟩ v).setCell ⟨w.heap.size + 1, 0, none⟩ (.int .i64 0)).cell? ⟨w.heap.size + 1, 0, none⟩ = some (.int .i64 0) := by rw [cell_of_row _ _ _ _ _ _ b1]; rfl
  have hbel : Below w.heap.size w ((w1.setCell ⟨w.heap.size, 0, none⟩ v).setCell ⟨w.heap.size + 1, 0, none⟩ (.int .i64 0)) :=
    (((below2r w _ _).trans (hB.mono (by simp; omega))).setCell (p := ⟨w.heap.size, 0, none⟩) (Nat.le_refl _) _).setCell (p := ⟨w.heap.size + 1, 0, none⟩) (by simp) _
  have hge := ownsRow_ge h1.out.1
  have hhold : ((w1.setCell ⟨w.heap.size, 0, none⟩ v).setCell ⟨w.heap.size + 1, 0, none⟩ (.int .i64 0)).ownsRow w.heap.size 44 1 v k xs := by
    refine ownsRow_rebase (ownsRow_of_block h1.out.1 fun g hg => ?_) fun g hg => ?_
    · have := hge g hg
      simp at this
      exact (Below.heap_setCell _ _ _ g (by simp; omega)).trans (Below.heap_setCell _ _ _ g (by simp; omega))
    · have := hge g hg
      simp at this
      omega
  have HFIN := Lib.hid (And.intro hhold hbel)
  subst hv
  clear h1 hB a0 a1 b0 b1 b2 hbel hhold hge
  go_wp2_with fail
  refine leaves_cons (f := 60) (args := #[.pointer (some ⟨w.heap.size, 0, none⟩), .pointer (some ⟨w.heap.size + 1, 0, none⟩)]) (by simp) (by simp [go_sem]) ?_
  refine (catch_idle _ _ _).mono ?_
  rintro e u' w'' ⟨rfl, rfl, rfl⟩
  simp [Leaves, settle, results, Try.results51, go_sem, d0, d1]
  exact HFIN

set_option maxHeartbeats 800000 in
theorem face_panic {w : World} {g : Nat} {caps : Array Value} (heg : ∀ args w, (callFunc g args).run Try.prog w = .ok (.enter g args) w) {n : Int}
    (hcall : ∀ W, Below w.heap.size w W → Calls Try.prog g caps W fun e w' => e = .panicked [{ v := .iface 29 (.int .i64 n), recovered := false }] ∧ Below W.heap.size W w') :
    Calls Try.prog 51 #[.func (.func g) #[] caps] w fun e w' => e = .returned (.tuple #[.slice none 0 0, .int .i64 n]) ∧ Below w.heap.size w w' := by
  have hmf : ∀ (fn : Fn) (first cap : Array Value) (w : World), (Instr.makeFunc fn first cap).run Try.prog w = .ok (.func fn first cap) w := fun _ _ _ _ => rfl
  have HC := Lib.hid hcall
  clear hcall
  go_enter_defers Try.func51, Try.ntmps51
  go_wp2_with fail
  refine (HC.out _ (below2r _ _ _)).mono ?_
  rintro e w1 ⟨rfl, hB⟩
  have a0 : w1.heap[w.heap.size]? = some (.cells #[.slice none 0 0] 46 (0, 0)) :=
    (hB.block _ (by simp; omega)).trans ((Below.heap_alloc _ _ _ (by simp)).trans (alloc1 _ _))
  have a1 : w1.heap[w.heap.size + 1]? = some (.cells #[.int .i64 0] 29 (0, 0)) := by
    have := alloc1 (w.alloc (Obj.cells #[Value.slice none 0 0] 46)) (Obj.cells #[Value.int IntKind.i64 0] 29)
    exact (hB.block _ (by simp)).trans (by simpa using this)
  have c0 : w1.cell? ⟨w.heap.size, 0, none⟩ = some (.slice none 0 0) := by rw [cell_of_row _ _ _ _ _ _ a0]; rfl
  have c1 : w1.cell? ⟨w.heap.size + 1, 0, none⟩ = some (.int .i64 0) := by rw [cell_of_row _ _ _ _ _ _ a1]; rfl
  have f0 := free_of_row a0 0
  have f1 := free_of_row a1 0
  go_wp2_with fail
  refine leaves_cons (f := 60) (args := #[.pointer (some ⟨w.heap.size, 0, none⟩), .pointer (some ⟨w.heap.size + 1, 0, none⟩)]) (by simp) (by simp [go_sem]) ?_
  refine (catch_errno _ _ n _ c0 f0 c1 f1 (by omega)).mono ?_
  rintro e u' w'' ⟨rfl, rfl, rfl⟩
  have b0 := heap_set (j := 0) a0 (.slice none 0 0)
  have b1 := heap_set (j := 0) ((Below.heap_setCell w1 ⟨w.heap.size, 0, none⟩ (.slice none 0 0) (w.heap.size + 1) (by simp)).trans a1) (.int .i64 8)
  have b2 := heap_set (j := 0) b1 (.int .i64 n)
  have b3 := (Below.heap_setCell ((w1.setCell ⟨w.heap.size, 0, none⟩ (.slice none 0 0)).setCell ⟨w.heap.size + 1, 0, none⟩ (.int .i64 8)) ⟨w.heap.size + 1, 0, none⟩ (.int .i64 n) w.heap.size (by simp)).trans ((Below.heap_setCell (w1.setCell ⟨w.heap.size, 0, none⟩ (.slice none 0 0)) ⟨w.heap.size + 1, 0, none⟩ (.int .i64 8) w.heap.size (by simp)).trans b0)
  have d0 : (((w1.setCell ⟨w.heap.size, 0, none⟩ (.slice none 0 0)).setCell ⟨w.heap.size + 1, 0, none⟩ (.int .i64 8)).setCell ⟨w.heap.size + 1, 0, none⟩ (.int .i64 n)).cell? ⟨w.heap.size, 0, none⟩ = some (.slice none 0 0) := by rw [cell_of_row _ _ _ _ _ _ b3]; rfl
  have d1 : (((w1.setCell ⟨w.heap.size, 0, none⟩ (.slice none 0 0)).setCell ⟨w.heap.size + 1, 0, none⟩ (.int .i64 8)).setCell ⟨w.heap.size + 1, 0, none⟩ (.int .i64 n)).cell? ⟨w.heap.size + 1, 0, none⟩ = some (.int .i64 n) := by rw [cell_of_row _ _ _ _ _ _ b2]; rfl
  have hbel : Below w.heap.size w (((w1.setCell ⟨w.heap.size, 0, none⟩ (.slice none 0 0)).setCell ⟨w.heap.size + 1, 0, none⟩ (.int .i64 8)).setCell ⟨w.heap.size + 1, 0, none⟩ (.int .i64 n)) :=
    ((((below2r w _ _).trans (hB.mono (by simp; omega))).setCell (p := ⟨w.heap.size, 0, none⟩) (Nat.le_refl _) _).setCell (p := ⟨w.heap.size + 1, 0, none⟩) (by simp) _).setCell (p := ⟨w.heap.size + 1, 0, none⟩) (by simp) _
  have HFIN := Lib.hid hbel
  clear hbel
  simp [Leaves, settle, results, Try.results51, go_sem, d0, d1]
  exact HFIN.out
end Go.Proofs.Ytbijpjoljljlpaa
