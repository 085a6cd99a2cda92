/- Contracts of the methods of a size: turned, sizeOf, signed. Conditions: none. -/
import Derived.Test.YtbijpjoljljlpaaGreatDoorWideB
import Derived.Test.YtbijpjoljljlpaaGreatDoorWideC
set_option maxRecDepth 100000
namespace Go.Proofs.YtbijpjoljljlpaaGreatDoor.Wide
open Go.RowKit

def negS (m : Int) : Int := if m = 0 then 0 else 340282366920938463463374607431768211456 - m
def absW (N : Int) : Int := if N < 0 then -N else N
def sgnOk (m : Int) (neg : Bool) : Bool := if neg then decide (0 < m ∧ m ≤ 170141183460469231731687303715884105728) else decide (m < 170141183460469231731687303715884105728)
def sgnW (m : Int) (neg : Bool) : Int := if sgnOk m neg then (if neg then -m else m) else 0

theorem m2_new {w w' : World} {o o' : Obj} (hb : Below (w.heap.size + 2) ((w.alloc o).alloc o') w') : Below w.heap.size w w' := (two_new w o o').trans (hb.mono (by omega))
theorem sturned_any (h l : Int) (w : World) (h0 : 0 ≤ h) (h1 : h < 18446744073709551616) (l0 : 0 ≤ l) (l1 : l < 18446744073709551616) : Calls Tryz.prog 56 #[.agg #[.int .u64 h, .int .u64 l]] w fun e w' => e = .returned (sv (negS (h * 18446744073709551616 + l))) ∧ Below w.heap.size w w' := by
  obtain ⟨S, hS⟩ : ∃ S, S = (0 - l) % 18446744073709551616 := ⟨_, rfl⟩
  obtain ⟨C, hC⟩ : ∃ C, C * 18446744073709551616 = S - (0 - l) := ⟨(S - (0 - l)) / 18446744073709551616, by omega⟩
  obtain ⟨T, hT⟩ : ∃ S, S = (0 - h - C) % 18446744073709551616 := ⟨_, rfl⟩
  obtain ⟨D, hD⟩ : ∃ D, D * 18446744073709551616 = T - (0 - h - C) := ⟨(T - (0 - h - C)) / 18446744073709551616, by omega⟩
  have c1 := fun w => sub64_run (x := 0) (y := l) (b := 0) (s := S) (d := C) (by decide) (by decide) l0 l1 (.inl rfl) (by omega) (by omega) (by omega) w
  have c2 := fun w => sub64_run (x := 0) (y := h) (b := C) (s := T) (d := D) (by decide) (by decide) h0 h1 (by omega) (by omega) (by omega) (by omega) w
  have e : T * 18446744073709551616 + S = negS (h * 18446744073709551616 + l) := by unfold negS; split <;> omega
  have hw := w_of e (by omega) (by omega)
  unfold sv
  rw [hw.1, hw.2]
  clear hw e hS hC hT hD
  go_enter Tryz.func56, Tryz.ntmps56
  go_wp2_with fail
  refine bodyPost_ret (v := .agg #[.int .u64 T, .int .u64 S]) (by simp [results, Tryz.results56, go_sem]) rfl ⟨rfl, two_new _ _ _⟩
/-- three new boxes of two words -/
def v3 (w : World) (a0 a1 b0 b1 d0 d1 : Value) : World := ((w.alloc (.cells #[a0, a1] 61)).alloc (.cells #[b0, b1] 78)).alloc (.cells #[d0, d1] 78)
theorem v3_res {w w' : World} {a0 a1 b0 b1 c0 c1 : Value} (hb : Below (w.heap.size + 3) (v3 w a0 a1 b0 b1 c0 c1) w') :
    w'.cell? ⟨w.heap.size + 1, 0, none⟩ = some b0 ∧ w'.cell? ⟨w.heap.size + 1, 1, none⟩ = some b1 ∧ w'.frozen? ⟨w.heap.size + 1, 0, none⟩ = false ∧ w'.frozen? ⟨w.heap.size + 1, 1, none⟩ = false ∧ w'.cell? ⟨w.heap.size + 1 + 1, 0, none⟩ = some c0 ∧ w'.cell? ⟨w.heap.size + 1 + 1, 1, none⟩ = some c1 := by
  refine ⟨?_, ?_, ?_, ?_, ?_, ?_⟩
  · rw [hb.cell (p := ⟨w.heap.size + 1, 0, none⟩) (by simp)]; unfold v3; go_simp
  · rw [hb.cell (p := ⟨w.heap.size + 1, 1, none⟩) (by simp)]; unfold v3; go_simp
  · rw [hb.frozen (p := ⟨w.heap.size + 1, 0, none⟩) (by simp)]; unfold v3; go_simp
  · rw [hb.frozen (p := ⟨w.heap.size + 1, 1, none⟩) (by simp)]; unfold v3; go_simp
  · rw [hb.cell (p := ⟨w.heap.size + 1 + 1, 0, none⟩) (by simp)]; unfold v3; go_simp
  · rw [hb.cell (p := ⟨w.heap.size + 1 + 1, 1, none⟩) (by simp)]; unfold v3; go_simp
theorem v3_next {w w' w1 : World} {a0 a1 b0 b1 c0 c1 : Value} (h : Below (w.heap.size + 3) (v3 w a0 a1 b0 b1 c0 c1) w') (hk : Below w'.heap.size w' w1) : Below (w.heap.size + 3) (v3 w a0 a1 b0 b1 c0 c1) w1 := by
  have hz := h.size
  unfold v3 at hz
  simp only [World.size_alloc] at hz
  exact h.trans (hk.mono hz)
theorem v3_done {w w' : World} {a0 a1 b0 b1 c0 c1 : Value} (hb : Below (w.heap.size + 3) (v3 w a0 a1 b0 b1 c0 c1) w') (u v : Value) : Below w.heap.size w ((w'.setCell ⟨w.heap.size + 1, 0, none⟩ u).setCell ⟨w.heap.size + 1, 1, none⟩ v) :=
  (((three_new _ _ _ _).trans (hb.mono (by omega))).setCell (by simp) _).setCell (by simp) _
set_option maxHeartbeats 800000 in
theorem sizeOf_any (h l : Int) (w : World) (h0 : -9223372036854775808 ≤ h) (h1 : h < 9223372036854775808) (l0 : 0 ≤ l) (l1 : l < 18446744073709551616) : Calls Tryz.prog 145 #[.agg #[.int .i64 h, .int .u64 l]] w fun e w' => e = .returned (sv (absW (h * 18446744073709551616 + l))) ∧ Below w.heap.size w w' := by
  obtain ⟨u, hu⟩ : ∃ u, IntKind.u64.wrap h = u := ⟨_, rfl⟩
  have hu' := hu
  rw [IntKind.wrap_u64] at hu'
  have K := below_any h l
  by_cases hn : h < 0
  · rw [decide_eq_true hn] at K
    have T := fun w => sturned_any u l w (by omega) (by omega) l0 l1
    rw [show negS (u * 18446744073709551616 + l) = absW (h * 18446744073709551616 + l) by unfold negS absW; rw [if_neg (by omega), if_pos (by omega)]; omega] at T
    unfold sv at T ⊢
    generalize hiW (absW (h * 18446744073709551616 + l)) = P at T ⊢
    generalize loW (absW (h * 18446744073709551616 + l)) = Q at T ⊢
    clear hn hu'
    go_enter Tryz.func145, Tryz.ntmps145
    go_wp2_with fail
    refine (K _).mono ?_
    rintro e w1 ⟨rfl, b1⟩
    have hA := v3_next (w := w) (a0 := .int .i64 h) (a1 := .int .u64 l) (b0 := .int .u64 0) (b1 := .int .u64 0) (c0 := .int .u64 u) (c1 := .int .u64 l) (Below.refl _ _) b1
    have hR := v3_res hA
    clear b1 K
    go_wp2_with fail
    refine (T _).mono ?_
    rintro e w2 ⟨rfl, b2⟩
    replace hA := v3_next hA b2
    clear hR
    have hR := v3_res hA
    have hr1 := fun u => (set_two hR.1 hR.2.1 u u).1
    have hr2 := fun u v => (set_two hR.1 hR.2.1 u v).2
    have HB := Lib.hid (v3_done hA)
    clear b2 T
    go_wp2_with fail
    refine bodyPost_ret (v := .agg #[.int .u64 P, .int .u64 Q]) (by simp [results, Tryz.results145, go_sem, hr1, hr2]) rfl ⟨rfl, HB.out _ _⟩
  · rw [decide_eq_false hn] at K
    have e : u * 18446744073709551616 + l = absW (h * 18446744073709551616 + l) := by unfold absW; rw [if_neg (by omega)]; omega
    have hw := w_of e l0 l1
    unfold sv
    rw [hw.1, hw.2]
    clear hn hu' hw e
    go_enter Tryz.func145, Tryz.ntmps145
    go_wp2_with fail
    refine (K _).mono ?_
    rintro e w1 ⟨rfl, b1⟩
    have hA := v3_next (w := w) (a0 := .int .i64 h) (a1 := .int .u64 l) (b0 := .int .u64 0) (b1 := .int .u64 0) (c0 := .int .u64 u) (c1 := .int .u64 l) (Below.refl _ _) b1
    have hR := v3_res hA
    have hr1 := fun u => (set_two hR.1 hR.2.1 u u).1
    have hr2 := fun u v => (set_two hR.1 hR.2.1 u v).2
    have HB := Lib.hid (v3_done hA)
    clear b1 K
    go_wp2_with fail
    refine bodyPost_ret (v := .agg #[.int .u64 u, .int .u64 l]) (by simp [results, Tryz.results145, go_sem, hr1, hr2]) rfl ⟨rfl, HB.out _ _⟩
end Go.Proofs.YtbijpjoljljlpaaGreatDoor.Wide
