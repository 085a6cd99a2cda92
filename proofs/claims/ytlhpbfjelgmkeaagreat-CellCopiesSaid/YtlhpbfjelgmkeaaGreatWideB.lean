/- Contracts of Add on both sides. Conditions: none. -/
import Derived.Test.YtlhpbfjelgmkeaaGreatWideA
import Derived.Shelf.Spec.BitsCarry
set_option maxRecDepth 100000
namespace Go.Proofs.YtlhpbfjelgmkeaaGreat.Wide
open Go.RowKit

theorem add64_run {x y c s d : Int} (hx : 0 ≤ x) (hy : 0 ≤ y) (hc : c = 0 ∨ c = 1) (e : x + y + c = d * 18446744073709551616 + s) (s0 : 0 ≤ s) (s1 : s < 18446744073709551616) (w : World) :
    (callFunc 199 #[.int .u64 x, .int .u64 y, .int .u64 c]).run Tryz.prog w = .ok (.value (.tuple #[.int .u64 s, .int .u64 d])) w := by
  obtain ⟨x, rfl⟩ := Int.eq_ofNat_of_zero_le hx
  obtain ⟨y, rfl⟩ := Int.eq_ofNat_of_zero_le hy
  obtain ⟨c, rfl⟩ : ∃ k : Nat, c = (k : Int) := ⟨c.toNat, by omega⟩
  rw [run_callFunc_extern Tryz.func199 (by kernel_rfl) (by kernel_rfl) (by kernel_rfl) (e := add64Entry) (by kernel_rfl), run_add64 x y c (by omega) (by omega) (by omega) (by omega)]
  simp only [Result.andThen]
  rw [show ((x : Int) + y + c) % 18446744073709551616 = s by omega, show ((x : Int) + y + c) / 18446744073709551616 = d by omega]
theorem sub64_run {x y b s d : Int} (hx : 0 ≤ x) (hx1 : x < 18446744073709551616) (hy : 0 ≤ y) (hy1 : y < 18446744073709551616) (hb : b = 0 ∨ b = 1) (e : x - y - b = s - d * 18446744073709551616) (s0 : 0 ≤ s) (s1 : s < 18446744073709551616) (w : World) :
    (callFunc 363 #[.int .u64 x, .int .u64 y, .int .u64 b]).run Tryz.prog w = .ok (.value (.tuple #[.int .u64 s, .int .u64 d])) w := by
  obtain ⟨x, rfl⟩ := Int.eq_ofNat_of_zero_le hx
  obtain ⟨y, rfl⟩ := Int.eq_ofNat_of_zero_le hy
  obtain ⟨b, rfl⟩ : ∃ k : Nat, b = (k : Int) := ⟨b.toNat, by omega⟩
  have e1 : (((x + 18446744073709551616 - y - b) % 18446744073709551616 : Nat) : Int) = s := by omega
  have e2 : ((if x < y + b then 1 else 0 : Nat) : Int) = d := by split <;> omega
  rw [run_callFunc_extern Tryz.func363 (by kernel_rfl) (by kernel_rfl) (by kernel_rfl) (e := sub64Entry) (by kernel_rfl), run_sub64 x y b (by omega)]
  simp only [Result.andThen]
  rw [e1, e2]

theorem bne_fact {b b' : Bool} (h : b ≠ b') : (!b == b') = true ∧ (!b' == b) = true ∧ (b == b') = false := by
  cases b <;> cases b' <;> simp_all
/-- four new boxes -/
def w4 (w : World) (a0 a1 b0 b1 c0 c1 d0 d1 : Value) : World := (((w.alloc (.cells #[a0, a1] 45)).alloc (.cells #[b0, b1] 45)).alloc (.cells #[c0, c1] 45)).alloc (.cells #[d0, d1] 45)
theorem w4_size (w : World) (a0 a1 b0 b1 c0 c1 d0 d1 : Value) : (w4 w a0 a1 b0 b1 c0 c1 d0 d1).heap.size = w.heap.size + 4 := by unfold w4; simp
theorem w4_below (w : World) (a0 a1 b0 b1 c0 c1 d0 d1 : Value) : Below w.heap.size w (w4 w a0 a1 b0 b1 c0 c1 d0 d1) :=
  ((((Below.refl _ _).alloc (Nat.le_refl _) _).alloc (by simp) _).alloc (by simp; omega) _).alloc (by simp; omega) _
theorem w4_all {w w' : World} {a0 a1 b0 b1 c0 c1 d0 d1 : Value} (hb : Below (w.heap.size + 4) (w4 w a0 a1 b0 b1 c0 c1 d0 d1) w') :
    w'.cell? ⟨w.heap.size, 0, none⟩ = some a0 ∧ w'.cell? ⟨w.heap.size, 1, none⟩ = some a1 ∧ w'.cell? ⟨w.heap.size + 1, 0, none⟩ = some b0 ∧ w'.cell? ⟨w.heap.size + 1, 1, none⟩ = some b1 ∧ w'.cell? ⟨w.heap.size + 1 + 1 + 1, 0, none⟩ = some d0 ∧ w'.cell? ⟨w.heap.size + 1 + 1 + 1, 1, none⟩ = some d1 ∧ Below (w.heap.size + 4) (w4 w a0 a1 b0 b1 c0 c1 d0 d1) w' := by
  refine ⟨?_, ?_, ?_, ?_, ?_, ?_, hb⟩
  · rw [hb.cell (p := ⟨w.heap.size, 0, none⟩) (by simp)]; unfold w4; go_simp
  · rw [hb.cell (p := ⟨w.heap.size, 1, none⟩) (by simp)]; unfold w4; go_simp
  · rw [hb.cell (p := ⟨w.heap.size + 1, 0, none⟩) (by simp)]; unfold w4; go_simp
  · rw [hb.cell (p := ⟨w.heap.size + 1, 1, none⟩) (by simp)]; unfold w4; go_simp
  · rw [hb.cell (p := ⟨w.heap.size + 1 + 1 + 1, 0, none⟩) (by simp)]; unfold w4; go_simp
  · rw [hb.cell (p := ⟨w.heap.size + 1 + 1 + 1, 1, none⟩) (by simp)]; unfold w4; go_simp
theorem w4_res {w w' : World} {a0 a1 b0 b1 c0 c1 d0 d1 : Value} (hb : Below (w.heap.size + 4) (w4 w a0 a1 b0 b1 c0 c1 d0 d1) w') :
    w'.cell? ⟨w.heap.size + 1 + 1, 0, none⟩ = some c0 ∧ w'.cell? ⟨w.heap.size + 1 + 1, 1, none⟩ = some c1 ∧ w'.frozen? ⟨w.heap.size + 1 + 1, 0, none⟩ = false ∧ w'.frozen? ⟨w.heap.size + 1 + 1, 1, none⟩ = false := by
  refine ⟨?_, ?_, ?_, ?_⟩
  · rw [hb.cell (p := ⟨w.heap.size + 1 + 1, 0, none⟩) (by simp)]; unfold w4; go_simp
  · rw [hb.cell (p := ⟨w.heap.size + 1 + 1, 1, none⟩) (by simp)]; unfold w4; go_simp
  · rw [hb.frozen (p := ⟨w.heap.size + 1 + 1, 0, none⟩) (by simp)]; unfold w4; go_simp
  · rw [hb.frozen (p := ⟨w.heap.size + 1 + 1, 1, none⟩) (by simp)]; unfold w4; go_simp
theorem w4_start (w : World) (a0 a1 b0 b1 c0 c1 d0 d1 : Value) : Below (w.heap.size + 4) (w4 w a0 a1 b0 b1 c0 c1 d0 d1) (w4 w a0 a1 b0 b1 c0 c1 d0 d1).drew := (Below.refl _ _).drew
theorem w4_keep {w w' w1 : World} {a0 a1 b0 b1 c0 c1 d0 d1 : Value} (hk : Below w'.heap.size w' w1)
    (h : w'.cell? ⟨w.heap.size, 0, none⟩ = some a0 ∧ w'.cell? ⟨w.heap.size, 1, none⟩ = some a1 ∧ w'.cell? ⟨w.heap.size + 1, 0, none⟩ = some b0 ∧ w'.cell? ⟨w.heap.size + 1, 1, none⟩ = some b1 ∧ w'.cell? ⟨w.heap.size + 1 + 1 + 1, 0, none⟩ = some d0 ∧ w'.cell? ⟨w.heap.size + 1 + 1 + 1, 1, none⟩ = some d1 ∧ Below (w.heap.size + 4) (w4 w a0 a1 b0 b1 c0 c1 d0 d1) w') :
    w1.cell? ⟨w.heap.size, 0, none⟩ = some a0 ∧ w1.cell? ⟨w.heap.size, 1, none⟩ = some a1 ∧ w1.cell? ⟨w.heap.size + 1, 0, none⟩ = some b0 ∧ w1.cell? ⟨w.heap.size + 1, 1, none⟩ = some b1 ∧ w1.cell? ⟨w.heap.size + 1 + 1 + 1, 0, none⟩ = some d0 ∧ w1.cell? ⟨w.heap.size + 1 + 1 + 1, 1, none⟩ = some d1 ∧ Below (w.heap.size + 4) (w4 w a0 a1 b0 b1 c0 c1 d0 d1) w1 := by
  have hb := h.2.2.2.2.2.2
  have hz := hb.size
  rw [w4_size] at hz
  exact w4_all (hb.trans (hk.mono hz))

--WALKS
theorem set_two {w : World} {n : Nat} {x y : Value} (h : w.cell? ⟨n, 0, none⟩ = some x) (h' : w.cell? ⟨n, 1, none⟩ = some y) (u v : Value) : (w.setCell ⟨n, 0, none⟩ u).cell? ⟨n, 0, none⟩ = some u ∧ ((w.setCell ⟨n, 0, none⟩ u).setCell ⟨n, 1, none⟩ v).cell? ⟨n, 1, none⟩ = some v :=
  ⟨World.cell?_setCell_same _ _ _ h, World.cell?_setCell_same _ _ _ (u := y) (by rw [World.cell?_setCell_other _ _ _ _ (by simp)]; exact h')⟩
theorem w4_done {w w' : World} {a0 a1 b0 b1 c0 c1 d0 d1 : Value} (hb : Below (w.heap.size + 4) (w4 w a0 a1 b0 b1 c0 c1 d0 d1) w') (u v : Value) : Below w.heap.size w ((w'.setCell ⟨w.heap.size + 1 + 1, 0, none⟩ u).setCell ⟨w.heap.size + 1 + 1, 1, none⟩ v) :=
  (((w4_below w a0 a1 b0 b1 c0 c1 d0 d1).trans (hb.mono (by omega))).setCell (by simp; omega) _).setCell (by simp; omega) _
set_option maxHeartbeats 1600000 in
theorem add_ok1 {h l h' l' u u' S C T D G : Int} (w : World) (b : Bool)
    (hu : IntKind.u64.wrap h = u) (hu' : IntKind.u64.wrap h' = u') (hG : IntKind.i64.wrap T = G)
    (c1 : ∀ w, (callFunc 199 #[.int .u64 l, .int .u64 l', .int .u64 0]).run Tryz.prog w = .ok (.value (.tuple #[.int .u64 S, .int .u64 C])) w)
    (c2 : ∀ w, (callFunc 199 #[.int .u64 u, .int .u64 u', .int .u64 C]).run Tryz.prog w = .ok (.value (.tuple #[.int .u64 T, .int .u64 D])) w)
    (KB : ∀ (x y : Int) (v : Bool), (x = h ∧ y = l ∧ v = b) ∨ (x = h' ∧ y = l' ∧ v = b) ∨ (x = G ∧ y = S ∧ v = b) → ∀ w, Calls Tryz.prog 200 #[.agg #[.int .i64 x, .int .u64 y]] w fun e w' => e = .returned (.bool v) ∧ Below w.heap.size w w') :
    Calls Tryz.prog 198 #[.agg #[.int .i64 h, .int .u64 l], .agg #[.int .i64 h', .int .u64 l']] w fun e w' => e = .returned (.tuple #[.agg #[.int .i64 G, .int .u64 S], .bool true]) ∧ Below w.heap.size w w' := by
  all_goals
    go_enter Tryz.func198, Tryz.ntmps198
    go_wp2_with fail
    have HS := w4_all (w4_start w (.int .i64 h) (.int .u64 l) (.int .i64 h') (.int .u64 l') (.int .i64 0) (.int .u64 0) (.int .i64 G) (.int .u64 S))
    go_region_held3 (fun w' => w'.cell? ⟨w.heap.size, 0, none⟩ = some (.int .i64 h) ∧ w'.cell? ⟨w.heap.size, 1, none⟩ = some (.int .u64 l) ∧ w'.cell? ⟨w.heap.size + 1, 0, none⟩ = some (.int .i64 h') ∧ w'.cell? ⟨w.heap.size + 1, 1, none⟩ = some (.int .u64 l') ∧ w'.cell? ⟨w.heap.size + 1 + 1 + 1, 0, none⟩ = some (.int .i64 G) ∧ w'.cell? ⟨w.heap.size + 1 + 1 + 1, 1, none⟩ = some (.int .u64 S) ∧ Below (w.heap.size + 4) (w4 w (.int .i64 h) (.int .u64 l) (.int .i64 h') (.int .u64 l') (.int .i64 0) (.int .u64 0) (.int .i64 G) (.int .u64 S)) w')
      (first | exact HS | (refine w4_keep (by assumption) (by first | assumption | exact HS)))
      (first | (go_at_call 200; refine (KB _ _ _ (by first | exact .inl ⟨rfl, rfl, rfl⟩ | exact .inr (.inl ⟨rfl, rfl, rfl⟩) | exact .inr (.inr ⟨rfl, rfl, rfl⟩)) _).mono ?_; rintro e w1 ⟨rfl, hb1⟩))
    rename_i hHeld
    clear HS KB c1 c2
    have hR := w4_res hHeld.2.2.2.2.2.2
    have hr1 := fun u => (set_two hR.1 hR.2.1 u u).1
    have hr2 := fun u v => (set_two hR.1 hR.2.1 u v).2
    have HB := Lib.hid (w4_done hHeld.2.2.2.2.2.2)
    go_wp2_with fail
    refine bodyPost_ret (v := .tuple #[.agg #[.int .i64 G, .int .u64 S], .bool true]) (by simp [results, Tryz.results198, go_sem, hr1, hr2]) rfl ⟨rfl, HB.out _ _⟩
set_option maxHeartbeats 1600000 in
theorem add_no {h l h' l' u u' S C T D G : Int} (w : World) (b b' : Bool) (t0 : (!b' == b) = true)
    (hu : IntKind.u64.wrap h = u) (hu' : IntKind.u64.wrap h' = u') (hG : IntKind.i64.wrap T = G)
    (c1 : ∀ w, (callFunc 199 #[.int .u64 l, .int .u64 l', .int .u64 0]).run Tryz.prog w = .ok (.value (.tuple #[.int .u64 S, .int .u64 C])) w)
    (c2 : ∀ w, (callFunc 199 #[.int .u64 u, .int .u64 u', .int .u64 C]).run Tryz.prog w = .ok (.value (.tuple #[.int .u64 T, .int .u64 D])) w)
    (KB : ∀ (x y : Int) (v : Bool), (x = h ∧ y = l ∧ v = b) ∨ (x = h' ∧ y = l' ∧ v = b) ∨ (x = G ∧ y = S ∧ v = b') → ∀ w, Calls Tryz.prog 200 #[.agg #[.int .i64 x, .int .u64 y]] w fun e w' => e = .returned (.bool v) ∧ Below w.heap.size w w') :
    Calls Tryz.prog 198 #[.agg #[.int .i64 h, .int .u64 l], .agg #[.int .i64 h', .int .u64 l']] w fun e w' => e = .returned (.tuple #[.agg #[.int .i64 0, .int .u64 0], .bool false]) ∧ Below w.heap.size w w' := by
  all_goals
    go_enter Tryz.func198, Tryz.ntmps198
    go_wp2_with fail
    have HS := w4_all (w4_start w (.int .i64 h) (.int .u64 l) (.int .i64 h') (.int .u64 l') (.int .i64 0) (.int .u64 0) (.int .i64 G) (.int .u64 S))
    go_region_held3 (fun w' => w'.cell? ⟨w.heap.size, 0, none⟩ = some (.int .i64 h) ∧ w'.cell? ⟨w.heap.size, 1, none⟩ = some (.int .u64 l) ∧ w'.cell? ⟨w.heap.size + 1, 0, none⟩ = some (.int .i64 h') ∧ w'.cell? ⟨w.heap.size + 1, 1, none⟩ = some (.int .u64 l') ∧ w'.cell? ⟨w.heap.size + 1 + 1 + 1, 0, none⟩ = some (.int .i64 G) ∧ w'.cell? ⟨w.heap.size + 1 + 1 + 1, 1, none⟩ = some (.int .u64 S) ∧ Below (w.heap.size + 4) (w4 w (.int .i64 h) (.int .u64 l) (.int .i64 h') (.int .u64 l') (.int .i64 0) (.int .u64 0) (.int .i64 G) (.int .u64 S)) w')
      (first | exact HS | (refine w4_keep (by assumption) (by first | assumption | exact HS)))
      (first | (go_at_call 200; refine (KB _ _ _ (by first | exact .inl ⟨rfl, rfl, rfl⟩ | exact .inr (.inl ⟨rfl, rfl, rfl⟩) | exact .inr (.inr ⟨rfl, rfl, rfl⟩)) _).mono ?_; rintro e w1 ⟨rfl, hb1⟩))
    rename_i hHeld
    clear HS KB c1 c2
    have hR := w4_res hHeld.2.2.2.2.2.2
    have hr1 := fun u => (set_two hR.1 hR.2.1 u u).1
    have hr2 := fun u v => (set_two hR.1 hR.2.1 u v).2
    have HB := Lib.hid (w4_done hHeld.2.2.2.2.2.2)
    go_wp2_with fail
    refine bodyPost_ret (v := .tuple #[.agg #[.int .i64 0, .int .u64 0], .bool false]) (by simp [results, Tryz.results198, go_sem, hr1, hr2]) rfl ⟨rfl, HB.out _ _⟩
end Go.Proofs.YtlhpbfjelgmkeaaGreat.Wide
