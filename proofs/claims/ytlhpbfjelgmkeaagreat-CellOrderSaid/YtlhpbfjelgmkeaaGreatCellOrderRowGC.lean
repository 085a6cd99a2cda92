/- The texts WideB WideF WideG WideD, one behind the other; each one's own comment says what it holds. -/
import Derived.Test.YtlhpbfjelgmkeaaGreatCellOrderRowGB
import Derived.Shelf.Spec.BitsCarry
/- Contracts of Add on both sides. Conditions: none. -/
set_option maxRecDepth 100000
namespace Go.Proofs.YtlhpbfjelgmkeaaGreat.Wide
open Go.RowKit

theorem add64_run {x y c s d : Int} (hx : 0 ≤ x) (hy : 0 ≤ y) (hc : c = 0 ∨ c = 1) (e : x + y + c = d * 18446744073709551616 + s) (s0 : 0 ≤ s) (s1 : s < 18446744073709551616) (w : World) :
    (callFunc 199 #[.int .u64 x, .int .u64 y, .int .u64 c]).run Tryz.prog w = .ok (.value (.tuple #[.int .u64 s, .int .u64 d])) w := by
  obtain ⟨x, rfl⟩ := Int.eq_ofNat_of_zero_le hx
  obtain ⟨y, rfl⟩ := Int.eq_ofNat_of_zero_le hy
  obtain ⟨c, rfl⟩ : ∃ k : Nat, c = (k : Int) := ⟨c.toNat, by omega⟩
  rw [run_callFunc_extern Tryz.func199 (by kernel_rfl) (by kernel_rfl) (by kernel_rfl) (e := add64Entry) (by kernel_rfl), run_add64 x y c (by omega) (by omega) (by omega) (by omega)]
  simp only [Result.andThen]
  rw [show ((x : Int) + y + c) % 18446744073709551616 = s by omega, show ((x : Int) + y + c) / 18446744073709551616 = d by omega]
theorem sub64_run {x y b s d : Int} (hx : 0 ≤ x) (hx1 : x < 18446744073709551616) (hy : 0 ≤ y) (hy1 : y < 18446744073709551616) (hb : b = 0 ∨ b = 1) (e : x - y - b = s - d * 18446744073709551616) (s0 : 0 ≤ s) (s1 : s < 18446744073709551616) (w : World) :
    (callFunc 363 #[.int .u64 x, .int .u64 y, .int .u64 b]).run Tryz.prog w = .ok (.value (.tuple #[.int .u64 s, .int .u64 d])) w := by
  obtain ⟨x, rfl⟩ := Int.eq_ofNat_of_zero_le hx
  obtain ⟨y, rfl⟩ := Int.eq_ofNat_of_zero_le hy
  obtain ⟨b, rfl⟩ : ∃ k : Nat, b = (k : Int) := ⟨b.toNat, by omega⟩
  have e1 : (((x + 18446744073709551616 - y - b) % 18446744073709551616 : Nat) : Int) = s := by omega
  have e2 : ((if x < y + b then 1 else 0 : Nat) : Int) = d := by split <;> omega
  rw [run_callFunc_extern Tryz.func363 (by kernel_rfl) (by kernel_rfl) (by kernel_rfl) (e := sub64Entry) (by kernel_rfl), run_sub64 x y b (by omega)]
  simp only [Result.andThen]
  rw [e1, e2]

theorem bne_fact {b b' : Bool} (h : b ≠ b') : (!b == b') = true ∧ (!b' == b) = true ∧ (b == b') = false := by
  cases b <;> cases b' <;> simp_all
/-- four new boxes -/
def w4 (w : World) (a0 a1 b0 b1 c0 c1 d0 d1 : Value) : World := (((w.alloc (.cells #[a0, a1] 45)).alloc (.cells #[b0, b1] 45)).alloc (.cells #[c0, c1] 45)).alloc (.cells #[d0, d1] 45)
theorem w4_size (w : World) (a0 a1 b0 b1 c0 c1 d0 d1 : Value) : (w4 w a0 a1 b0 b1 c0 c1 d0 d1).heap.size = w.heap.size + 4 := by unfold w4; simp
theorem w4_below (w : World) (a0 a1 b0 b1 c0 c1 d0 d1 : Value) : Below w.heap.size w (w4 w a0 a1 b0 b1 c0 c1 d0 d1) :=
  ((((Below.refl _ _).alloc (Nat.le_refl _) _).alloc (by simp) _).alloc (by simp; omega) _).alloc (by simp; omega) _
theorem w4_all {w w' : World} {a0 a1 b0 b1 c0 c1 d0 d1 : Value} (hb : Below (w.heap.size + 4) (w4 w a0 a1 b0 b1 c0 c1 d0 d1) w') :
    w'.cell? ⟨w.heap.size, 0, none⟩ = some a0 ∧ w'.cell? ⟨w.heap.size, 1, none⟩ = some a1 ∧ w'.cell? ⟨w.heap.size + 1, 0, none⟩ = some b0 ∧ w'.cell? ⟨w.heap.size + 1, 1, none⟩ = some b1 ∧ w'.cell? ⟨w.heap.size + 1 + 1 + 1, 0, none⟩ = some d0 ∧ w'.cell? ⟨w.heap.size + 1 + 1 + 1, 1, none⟩ = some d1 ∧ Below (w.heap.size + 4) (w4 w a0 a1 b0 b1 c0 c1 d0 d1) w' := by
  refine ⟨?_, ?_, ?_, ?_, ?_, ?_, hb⟩
  · rw [hb.cell (p := ⟨w.heap.size, 0, none⟩) (by simp)]; unfold w4; go_simp
  · rw [hb.cell (p := ⟨w.heap.size, 1, none⟩) (by simp)]; unfold w4; go_simp
  · rw [hb.cell (p := ⟨w.heap.size + 1, 0, none⟩) (by simp)]; unfold w4; go_simp
  · rw [hb.cell (p := ⟨w.heap.size + 1, 1, none⟩) (by simp)]; unfold w4; go_simp
  · rw [hb.cell (p := ⟨w.heap.size + 1 + 1 + 1, 0, none⟩) (by simp)]; unfold w4; go_simp
  · rw [hb.cell (p := ⟨w.heap.size + 1 + 1 + 1, 1, none⟩) (by simp)]; unfold w4; go_simp
theorem w4_res {w w' : World} {a0 a1 b0 b1 c0 c1 d0 d1 : Value} (hb : Below (w.heap.size + 4) (w4 w a0 a1 b0 b1 c0 c1 d0 d1) w') :
    w'.cell? ⟨w.heap.size + 1 + 1, 0, none⟩ = some c0 ∧ w'.cell? ⟨w.heap.size + 1 + 1, 1, none⟩ = some c1 ∧ w'.frozen? ⟨w.heap.size + 1 + 1, 0, none⟩ = false ∧ w'.frozen? ⟨w.heap.size + 1 + 1, 1, none⟩ = false := by
  refine ⟨?_, ?_, ?_, ?_⟩
  · rw [hb.cell (p := ⟨w.heap.size + 1 + 1, 0, none⟩) (by simp)]; unfold w4; go_simp
  · rw [hb.cell (p := ⟨w.heap.size + 1 + 1, 1, none⟩) (by simp)]; unfold w4; go_simp
  · rw [hb.frozen (p := ⟨w.heap.size + 1 + 1, 0, none⟩) (by simp)]; unfold w4; go_simp
  · rw [hb.frozen (p := ⟨w.heap.size + 1 + 1, 1, none⟩) (by simp)]; unfold w4; go_simp
theorem w4_start (w : World) (a0 a1 b0 b1 c0 c1 d0 d1 : Value) : Below (w.heap.size + 4) (w4 w a0 a1 b0 b1 c0 c1 d0 d1) (w4 w a0 a1 b0 b1 c0 c1 d0 d1).drew := (Below.refl _ _).drew
theorem w4_keep {w w' w1 : World} {a0 a1 b0 b1 c0 c1 d0 d1 : Value} (hk : Below w'.heap.size w' w1)
    (h : w'.cell? ⟨w.heap.size, 0, none⟩ = some a0 ∧ w'.cell? ⟨w.heap.size, 1, none⟩ = some a1 ∧ w'.cell? ⟨w.heap.size + 1, 0, none⟩ = some b0 ∧ w'.cell? ⟨w.heap.size + 1, 1, none⟩ = some b1 ∧ w'.cell? ⟨w.heap.size + 1 + 1 + 1, 0, none⟩ = some d0 ∧ w'.cell? ⟨w.heap.size + 1 + 1 + 1, 1, none⟩ = some d1 ∧ Below (w.heap.size + 4) (w4 w a0 a1 b0 b1 c0 c1 d0 d1) w') :
    w1.cell? ⟨w.heap.size, 0, none⟩ = some a0 ∧ w1.cell? ⟨w.heap.size, 1, none⟩ = some a1 ∧ w1.cell? ⟨w.heap.size + 1, 0, none⟩ = some b0 ∧ w1.cell? ⟨w.heap.size + 1, 1, none⟩ = some b1 ∧ w1.cell? ⟨w.heap.size + 1 + 1 + 1, 0, none⟩ = some d0 ∧ w1.cell? ⟨w.heap.size + 1 + 1 + 1, 1, none⟩ = some d1 ∧ Below (w.heap.size + 4) (w4 w a0 a1 b0 b1 c0 c1 d0 d1) w1 := by
  have hb := h.2.2.2.2.2.2
  have hz := hb.size
  rw [w4_size] at hz
  exact w4_all (hb.trans (hk.mono hz))

--WALKS
theorem set_two {w : World} {n : Nat} {x y : Value} (h : w.cell? ⟨n, 0, none⟩ = some x) (h' : w.cell? ⟨n, 1, none⟩ = some y) (u v : Value) : (w.setCell ⟨n, 0, none⟩ u).cell? ⟨n, 0, none⟩ = some u ∧ ((w.setCell ⟨n, 0, none⟩ u).setCell ⟨n, 1, none⟩ v).cell? ⟨n, 1, none⟩ = some v :=
  ⟨World.cell?_setCell_same _ _ _ h, World.cell?_setCell_same _ _ _ (u := y) (by rw [World.cell?_setCell_other _ _ _ _ (by simp)]; exact h')⟩
theorem w4_done {w w' : World} {a0 a1 b0 b1 c0 c1 d0 d1 : Value} (hb : Below (w.heap.size + 4) (w4 w a0 a1 b0 b1 c0 c1 d0 d1) w') (u v : Value) : Below w.heap.size w ((w'.setCell ⟨w.heap.size + 1 + 1, 0, none⟩ u).setCell ⟨w.heap.size + 1 + 1, 1, none⟩ v) :=
  (((w4_below w a0 a1 b0 b1 c0 c1 d0 d1).trans (hb.mono (by omega))).setCell (by simp; omega) _).setCell (by simp; omega) _
set_option maxHeartbeats 1600000 in
theorem add_ok1 {h l h' l' u u' S C T D G : Int} (w : World) (b : Bool)
    (hu : IntKind.u64.wrap h = u) (hu' : IntKind.u64.wrap h' = u') (hG : IntKind.i64.wrap T = G)
    (c1 : ∀ w, (callFunc 199 #[.int .u64 l, .int .u64 l', .int .u64 0]).run Tryz.prog w = .ok (.value (.tuple #[.int .u64 S, .int .u64 C])) w)
    (c2 : ∀ w, (callFunc 199 #[.int .u64 u, .int .u64 u', .int .u64 C]).run Tryz.prog w = .ok (.value (.tuple #[.int .u64 T, .int .u64 D])) w)
    (KB : ∀ (x y : Int) (v : Bool), (x = h ∧ y = l ∧ v = b) ∨ (x = h' ∧ y = l' ∧ v = b) ∨ (x = G ∧ y = S ∧ v = b) → ∀ w, Calls Tryz.prog 200 #[.agg #[.int .i64 x, .int .u64 y]] w fun e w' => e = .returned (.bool v) ∧ Below w.heap.size w w') :
    Calls Tryz.prog 198 #[.agg #[.int .i64 h, .int .u64 l], .agg #[.int .i64 h', .int .u64 l']] w fun e w' => e = .returned (.tuple #[.agg #[.int .i64 G, .int .u64 S], .bool true]) ∧ Below w.heap.size w w' := by
  all_goals
    go_enter Tryz.func198, Tryz.ntmps198
    go_wp2_with fail
    have HS := w4_all (w4_start w (.int .i64 h) (.int .u64 l) (.int .i64 h') (.int .u64 l') (.int .i64 0) (.int .u64 0) (.int .i64 G) (.int .u64 S))
    go_region_held3 (fun w' => w'.cell? ⟨w.heap.size, 0, none⟩ = some (.int .i64 h) ∧ w'.cell? ⟨w.heap.size, 1, none⟩ = some (.int .u64 l) ∧ w'.cell? ⟨w.heap.size + 1, 0, none⟩ = some (.int .i64 h') ∧ w'.cell? ⟨w.heap.size + 1, 1, none⟩ = some (.int .u64 l') ∧ w'.cell? ⟨w.heap.size + 1 + 1 + 1, 0, none⟩ = some (.int .i64 G) ∧ w'.cell? ⟨w.heap.size + 1 + 1 + 1, 1, none⟩ = some (.int .u64 S) ∧ Below (w.heap.size + 4) (w4 w (.int .i64 h) (.int .u64 l) (.int .i64 h') (.int .u64 l') (.int .i64 0) (.int .u64 0) (.int .i64 G) (.int .u64 S)) w')
      (first | exact HS | (refine w4_keep (by assumption) (by first | assumption | exact HS)))
      (first | (go_at_call 200; refine (KB _ _ _ (by first | exact .inl ⟨rfl, rfl, rfl⟩ | exact .inr (.inl ⟨rfl, rfl, rfl⟩) | exact .inr (.inr ⟨rfl, rfl, rfl⟩)) _).mono ?_; rintro e w1 ⟨rfl, hb1⟩))
    rename_i hHeld
    clear HS KB c1 c2
    have hR := w4_res hHeld.2.2.2.2.2.2
    have hr1 := fun u => (set_two hR.1 hR.2.1 u u).1
    have hr2 := fun u v => (set_two hR.1 hR.2.1 u v).2
    have HB := Lib.hid (w4_done hHeld.2.2.2.2.2.2)
    go_wp2_with fail
    refine bodyPost_ret (v := .tuple #[.agg #[.int .i64 G, .int .u64 S], .bool true]) (by simp [results, Tryz.results198, go_sem, hr1, hr2]) rfl ⟨rfl, HB.out _ _⟩
set_option maxHeartbeats 1600000 in
theorem add_no {h l h' l' u u' S C T D G : Int} (w : World) (b b' : Bool) (t0 : (!b' == b) = true)
    (hu : IntKind.u64.wrap h = u) (hu' : IntKind.u64.wrap h' = u') (hG : IntKind.i64.wrap T = G)
    (c1 : ∀ w, (callFunc 199 #[.int .u64 l, .int .u64 l', .int .u64 0]).run Tryz.prog w = .ok (.value (.tuple #[.int .u64 S, .int .u64 C])) w)
    (c2 : ∀ w, (callFunc 199 #[.int .u64 u, .int .u64 u', .int .u64 C]).run Tryz.prog w = .ok (.value (.tuple #[.int .u64 T, .int .u64 D])) w)
    (KB : ∀ (x y : Int) (v : Bool), (x = h ∧ y = l ∧ v = b) ∨ (x = h' ∧ y = l' ∧ v = b) ∨ (x = G ∧ y = S ∧ v = b') → ∀ w, Calls Tryz.prog 200 #[.agg #[.int .i64 x, .int .u64 y]] w fun e w' => e = .returned (.bool v) ∧ Below w.heap.size w w') :
    Calls Tryz.prog 198 #[.agg #[.int .i64 h, .int .u64 l], .agg #[.int .i64 h', .int .u64 l']] w fun e w' => e = .returned (.tuple #[.agg #[.int .i64 0, .int .u64 0], .bool false]) ∧ Below w.heap.size w w' := by
  all_goals
    go_enter Tryz.func198, Tryz.ntmps198
    go_wp2_with fail
    have HS := w4_all (w4_start w (.int .i64 h) (.int .u64 l) (.int .i64 h') (.int .u64 l') (.int .i64 0) (.int .u64 0) (.int .i64 G) (.int .u64 S))
    go_region_held3 (fun w' => w'.cell? ⟨w.heap.size, 0, none⟩ = some (.int .i64 h) ∧ w'.cell? ⟨w.heap.size, 1, none⟩ = some (.int .u64 l) ∧ w'.cell? ⟨w.heap.size + 1, 0, none⟩ = some (.int .i64 h') ∧ w'.cell? ⟨w.heap.size + 1, 1, none⟩ = some (.int .u64 l') ∧ w'.cell? ⟨w.heap.size + 1 + 1 + 1, 0, none⟩ = some (.int .i64 G) ∧ w'.cell? ⟨w.heap.size + 1 + 1 + 1, 1, none⟩ = some (.int .u64 S) ∧ Below (w.heap.size + 4) (w4 w (.int .i64 h) (.int .u64 l) (.int .i64 h') (.int .u64 l') (.int .i64 0) (.int .u64 0) (.int .i64 G) (.int .u64 S)) w')
      (first | exact HS | (refine w4_keep (by assumption) (by first | assumption | exact HS)))
      (first | (go_at_call 200; refine (KB _ _ _ (by first | exact .inl ⟨rfl, rfl, rfl⟩ | exact .inr (.inl ⟨rfl, rfl, rfl⟩) | exact .inr (.inr ⟨rfl, rfl, rfl⟩)) _).mono ?_; rintro e w1 ⟨rfl, hb1⟩))
    rename_i hHeld
    clear HS KB c1 c2
    have hR := w4_res hHeld.2.2.2.2.2.2
    have hr1 := fun u => (set_two hR.1 hR.2.1 u u).1
    have hr2 := fun u v => (set_two hR.1 hR.2.1 u v).2
    have HB := Lib.hid (w4_done hHeld.2.2.2.2.2.2)
    go_wp2_with fail
    refine bodyPost_ret (v := .tuple #[.agg #[.int .i64 0, .int .u64 0], .bool false]) (by simp [results, Tryz.results198, go_sem, hr1, hr2]) rfl ⟨rfl, HB.out _ _⟩
end Go.Proofs.YtlhpbfjelgmkeaaGreat.Wide
/- Contracts of Add and Sub where the signs need no second look. Conditions: none. -/
set_option maxRecDepth 100000
namespace Go.Proofs.YtlhpbfjelgmkeaaGreat.Wide
open Go.RowKit
set_option maxHeartbeats 1600000 in
theorem add_ok2 {h l h' l' u u' S C T D G : Int} (w : World) (b b' : Bool) (t0 : (b == b') = false)
    (hu : IntKind.u64.wrap h = u) (hu' : IntKind.u64.wrap h' = u') (hG : IntKind.i64.wrap T = G)
    (c1 : ∀ w, (callFunc 199 #[.int .u64 l, .int .u64 l', .int .u64 0]).run Tryz.prog w = .ok (.value (.tuple #[.int .u64 S, .int .u64 C])) w)
    (c2 : ∀ w, (callFunc 199 #[.int .u64 u, .int .u64 u', .int .u64 C]).run Tryz.prog w = .ok (.value (.tuple #[.int .u64 T, .int .u64 D])) w)
    (KB : ∀ (x y : Int) (v : Bool), (x = h ∧ y = l ∧ v = b) ∨ (x = h' ∧ y = l' ∧ v = b') → ∀ w, Calls Tryz.prog 200 #[.agg #[.int .i64 x, .int .u64 y]] w fun e w' => e = .returned (.bool v) ∧ Below w.heap.size w w') :
    Calls Tryz.prog 198 #[.agg #[.int .i64 h, .int .u64 l], .agg #[.int .i64 h', .int .u64 l']] w fun e w' => e = .returned (.tuple #[.agg #[.int .i64 G, .int .u64 S], .bool true]) ∧ Below w.heap.size w w' := by
  all_goals
    go_enter Tryz.func198, Tryz.ntmps198
    go_wp2_with fail
    have HS := w4_all (w4_start w (.int .i64 h) (.int .u64 l) (.int .i64 h') (.int .u64 l') (.int .i64 0) (.int .u64 0) (.int .i64 G) (.int .u64 S))
    go_region_with (first | (go_at_call 200; refine (KB _ _ _ (by first | exact .inl ⟨rfl, rfl, rfl⟩ | exact .inr ⟨rfl, rfl, rfl⟩) _).mono ?_; rintro e w1 ⟨rfl, hb1⟩; first | (have hHeld' := w4_keep hb1 hHeld) | (have hHeld := w4_keep hb1 HS)))
    all_goals
      clear HS KB c1 c2
      have hR := w4_res hHeld'.2.2.2.2.2.2
      have hr1 := fun u => (set_two hR.1 hR.2.1 u u).1
      have hr2 := fun u v => (set_two hR.1 hR.2.1 u v).2
      have HB := Lib.hid (w4_done hHeld'.2.2.2.2.2.2)
      go_wp2_with fail
      refine bodyPost_ret (v := .tuple #[.agg #[.int .i64 G, .int .u64 S], .bool true]) (by simp [results, Tryz.results198, go_sem, hr1, hr2]) rfl ⟨rfl, HB.out _ _⟩
end Go.Proofs.YtlhpbfjelgmkeaaGreat.Wide
/- Contracts of Add and Sub where the signs need no second look. Conditions: none. -/
set_option maxRecDepth 100000
namespace Go.Proofs.YtlhpbfjelgmkeaaGreat.Wide
open Go.RowKit
end Go.Proofs.YtlhpbfjelgmkeaaGreat.Wide
/- Contracts of Add and Sub, whole. Conditions: none. -/
set_option maxRecDepth 100000
namespace Go.Proofs.YtlhpbfjelgmkeaaGreat.Wide
open Go.RowKit

theorem dec_ne {p q : Prop} [Decidable p] [Decidable q] (h : ¬(p ↔ q)) : decide p ≠ decide q := fun e => h (decide_eq_decide.1 e)
theorem kb2 {h l h' l' : Int} {b1 b2 : Bool} (K1 : ∀ w, Calls Tryz.prog 200 #[.agg #[.int .i64 h, .int .u64 l]] w fun e w' => e = .returned (.bool b1) ∧ Below w.heap.size w w') (K2 : ∀ w, Calls Tryz.prog 200 #[.agg #[.int .i64 h', .int .u64 l']] w fun e w' => e = .returned (.bool b2) ∧ Below w.heap.size w w') (x y : Int) (v : Bool) (hc : (x = h ∧ y = l ∧ v = b1) ∨ (x = h' ∧ y = l' ∧ v = b2)) (w : World) : Calls Tryz.prog 200 #[.agg #[.int .i64 x, .int .u64 y]] w fun e w' => e = .returned (.bool v) ∧ Below w.heap.size w w' := by
  rcases hc with ⟨rfl, rfl, rfl⟩ | ⟨rfl, rfl, rfl⟩
  · exact K1 w
  · exact K2 w
theorem kb3 {h l h' l' g s : Int} {b1 b2 b3 : Bool} (K1 : ∀ w, Calls Tryz.prog 200 #[.agg #[.int .i64 h, .int .u64 l]] w fun e w' => e = .returned (.bool b1) ∧ Below w.heap.size w w') (K2 : ∀ w, Calls Tryz.prog 200 #[.agg #[.int .i64 h', .int .u64 l']] w fun e w' => e = .returned (.bool b2) ∧ Below w.heap.size w w') (K3 : ∀ w, Calls Tryz.prog 200 #[.agg #[.int .i64 g, .int .u64 s]] w fun e w' => e = .returned (.bool b3) ∧ Below w.heap.size w w') (x y : Int) (v : Bool) (hc : (x = h ∧ y = l ∧ v = b1) ∨ (x = h' ∧ y = l' ∧ v = b2) ∨ (x = g ∧ y = s ∧ v = b3)) (w : World) : Calls Tryz.prog 200 #[.agg #[.int .i64 x, .int .u64 y]] w fun e w' => e = .returned (.bool v) ∧ Below w.heap.size w w' := by
  rcases hc with ⟨rfl, rfl, rfl⟩ | ⟨rfl, rfl, rfl⟩ | ⟨rfl, rfl, rfl⟩
  · exact K1 w
  · exact K2 w
  · exact K3 w
theorem add_any (h l h' l' : Int) (w : World) (h0 : -9223372036854775808 ≤ h) (h1 : h < 9223372036854775808) (l0 : 0 ≤ l) (l1 : l < 18446744073709551616) (k0 : -9223372036854775808 ≤ h') (k1 : h' < 9223372036854775808) (m0 : 0 ≤ l') (m1 : l' < 18446744073709551616) : Calls Tryz.prog 198 #[.agg #[.int .i64 h, .int .u64 l], .agg #[.int .i64 h', .int .u64 l']] w fun e w' => e = .returned (.tuple #[wv (ansW (h * 18446744073709551616 + l + (h' * 18446744073709551616 + l'))), .bool (fitW (h * 18446744073709551616 + l + (h' * 18446744073709551616 + l')))]) ∧ Below w.heap.size w w' := by
  obtain ⟨u, hu⟩ : ∃ u, IntKind.u64.wrap h = u := ⟨_, rfl⟩
  obtain ⟨u', hu'⟩ : ∃ u, IntKind.u64.wrap h' = u := ⟨_, rfl⟩
  have hU := hu
  have hU' := hu'
  rw [IntKind.wrap_u64] at hU hU'
  obtain ⟨S, hS⟩ : ∃ S, S = (l + l') % 18446744073709551616 := ⟨_, rfl⟩
  obtain ⟨C, hC⟩ : ∃ S, S = (l + l') / 18446744073709551616 := ⟨_, rfl⟩
  obtain ⟨T, hT⟩ : ∃ S, S = (u + u' + C) % 18446744073709551616 := ⟨_, rfl⟩
  obtain ⟨D, hD⟩ : ∃ S, S = (u + u' + C) / 18446744073709551616 := ⟨_, rfl⟩
  have c1 := fun w => add64_run (x := l) (y := l') (c := 0) (s := S) (d := C) l0 m0 (.inl rfl) (by omega) (by omega) (by omega) w
  have c2 := fun w => add64_run (x := u) (y := u') (c := C) (s := T) (d := D) (by omega) (by omega) (by omega) (by omega) (by omega) (by omega) w
  obtain ⟨G, hG⟩ : ∃ S, IntKind.i64.wrap T = S := ⟨_, rfl⟩
  have hG' := hG
  rw [IntKind.wrap_i64] at hG'
  have hm := add_math (N := h * 18446744073709551616 + l + (h' * 18446744073709551616 + l')) (D := D) h0 h1 k0 k1 hU hU' (S := S) (C := C) (l := l) (l' := l') (by omega) (by omega) (by omega) (by omega) (T := T) (by omega) (by omega) (by omega) hG' rfl
  generalize h * 18446744073709551616 + l + (h' * 18446744073709551616 + l') = N at hm ⊢
  have K1 := below_any h l
  have K2 := below_any h' l'
  have K3 := below_any G S
  by_cases hE : h < 0 ↔ h' < 0
  · rw [← decide_eq_decide.2 hE] at K2
    by_cases hF : G < 0 ↔ h < 0
    · rw [decide_eq_decide.2 hF] at K3
      rw [← tuple_yes (hm.2 (fun hx => hx.2 hF))]
      exact add_ok1 w _ hu hu' hG c1 c2 (kb3 K1 K2 K3)
    · rw [← tuple_no (hm.1 ⟨hE, hF⟩)]
      exact add_no w _ _ (bne_fact (dec_ne hF)).1 hu hu' hG c1 c2 (kb3 K1 K2 K3)
  · rw [← tuple_yes (hm.2 (fun hx => hE hx.1))]
    exact add_ok2 w _ _ (bne_fact (dec_ne hE)).2.2 hu hu' hG c1 c2 (kb2 K1 K2)
end Go.Proofs.YtlhpbfjelgmkeaaGreat.Wide
