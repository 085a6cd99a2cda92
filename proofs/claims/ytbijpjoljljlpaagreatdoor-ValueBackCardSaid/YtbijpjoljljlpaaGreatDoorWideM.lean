/- Contract of signed. Conditions: none. -/
import Derived.Test.YtbijpjoljljlpaaGreatDoorWideL
set_option maxRecDepth 100000
namespace Go.Proofs.YtbijpjoljljlpaaGreatDoor.Wide
open Go.RowKit

theorem g2_res {w w' : World} {a0 a1 c0 c1 : Value} {s t : TypeId} (hb : Below (w.heap.size + 2) ((w.alloc (.cells #[a0, a1] s)).alloc (.cells #[c0, c1] t)) w') :
    w'.cell? ⟨w.heap.size, 0, none⟩ = some a0 ∧ w'.cell? ⟨w.heap.size, 1, none⟩ = some a1 ∧ w'.cell? ⟨w.heap.size + 1, 0, none⟩ = some c0 ∧ w'.cell? ⟨w.heap.size + 1, 1, none⟩ = some c1 ∧ w'.frozen? ⟨w.heap.size + 1, 0, none⟩ = false ∧ w'.frozen? ⟨w.heap.size + 1, 1, none⟩ = false ∧ w'.frozen? ⟨w.heap.size, 0, none⟩ = false ∧ w'.frozen? ⟨w.heap.size, 1, none⟩ = false := by
  refine ⟨?_, ?_, ?_, ?_, ?_, ?_, ?_, ?_⟩
  · rw [hb.cell (p := ⟨w.heap.size, 0, none⟩) (by simp)]; go_simp
  · rw [hb.cell (p := ⟨w.heap.size, 1, none⟩) (by simp)]; go_simp
  · rw [hb.cell (p := ⟨w.heap.size + 1, 0, none⟩) (by simp)]; go_simp
  · rw [hb.cell (p := ⟨w.heap.size + 1, 1, none⟩) (by simp)]; go_simp
  · rw [hb.frozen (p := ⟨w.heap.size + 1, 0, none⟩) (by simp)]; go_simp
  · rw [hb.frozen (p := ⟨w.heap.size + 1, 1, none⟩) (by simp)]; go_simp
  · rw [hb.frozen (p := ⟨w.heap.size, 0, none⟩) (by simp)]; go_simp
  · rw [hb.frozen (p := ⟨w.heap.size, 1, none⟩) (by simp)]; go_simp
theorem g2_next {w w' w1 : World} {o o' : Obj} (hb : Below (w.heap.size + 2) ((w.alloc o).alloc o') w') (hk : Below w'.heap.size w' w1) : Below (w.heap.size + 2) ((w.alloc o).alloc o') w1 := by
  have hz := hb.size
  simp only [World.size_alloc] at hz
  exact hb.trans (hk.mono hz)
theorem g2_done {w w' : World} {o o' : Obj} (hb : Below (w.heap.size + 2) ((w.alloc o).alloc o') w') (u v : Value) : Below w.heap.size w ((w'.setCell ⟨w.heap.size + 1, 0, none⟩ u).setCell ⟨w.heap.size + 1, 1, none⟩ v) :=
  (((two_new w _ _).trans (hb.mono (by omega))).setCell (by simp) _).setCell (by simp) _
/-- behind a store into the first of two boxes, a third box and a call -/
theorem sg_res {w w1 w2 : World} {a0 a1 c0 c1 p q g s : Value} {t t' t'' : TypeId} (hA : Below (w.heap.size + 2) ((w.alloc (.cells #[a0, a1] t)).alloc (.cells #[c0, c1] t')) w1)
    (hb : Below (((w1.setCell ⟨w.heap.size, 0, none⟩ p).setCell ⟨w.heap.size, 1, none⟩ q).alloc (.cells #[g, s] t'')).heap.size (((w1.setCell ⟨w.heap.size, 0, none⟩ p).setCell ⟨w.heap.size, 1, none⟩ q).alloc (.cells #[g, s] t'')) w2) :
    (w2.cell? ⟨w1.heap.size, 0, none⟩ = some g ∧ w2.cell? ⟨w1.heap.size, 1, none⟩ = some s ∧ w2.frozen? ⟨w.heap.size + 1, 0, none⟩ = false ∧ w2.frozen? ⟨w.heap.size + 1, 1, none⟩ = false) ∧ (w2.cell? ⟨w.heap.size + 1, 0, none⟩ = some c0 ∧ w2.cell? ⟨w.heap.size + 1, 1, none⟩ = some c1) ∧ ∀ u v, Below w.heap.size w ((w2.setCell ⟨w.heap.size + 1, 0, none⟩ u).setCell ⟨w.heap.size + 1, 1, none⟩ v) := by
  have hz := hA.size
  simp only [World.size_alloc] at hz
  have hR := g2_res hA
  have hz2 : (((w1.setCell ⟨w.heap.size, 0, none⟩ p).setCell ⟨w.heap.size, 1, none⟩ q).alloc (.cells #[g, s] t'')).heap.size = w1.heap.size + 1 := by simp
  rw [hz2] at hb
  have e1 : Below w.heap.size w (((w1.setCell ⟨w.heap.size, 0, none⟩ p).setCell ⟨w.heap.size, 1, none⟩ q).alloc (.cells #[g, s] t'')) :=
    ((((two_new w _ _).trans (hA.mono (by omega))).setCell (by simp) _).setCell (by simp) _).alloc (by simp; omega) _
  have far : ∀ (j : Nat), (((w1.setCell ⟨w.heap.size, 0, none⟩ p).setCell ⟨w.heap.size, 1, none⟩ q).alloc (.cells #[g, s] t'')).cell? ⟨w.heap.size + 1, j, none⟩ = w1.cell? ⟨w.heap.size + 1, j, none⟩ := fun j => by
    rw [World.cell?_alloc_lt _ _ _ (by simp; omega), World.cell?_setCell_far _ _ _ _ (by simp), World.cell?_setCell_far _ _ _ _ (by simp)]
  refine ⟨⟨?_, ?_, ?_, ?_⟩, ⟨?_, ?_⟩, fun u v => ((e1.trans (hb.mono (by omega))).setCell (by simp) _).setCell (by simp) _⟩
  · rw [hb.cell (p := ⟨w1.heap.size, 0, none⟩) (by simp)]; go_simp
  · rw [hb.cell (p := ⟨w1.heap.size, 1, none⟩) (by simp)]; go_simp
  · rw [hb.frozen (p := ⟨w.heap.size + 1, 0, none⟩) (by simp; omega)]; rw [World.frozen?_alloc_past _ _ _ (by simp; omega)]; have := hR.2.2.2.2.1; go_simp
  · rw [hb.frozen (p := ⟨w.heap.size + 1, 1, none⟩) (by simp; omega)]; rw [World.frozen?_alloc_past _ _ _ (by simp; omega)]; have := hR.2.2.2.2.2.1; go_simp
  · rw [hb.cell (p := ⟨w.heap.size + 1, 0, none⟩) (by simp; omega), far]; exact hR.2.2.1
  · rw [hb.cell (p := ⟨w.heap.size + 1, 1, none⟩) (by simp; omega), far]; exact hR.2.2.2.1
/-- three new boxes: a size, a Wide, a Wide -/
def n3 (w : World) (a0 a1 b0 b1 d0 d1 : Value) : World := ((w.alloc (.cells #[a0, a1] 78)).alloc (.cells #[b0, b1] 61)).alloc (.cells #[d0, d1] 61)
theorem n3_res {w w' : World} {a0 a1 b0 b1 c0 c1 : Value} (hb : Below (w.heap.size + 3) (n3 w a0 a1 b0 b1 c0 c1) w') :
    w'.cell? ⟨w.heap.size + 1, 0, none⟩ = some b0 ∧ w'.cell? ⟨w.heap.size + 1, 1, none⟩ = some b1 ∧ w'.frozen? ⟨w.heap.size + 1, 0, none⟩ = false ∧ w'.frozen? ⟨w.heap.size + 1, 1, none⟩ = false ∧ w'.cell? ⟨w.heap.size + 1 + 1, 0, none⟩ = some c0 ∧ w'.cell? ⟨w.heap.size + 1 + 1, 1, none⟩ = some c1 := by
  refine ⟨?_, ?_, ?_, ?_, ?_, ?_⟩
  · rw [hb.cell (p := ⟨w.heap.size + 1, 0, none⟩) (by simp)]; unfold n3; go_simp
  · rw [hb.cell (p := ⟨w.heap.size + 1, 1, none⟩) (by simp)]; unfold n3; go_simp
  · rw [hb.frozen (p := ⟨w.heap.size + 1, 0, none⟩) (by simp)]; unfold n3; go_simp
  · rw [hb.frozen (p := ⟨w.heap.size + 1, 1, none⟩) (by simp)]; unfold n3; go_simp
  · rw [hb.cell (p := ⟨w.heap.size + 1 + 1, 0, none⟩) (by simp)]; unfold n3; go_simp
  · rw [hb.cell (p := ⟨w.heap.size + 1 + 1, 1, none⟩) (by simp)]; unfold n3; go_simp
theorem n3_next {w w' w1 : World} {a0 a1 b0 b1 c0 c1 : Value} (h : Below (w.heap.size + 3) (n3 w a0 a1 b0 b1 c0 c1) w') (hk : Below w'.heap.size w' w1) : Below (w.heap.size + 3) (n3 w a0 a1 b0 b1 c0 c1) w1 := by
  have hz := h.size
  unfold n3 at hz
  simp only [World.size_alloc] at hz
  exact h.trans (hk.mono hz)
theorem n3_done {w w' : World} {a0 a1 b0 b1 c0 c1 : Value} (hb : Below (w.heap.size + 3) (n3 w a0 a1 b0 b1 c0 c1) w') (u v : Value) : Below w.heap.size w ((w'.setCell ⟨w.heap.size + 1, 0, none⟩ u).setCell ⟨w.heap.size + 1, 1, none⟩ v) :=
  (((three_new _ _ _ _).trans (hb.mono (by omega))).setCell (by simp) _).setCell (by simp) _
theorem sgn_yes {m : Int} {neg : Bool} {g s : Int} (ho : sgnOk m neg = true) (e : g * 18446744073709551616 + s = if neg then -m else m) (s0 : 0 ≤ s) (s1 : s < 18446744073709551616) : Value.tuple #[.agg #[.int .i64 g, .int .u64 s], .bool true] = .tuple #[wv (sgnW m neg), .bool (sgnOk m neg)] := by
  unfold sgnW
  rw [ho, if_pos rfl, ← e]
  unfold wv
  rw [(w_of rfl s0 s1).1, (w_of rfl s0 s1).2]
theorem sgn_no {m : Int} {neg : Bool} (ho : sgnOk m neg = false) : Value.tuple #[.agg #[.int .i64 0, .int .u64 0], .bool false] = .tuple #[wv (sgnW m neg), .bool (sgnOk m neg)] := by
  unfold sgnW
  rw [ho, if_neg (by decide)]
  rfl
set_option maxHeartbeats 800000 in
theorem signed_pos (h l : Int) (w : World) (h0 : 0 ≤ h) (h1 : h < 18446744073709551616) (l0 : 0 ≤ l) (l1 : l < 18446744073709551616) : Calls Tryz.prog 39 #[.agg #[.int .u64 h, .int .u64 l], .bool false] w fun e w' => e = .returned (.tuple #[wv (sgnW (h * 18446744073709551616 + l) false), .bool (sgnOk (h * 18446744073709551616 + l) false)]) ∧ Below w.heap.size w w' := by
  obtain ⟨G, hG⟩ : ∃ u, IntKind.i64.wrap h = u := ⟨_, rfl⟩
  have hG' := hG
  rw [IntKind.wrap_i64] at hG'
  have K := below_any G l
  by_cases hn : G < 0
  · rw [decide_eq_true hn] at K
    have ho : sgnOk (h * 18446744073709551616 + l) false = false := by unfold sgnOk; rw [if_neg (by decide), decide_eq_false_iff_not]; omega
    rw [← sgn_no ho]
    clear hn hG' ho
    go_enter Tryz.func39, Tryz.ntmps39
    go_wp2_with fail
    refine (K _).mono ?_
    rintro e w1 ⟨rfl, b1⟩
    have hA := n3_next (w := w) (a0 := .int .u64 h) (a1 := .int .u64 l) (b0 := .int .i64 0) (b1 := .int .u64 0) (c0 := .int .i64 G) (c1 := .int .u64 l) (Below.refl _ _) b1
    have hR := n3_res hA
    have hr1 := fun u => (set_two hR.1 hR.2.1 u u).1
    have hr2 := fun u v => (set_two hR.1 hR.2.1 u v).2
    have HB := Lib.hid (n3_done hA)
    clear b1 K
    go_wp2_with fail
    refine bodyPost_ret (v := .tuple #[.agg #[.int .i64 0, .int .u64 0], .bool false]) (by simp [results, Tryz.results39, go_sem, hr1, hr2]) rfl ⟨rfl, HB.out _ _⟩
  · rw [decide_eq_false hn] at K
    have ho : sgnOk (h * 18446744073709551616 + l) false = true := by unfold sgnOk; rw [if_neg (by decide), decide_eq_true_iff]; omega
    rw [← sgn_yes (g := G) (s := l) ho (by rw [if_neg (by decide)]; omega) l0 l1]
    clear hn hG' ho
    go_enter Tryz.func39, Tryz.ntmps39
    go_wp2_with fail
    refine (K _).mono ?_
    rintro e w1 ⟨rfl, b1⟩
    have hA := n3_next (w := w) (a0 := .int .u64 h) (a1 := .int .u64 l) (b0 := .int .i64 0) (b1 := .int .u64 0) (c0 := .int .i64 G) (c1 := .int .u64 l) (Below.refl _ _) b1
    have hR := n3_res hA
    have hr1 := fun u => (set_two hR.1 hR.2.1 u u).1
    have hr2 := fun u v => (set_two hR.1 hR.2.1 u v).2
    have HB := Lib.hid (n3_done hA)
    clear b1 K
    go_wp2_with fail
    refine bodyPost_ret (v := .tuple #[.agg #[.int .i64 G, .int .u64 l], .bool true]) (by simp [results, Tryz.results39, go_sem, hr1, hr2]) rfl ⟨rfl, HB.out _ _⟩
set_option maxHeartbeats 800000 in
theorem signed_neg (h l : Int) (w : World) (h0 : 0 ≤ h) (h1 : h < 18446744073709551616) (l0 : 0 ≤ l) (l1 : l < 18446744073709551616) : Calls Tryz.prog 39 #[.agg #[.int .u64 h, .int .u64 l], .bool true] w fun e w' => e = .returned (.tuple #[wv (sgnW (h * 18446744073709551616 + l) true), .bool (sgnOk (h * 18446744073709551616 + l) true)]) ∧ Below w.heap.size w w' := by
  obtain ⟨m, hm⟩ : ∃ m, m = h * 18446744073709551616 + l := ⟨_, rfl⟩
  have T := fun w => sturned_any h l w h0 h1 l0 l1
  rw [← hm] at T ⊢
  have hs := w_split (negS m)
  have hb : negS m = 0 ∧ m = 0 ∨ m ≠ 0 ∧ negS m = 340282366920938463463374607431768211456 - m := by unfold negS; split <;> simp_all
  unfold sv at T
  generalize hiW (negS m) = P at T hs
  generalize loW (negS m) = Q at T hs
  generalize negS m = M at hb hs
  obtain ⟨G, hG⟩ : ∃ u, IntKind.i64.wrap P = u := ⟨_, rfl⟩
  have hG' := hG
  rw [IntKind.wrap_i64] at hG'
  have K := below_any G Q
  by_cases hn : G < 0
  · rw [decide_eq_true hn] at K
    have ho : sgnOk m true = true := by unfold sgnOk; rw [if_pos rfl, decide_eq_true_iff]; omega
    rw [← sgn_yes (g := G) (s := Q) ho (by rw [if_pos rfl]; omega) hs.2.1 hs.2.2]
    clear hn hG' ho hb hs hm
    go_enter Tryz.func39, Tryz.ntmps39
    go_wp2_with fail
    refine (T _).mono ?_
    rintro e w1 ⟨rfl, b1⟩
    have hA := g2_next (w := w) (o := .cells #[.int .u64 h, .int .u64 l] 78) (o' := .cells #[.int .i64 0, .int .u64 0] 61) (Below.refl _ _) b1
    have hR := g2_res hA
    have hr1 := fun u => (set_two hR.1 hR.2.1 u u).1
    have hr2 := fun u v => (set_two hR.1 hR.2.1 u v).2
    clear b1 T
    go_wp2_with fail
    refine (K _).mono ?_
    rintro e w2 ⟨rfl, b2⟩
    have hS := sg_res hA b2
    have hS1 := hS.1
    have hS2 := hS.2.1
    have HB := Lib.hid hS.2.2
    clear hr1 hr2 hR K b2
    have hr1 := fun u => (set_two hS2.1 hS2.2 u u).1
    have hr2 := fun u v => (set_two hS2.1 hS2.2 u v).2
    clear hS
    go_wp2_with fail
    refine bodyPost_ret (v := .tuple #[.agg #[.int .i64 G, .int .u64 Q], .bool true]) (by simp [results, Tryz.results39, go_sem, hr1, hr2]) rfl ⟨rfl, HB.out _ _⟩
  · rw [decide_eq_false hn] at K
    have ho : sgnOk m true = false := by unfold sgnOk; rw [if_pos rfl, decide_eq_false_iff_not]; omega
    rw [← sgn_no ho]
    clear hn hG' ho hb hs hm
    go_enter Tryz.func39, Tryz.ntmps39
    go_wp2_with fail
    refine (T _).mono ?_
    rintro e w1 ⟨rfl, b1⟩
    have hA := g2_next (w := w) (o := .cells #[.int .u64 h, .int .u64 l] 78) (o' := .cells #[.int .i64 0, .int .u64 0] 61) (Below.refl _ _) b1
    have hR := g2_res hA
    have hr1 := fun u => (set_two hR.1 hR.2.1 u u).1
    have hr2 := fun u v => (set_two hR.1 hR.2.1 u v).2
    clear b1 T
    go_wp2_with fail
    refine (K _).mono ?_
    rintro e w2 ⟨rfl, b2⟩
    have hS := sg_res hA b2
    have hS1 := hS.1
    have hS2 := hS.2.1
    have HB := Lib.hid hS.2.2
    clear hr1 hr2 hR K b2
    have hr1 := fun u => (set_two hS2.1 hS2.2 u u).1
    have hr2 := fun u v => (set_two hS2.1 hS2.2 u v).2
    clear hS
    go_wp2_with fail
    refine bodyPost_ret (v := .tuple #[.agg #[.int .i64 0, .int .u64 0], .bool false]) (by simp [results, Tryz.results39, go_sem, hr1, hr2]) rfl ⟨rfl, HB.out _ _⟩
end Go.Proofs.YtbijpjoljljlpaaGreatDoor.Wide
