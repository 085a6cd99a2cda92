/- Contracts of Mul on both sides. Conditions: none. -/
import Derived.Test.YtnljlbdecknbpaaWideM
import Derived.Test.YtnljlbdecknbpaaFieldE
set_option maxRecDepth 100000
namespace Go.Proofs.Ytnljlbdecknbpaa
open Go.RowKit

theorem ints_mul (a b : Int) : ∃ P : Nat, a.natAbs * b.natAbs = P ∧ ((a < 0) = (b < 0) → a * b = P) ∧ ((a < 0) ≠ (b < 0) → a * b = -(P : Int)) := by
  refine ⟨_, rfl, ?_, ?_⟩
  · intro h
    have h' : (a < 0 ↔ b < 0) := by rw [h]
    rcases Int.lt_or_le a 0 with ha | ha
    · obtain ⟨m, rfl⟩ : ∃ m : Nat, a = -(m : Int) := ⟨a.natAbs, by omega⟩
      obtain ⟨n, rfl⟩ : ∃ m : Nat, b = -(m : Int) := ⟨b.natAbs, by omega⟩
      simp [Int.neg_mul_neg]
    · obtain ⟨m, rfl⟩ : ∃ m : Nat, a = (m : Int) := ⟨a.natAbs, by omega⟩
      obtain ⟨n, rfl⟩ : ∃ m : Nat, b = (m : Int) := ⟨b.natAbs, by omega⟩
      simp
  · intro h
    have h' : ¬ (a < 0 ↔ b < 0) := fun e => h (propext e)
    rcases Int.lt_or_le a 0 with ha | ha
    · obtain ⟨m, rfl⟩ : ∃ m : Nat, a = -(m : Int) := ⟨a.natAbs, by omega⟩
      obtain ⟨n, rfl⟩ : ∃ m : Nat, b = (m : Int) := ⟨b.natAbs, by omega⟩
      simp [Int.neg_mul]
    · obtain ⟨m, rfl⟩ : ∃ m : Nat, a = (m : Int) := ⟨a.natAbs, by omega⟩
      obtain ⟨n, rfl⟩ : ∃ m : Nat, b = -(m : Int) := ⟨b.natAbs, by omega⟩
      simp [Int.mul_neg]
theorem prod_le {x y : Nat} (hx : x ≤ 9223372036854775808) (hy : y ≤ 9223372036854775808) : x * y ≤ 85070591730234615865843651857942052864 := Nat.le_trans (Nat.mul_le_mul hx hy) (by decide)
theorem size_any (n : Int) (w : World) (h0 : -9223372036854775808 ≤ n) (h1 : n < 9223372036854775808) : Calls Try.prog 40 #[.int .i64 n] w fun e w' => e = .returned (.int .u64 (n.natAbs : Int)) ∧ w = w' := by
  obtain ⟨R, hR⟩ : ∃ R, R = (n.natAbs : Int) := ⟨_, rfl⟩
  rw [← hR]
  by_cases h : n < 0
  · have HR := Lib.hid hR
    clear hR
    go_enter Try.func40, Try.ntmps40
    go_wp2_with fail
    go_ret
    exact ⟨ret_int (by have := HR.out; omega), rfl⟩
  · have t1 : IntKind.u64.wrap n = R := by rw [IntKind.wrap_u64]; omega
    clear hR
    go_enter Try.func40, Try.ntmps40
    go_wp2_with fail
    go_ret
    exact ⟨rfl, rfl⟩
theorem g2_first {w w' : World} {o o' : Obj} (hb : Below (w.heap.size + 2) ((w.alloc o).alloc o') w') (u v : Value) : Below w.heap.size w ((w'.setCell ⟨w.heap.size, 0, none⟩ u).setCell ⟨w.heap.size, 1, none⟩ v) :=
  (((two_new w _ _).trans (hb.mono (by omega))).setCell (by simp) _).setCell (by simp) _
set_option maxHeartbeats 800000 in
theorem refMul_any (a b : Int) (w : World) (a0 : -9223372036854775808 ≤ a) (a1 : a < 9223372036854775808) (b0 : -9223372036854775808 ≤ b) (b1 : b < 9223372036854775808) : Calls Try.prog 23 #[.int .i64 a, .int .i64 b] w fun e w' => e = .returned (wv (a * b)) ∧ Below w.heap.size w w' := by
  obtain ⟨P, hP, hp, hm⟩ := ints_mul a b
  have hle : P ≤ 85070591730234615865843651857942052864 := by rw [← hP]; exact prod_le (by omega) (by omega)
  have KA := fun w => size_any a w a0 a1
  have KB := fun w => size_any b w b0 b1
  have hA : a.natAbs < 18446744073709551616 := by omega
  have hB : b.natAbs < 18446744073709551616 := by omega
  generalize a * b = N at hp hm ⊢
  have KT := fun w => times_any a.natAbs b.natAbs w hA hB
  rw [hP] at KT
  generalize a.natAbs = x at KA KT
  generalize b.natAbs = y at KB KT
  obtain ⟨H, hH⟩ : ∃ H, P / 18446744073709551616 = H := ⟨_, rfl⟩
  obtain ⟨L, hL⟩ : ∃ H, P % 18446744073709551616 = H := ⟨_, rfl⟩
  rw [hH, hL] at KT
  have hH2 : H < 9223372036854775808 := by omega
  have hL2 : L < 18446744073709551616 := by omega
  have hHL : H * 18446744073709551616 + L = P := by omega
  clear hP hH hL hle hA hB
  by_cases hs : (a < 0) = (b < 0)
  · have hN := hp hs
    have e : (H : Int) * 18446744073709551616 + (L : Int) = N := by omega
    have hw := w_of e (by omega) (by omega)
    unfold wv
    rw [hw.1, hw.2]
    have hx : (a < 0 ∧ b < 0) ∨ (¬ a < 0 ∧ ¬ b < 0) := by
      have hi : a < 0 ↔ b < 0 := by rw [hs]
      by_cases ha : a < 0
      · exact .inl ⟨ha, hi.1 ha⟩
      · exact .inr ⟨ha, fun h => ha (hi.2 h)⟩
    clear hs hp hm hw e hN hHL
    obtain ⟨p1, e1⟩ : ∃ p, decide (a < 0) = p := ⟨_, rfl⟩
    obtain ⟨p2, e2⟩ : ∃ p, decide (b < 0) = p := ⟨_, rfl⟩
    have t0 : (p1 != p2) = false := by
      rw [← e1, ← e2]
      rcases hx with ⟨x1, x2⟩ | ⟨x1, x2⟩ <;> simp [x1, x2]
    clear hx
    cases p1 <;> cases p2 <;> first | exact absurd t0 (by decide) | skip
    all_goals
      go_enter Try.func23, Try.ntmps23
      go_wp2_with fail
      refine (KA _).mono ?_
      rintro e w' ⟨rfl, rfl⟩
      go_wp2_with fail
      refine (KB _).mono ?_
      rintro e w' ⟨rfl, rfl⟩
      go_wp2_with fail
      refine (KT _).mono ?_
      rintro e w' ⟨rfl, rfl⟩
      go_wp2_with fail
      refine bodyPost_ret (v := .agg #[.int .i64 (H : Int), .int .u64 (L : Int)]) (by simp [results, Try.results23, go_sem]) rfl ⟨rfl, two_new _ _ _⟩
  · have hN := hm hs
    have T := fun w => turned_wrap (H : Int) (L : Int) w (by omega) (by omega)
    rw [show -((H : Int) * 18446744073709551616 + (L : Int)) = N by omega] at T
    have hw := w_split N
    have hi : IntKind.i64.wrap (hiW N) = hiW N := by rw [IntKind.wrap_i64]; omega
    rw [hi] at T
    unfold wv
    generalize hiW N = X at T ⊢
    generalize loW N = Y at T ⊢
    have hx : (a < 0 ∧ ¬ b < 0) ∨ (¬ a < 0 ∧ b < 0) := by
      have hi : ¬ (a < 0 ↔ b < 0) := fun e => hs (propext e)
      omega
    clear hs hp hm hw hN hHL hi
    obtain ⟨p1, e1⟩ : ∃ p, decide (a < 0) = p := ⟨_, rfl⟩
    obtain ⟨p2, e2⟩ : ∃ p, decide (b < 0) = p := ⟨_, rfl⟩
    have t0 : (p1 != p2) = true := by
      rw [← e1, ← e2]
      rcases hx with ⟨x1, x2⟩ | ⟨x1, x2⟩ <;> simp [x1, x2]
    clear hx
    cases p1 <;> cases p2 <;> first | exact absurd t0 (by decide) | skip
    all_goals
      go_enter Try.func23, Try.ntmps23
      go_wp2_with fail
      refine (KA _).mono ?_
      rintro e w' ⟨rfl, rfl⟩
      go_wp2_with fail
      refine (KB _).mono ?_
      rintro e w' ⟨rfl, rfl⟩
      go_wp2_with fail
      refine (KT _).mono ?_
      rintro e w' ⟨rfl, rfl⟩
      go_wp2_with fail
      refine (T _).mono ?_
      rintro e w1 ⟨rfl, k1⟩
      have hA := g2_next (w := w) (o := .cells #[.int .i64 0, .int .u64 0] 24) (o' := .cells #[.int .i64 (H : Int), .int .u64 (L : Int)] 24) (Below.refl _ _) k1
      have hR := g2_res hA
      have hr1 := fun u => (set_two hR.1 hR.2.1 u u).1
      have hr2 := fun u v => (set_two hR.1 hR.2.1 u v).2
      have HB := Lib.hid (g2_first hA)
      clear k1 T KA KB KT
      go_wp2_with fail
      refine bodyPost_ret (v := .agg #[.int .i64 X, .int .u64 Y]) (by simp [results, Try.results23, go_sem, hr1, hr2]) rfl ⟨rfl, HB.out _ _⟩
theorem set_past {w : World} {n : Nat} {x y : Value} (h : w.cell? ⟨n, 0, none⟩ = some x) (h' : w.cell? ⟨n, 1, none⟩ = some y) (hn : n < w.heap.size) (o : Obj) (u v : Value) : (((w.setCell ⟨n, 0, none⟩ u).setCell ⟨n, 1, none⟩ v).alloc o).cell? ⟨n, 0, none⟩ = some u ∧ (((w.setCell ⟨n, 0, none⟩ u).setCell ⟨n, 1, none⟩ v).alloc o).cell? ⟨n, 1, none⟩ = some v := by
  constructor
  · rw [World.cell?_alloc_lt _ _ _ (by simpa using hn), World.cell?_setCell_other _ _ _ _ (by simp)]; exact (set_two h h' u v).1
  · rw [World.cell?_alloc_lt _ _ _ (by simpa using hn)]; exact (set_two h h' u v).2
/-- behind a store into the second of two boxes and a call -/
theorem mu_res {w w1 w2 : World} {a0 a1 c0 c1 p q : Value} {t t' : TypeId} (hA : Below (w.heap.size + 2) ((w.alloc (.cells #[a0, a1] t)).alloc (.cells #[c0, c1] t')) w1)
    (hb : Below ((w1.setCell ⟨w.heap.size + 1, 0, none⟩ p).setCell ⟨w.heap.size + 1, 1, none⟩ q).heap.size ((w1.setCell ⟨w.heap.size + 1, 0, none⟩ p).setCell ⟨w.heap.size + 1, 1, none⟩ q) w2) :
    (w2.cell? ⟨w.heap.size, 0, none⟩ = some a0 ∧ w2.cell? ⟨w.heap.size, 1, none⟩ = some a1 ∧ w2.frozen? ⟨w.heap.size, 0, none⟩ = false ∧ w2.frozen? ⟨w.heap.size, 1, none⟩ = false ∧ w.heap.size < w2.heap.size) ∧ ∀ o u v, Below w.heap.size w (((w2.setCell ⟨w.heap.size, 0, none⟩ u).setCell ⟨w.heap.size, 1, none⟩ v).alloc o) := by
  have hz := hA.size
  simp only [World.size_alloc] at hz
  have hR := g2_res hA
  simp only [World.size_setCell] at hb
  have hz2 := hb.size
  simp only [World.size_setCell] at hz2
  have e1 : Below w.heap.size w ((w1.setCell ⟨w.heap.size + 1, 0, none⟩ p).setCell ⟨w.heap.size + 1, 1, none⟩ q) := (((two_new w _ _).trans (hA.mono (by omega))).setCell (by simp) _).setCell (by simp) _
  have far : ∀ (j : Nat), ((w1.setCell ⟨w.heap.size + 1, 0, none⟩ p).setCell ⟨w.heap.size + 1, 1, none⟩ q).cell? ⟨w.heap.size, j, none⟩ = w1.cell? ⟨w.heap.size, j, none⟩ := fun j => by
    rw [World.cell?_setCell_far _ _ _ _ (by simp), World.cell?_setCell_far _ _ _ _ (by simp)]
  refine ⟨⟨?_, ?_, ?_, ?_, by omega⟩, fun o u v => (((e1.trans (hb.mono (by omega))).setCell (by simp) _).setCell (by simp) _).alloc (by simp; omega) o⟩
  · rw [hb.cell (p := ⟨w.heap.size, 0, none⟩) (by simp; omega), far]; exact hR.1
  · rw [hb.cell (p := ⟨w.heap.size, 1, none⟩) (by simp; omega), far]; exact hR.2.1
  · rw [hb.frozen (p := ⟨w.heap.size, 0, none⟩) (by simp; omega)]; have := hR.2.2.2.2.2.2.1; go_simp
  · rw [hb.frozen (p := ⟨w.heap.size, 1, none⟩) (by simp; omega)]; have := hR.2.2.2.2.2.2.2; go_simp
theorem field_lo (x y : Int) (w : World) : (Instr.field 51 (.agg #[.int .u64 x, .int .u64 y]) 1).run Try.prog w = .ok (.int .u64 y) w := by kernel_rfl
set_option maxHeartbeats 3200000 in
theorem mul_walk {a b ha la hb lb H L X Y : Int} {x y : Nat} {p1 p2 neg ok : Bool} (w : World)
    (OA : ∀ w, Calls Try.prog 20 #[.int .i64 a] w fun e w' => e = .returned (.agg #[.int .i64 ha, .int .u64 la]) ∧ Below w.heap.size w w')
    (OB : ∀ w, Calls Try.prog 20 #[.int .i64 b] w fun e w' => e = .returned (.agg #[.int .i64 hb, .int .u64 lb]) ∧ Below w.heap.size w w')
    (KA : ∀ w, Calls Try.prog 37 #[.agg #[.int .i64 ha, .int .u64 la]] w fun e w' => e = .returned (.agg #[.int .u64 0, .int .u64 (x : Int)]) ∧ Below w.heap.size w w')
    (KB : ∀ w, Calls Try.prog 37 #[.agg #[.int .i64 hb, .int .u64 lb]] w fun e w' => e = .returned (.agg #[.int .u64 0, .int .u64 (y : Int)]) ∧ Below w.heap.size w w')
    (KT : ∀ w, Calls Try.prog 36 #[.int .u64 (x : Int), .int .u64 (y : Int)] w fun e w' => e = .returned (.tuple #[.int .u64 H, .int .u64 L]) ∧ w' = w)
    (SG : ∀ w, Calls Try.prog 38 #[.agg #[.int .u64 H, .int .u64 L], .bool neg] w fun e w' => e = .returned (.tuple #[.agg #[.int .i64 X, .int .u64 Y], .bool ok]) ∧ Below w.heap.size w w')
    (kf : ∀ (x y : Int) (w : World), (Instr.field 51 (.agg #[.int .u64 x, .int .u64 y]) 1).run Try.prog w = .ok (.int .u64 y) w)
    (e1 : decide (a < 0) = p1) (e2 : decide (b < 0) = p2) (t0 : (!p1 == p2) = neg) :
    Calls Try.prog 22 #[.int .i64 a, .int .i64 b] w fun e w' => e = .returned (.agg #[.int .i64 X, .int .u64 Y]) ∧ Below w.heap.size w w' := by
  go_enter Try.func22, Try.ntmps22
  go_wp2_with fail
  refine (OA _).mono ?_
  rintro e w1 ⟨rfl, k1⟩
  replace k1 := g2_next (w := w) (o := .cells #[.int .i64 0, .int .u64 0] 24) (o' := .cells #[.int .u64 0, .int .u64 0] 51) (Below.refl _ _) k1
  go_wp2_with fail
  refine (KA _).mono ?_
  rintro e w2 ⟨rfl, k2⟩
  replace k2 := g2_next k1 k2
  clear k1
  go_wp2_with fail
  refine (OB _).mono ?_
  rintro e w3 ⟨rfl, k3⟩
  replace k3 := g2_next k2 k3
  clear k2
  go_wp2_with fail
  refine (KB _).mono ?_
  rintro e w4 ⟨rfl, k4⟩
  replace k4 := g2_next k3 k4
  clear k3
  have hR := g2_res k4
  have hr1 := fun u => (set_two hR.2.2.1 hR.2.2.2.1 u u).1
  have hr2 := fun u v => (set_two hR.2.2.1 hR.2.2.2.1 u v).2
  clear OA OB KA KB
  go_wp2_with fail
  refine (KT _).mono ?_
  rintro e w' ⟨rfl, rfl⟩
  clear KT
  go_wp2_with fail
  refine (SG _).mono ?_
  rintro e w5 ⟨rfl, k5⟩
  have hS := mu_res k4 k5
  have HB := Lib.hid hS.2
  have hS1 := hS.1
  clear hr1 hr2 hR k4 k5 hS
  have hr1 := fun o u v => (set_past hS1.1 hS1.2.1 hS1.2.2.2.2 o u v).1
  have hr2 := fun o u v => (set_past hS1.1 hS1.2.1 hS1.2.2.2.2 o u v).2
  go_wp2_with fail
  refine bodyPost_ret (v := .agg #[.int .i64 X, .int .u64 Y]) (by simp [results, Try.results22, go_sem, hr1, hr2]) rfl ⟨rfl, HB.out _ _ _⟩
set_option maxHeartbeats 1600000 in
theorem mul_any (a b : Int) (w : World) (a0 : -9223372036854775808 ≤ a) (a1 : a < 9223372036854775808) (b0 : -9223372036854775808 ≤ b) (b1 : b < 9223372036854775808) : Calls Try.prog 22 #[.int .i64 a, .int .i64 b] w fun e w' => e = .returned (wv (a * b)) ∧ Below w.heap.size w w' := by
  have sz : ∀ n : Int, -9223372036854775808 ≤ n → n < 9223372036854775808 → ∀ w, Calls Try.prog 37 #[wv n] w fun e w' => e = .returned (.agg #[.int .u64 0, .int .u64 (n.natAbs : Int)]) ∧ Below w.heap.size w w' := fun n h0 h1 w => by
    have hs := w_split n
    have K := sizeOf_any (hiW n) (loW n) w (by omega) (by omega) hs.2.1 hs.2.2
    rw [hs.1] at K
    have e : (0 : Int) * 18446744073709551616 + (n.natAbs : Int) = absW n := by unfold absW; split <;> omega
    have hw := w_of e (by omega) (by omega)
    unfold sv at K
    rw [hw.1, hw.2] at K
    exact K
  obtain ⟨P, hP, hp, hm⟩ := ints_mul a b
  have hle : P ≤ 85070591730234615865843651857942052864 := by rw [← hP]; exact prod_le (by omega) (by omega)
  have OA := fun w => of_any a w a0 a1
  have OB := fun w => of_any b w b0 b1
  have KA := sz a a0 a1
  have KB := sz b b0 b1
  clear sz
  have hA : a.natAbs < 18446744073709551616 := by omega
  have hB : b.natAbs < 18446744073709551616 := by omega
  generalize a * b = N at hp hm ⊢
  have KT := fun w => Try.bits_Mul64 a.natAbs b.natAbs hA hB w
  rw [hP] at KT
  generalize a.natAbs = x at KA KT
  generalize b.natAbs = y at KB KT
  obtain ⟨H, hH⟩ : ∃ H, P / 18446744073709551616 = H := ⟨_, rfl⟩
  obtain ⟨L, hL⟩ : ∃ H, P % 18446744073709551616 = H := ⟨_, rfl⟩
  rw [hH, hL] at KT
  have hHL : (H : Int) * 18446744073709551616 + (L : Int) = P := by omega
  obtain ⟨neg, hneg, SG⟩ : ∃ neg : Bool, ((neg = false ∧ ((a < 0 ∧ b < 0) ∨ (¬ a < 0 ∧ ¬ b < 0))) ∨ (neg = true ∧ ((a < 0 ∧ ¬ b < 0) ∨ (¬ a < 0 ∧ b < 0)))) ∧ ∀ w, Calls Try.prog 38 #[.agg #[.int .u64 (H : Int), .int .u64 (L : Int)], .bool neg] w fun e w' => e = .returned (.tuple #[wv N, .bool (sgnOk P neg)]) ∧ Below w.heap.size w w' := by
    by_cases hs : (a < 0) = (b < 0)
    · have hi : a < 0 ↔ b < 0 := by rw [hs]
      refine ⟨false, .inl ⟨rfl, by omega⟩, fun w => ?_⟩
      have K := signed_pos H L w (by omega) (by omega) (by omega) (by omega)
      have hN := hp hs
      rw [hHL, show sgnW (P : Int) false = N by
        have ho : sgnOk (P : Int) false = true := by unfold sgnOk; rw [if_neg (by decide), decide_eq_true_iff]; omega
        unfold sgnW
        rw [ho, if_pos rfl, if_neg (by decide)]
        omega] at K
      exact K
    · have hi : ¬ (a < 0 ↔ b < 0) := fun e => hs (propext e)
      refine ⟨true, .inr ⟨rfl, by omega⟩, fun w => ?_⟩
      have K := signed_neg H L w (by omega) (by omega) (by omega) (by omega)
      have hN := hm hs
      rw [hHL, show sgnW (P : Int) true = N by
        by_cases h0 : (0 : Int) < P
        · have ho : sgnOk (P : Int) true = true := by unfold sgnOk; rw [if_pos rfl, decide_eq_true_iff]; omega
          unfold sgnW
          rw [ho, if_pos rfl, if_pos rfl]
          omega
        · have ho : sgnOk (P : Int) true = false := by unfold sgnOk; rw [if_pos rfl, decide_eq_false_iff_not]; omega
          unfold sgnW
          rw [ho, if_neg (by decide)]
          omega] at K
      exact K
  generalize sgnOk P neg = ok at SG
  unfold wv at OA OB KA KB SG ⊢
  generalize hiW a = ha at OA KA
  generalize loW a = la at OA KA
  generalize hiW b = hb at OB KB
  generalize loW b = lb at OB KB
  generalize hiW N = X at SG ⊢
  generalize loW N = Y at SG ⊢
  clear hP hH hL hle hA hB hp hm hHL
  have kf := fun x y w => field_lo x y w
  obtain ⟨p1, e1⟩ : ∃ p, decide (a < 0) = p := ⟨_, rfl⟩
  obtain ⟨p2, e2⟩ : ∃ p, decide (b < 0) = p := ⟨_, rfl⟩
  have t0 : (!p1 == p2) = neg := by
    rw [← e1, ← e2]
    rcases hneg with ⟨rfl, ⟨x1, x2⟩ | ⟨x1, x2⟩⟩ | ⟨rfl, ⟨x1, x2⟩ | ⟨x1, x2⟩⟩ <;> simp [x1, x2]
  clear hneg
  exact mul_walk w OA OB KA KB KT SG kf e1 e2 t0
end Go.Proofs.Ytnljlbdecknbpaa
