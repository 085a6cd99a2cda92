/- The walk of WideOrder. Conditions: none. -/
import Derived.Test.YtnljlbdecknbpaaWideX
set_option maxRecDepth 100000
namespace Go.Proofs.Ytnljlbdecknbpaa
open Go.RowKit

theorem three_cells (w : World) (a0 a1 b0 b1 c0 c1 : Value) (t : TypeId) : ((((w.alloc (.cells #[a0, a1] t)).alloc (.cells #[b0, b1] t)).alloc (.cells #[c0, c1] t)).cell? ⟨w.heap.size, 0, none⟩ = some a0 ∧ (((w.alloc (.cells #[a0, a1] t)).alloc (.cells #[b0, b1] t)).alloc (.cells #[c0, c1] t)).cell? ⟨w.heap.size, 1, none⟩ = some a1) ∧
    ((((w.alloc (.cells #[a0, a1] t)).alloc (.cells #[b0, b1] t)).alloc (.cells #[c0, c1] t)).cell? ⟨w.heap.size + 1, 0, none⟩ = some b0 ∧ (((w.alloc (.cells #[a0, a1] t)).alloc (.cells #[b0, b1] t)).alloc (.cells #[c0, c1] t)).cell? ⟨w.heap.size + 1, 1, none⟩ = some b1) ∧
    ((((w.alloc (.cells #[a0, a1] t)).alloc (.cells #[b0, b1] t)).alloc (.cells #[c0, c1] t)).cell? ⟨w.heap.size + 1 + 1, 0, none⟩ = some c0 ∧ (((w.alloc (.cells #[a0, a1] t)).alloc (.cells #[b0, b1] t)).alloc (.cells #[c0, c1] t)).cell? ⟨w.heap.size + 1 + 1, 1, none⟩ = some c1) := by
  refine ⟨⟨?_, ?_⟩, ⟨?_, ?_⟩, ⟨?_, ?_⟩⟩ <;> go_simp
set_option maxHeartbeats 1600000 in
theorem order_00 {h l h' l' h'' l'' c1 x y P Q : Int} {R : Bool} (is : Bool) (w : World)
    (K1 : ∀ w, Calls Try.prog 15 #[.agg #[.int .i64 h, .int .u64 l], .agg #[.int .i64 h', .int .u64 l']] w fun e w' => e = .returned (.int .i64 c1) ∧ Below w.heap.size w w')
    (K4 : ∀ w, Calls Try.prog 15 #[.agg #[.int .i64 h, .int .u64 l], .agg #[.int .i64 h, .int .u64 l]] w fun e w' => e = .returned (.int .i64 0) ∧ Below w.heap.size w w')
    (F1 : ∀ w, Calls Try.prog 18 #[.agg #[.int .i64 h, .int .u64 l]] w fun e w' => e = .returned (.tuple #[.int .i64 x, .bool false]) ∧ Below w.heap.size w w')
    (F2 : ∀ w, Calls Try.prog 18 #[.agg #[.int .i64 h', .int .u64 l']] w fun e w' => e = .returned (.tuple #[.int .i64 y, .bool is]) ∧ Below w.heap.size w w')
    (A1 : ∀ w, Calls Try.prog 9 #[.agg #[.int .i64 h, .int .u64 l], .agg #[.int .i64 h', .int .u64 l']] w fun e w' => e = .returned (.tuple #[.agg #[.int .i64 P, .int .u64 Q], .bool R]) ∧ Below w.heap.size w w')
    (A2 : ∀ w, Calls Try.prog 9 #[.agg #[.int .i64 h', .int .u64 l'], .agg #[.int .i64 h, .int .u64 l]] w fun e w' => e = .returned (.tuple #[.agg #[.int .i64 P, .int .u64 Q], .bool R]) ∧ Below w.heap.size w w')
    (t1 : decide (c1 ≤ 0) = false) : Calls Try.prog 8 #[.agg #[.int .i64 h, .int .u64 l], .agg #[.int .i64 h', .int .u64 l'], .agg #[.int .i64 h'', .int .u64 l'']] w fun e w' => e = .returned (.bool true) ∧ Below w.heap.size w w' := by
    obtain ⟨fa, fb, fc⟩ := three_cells w (.int .i64 h) (.int .u64 l) (.int .i64 h') (.int .u64 l') (.int .i64 h'') (.int .u64 l'') 24
    have hB := three_new w (.cells #[.int .i64 h, .int .u64 l] 24) (.cells #[.int .i64 h', .int .u64 l'] 24) (.cells #[.int .i64 h'', .int .u64 l''] 24)
    go_enter Try.func8, Try.ntmps8
    go_wp2_with fail
    refine (K1 _).mono ?_
    rintro e w1 ⟨rfl, b1⟩
    replace fa := keep_two b1 fa
    replace fb := keep_two b1 fb
    replace fc := keep_two b1 fc
    replace hB := hB.trans (b1.mono hB.size)
    clear b1
    go_wp2_with fail
    refine (F1 _).mono ?_
    rintro e w2 ⟨rfl, b2⟩
    replace fa := keep_two b2 fa
    replace fb := keep_two b2 fb
    replace fc := keep_two b2 fc
    replace hB := hB.trans (b2.mono hB.size)
    clear b2
    go_wp2_with fail
    refine (F2 _).mono ?_
    rintro e w3 ⟨rfl, b3⟩
    replace fa := keep_two b3 fa
    replace fb := keep_two b3 fb
    replace fc := keep_two b3 fc
    replace hB := hB.trans (b3.mono hB.size)
    clear b3
    go_wp2_with fail
    refine (A1 _).mono ?_
    rintro e w4 ⟨rfl, b4⟩
    replace fa := keep_alloc (keep_two b4 fa) (.cells #[.int .i64 P, .int .u64 Q] 24)
    replace fb := keep_alloc (keep_two b4 fb) (.cells #[.int .i64 P, .int .u64 Q] 24)
    replace fc := keep_alloc (keep_two b4 fc) (.cells #[.int .i64 P, .int .u64 Q] 24)
    replace hB := (hB.trans (b4.mono hB.size)).alloc (hB.trans (b4.mono hB.size)).size (.cells #[.int .i64 P, .int .u64 Q] 24)
    have fx := new_two w4 (.int .i64 P) (.int .u64 Q) 24
    clear b4
    go_wp2_with fail
    refine (A2 _).mono ?_
    rintro e w5 ⟨rfl, b5⟩
    replace fa := keep_alloc (keep_two b5 fa) (.cells #[.int .i64 P, .int .u64 Q] 24)
    replace fb := keep_alloc (keep_two b5 fb) (.cells #[.int .i64 P, .int .u64 Q] 24)
    replace fc := keep_alloc (keep_two b5 fc) (.cells #[.int .i64 P, .int .u64 Q] 24)
    replace fx := keep_alloc (keep_two b5 fx) (.cells #[.int .i64 P, .int .u64 Q] 24)
    replace hB := (hB.trans (b5.mono hB.size)).alloc (hB.trans (b5.mono hB.size)).size (.cells #[.int .i64 P, .int .u64 Q] 24)
    have fy := new_two w5 (.int .i64 P) (.int .u64 Q) 24
    clear b5
    go_wp2_with fail
    refine (K4 _).mono ?_
    rintro e w6 ⟨rfl, b6⟩
    replace fa := keep_two b6 fa
    replace fb := keep_two b6 fb
    replace fc := keep_two b6 fc
    replace fx := keep_two b6 fx
    replace fy := keep_two b6 fy
    replace hB := hB.trans (b6.mono hB.size)
    clear b6
    go_wp2_with fail
    refine (lives_any _).mono ?_
    rintro e w7 ⟨rfl, b7⟩
    replace fa := keep_two b7 fa
    replace hB := hB.trans (b7.mono hB.size)
    clear b7
    go_wp2_with fail
    go_ret
    exact ⟨rfl, hB⟩
set_option maxHeartbeats 1600000 in
theorem order_01 {h l h' l' h'' l'' c1 x y P Q : Int} {R : Bool}  (w : World)
    (K1 : ∀ w, Calls Try.prog 15 #[.agg #[.int .i64 h, .int .u64 l], .agg #[.int .i64 h', .int .u64 l']] w fun e w' => e = .returned (.int .i64 c1) ∧ Below w.heap.size w w')
    (K4 : ∀ w, Calls Try.prog 15 #[.agg #[.int .i64 h, .int .u64 l], .agg #[.int .i64 h, .int .u64 l]] w fun e w' => e = .returned (.int .i64 0) ∧ Below w.heap.size w w')
    (F1 : ∀ w, Calls Try.prog 18 #[.agg #[.int .i64 h, .int .u64 l]] w fun e w' => e = .returned (.tuple #[.int .i64 x, .bool true]) ∧ Below w.heap.size w w')
    (F2 : ∀ w, Calls Try.prog 18 #[.agg #[.int .i64 h', .int .u64 l']] w fun e w' => e = .returned (.tuple #[.int .i64 y, .bool false]) ∧ Below w.heap.size w w')
    (A1 : ∀ w, Calls Try.prog 9 #[.agg #[.int .i64 h, .int .u64 l], .agg #[.int .i64 h', .int .u64 l']] w fun e w' => e = .returned (.tuple #[.agg #[.int .i64 P, .int .u64 Q], .bool R]) ∧ Below w.heap.size w w')
    (A2 : ∀ w, Calls Try.prog 9 #[.agg #[.int .i64 h', .int .u64 l'], .agg #[.int .i64 h, .int .u64 l]] w fun e w' => e = .returned (.tuple #[.agg #[.int .i64 P, .int .u64 Q], .bool R]) ∧ Below w.heap.size w w')
    (t1 : decide (c1 ≤ 0) = false) : Calls Try.prog 8 #[.agg #[.int .i64 h, .int .u64 l], .agg #[.int .i64 h', .int .u64 l'], .agg #[.int .i64 h'', .int .u64 l'']] w fun e w' => e = .returned (.bool true) ∧ Below w.heap.size w w' := by
    obtain ⟨fa, fb, fc⟩ := three_cells w (.int .i64 h) (.int .u64 l) (.int .i64 h') (.int .u64 l') (.int .i64 h'') (.int .u64 l'') 24
    have hB := three_new w (.cells #[.int .i64 h, .int .u64 l] 24) (.cells #[.int .i64 h', .int .u64 l'] 24) (.cells #[.int .i64 h'', .int .u64 l''] 24)
    go_enter Try.func8, Try.ntmps8
    go_wp2_with fail
    refine (K1 _).mono ?_
    rintro e w1 ⟨rfl, b1⟩
    replace fa := keep_two b1 fa
    replace fb := keep_two b1 fb
    replace fc := keep_two b1 fc
    replace hB := hB.trans (b1.mono hB.size)
    clear b1
    go_wp2_with fail
    refine (F1 _).mono ?_
    rintro e w2 ⟨rfl, b2⟩
    replace fa := keep_two b2 fa
    replace fb := keep_two b2 fb
    replace fc := keep_two b2 fc
    replace hB := hB.trans (b2.mono hB.size)
    clear b2
    go_wp2_with fail
    refine (F2 _).mono ?_
    rintro e w3 ⟨rfl, b3⟩
    replace fa := keep_two b3 fa
    replace fb := keep_two b3 fb
    replace fc := keep_two b3 fc
    replace hB := hB.trans (b3.mono hB.size)
    clear b3
    go_wp2_with fail
    refine (A1 _).mono ?_
    rintro e w4 ⟨rfl, b4⟩
    replace fa := keep_alloc (keep_two b4 fa) (.cells #[.int .i64 P, .int .u64 Q] 24)
    replace fb := keep_alloc (keep_two b4 fb) (.cells #[.int .i64 P, .int .u64 Q] 24)
    replace fc := keep_alloc (keep_two b4 fc) (.cells #[.int .i64 P, .int .u64 Q] 24)
    replace hB := (hB.trans (b4.mono hB.size)).alloc (hB.trans (b4.mono hB.size)).size (.cells #[.int .i64 P, .int .u64 Q] 24)
    have fx := new_two w4 (.int .i64 P) (.int .u64 Q) 24
    clear b4
    go_wp2_with fail
    refine (A2 _).mono ?_
    rintro e w5 ⟨rfl, b5⟩
    replace fa := keep_alloc (keep_two b5 fa) (.cells #[.int .i64 P, .int .u64 Q] 24)
    replace fb := keep_alloc (keep_two b5 fb) (.cells #[.int .i64 P, .int .u64 Q] 24)
    replace fc := keep_alloc (keep_two b5 fc) (.cells #[.int .i64 P, .int .u64 Q] 24)
    replace fx := keep_alloc (keep_two b5 fx) (.cells #[.int .i64 P, .int .u64 Q] 24)
    replace hB := (hB.trans (b5.mono hB.size)).alloc (hB.trans (b5.mono hB.size)).size (.cells #[.int .i64 P, .int .u64 Q] 24)
    have fy := new_two w5 (.int .i64 P) (.int .u64 Q) 24
    clear b5
    go_wp2_with fail
    refine (K4 _).mono ?_
    rintro e w6 ⟨rfl, b6⟩
    replace fa := keep_two b6 fa
    replace fb := keep_two b6 fb
    replace fc := keep_two b6 fc
    replace fx := keep_two b6 fx
    replace fy := keep_two b6 fy
    replace hB := hB.trans (b6.mono hB.size)
    clear b6
    go_wp2_with fail
    refine (lives_any _).mono ?_
    rintro e w7 ⟨rfl, b7⟩
    replace fa := keep_two b7 fa
    replace hB := hB.trans (b7.mono hB.size)
    clear b7
    go_wp2_with fail
    go_ret
    exact ⟨rfl, hB⟩
set_option maxHeartbeats 1600000 in
theorem order_02 {h l h' l' h'' l'' c1 x y P Q : Int} {R : Bool} (d : Bool) (w : World)
    (K1 : ∀ w, Calls Try.prog 15 #[.agg #[.int .i64 h, .int .u64 l], .agg #[.int .i64 h', .int .u64 l']] w fun e w' => e = .returned (.int .i64 c1) ∧ Below w.heap.size w w')
    (K4 : ∀ w, Calls Try.prog 15 #[.agg #[.int .i64 h, .int .u64 l], .agg #[.int .i64 h, .int .u64 l]] w fun e w' => e = .returned (.int .i64 0) ∧ Below w.heap.size w w')
    (F1 : ∀ w, Calls Try.prog 18 #[.agg #[.int .i64 h, .int .u64 l]] w fun e w' => e = .returned (.tuple #[.int .i64 x, .bool true]) ∧ Below w.heap.size w w')
    (F2 : ∀ w, Calls Try.prog 18 #[.agg #[.int .i64 h', .int .u64 l']] w fun e w' => e = .returned (.tuple #[.int .i64 y, .bool true]) ∧ Below w.heap.size w w')
    (A1 : ∀ w, Calls Try.prog 9 #[.agg #[.int .i64 h, .int .u64 l], .agg #[.int .i64 h', .int .u64 l']] w fun e w' => e = .returned (.tuple #[.agg #[.int .i64 P, .int .u64 Q], .bool R]) ∧ Below w.heap.size w w')
    (A2 : ∀ w, Calls Try.prog 9 #[.agg #[.int .i64 h', .int .u64 l'], .agg #[.int .i64 h, .int .u64 l]] w fun e w' => e = .returned (.tuple #[.agg #[.int .i64 P, .int .u64 Q], .bool R]) ∧ Below w.heap.size w w')
    (t1 : decide (c1 ≤ 0) = false) (e1 : decide (c1 < 0) = d) (e2 : decide (x < y) = d) : Calls Try.prog 8 #[.agg #[.int .i64 h, .int .u64 l], .agg #[.int .i64 h', .int .u64 l'], .agg #[.int .i64 h'', .int .u64 l'']] w fun e w' => e = .returned (.bool true) ∧ Below w.heap.size w w' := by
    obtain ⟨fa, fb, fc⟩ := three_cells w (.int .i64 h) (.int .u64 l) (.int .i64 h') (.int .u64 l') (.int .i64 h'') (.int .u64 l'') 24
    have hB := three_new w (.cells #[.int .i64 h, .int .u64 l] 24) (.cells #[.int .i64 h', .int .u64 l'] 24) (.cells #[.int .i64 h'', .int .u64 l''] 24)
    go_enter Try.func8, Try.ntmps8
    go_wp2_with fail
    refine (K1 _).mono ?_
    rintro e w1 ⟨rfl, b1⟩
    replace fa := keep_two b1 fa
    replace fb := keep_two b1 fb
    replace fc := keep_two b1 fc
    replace hB := hB.trans (b1.mono hB.size)
    clear b1
    go_wp2_with fail
    refine (F1 _).mono ?_
    rintro e w2 ⟨rfl, b2⟩
    replace fa := keep_two b2 fa
    replace fb := keep_two b2 fb
    replace fc := keep_two b2 fc
    replace hB := hB.trans (b2.mono hB.size)
    clear b2
    go_wp2_with fail
    refine (F2 _).mono ?_
    rintro e w3 ⟨rfl, b3⟩
    replace fa := keep_two b3 fa
    replace fb := keep_two b3 fb
    replace fc := keep_two b3 fc
    replace hB := hB.trans (b3.mono hB.size)
    clear b3
    go_wp2_with fail
    refine (K1 _).mono ?_
    rintro e w4 ⟨rfl, b4⟩
    replace fa := keep_two b4 fa
    replace fb := keep_two b4 fb
    replace fc := keep_two b4 fc
    replace hB := hB.trans (b4.mono hB.size)
    clear b4
    go_wp2_with fail
    refine (A1 _).mono ?_
    rintro e w5 ⟨rfl, b5⟩
    replace fa := keep_alloc (keep_two b5 fa) (.cells #[.int .i64 P, .int .u64 Q] 24)
    replace fb := keep_alloc (keep_two b5 fb) (.cells #[.int .i64 P, .int .u64 Q] 24)
    replace fc := keep_alloc (keep_two b5 fc) (.cells #[.int .i64 P, .int .u64 Q] 24)
    replace hB := (hB.trans (b5.mono hB.size)).alloc (hB.trans (b5.mono hB.size)).size (.cells #[.int .i64 P, .int .u64 Q] 24)
    have fx := new_two w5 (.int .i64 P) (.int .u64 Q) 24
    clear b5
    go_wp2_with fail
    refine (A2 _).mono ?_
    rintro e w6 ⟨rfl, b6⟩
    replace fa := keep_alloc (keep_two b6 fa) (.cells #[.int .i64 P, .int .u64 Q] 24)
    replace fb := keep_alloc (keep_two b6 fb) (.cells #[.int .i64 P, .int .u64 Q] 24)
    replace fc := keep_alloc (keep_two b6 fc) (.cells #[.int .i64 P, .int .u64 Q] 24)
    replace fx := keep_alloc (keep_two b6 fx) (.cells #[.int .i64 P, .int .u64 Q] 24)
    replace hB := (hB.trans (b6.mono hB.size)).alloc (hB.trans (b6.mono hB.size)).size (.cells #[.int .i64 P, .int .u64 Q] 24)
    have fy := new_two w6 (.int .i64 P) (.int .u64 Q) 24
    clear b6
    go_wp2_with fail
    refine (K4 _).mono ?_
    rintro e w7 ⟨rfl, b7⟩
    replace fa := keep_two b7 fa
    replace fb := keep_two b7 fb
    replace fc := keep_two b7 fc
    replace fx := keep_two b7 fx
    replace fy := keep_two b7 fy
    replace hB := hB.trans (b7.mono hB.size)
    clear b7
    go_wp2_with fail
    refine (lives_any _).mono ?_
    rintro e w8 ⟨rfl, b8⟩
    replace fa := keep_two b8 fa
    replace hB := hB.trans (b8.mono hB.size)
    clear b8
    go_wp2_with fail
    go_ret
    exact ⟨rfl, hB⟩
set_option maxHeartbeats 1600000 in
theorem order_10 {h l h' l' h'' l'' c1 c2 x y P Q : Int} {R : Bool} (is : Bool) (w : World)
    (K1 : ∀ w, Calls Try.prog 15 #[.agg #[.int .i64 h, .int .u64 l], .agg #[.int .i64 h', .int .u64 l']] w fun e w' => e = .returned (.int .i64 c1) ∧ Below w.heap.size w w')
    (K2 : ∀ w, Calls Try.prog 15 #[.agg #[.int .i64 h', .int .u64 l'], .agg #[.int .i64 h'', .int .u64 l'']] w fun e w' => e = .returned (.int .i64 c2) ∧ Below w.heap.size w w')
    (K4 : ∀ w, Calls Try.prog 15 #[.agg #[.int .i64 h, .int .u64 l], .agg #[.int .i64 h, .int .u64 l]] w fun e w' => e = .returned (.int .i64 0) ∧ Below w.heap.size w w')
    (F1 : ∀ w, Calls Try.prog 18 #[.agg #[.int .i64 h, .int .u64 l]] w fun e w' => e = .returned (.tuple #[.int .i64 x, .bool false]) ∧ Below w.heap.size w w')
    (F2 : ∀ w, Calls Try.prog 18 #[.agg #[.int .i64 h', .int .u64 l']] w fun e w' => e = .returned (.tuple #[.int .i64 y, .bool is]) ∧ Below w.heap.size w w')
    (A1 : ∀ w, Calls Try.prog 9 #[.agg #[.int .i64 h, .int .u64 l], .agg #[.int .i64 h', .int .u64 l']] w fun e w' => e = .returned (.tuple #[.agg #[.int .i64 P, .int .u64 Q], .bool R]) ∧ Below w.heap.size w w')
    (A2 : ∀ w, Calls Try.prog 9 #[.agg #[.int .i64 h', .int .u64 l'], .agg #[.int .i64 h, .int .u64 l]] w fun e w' => e = .returned (.tuple #[.agg #[.int .i64 P, .int .u64 Q], .bool R]) ∧ Below w.heap.size w w')
    (t1 : decide (c1 ≤ 0) = true) (t2 : decide (c2 ≤ 0) = false) : Calls Try.prog 8 #[.agg #[.int .i64 h, .int .u64 l], .agg #[.int .i64 h', .int .u64 l'], .agg #[.int .i64 h'', .int .u64 l'']] w fun e w' => e = .returned (.bool true) ∧ Below w.heap.size w w' := by
    obtain ⟨fa, fb, fc⟩ := three_cells w (.int .i64 h) (.int .u64 l) (.int .i64 h') (.int .u64 l') (.int .i64 h'') (.int .u64 l'') 24
    have hB := three_new w (.cells #[.int .i64 h, .int .u64 l] 24) (.cells #[.int .i64 h', .int .u64 l'] 24) (.cells #[.int .i64 h'', .int .u64 l''] 24)
    go_enter Try.func8, Try.ntmps8
    go_wp2_with fail
    refine (K1 _).mono ?_
    rintro e w1 ⟨rfl, b1⟩
    replace fa := keep_two b1 fa
    replace fb := keep_two b1 fb
    replace fc := keep_two b1 fc
    replace hB := hB.trans (b1.mono hB.size)
    clear b1
    go_wp2_with fail
    refine (K2 _).mono ?_
    rintro e w2 ⟨rfl, b2⟩
    replace fa := keep_two b2 fa
    replace fb := keep_two b2 fb
    replace fc := keep_two b2 fc
    replace hB := hB.trans (b2.mono hB.size)
    clear b2
    go_wp2_with fail
    refine (F1 _).mono ?_
    rintro e w3 ⟨rfl, b3⟩
    replace fa := keep_two b3 fa
    replace fb := keep_two b3 fb
    replace fc := keep_two b3 fc
    replace hB := hB.trans (b3.mono hB.size)
    clear b3
    go_wp2_with fail
    refine (F2 _).mono ?_
    rintro e w4 ⟨rfl, b4⟩
    replace fa := keep_two b4 fa
    replace fb := keep_two b4 fb
    replace fc := keep_two b4 fc
    replace hB := hB.trans (b4.mono hB.size)
    clear b4
    go_wp2_with fail
    refine (A1 _).mono ?_
    rintro e w5 ⟨rfl, b5⟩
    replace fa := keep_alloc (keep_two b5 fa) (.cells #[.int .i64 P, .int .u64 Q] 24)
    replace fb := keep_alloc (keep_two b5 fb) (.cells #[.int .i64 P, .int .u64 Q] 24)
    replace fc := keep_alloc (keep_two b5 fc) (.cells #[.int .i64 P, .int .u64 Q] 24)
    replace hB := (hB.trans (b5.mono hB.size)).alloc (hB.trans (b5.mono hB.size)).size (.cells #[.int .i64 P, .int .u64 Q] 24)
    have fx := new_two w5 (.int .i64 P) (.int .u64 Q) 24
    clear b5
    go_wp2_with fail
    refine (A2 _).mono ?_
    rintro e w6 ⟨rfl, b6⟩
    replace fa := keep_alloc (keep_two b6 fa) (.cells #[.int .i64 P, .int .u64 Q] 24)
    replace fb := keep_alloc (keep_two b6 fb) (.cells #[.int .i64 P, .int .u64 Q] 24)
    replace fc := keep_alloc (keep_two b6 fc) (.cells #[.int .i64 P, .int .u64 Q] 24)
    replace fx := keep_alloc (keep_two b6 fx) (.cells #[.int .i64 P, .int .u64 Q] 24)
    replace hB := (hB.trans (b6.mono hB.size)).alloc (hB.trans (b6.mono hB.size)).size (.cells #[.int .i64 P, .int .u64 Q] 24)
    have fy := new_two w6 (.int .i64 P) (.int .u64 Q) 24
    clear b6
    go_wp2_with fail
    refine (K4 _).mono ?_
    rintro e w7 ⟨rfl, b7⟩
    replace fa := keep_two b7 fa
    replace fb := keep_two b7 fb
    replace fc := keep_two b7 fc
    replace fx := keep_two b7 fx
    replace fy := keep_two b7 fy
    replace hB := hB.trans (b7.mono hB.size)
    clear b7
    go_wp2_with fail
    refine (lives_any _).mono ?_
    rintro e w8 ⟨rfl, b8⟩
    replace fa := keep_two b8 fa
    replace hB := hB.trans (b8.mono hB.size)
    clear b8
    go_wp2_with fail
    go_ret
    exact ⟨rfl, hB⟩
set_option maxHeartbeats 1600000 in
theorem order_11 {h l h' l' h'' l'' c1 c2 x y P Q : Int} {R : Bool}  (w : World)
    (K1 : ∀ w, Calls Try.prog 15 #[.agg #[.int .i64 h, .int .u64 l], .agg #[.int .i64 h', .int .u64 l']] w fun e w' => e = .returned (.int .i64 c1) ∧ Below w.heap.size w w')
    (K2 : ∀ w, Calls Try.prog 15 #[.agg #[.int .i64 h', .int .u64 l'], .agg #[.int .i64 h'', .int .u64 l'']] w fun e w' => e = .returned (.int .i64 c2) ∧ Below w.heap.size w w')
    (K4 : ∀ w, Calls Try.prog 15 #[.agg #[.int .i64 h, .int .u64 l], .agg #[.int .i64 h, .int .u64 l]] w fun e w' => e = .returned (.int .i64 0) ∧ Below w.heap.size w w')
    (F1 : ∀ w, Calls Try.prog 18 #[.agg #[.int .i64 h, .int .u64 l]] w fun e w' => e = .returned (.tuple #[.int .i64 x, .bool true]) ∧ Below w.heap.size w w')
    (F2 : ∀ w, Calls Try.prog 18 #[.agg #[.int .i64 h', .int .u64 l']] w fun e w' => e = .returned (.tuple #[.int .i64 y, .bool false]) ∧ Below w.heap.size w w')
    (A1 : ∀ w, Calls Try.prog 9 #[.agg #[.int .i64 h, .int .u64 l], .agg #[.int .i64 h', .int .u64 l']] w fun e w' => e = .returned (.tuple #[.agg #[.int .i64 P, .int .u64 Q], .bool R]) ∧ Below w.heap.size w w')
    (A2 : ∀ w, Calls Try.prog 9 #[.agg #[.int .i64 h', .int .u64 l'], .agg #[.int .i64 h, .int .u64 l]] w fun e w' => e = .returned (.tuple #[.agg #[.int .i64 P, .int .u64 Q], .bool R]) ∧ Below w.heap.size w w')
    (t1 : decide (c1 ≤ 0) = true) (t2 : decide (c2 ≤ 0) = false) : Calls Try.prog 8 #[.agg #[.int .i64 h, .int .u64 l], .agg #[.int .i64 h', .int .u64 l'], .agg #[.int .i64 h'', .int .u64 l'']] w fun e w' => e = .returned (.bool true) ∧ Below w.heap.size w w' := by
    obtain ⟨fa, fb, fc⟩ := three_cells w (.int .i64 h) (.int .u64 l) (.int .i64 h') (.int .u64 l') (.int .i64 h'') (.int .u64 l'') 24
    have hB := three_new w (.cells #[.int .i64 h, .int .u64 l] 24) (.cells #[.int .i64 h', .int .u64 l'] 24) (.cells #[.int .i64 h'', .int .u64 l''] 24)
    go_enter Try.func8, Try.ntmps8
    go_wp2_with fail
    refine (K1 _).mono ?_
    rintro e w1 ⟨rfl, b1⟩
    replace fa := keep_two b1 fa
    replace fb := keep_two b1 fb
    replace fc := keep_two b1 fc
    replace hB := hB.trans (b1.mono hB.size)
    clear b1
    go_wp2_with fail
    refine (K2 _).mono ?_
    rintro e w2 ⟨rfl, b2⟩
    replace fa := keep_two b2 fa
    replace fb := keep_two b2 fb
    replace fc := keep_two b2 fc
    replace hB := hB.trans (b2.mono hB.size)
    clear b2
    go_wp2_with fail
    refine (F1 _).mono ?_
    rintro e w3 ⟨rfl, b3⟩
    replace fa := keep_two b3 fa
    replace fb := keep_two b3 fb
    replace fc := keep_two b3 fc
    replace hB := hB.trans (b3.mono hB.size)
    clear b3
    go_wp2_with fail
    refine (F2 _).mono ?_
    rintro e w4 ⟨rfl, b4⟩
    replace fa := keep_two b4 fa
    replace fb := keep_two b4 fb
    replace fc := keep_two b4 fc
    replace hB := hB.trans (b4.mono hB.size)
    clear b4
    go_wp2_with fail
    refine (A1 _).mono ?_
    rintro e w5 ⟨rfl, b5⟩
    replace fa := keep_alloc (keep_two b5 fa) (.cells #[.int .i64 P, .int .u64 Q] 24)
    replace fb := keep_alloc (keep_two b5 fb) (.cells #[.int .i64 P, .int .u64 Q] 24)
    replace fc := keep_alloc (keep_two b5 fc) (.cells #[.int .i64 P, .int .u64 Q] 24)
    replace hB := (hB.trans (b5.mono hB.size)).alloc (hB.trans (b5.mono hB.size)).size (.cells #[.int .i64 P, .int .u64 Q] 24)
    have fx := new_two w5 (.int .i64 P) (.int .u64 Q) 24
    clear b5
    go_wp2_with fail
    refine (A2 _).mono ?_
    rintro e w6 ⟨rfl, b6⟩
    replace fa := keep_alloc (keep_two b6 fa) (.cells #[.int .i64 P, .int .u64 Q] 24)
    replace fb := keep_alloc (keep_two b6 fb) (.cells #[.int .i64 P, .int .u64 Q] 24)
    replace fc := keep_alloc (keep_two b6 fc) (.cells #[.int .i64 P, .int .u64 Q] 24)
    replace fx := keep_alloc (keep_two b6 fx) (.cells #[.int .i64 P, .int .u64 Q] 24)
    replace hB := (hB.trans (b6.mono hB.size)).alloc (hB.trans (b6.mono hB.size)).size (.cells #[.int .i64 P, .int .u64 Q] 24)
    have fy := new_two w6 (.int .i64 P) (.int .u64 Q) 24
    clear b6
    go_wp2_with fail
    refine (K4 _).mono ?_
    rintro e w7 ⟨rfl, b7⟩
    replace fa := keep_two b7 fa
    replace fb := keep_two b7 fb
    replace fc := keep_two b7 fc
    replace fx := keep_two b7 fx
    replace fy := keep_two b7 fy
    replace hB := hB.trans (b7.mono hB.size)
    clear b7
    go_wp2_with fail
    refine (lives_any _).mono ?_
    rintro e w8 ⟨rfl, b8⟩
    replace fa := keep_two b8 fa
    replace hB := hB.trans (b8.mono hB.size)
    clear b8
    go_wp2_with fail
    go_ret
    exact ⟨rfl, hB⟩
set_option maxHeartbeats 1600000 in
theorem order_12 {h l h' l' h'' l'' c1 c2 x y P Q : Int} {R : Bool} (d : Bool) (w : World)
    (K1 : ∀ w, Calls Try.prog 15 #[.agg #[.int .i64 h, .int .u64 l], .agg #[.int .i64 h', .int .u64 l']] w fun e w' => e = .returned (.int .i64 c1) ∧ Below w.heap.size w w')
    (K2 : ∀ w, Calls Try.prog 15 #[.agg #[.int .i64 h', .int .u64 l'], .agg #[.int .i64 h'', .int .u64 l'']] w fun e w' => e = .returned (.int .i64 c2) ∧ Below w.heap.size w w')
    (K4 : ∀ w, Calls Try.prog 15 #[.agg #[.int .i64 h, .int .u64 l], .agg #[.int .i64 h, .int .u64 l]] w fun e w' => e = .returned (.int .i64 0) ∧ Below w.heap.size w w')
    (F1 : ∀ w, Calls Try.prog 18 #[.agg #[.int .i64 h, .int .u64 l]] w fun e w' => e = .returned (.tuple #[.int .i64 x, .bool true]) ∧ Below w.heap.size w w')
    (F2 : ∀ w, Calls Try.prog 18 #[.agg #[.int .i64 h', .int .u64 l']] w fun e w' => e = .returned (.tuple #[.int .i64 y, .bool true]) ∧ Below w.heap.size w w')
    (A1 : ∀ w, Calls Try.prog 9 #[.agg #[.int .i64 h, .int .u64 l], .agg #[.int .i64 h', .int .u64 l']] w fun e w' => e = .returned (.tuple #[.agg #[.int .i64 P, .int .u64 Q], .bool R]) ∧ Below w.heap.size w w')
    (A2 : ∀ w, Calls Try.prog 9 #[.agg #[.int .i64 h', .int .u64 l'], .agg #[.int .i64 h, .int .u64 l]] w fun e w' => e = .returned (.tuple #[.agg #[.int .i64 P, .int .u64 Q], .bool R]) ∧ Below w.heap.size w w')
    (t1 : decide (c1 ≤ 0) = true) (t2 : decide (c2 ≤ 0) = false) (e1 : decide (c1 < 0) = d) (e2 : decide (x < y) = d) : Calls Try.prog 8 #[.agg #[.int .i64 h, .int .u64 l], .agg #[.int .i64 h', .int .u64 l'], .agg #[.int .i64 h'', .int .u64 l'']] w fun e w' => e = .returned (.bool true) ∧ Below w.heap.size w w' := by
    obtain ⟨fa, fb, fc⟩ := three_cells w (.int .i64 h) (.int .u64 l) (.int .i64 h') (.int .u64 l') (.int .i64 h'') (.int .u64 l'') 24
    have hB := three_new w (.cells #[.int .i64 h, .int .u64 l] 24) (.cells #[.int .i64 h', .int .u64 l'] 24) (.cells #[.int .i64 h'', .int .u64 l''] 24)
    go_enter Try.func8, Try.ntmps8
    go_wp2_with fail
    refine (K1 _).mono ?_
    rintro e w1 ⟨rfl, b1⟩
    replace fa := keep_two b1 fa
    replace fb := keep_two b1 fb
    replace fc := keep_two b1 fc
    replace hB := hB.trans (b1.mono hB.size)
    clear b1
    go_wp2_with fail
    refine (K2 _).mono ?_
    rintro e w2 ⟨rfl, b2⟩
    replace fa := keep_two b2 fa
    replace fb := keep_two b2 fb
    replace fc := keep_two b2 fc
    replace hB := hB.trans (b2.mono hB.size)
    clear b2
    go_wp2_with fail
    refine (F1 _).mono ?_
    rintro e w3 ⟨rfl, b3⟩
    replace fa := keep_two b3 fa
    replace fb := keep_two b3 fb
    replace fc := keep_two b3 fc
    replace hB := hB.trans (b3.mono hB.size)
    clear b3
    go_wp2_with fail
    refine (F2 _).mono ?_
    rintro e w4 ⟨rfl, b4⟩
    replace fa := keep_two b4 fa
    replace fb := keep_two b4 fb
    replace fc := keep_two b4 fc
    replace hB := hB.trans (b4.mono hB.size)
    clear b4
    go_wp2_with fail
    refine (K1 _).mono ?_
    rintro e w5 ⟨rfl, b5⟩
    replace fa := keep_two b5 fa
    replace fb := keep_two b5 fb
    replace fc := keep_two b5 fc
    replace hB := hB.trans (b5.mono hB.size)
    clear b5
    go_wp2_with fail
    refine (A1 _).mono ?_
    rintro e w6 ⟨rfl, b6⟩
    replace fa := keep_alloc (keep_two b6 fa) (.cells #[.int .i64 P, .int .u64 Q] 24)
    replace fb := keep_alloc (keep_two b6 fb) (.cells #[.int .i64 P, .int .u64 Q] 24)
    replace fc := keep_alloc (keep_two b6 fc) (.cells #[.int .i64 P, .int .u64 Q] 24)
    replace hB := (hB.trans (b6.mono hB.size)).alloc (hB.trans (b6.mono hB.size)).size (.cells #[.int .i64 P, .int .u64 Q] 24)
    have fx := new_two w6 (.int .i64 P) (.int .u64 Q) 24
    clear b6
    go_wp2_with fail
    refine (A2 _).mono ?_
    rintro e w7 ⟨rfl, b7⟩
    replace fa := keep_alloc (keep_two b7 fa) (.cells #[.int .i64 P, .int .u64 Q] 24)
    replace fb := keep_alloc (keep_two b7 fb) (.cells #[.int .i64 P, .int .u64 Q] 24)
    replace fc := keep_alloc (keep_two b7 fc) (.cells #[.int .i64 P, .int .u64 Q] 24)
    replace fx := keep_alloc (keep_two b7 fx) (.cells #[.int .i64 P, .int .u64 Q] 24)
    replace hB := (hB.trans (b7.mono hB.size)).alloc (hB.trans (b7.mono hB.size)).size (.cells #[.int .i64 P, .int .u64 Q] 24)
    have fy := new_two w7 (.int .i64 P) (.int .u64 Q) 24
    clear b7
    go_wp2_with fail
    refine (K4 _).mono ?_
    rintro e w8 ⟨rfl, b8⟩
    replace fa := keep_two b8 fa
    replace fb := keep_two b8 fb
    replace fc := keep_two b8 fc
    replace fx := keep_two b8 fx
    replace fy := keep_two b8 fy
    replace hB := hB.trans (b8.mono hB.size)
    clear b8
    go_wp2_with fail
    refine (lives_any _).mono ?_
    rintro e w9 ⟨rfl, b9⟩
    replace fa := keep_two b9 fa
    replace hB := hB.trans (b9.mono hB.size)
    clear b9
    go_wp2_with fail
    go_ret
    exact ⟨rfl, hB⟩
set_option maxHeartbeats 1600000 in
theorem order_20 {h l h' l' h'' l'' c1 c2 c3 x y P Q : Int} {R : Bool} (is : Bool) (w : World)
    (K1 : ∀ w, Calls Try.prog 15 #[.agg #[.int .i64 h, .int .u64 l], .agg #[.int .i64 h', .int .u64 l']] w fun e w' => e = .returned (.int .i64 c1) ∧ Below w.heap.size w w')
    (K2 : ∀ w, Calls Try.prog 15 #[.agg #[.int .i64 h', .int .u64 l'], .agg #[.int .i64 h'', .int .u64 l'']] w fun e w' => e = .returned (.int .i64 c2) ∧ Below w.heap.size w w')
    (K3 : ∀ w, Calls Try.prog 15 #[.agg #[.int .i64 h, .int .u64 l], .agg #[.int .i64 h'', .int .u64 l'']] w fun e w' => e = .returned (.int .i64 c3) ∧ Below w.heap.size w w')
    (K4 : ∀ w, Calls Try.prog 15 #[.agg #[.int .i64 h, .int .u64 l], .agg #[.int .i64 h, .int .u64 l]] w fun e w' => e = .returned (.int .i64 0) ∧ Below w.heap.size w w')
    (F1 : ∀ w, Calls Try.prog 18 #[.agg #[.int .i64 h, .int .u64 l]] w fun e w' => e = .returned (.tuple #[.int .i64 x, .bool false]) ∧ Below w.heap.size w w')
    (F2 : ∀ w, Calls Try.prog 18 #[.agg #[.int .i64 h', .int .u64 l']] w fun e w' => e = .returned (.tuple #[.int .i64 y, .bool is]) ∧ Below w.heap.size w w')
    (A1 : ∀ w, Calls Try.prog 9 #[.agg #[.int .i64 h, .int .u64 l], .agg #[.int .i64 h', .int .u64 l']] w fun e w' => e = .returned (.tuple #[.agg #[.int .i64 P, .int .u64 Q], .bool R]) ∧ Below w.heap.size w w')
    (A2 : ∀ w, Calls Try.prog 9 #[.agg #[.int .i64 h', .int .u64 l'], .agg #[.int .i64 h, .int .u64 l]] w fun e w' => e = .returned (.tuple #[.agg #[.int .i64 P, .int .u64 Q], .bool R]) ∧ Below w.heap.size w w')
    (t1 : decide (c1 ≤ 0) = true) (t2 : decide (c2 ≤ 0) = true) (t3 : decide (0 < c3) = false) : Calls Try.prog 8 #[.agg #[.int .i64 h, .int .u64 l], .agg #[.int .i64 h', .int .u64 l'], .agg #[.int .i64 h'', .int .u64 l'']] w fun e w' => e = .returned (.bool true) ∧ Below w.heap.size w w' := by
    obtain ⟨fa, fb, fc⟩ := three_cells w (.int .i64 h) (.int .u64 l) (.int .i64 h') (.int .u64 l') (.int .i64 h'') (.int .u64 l'') 24
    have hB := three_new w (.cells #[.int .i64 h, .int .u64 l] 24) (.cells #[.int .i64 h', .int .u64 l'] 24) (.cells #[.int .i64 h'', .int .u64 l''] 24)
    go_enter Try.func8, Try.ntmps8
    go_wp2_with fail
    refine (K1 _).mono ?_
    rintro e w1 ⟨rfl, b1⟩
    replace fa := keep_two b1 fa
    replace fb := keep_two b1 fb
    replace fc := keep_two b1 fc
    replace hB := hB.trans (b1.mono hB.size)
    clear b1
    go_wp2_with fail
    refine (K2 _).mono ?_
    rintro e w2 ⟨rfl, b2⟩
    replace fa := keep_two b2 fa
    replace fb := keep_two b2 fb
    replace fc := keep_two b2 fc
    replace hB := hB.trans (b2.mono hB.size)
    clear b2
    go_wp2_with fail
    refine (K3 _).mono ?_
    rintro e w3 ⟨rfl, b3⟩
    replace fa := keep_two b3 fa
    replace fb := keep_two b3 fb
    replace fc := keep_two b3 fc
    replace hB := hB.trans (b3.mono hB.size)
    clear b3
    go_wp2_with fail
    refine (F1 _).mono ?_
    rintro e w4 ⟨rfl, b4⟩
    replace fa := keep_two b4 fa
    replace fb := keep_two b4 fb
    replace fc := keep_two b4 fc
    replace hB := hB.trans (b4.mono hB.size)
    clear b4
    go_wp2_with fail
    refine (F2 _).mono ?_
    rintro e w5 ⟨rfl, b5⟩
    replace fa := keep_two b5 fa
    replace fb := keep_two b5 fb
    replace fc := keep_two b5 fc
    replace hB := hB.trans (b5.mono hB.size)
    clear b5
    go_wp2_with fail
    refine (A1 _).mono ?_
    rintro e w6 ⟨rfl, b6⟩
    replace fa := keep_alloc (keep_two b6 fa) (.cells #[.int .i64 P, .int .u64 Q] 24)
    replace fb := keep_alloc (keep_two b6 fb) (.cells #[.int .i64 P, .int .u64 Q] 24)
    replace fc := keep_alloc (keep_two b6 fc) (.cells #[.int .i64 P, .int .u64 Q] 24)
    replace hB := (hB.trans (b6.mono hB.size)).alloc (hB.trans (b6.mono hB.size)).size (.cells #[.int .i64 P, .int .u64 Q] 24)
    have fx := new_two w6 (.int .i64 P) (.int .u64 Q) 24
    clear b6
    go_wp2_with fail
    refine (A2 _).mono ?_
    rintro e w7 ⟨rfl, b7⟩
    replace fa := keep_alloc (keep_two b7 fa) (.cells #[.int .i64 P, .int .u64 Q] 24)
    replace fb := keep_alloc (keep_two b7 fb) (.cells #[.int .i64 P, .int .u64 Q] 24)
    replace fc := keep_alloc (keep_two b7 fc) (.cells #[.int .i64 P, .int .u64 Q] 24)
    replace fx := keep_alloc (keep_two b7 fx) (.cells #[.int .i64 P, .int .u64 Q] 24)
    replace hB := (hB.trans (b7.mono hB.size)).alloc (hB.trans (b7.mono hB.size)).size (.cells #[.int .i64 P, .int .u64 Q] 24)
    have fy := new_two w7 (.int .i64 P) (.int .u64 Q) 24
    clear b7
    go_wp2_with fail
    refine (K4 _).mono ?_
    rintro e w8 ⟨rfl, b8⟩
    replace fa := keep_two b8 fa
    replace fb := keep_two b8 fb
    replace fc := keep_two b8 fc
    replace fx := keep_two b8 fx
    replace fy := keep_two b8 fy
    replace hB := hB.trans (b8.mono hB.size)
    clear b8
    go_wp2_with fail
    refine (lives_any _).mono ?_
    rintro e w9 ⟨rfl, b9⟩
    replace fa := keep_two b9 fa
    replace hB := hB.trans (b9.mono hB.size)
    clear b9
    go_wp2_with fail
    go_ret
    exact ⟨rfl, hB⟩
set_option maxHeartbeats 1600000 in
theorem order_21 {h l h' l' h'' l'' c1 c2 c3 x y P Q : Int} {R : Bool}  (w : World)
    (K1 : ∀ w, Calls Try.prog 15 #[.agg #[.int .i64 h, .int .u64 l], .agg #[.int .i64 h', .int .u64 l']] w fun e w' => e = .returned (.int .i64 c1) ∧ Below w.heap.size w w')
    (K2 : ∀ w, Calls Try.prog 15 #[.agg #[.int .i64 h', .int .u64 l'], .agg #[.int .i64 h'', .int .u64 l'']] w fun e w' => e = .returned (.int .i64 c2) ∧ Below w.heap.size w w')
    (K3 : ∀ w, Calls Try.prog 15 #[.agg #[.int .i64 h, .int .u64 l], .agg #[.int .i64 h'', .int .u64 l'']] w fun e w' => e = .returned (.int .i64 c3) ∧ Below w.heap.size w w')
    (K4 : ∀ w, Calls Try.prog 15 #[.agg #[.int .i64 h, .int .u64 l], .agg #[.int .i64 h, .int .u64 l]] w fun e w' => e = .returned (.int .i64 0) ∧ Below w.heap.size w w')
    (F1 : ∀ w, Calls Try.prog 18 #[.agg #[.int .i64 h, .int .u64 l]] w fun e w' => e = .returned (.tuple #[.int .i64 x, .bool true]) ∧ Below w.heap.size w w')
    (F2 : ∀ w, Calls Try.prog 18 #[.agg #[.int .i64 h', .int .u64 l']] w fun e w' => e = .returned (.tuple #[.int .i64 y, .bool false]) ∧ Below w.heap.size w w')
    (A1 : ∀ w, Calls Try.prog 9 #[.agg #[.int .i64 h, .int .u64 l], .agg #[.int .i64 h', .int .u64 l']] w fun e w' => e = .returned (.tuple #[.agg #[.int .i64 P, .int .u64 Q], .bool R]) ∧ Below w.heap.size w w')
    (A2 : ∀ w, Calls Try.prog 9 #[.agg #[.int .i64 h', .int .u64 l'], .agg #[.int .i64 h, .int .u64 l]] w fun e w' => e = .returned (.tuple #[.agg #[.int .i64 P, .int .u64 Q], .bool R]) ∧ Below w.heap.size w w')
    (t1 : decide (c1 ≤ 0) = true) (t2 : decide (c2 ≤ 0) = true) (t3 : decide (0 < c3) = false) : Calls Try.prog 8 #[.agg #[.int .i64 h, .int .u64 l], .agg #[.int .i64 h', .int .u64 l'], .agg #[.int .i64 h'', .int .u64 l'']] w fun e w' => e = .returned (.bool true) ∧ Below w.heap.size w w' := by
    obtain ⟨fa, fb, fc⟩ := three_cells w (.int .i64 h) (.int .u64 l) (.int .i64 h') (.int .u64 l') (.int .i64 h'') (.int .u64 l'') 24
    have hB := three_new w (.cells #[.int .i64 h, .int .u64 l] 24) (.cells #[.int .i64 h', .int .u64 l'] 24) (.cells #[.int .i64 h'', .int .u64 l''] 24)
    go_enter Try.func8, Try.ntmps8
    go_wp2_with fail
    refine (K1 _).mono ?_
    rintro e w1 ⟨rfl, b1⟩
    replace fa := keep_two b1 fa
    replace fb := keep_two b1 fb
    replace fc := keep_two b1 fc
    replace hB := hB.trans (b1.mono hB.size)
    clear b1
    go_wp2_with fail
    refine (K2 _).mono ?_
    rintro e w2 ⟨rfl, b2⟩
    replace fa := keep_two b2 fa
    replace fb := keep_two b2 fb
    replace fc := keep_two b2 fc
    replace hB := hB.trans (b2.mono hB.size)
    clear b2
    go_wp2_with fail
    refine (K3 _).mono ?_
    rintro e w3 ⟨rfl, b3⟩
    replace fa := keep_two b3 fa
    replace fb := keep_two b3 fb
    replace fc := keep_two b3 fc
    replace hB := hB.trans (b3.mono hB.size)
    clear b3
    go_wp2_with fail
    refine (F1 _).mono ?_
    rintro e w4 ⟨rfl, b4⟩
    replace fa := keep_two b4 fa
    replace fb := keep_two b4 fb
    replace fc := keep_two b4 fc
    replace hB := hB.trans (b4.mono hB.size)
    clear b4
    go_wp2_with fail
    refine (F2 _).mono ?_
    rintro e w5 ⟨rfl, b5⟩
    replace fa := keep_two b5 fa
    replace fb := keep_two b5 fb
    replace fc := keep_two b5 fc
    replace hB := hB.trans (b5.mono hB.size)
    clear b5
    go_wp2_with fail
    refine (A1 _).mono ?_
    rintro e w6 ⟨rfl, b6⟩
    replace fa := keep_alloc (keep_two b6 fa) (.cells #[.int .i64 P, .int .u64 Q] 24)
    replace fb := keep_alloc (keep_two b6 fb) (.cells #[.int .i64 P, .int .u64 Q] 24)
    replace fc := keep_alloc (keep_two b6 fc) (.cells #[.int .i64 P, .int .u64 Q] 24)
    replace hB := (hB.trans (b6.mono hB.size)).alloc (hB.trans (b6.mono hB.size)).size (.cells #[.int .i64 P, .int .u64 Q] 24)
    have fx := new_two w6 (.int .i64 P) (.int .u64 Q) 24
    clear b6
    go_wp2_with fail
    refine (A2 _).mono ?_
    rintro e w7 ⟨rfl, b7⟩
    replace fa := keep_alloc (keep_two b7 fa) (.cells #[.int .i64 P, .int .u64 Q] 24)
    replace fb := keep_alloc (keep_two b7 fb) (.cells #[.int .i64 P, .int .u64 Q] 24)
    replace fc := keep_alloc (keep_two b7 fc) (.cells #[.int .i64 P, .int .u64 Q] 24)
    replace fx := keep_alloc (keep_two b7 fx) (.cells #[.int .i64 P, .int .u64 Q] 24)
    replace hB := (hB.trans (b7.mono hB.size)).alloc (hB.trans (b7.mono hB.size)).size (.cells #[.int .i64 P, .int .u64 Q] 24)
    have fy := new_two w7 (.int .i64 P) (.int .u64 Q) 24
    clear b7
    go_wp2_with fail
    refine (K4 _).mono ?_
    rintro e w8 ⟨rfl, b8⟩
    replace fa := keep_two b8 fa
    replace fb := keep_two b8 fb
    replace fc := keep_two b8 fc
    replace fx := keep_two b8 fx
    replace fy := keep_two b8 fy
    replace hB := hB.trans (b8.mono hB.size)
    clear b8
    go_wp2_with fail
    refine (lives_any _).mono ?_
    rintro e w9 ⟨rfl, b9⟩
    replace fa := keep_two b9 fa
    replace hB := hB.trans (b9.mono hB.size)
    clear b9
    go_wp2_with fail
    go_ret
    exact ⟨rfl, hB⟩
set_option maxHeartbeats 1600000 in
theorem order_22 {h l h' l' h'' l'' c1 c2 c3 x y P Q : Int} {R : Bool} (d : Bool) (w : World)
    (K1 : ∀ w, Calls Try.prog 15 #[.agg #[.int .i64 h, .int .u64 l], .agg #[.int .i64 h', .int .u64 l']] w fun e w' => e = .returned (.int .i64 c1) ∧ Below w.heap.size w w')
    (K2 : ∀ w, Calls Try.prog 15 #[.agg #[.int .i64 h', .int .u64 l'], .agg #[.int .i64 h'', .int .u64 l'']] w fun e w' => e = .returned (.int .i64 c2) ∧ Below w.heap.size w w')
    (K3 : ∀ w, Calls Try.prog 15 #[.agg #[.int .i64 h, .int .u64 l], .agg #[.int .i64 h'', .int .u64 l'']] w fun e w' => e = .returned (.int .i64 c3) ∧ Below w.heap.size w w')
    (K4 : ∀ w, Calls Try.prog 15 #[.agg #[.int .i64 h, .int .u64 l], .agg #[.int .i64 h, .int .u64 l]] w fun e w' => e = .returned (.int .i64 0) ∧ Below w.heap.size w w')
    (F1 : ∀ w, Calls Try.prog 18 #[.agg #[.int .i64 h, .int .u64 l]] w fun e w' => e = .returned (.tuple #[.int .i64 x, .bool true]) ∧ Below w.heap.size w w')
    (F2 : ∀ w, Calls Try.prog 18 #[.agg #[.int .i64 h', .int .u64 l']] w fun e w' => e = .returned (.tuple #[.int .i64 y, .bool true]) ∧ Below w.heap.size w w')
    (A1 : ∀ w, Calls Try.prog 9 #[.agg #[.int .i64 h, .int .u64 l], .agg #[.int .i64 h', .int .u64 l']] w fun e w' => e = .returned (.tuple #[.agg #[.int .i64 P, .int .u64 Q], .bool R]) ∧ Below w.heap.size w w')
    (A2 : ∀ w, Calls Try.prog 9 #[.agg #[.int .i64 h', .int .u64 l'], .agg #[.int .i64 h, .int .u64 l]] w fun e w' => e = .returned (.tuple #[.agg #[.int .i64 P, .int .u64 Q], .bool R]) ∧ Below w.heap.size w w')
    (t1 : decide (c1 ≤ 0) = true) (t2 : decide (c2 ≤ 0) = true) (t3 : decide (0 < c3) = false) (e1 : decide (c1 < 0) = d) (e2 : decide (x < y) = d) : Calls Try.prog 8 #[.agg #[.int .i64 h, .int .u64 l], .agg #[.int .i64 h', .int .u64 l'], .agg #[.int .i64 h'', .int .u64 l'']] w fun e w' => e = .returned (.bool true) ∧ Below w.heap.size w w' := by
    obtain ⟨fa, fb, fc⟩ := three_cells w (.int .i64 h) (.int .u64 l) (.int .i64 h') (.int .u64 l') (.int .i64 h'') (.int .u64 l'') 24
    have hB := three_new w (.cells #[.int .i64 h, .int .u64 l] 24) (.cells #[.int .i64 h', .int .u64 l'] 24) (.cells #[.int .i64 h'', .int .u64 l''] 24)
    go_enter Try.func8, Try.ntmps8
    go_wp2_with fail
    refine (K1 _).mono ?_
    rintro e w1 ⟨rfl, b1⟩
    replace fa := keep_two b1 fa
    replace fb := keep_two b1 fb
    replace fc := keep_two b1 fc
    replace hB := hB.trans (b1.mono hB.size)
    clear b1
    go_wp2_with fail
    refine (K2 _).mono ?_
    rintro e w2 ⟨rfl, b2⟩
    replace fa := keep_two b2 fa
    replace fb := keep_two b2 fb
    replace fc := keep_two b2 fc
    replace hB := hB.trans (b2.mono hB.size)
    clear b2
    go_wp2_with fail
    refine (K3 _).mono ?_
    rintro e w3 ⟨rfl, b3⟩
    replace fa := keep_two b3 fa
    replace fb := keep_two b3 fb
    replace fc := keep_two b3 fc
    replace hB := hB.trans (b3.mono hB.size)
    clear b3
    go_wp2_with fail
    refine (F1 _).mono ?_
    rintro e w4 ⟨rfl, b4⟩
    replace fa := keep_two b4 fa
    replace fb := keep_two b4 fb
    replace fc := keep_two b4 fc
    replace hB := hB.trans (b4.mono hB.size)
    clear b4
    go_wp2_with fail
    refine (F2 _).mono ?_
    rintro e w5 ⟨rfl, b5⟩
    replace fa := keep_two b5 fa
    replace fb := keep_two b5 fb
    replace fc := keep_two b5 fc
    replace hB := hB.trans (b5.mono hB.size)
    clear b5
    go_wp2_with fail
    refine (K1 _).mono ?_
    rintro e w6 ⟨rfl, b6⟩
    replace fa := keep_two b6 fa
    replace fb := keep_two b6 fb
    replace fc := keep_two b6 fc
    replace hB := hB.trans (b6.mono hB.size)
    clear b6
    go_wp2_with fail
    refine (A1 _).mono ?_
    rintro e w7 ⟨rfl, b7⟩
    replace fa := keep_alloc (keep_two b7 fa) (.cells #[.int .i64 P, .int .u64 Q] 24)
    replace fb := keep_alloc (keep_two b7 fb) (.cells #[.int .i64 P, .int .u64 Q] 24)
    replace fc := keep_alloc (keep_two b7 fc) (.cells #[.int .i64 P, .int .u64 Q] 24)
    replace hB := (hB.trans (b7.mono hB.size)).alloc (hB.trans (b7.mono hB.size)).size (.cells #[.int .i64 P, .int .u64 Q] 24)
    have fx := new_two w7 (.int .i64 P) (.int .u64 Q) 24
    clear b7
    go_wp2_with fail
    refine (A2 _).mono ?_
    rintro e w8 ⟨rfl, b8⟩
    replace fa := keep_alloc (keep_two b8 fa) (.cells #[.int .i64 P, .int .u64 Q] 24)
    replace fb := keep_alloc (keep_two b8 fb) (.cells #[.int .i64 P, .int .u64 Q] 24)
    replace fc := keep_alloc (keep_two b8 fc) (.cells #[.int .i64 P, .int .u64 Q] 24)
    replace fx := keep_alloc (keep_two b8 fx) (.cells #[.int .i64 P, .int .u64 Q] 24)
    replace hB := (hB.trans (b8.mono hB.size)).alloc (hB.trans (b8.mono hB.size)).size (.cells #[.int .i64 P, .int .u64 Q] 24)
    have fy := new_two w8 (.int .i64 P) (.int .u64 Q) 24
    clear b8
    go_wp2_with fail
    refine (K4 _).mono ?_
    rintro e w9 ⟨rfl, b9⟩
    replace fa := keep_two b9 fa
    replace fb := keep_two b9 fb
    replace fc := keep_two b9 fc
    replace fx := keep_two b9 fx
    replace fy := keep_two b9 fy
    replace hB := hB.trans (b9.mono hB.size)
    clear b9
    go_wp2_with fail
    refine (lives_any _).mono ?_
    rintro e w10 ⟨rfl, b10⟩
    replace fa := keep_two b10 fa
    replace hB := hB.trans (b10.mono hB.size)
    clear b10
    go_wp2_with fail
    go_ret
    exact ⟨rfl, hB⟩
theorem cmp_le (A B : Int) : (cmpW A B ≤ 0 ↔ A ≤ B) ∧ (cmpW A B < 0 ↔ A < B) ∧ (0 < cmpW A B ↔ B < A) ∧ (cmpW A B = 0 ↔ A = B) := by
  unfold cmpW; split
  · omega
  · split <;> omega
theorem order_walk (h l h' l' h'' l'' : Int) (h0 : -9223372036854775808 ≤ h) (h1 : h < 9223372036854775808) (l0 : 0 ≤ l) (l1 : l < 18446744073709551616) (k0 : -9223372036854775808 ≤ h') (k1 : h' < 9223372036854775808) (m0 : 0 ≤ l') (m1 : l' < 18446744073709551616) (_ : -9223372036854775808 ≤ h'') (_ : h'' < 9223372036854775808) (n0 : 0 ≤ l'') (n1 : l'' < 18446744073709551616) (w : World) : Calls Try.prog 8 #[.agg #[.int .i64 h, .int .u64 l], .agg #[.int .i64 h', .int .u64 l'], .agg #[.int .i64 h'', .int .u64 l'']] w fun e w' => e = .returned (.bool true) ∧ Below w.heap.size w w' := by
  have K1 := fun w => cmp_any h l h' l' w l0 l1 m0 m1
  have K2 := fun w => cmp_any h' l' h'' l'' w m0 m1 n0 n1
  have K3 := fun w => cmp_any h l h'' l'' w l0 l1 n0 n1
  have K4 := fun w => cmp_any h l h l w l0 l1 l0 l1
  have F1 := fun w => fits_any h l w l0 l1
  have F2 := fun w => fits_any h' l' w m0 m1
  have A1 := fun w => add_any h l h' l' w h0 h1 l0 l1 k0 k1 m0 m1
  have A2 := fun w => add_any h' l' h l w k0 k1 m0 m1 h0 h1 l0 l1
  rw [Int.add_comm (h' * 18446744073709551616 + l') (h * 18446744073709551616 + l)] at A2
  generalize (h * 18446744073709551616 + l) = A at K1 K3 K4 F1 A1 A2
  generalize (h' * 18446744073709551616 + l') = B at K1 K2 F2 A1 A2
  generalize (h'' * 18446744073709551616 + l'') = C at K2 K3
  rw [(cmp_le A A).2.2.2.2 rfl] at K4
  unfold wv at A1 A2
  have hd : fit64 A = true → fit64 B = true → decide (cmpW A B < 0) = decide (int64 A < int64 B) := fun ha hb => by
    unfold int64
    rw [ha, hb, if_pos rfl, if_pos rfl]
    exact decide_eq_decide.2 (cmp_le A B).2.1
  by_cases p1 : A ≤ B
  · by_cases p2 : B ≤ C
    · by_cases q1 : fit64 A = true
      · rw [q1] at F1
        by_cases q2 : fit64 B = true
        · rw [q2] at F2
          exact order_22 _ w K1 K2 K3 K4 F1 F2 A1 A2 (decide_eq_true ((cmp_le A B).1.2 p1)) (decide_eq_true ((cmp_le B C).1.2 p2)) (decide_eq_false (fun e => by have := (cmp_le A C).2.2.1.1 e; omega)) (hd q1 q2) rfl
        · rw [Bool.eq_false_iff.2 q2] at F2
          exact order_21 w K1 K2 K3 K4 F1 F2 A1 A2 (decide_eq_true ((cmp_le A B).1.2 p1)) (decide_eq_true ((cmp_le B C).1.2 p2)) (decide_eq_false (fun e => by have := (cmp_le A C).2.2.1.1 e; omega))
      · rw [Bool.eq_false_iff.2 q1] at F1
        exact order_20 _ w K1 K2 K3 K4 F1 F2 A1 A2 (decide_eq_true ((cmp_le A B).1.2 p1)) (decide_eq_true ((cmp_le B C).1.2 p2)) (decide_eq_false (fun e => by have := (cmp_le A C).2.2.1.1 e; omega))
    · by_cases q1 : fit64 A = true
      · rw [q1] at F1
        by_cases q2 : fit64 B = true
        · rw [q2] at F2
          exact order_12 _ w K1 K2 K4 F1 F2 A1 A2 (decide_eq_true ((cmp_le A B).1.2 p1)) (decide_eq_false (fun e => p2 ((cmp_le B C).1.1 e))) (hd q1 q2) rfl
        · rw [Bool.eq_false_iff.2 q2] at F2
          exact order_11 w K1 K2 K4 F1 F2 A1 A2 (decide_eq_true ((cmp_le A B).1.2 p1)) (decide_eq_false (fun e => p2 ((cmp_le B C).1.1 e)))
      · rw [Bool.eq_false_iff.2 q1] at F1
        exact order_10 _ w K1 K2 K4 F1 F2 A1 A2 (decide_eq_true ((cmp_le A B).1.2 p1)) (decide_eq_false (fun e => p2 ((cmp_le B C).1.1 e)))
  · by_cases q1 : fit64 A = true
    · rw [q1] at F1
      by_cases q2 : fit64 B = true
      · rw [q2] at F2
        exact order_02 _ w K1 K4 F1 F2 A1 A2 (decide_eq_false (fun e => p1 ((cmp_le A B).1.1 e))) (hd q1 q2) rfl
      · rw [Bool.eq_false_iff.2 q2] at F2
        exact order_01 w K1 K4 F1 F2 A1 A2 (decide_eq_false (fun e => p1 ((cmp_le A B).1.1 e)))
    · rw [Bool.eq_false_iff.2 q1] at F1
      exact order_00 _ w K1 K4 F1 F2 A1 A2 (decide_eq_false (fun e => p1 ((cmp_le A B).1.1 e)))
end Go.Proofs.Ytnljlbdecknbpaa
