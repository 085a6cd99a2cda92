/- The walk of WideBack. Conditions: none. -/
import Derived.Test.YtnljlbdecknbpaaWideY
set_option maxRecDepth 100000
namespace Go.Proofs.Ytnljlbdecknbpaa
open Go.RowKit

theorem two_cells (w : World) (a0 a1 b0 b1 : Value) (t : TypeId) : (((w.alloc (.cells #[a0, a1] t)).alloc (.cells #[b0, b1] t)).cell? ⟨w.heap.size, 0, none⟩ = some a0 ∧ ((w.alloc (.cells #[a0, a1] t)).alloc (.cells #[b0, b1] t)).cell? ⟨w.heap.size, 1, none⟩ = some a1) ∧
    (((w.alloc (.cells #[a0, a1] t)).alloc (.cells #[b0, b1] t)).cell? ⟨w.heap.size + 1, 0, none⟩ = some b0 ∧ ((w.alloc (.cells #[a0, a1] t)).alloc (.cells #[b0, b1] t)).cell? ⟨w.heap.size + 1, 1, none⟩ = some b1) := by
  refine ⟨⟨?_, ?_⟩, ⟨?_, ?_⟩⟩ <;> go_simp
theorem k6_two {W : World} {p q r : Nat} {x y x' y' x'' y'' : Value} (f : W.cell? ⟨p, 0, none⟩ = some x ∧ W.cell? ⟨p, 1, none⟩ = some y) (g : W.cell? ⟨q, 0, none⟩ = some x' ∧ W.cell? ⟨q, 1, none⟩ = some y') (k : W.cell? ⟨r, 0, none⟩ = some x'' ∧ W.cell? ⟨r, 1, none⟩ = some y'') :
    W.cell? ⟨p, 0, none⟩ = some x ∧ W.cell? ⟨p, 1, none⟩ = some y ∧ W.cell? ⟨q, 0, none⟩ = some x' ∧ W.cell? ⟨q, 1, none⟩ = some y' ∧ W.cell? ⟨r, 0, none⟩ = some x'' ∧ W.cell? ⟨r, 1, none⟩ = some y'' := ⟨f.1, f.2, g.1, g.2, k.1, k.2⟩
set_option maxHeartbeats 3200000 in
theorem back_00 {h l h' l' n p q P Q R S c1 : Int} {tx : List UInt8} (w : World)
    (KP : ∀ w, Calls Try.prog 26 #[.agg #[.int .i64 h, .int .u64 l]] w fun e w' => e = .returned (.string ⟨tx.toArray⟩) ∧ Below w.heap.size w w')
    (KS : ∀ w, Calls Try.prog 24 #[.string ⟨tx.toArray⟩] w fun e w' => e = .returned (.tuple #[.agg #[.int .i64 h, .int .u64 l], .bool true]) ∧ Below w.heap.size w w')
    (KO : ∀ w, Calls Try.prog 20 #[.int .i64 n] w fun e w' => e = .returned (.agg #[.int .i64 p, .int .u64 q]) ∧ Below w.heap.size w w')
    (KF : ∀ w, Calls Try.prog 18 #[.agg #[.int .i64 p, .int .u64 q]] w fun e w' => e = .returned (.tuple #[.int .i64 n, .bool true]) ∧ Below w.heap.size w w')
    (A1 : ∀ w, Calls Try.prog 9 #[.agg #[.int .i64 h, .int .u64 l], .agg #[.int .i64 h', .int .u64 l']] w fun e w' => e = .returned (.tuple #[.agg #[.int .i64 P, .int .u64 Q], .bool false]) ∧ Below w.heap.size w w')
    (S2 : ∀ w, Calls Try.prog 11 #[.agg #[.int .i64 h, .int .u64 l], .agg #[.int .i64 h', .int .u64 l']] w fun e w' => e = .returned (.tuple #[.agg #[.int .i64 R, .int .u64 S], .bool false]) ∧ Below w.heap.size w w')
    (KC : ∀ x y x' y' c : Int, (x = h ∧ y = l ∧ x' = h' ∧ y' = l' ∧ c = c1) ∨ (x = h' ∧ y = l' ∧ x' = h ∧ y' = l ∧ c = -c1) → ∀ w, Calls Try.prog 15 #[.agg #[.int .i64 x, .int .u64 y], .agg #[.int .i64 x', .int .u64 y']] w fun e w' => e = .returned (.int .i64 c) ∧ Below w.heap.size w w')
    (e1 : IntKind.i64.wrap c1 = c1) : Calls Try.prog 6 #[.agg #[.int .i64 h, .int .u64 l], .agg #[.int .i64 h', .int .u64 l'], .int .i64 n] w fun e w' => e = .returned (.bool true) ∧ Below w.heap.size w w' := by
    obtain ⟨fa, fb⟩ := two_cells w (.int .i64 h) (.int .u64 l) (.int .i64 h') (.int .u64 l') 24
    have hB := two_new w (.cells #[.int .i64 h, .int .u64 l] 24) (.cells #[.int .i64 h', .int .u64 l'] 24)
    go_enter Try.func6, Try.ntmps6
    go_wp2_with fail
    refine (KP _).mono ?_
    rintro e w1 ⟨rfl, b1⟩
    replace fa := keep_two b1 fa
    replace fb := keep_two b1 fb
    replace hB := hB.trans (b1.mono hB.size)
    clear b1
    go_wp2_with fail
    refine (KS _).mono ?_
    rintro e w2 ⟨rfl, b2⟩
    replace fa := keep_alloc (keep_two b2 fa) (.cells #[.int .i64 h, .int .u64 l] 24)
    replace fb := keep_alloc (keep_two b2 fb) (.cells #[.int .i64 h, .int .u64 l] 24)
    replace hB := (hB.trans (b2.mono hB.size)).alloc (hB.trans (b2.mono hB.size)).size (.cells #[.int .i64 h, .int .u64 l] 24)
    have fx := new_two w2 (.int .i64 h) (.int .u64 l) 24
    clear b2
    go_wp2_with fail
    refine (KO _).mono ?_
    rintro e w3 ⟨rfl, b3⟩
    replace fa := keep_two b3 fa
    replace fb := keep_two b3 fb
    replace fx := keep_two b3 fx
    replace hB := hB.trans (b3.mono hB.size)
    clear b3
    go_wp2_with fail
    refine (KF _).mono ?_
    rintro e w4 ⟨rfl, b4⟩
    replace fa := keep_two b4 fa
    replace fb := keep_two b4 fb
    replace fx := keep_two b4 fx
    replace hB := hB.trans (b4.mono hB.size)
    clear b4
    go_wp2_with fail
    clear KP KS KO KF fx
    refine (A1 _).mono ?_
    rintro e w5 ⟨rfl, b5⟩
    replace fa := keep_alloc (keep_two b5 fa) (.cells #[.int .i64 P, .int .u64 Q] 24)
    replace fb := keep_alloc (keep_two b5 fb) (.cells #[.int .i64 P, .int .u64 Q] 24)
    replace hB := (hB.trans (b5.mono hB.size)).alloc (hB.trans (b5.mono hB.size)).size (.cells #[.int .i64 P, .int .u64 Q] 24)
    have fs := new_two w5 (.int .i64 P) (.int .u64 Q) 24
    clear b5
    go_wp2_with fail
    clear fs
    refine (S2 _).mono ?_
    rintro e w6 ⟨rfl, b6⟩
    replace fa := keep_alloc (keep_two b6 fa) (.cells #[.int .i64 R, .int .u64 S] 24)
    replace fb := keep_alloc (keep_two b6 fb) (.cells #[.int .i64 R, .int .u64 S] 24)
    replace hB := (hB.trans (b6.mono hB.size)).alloc (hB.trans (b6.mono hB.size)).size (.cells #[.int .i64 R, .int .u64 S] 24)
    have fd := new_two w6 (.int .i64 R) (.int .u64 S) 24
    clear b6
    go_wp2_with fail
    have HF := k6_two fa fb fd
    clear fa fb fd A1 S2
    generalize w6.heap.size = g at HF ⊢
    generalize w6.alloc (.cells #[.int .i64 R, .int .u64 S] 24) = W at HF hB ⊢
    have HS := k6_keep HF (Below.refl _ _).drew
    clear HS
    go_quiet (fail)
    go_wp2_with fail
    have HS := k6_keep HF (below_drewN (Below.refl W.heap.size W) nq).drew
    go_region_held3 (fun w' => w'.cell? ⟨w.heap.size, 0, none⟩ = some (.int .i64 h) ∧ w'.cell? ⟨w.heap.size, 1, none⟩ = some (.int .u64 l) ∧ w'.cell? ⟨w.heap.size + 1, 0, none⟩ = some (.int .i64 h') ∧ w'.cell? ⟨w.heap.size + 1, 1, none⟩ = some (.int .u64 l') ∧ w'.cell? ⟨g, 0, none⟩ = some (.int .i64 R) ∧ w'.cell? ⟨g, 1, none⟩ = some (.int .u64 S) ∧ Below W.heap.size W w')
      (first | exact HS | (refine k6_next HF (by assumption) (by first | assumption | exact HS)))
      (first | (go_at_call 15; refine (KC _ _ _ _ _ (by first | exact .inl ⟨rfl, rfl, rfl, rfl, rfl⟩ | exact .inr ⟨rfl, rfl, rfl, rfl, rfl⟩) _).mono ?_; rintro e w9 ⟨rfl, hb9⟩) | (go_at_call 17; refine (lives_any _).mono ?_; rintro e w9 ⟨rfl, hb9⟩))
    rename_i hHeld
    have HB2 := Lib.hid (hB.trans (hHeld.2.2.2.2.2.2.mono hB.size))
    clear hHeld
    go_wp2_with fail
    go_ret
    exact ⟨rfl, HB2.out⟩
set_option maxHeartbeats 3200000 in
theorem back_01 {h l h' l' n p q P Q R S c1 : Int} {tx : List UInt8} (w : World)
    (KP : ∀ w, Calls Try.prog 26 #[.agg #[.int .i64 h, .int .u64 l]] w fun e w' => e = .returned (.string ⟨tx.toArray⟩) ∧ Below w.heap.size w w')
    (KS : ∀ w, Calls Try.prog 24 #[.string ⟨tx.toArray⟩] w fun e w' => e = .returned (.tuple #[.agg #[.int .i64 h, .int .u64 l], .bool true]) ∧ Below w.heap.size w w')
    (KO : ∀ w, Calls Try.prog 20 #[.int .i64 n] w fun e w' => e = .returned (.agg #[.int .i64 p, .int .u64 q]) ∧ Below w.heap.size w w')
    (KF : ∀ w, Calls Try.prog 18 #[.agg #[.int .i64 p, .int .u64 q]] w fun e w' => e = .returned (.tuple #[.int .i64 n, .bool true]) ∧ Below w.heap.size w w')
    (A1 : ∀ w, Calls Try.prog 9 #[.agg #[.int .i64 h, .int .u64 l], .agg #[.int .i64 h', .int .u64 l']] w fun e w' => e = .returned (.tuple #[.agg #[.int .i64 P, .int .u64 Q], .bool false]) ∧ Below w.heap.size w w')
    (S2 : ∀ w, Calls Try.prog 11 #[.agg #[.int .i64 h, .int .u64 l], .agg #[.int .i64 h', .int .u64 l']] w fun e w' => e = .returned (.tuple #[.agg #[.int .i64 R, .int .u64 S], .bool true]) ∧ Below w.heap.size w w')
    (KC : ∀ x y x' y' c : Int, (x = h ∧ y = l ∧ x' = h' ∧ y' = l' ∧ c = c1) ∨ (x = h' ∧ y = l' ∧ x' = h ∧ y' = l ∧ c = -c1) ∨ (x = R ∧ y = S ∧ x' = 0 ∧ y' = 0 ∧ c = c1) → ∀ w, Calls Try.prog 15 #[.agg #[.int .i64 x, .int .u64 y], .agg #[.int .i64 x', .int .u64 y']] w fun e w' => e = .returned (.int .i64 c) ∧ Below w.heap.size w w')
    (e1 : IntKind.i64.wrap c1 = c1) : Calls Try.prog 6 #[.agg #[.int .i64 h, .int .u64 l], .agg #[.int .i64 h', .int .u64 l'], .int .i64 n] w fun e w' => e = .returned (.bool true) ∧ Below w.heap.size w w' := by
    obtain ⟨fa, fb⟩ := two_cells w (.int .i64 h) (.int .u64 l) (.int .i64 h') (.int .u64 l') 24
    have hB := two_new w (.cells #[.int .i64 h, .int .u64 l] 24) (.cells #[.int .i64 h', .int .u64 l'] 24)
    go_enter Try.func6, Try.ntmps6
    go_wp2_with fail
    refine (KP _).mono ?_
    rintro e w1 ⟨rfl, b1⟩
    replace fa := keep_two b1 fa
    replace fb := keep_two b1 fb
    replace hB := hB.trans (b1.mono hB.size)
    clear b1
    go_wp2_with fail
    refine (KS _).mono ?_
    rintro e w2 ⟨rfl, b2⟩
    replace fa := keep_alloc (keep_two b2 fa) (.cells #[.int .i64 h, .int .u64 l] 24)
    replace fb := keep_alloc (keep_two b2 fb) (.cells #[.int .i64 h, .int .u64 l] 24)
    replace hB := (hB.trans (b2.mono hB.size)).alloc (hB.trans (b2.mono hB.size)).size (.cells #[.int .i64 h, .int .u64 l] 24)
    have fx := new_two w2 (.int .i64 h) (.int .u64 l) 24
    clear b2
    go_wp2_with fail
    refine (KO _).mono ?_
    rintro e w3 ⟨rfl, b3⟩
    replace fa := keep_two b3 fa
    replace fb := keep_two b3 fb
    replace fx := keep_two b3 fx
    replace hB := hB.trans (b3.mono hB.size)
    clear b3
    go_wp2_with fail
    refine (KF _).mono ?_
    rintro e w4 ⟨rfl, b4⟩
    replace fa := keep_two b4 fa
    replace fb := keep_two b4 fb
    replace fx := keep_two b4 fx
    replace hB := hB.trans (b4.mono hB.size)
    clear b4
    go_wp2_with fail
    clear KP KS KO KF fx
    refine (A1 _).mono ?_
    rintro e w5 ⟨rfl, b5⟩
    replace fa := keep_alloc (keep_two b5 fa) (.cells #[.int .i64 P, .int .u64 Q] 24)
    replace fb := keep_alloc (keep_two b5 fb) (.cells #[.int .i64 P, .int .u64 Q] 24)
    replace hB := (hB.trans (b5.mono hB.size)).alloc (hB.trans (b5.mono hB.size)).size (.cells #[.int .i64 P, .int .u64 Q] 24)
    have fs := new_two w5 (.int .i64 P) (.int .u64 Q) 24
    clear b5
    go_wp2_with fail
    clear fs
    refine (S2 _).mono ?_
    rintro e w6 ⟨rfl, b6⟩
    replace fa := keep_alloc (keep_two b6 fa) (.cells #[.int .i64 R, .int .u64 S] 24)
    replace fb := keep_alloc (keep_two b6 fb) (.cells #[.int .i64 R, .int .u64 S] 24)
    replace hB := (hB.trans (b6.mono hB.size)).alloc (hB.trans (b6.mono hB.size)).size (.cells #[.int .i64 R, .int .u64 S] 24)
    have fd := new_two w6 (.int .i64 R) (.int .u64 S) 24
    clear b6
    go_wp2_with fail
    have HF := k6_two fa fb fd
    clear fa fb fd A1 S2
    generalize w6.heap.size = g at HF ⊢
    generalize w6.alloc (.cells #[.int .i64 R, .int .u64 S] 24) = W at HF hB ⊢
    have HS := k6_keep HF (Below.refl _ _).drew
    go_region_held3 (fun w' => w'.cell? ⟨w.heap.size, 0, none⟩ = some (.int .i64 h) ∧ w'.cell? ⟨w.heap.size, 1, none⟩ = some (.int .u64 l) ∧ w'.cell? ⟨w.heap.size + 1, 0, none⟩ = some (.int .i64 h') ∧ w'.cell? ⟨w.heap.size + 1, 1, none⟩ = some (.int .u64 l') ∧ w'.cell? ⟨g, 0, none⟩ = some (.int .i64 R) ∧ w'.cell? ⟨g, 1, none⟩ = some (.int .u64 S) ∧ Below W.heap.size W w')
      (first | exact HS | (refine k6_next HF (by assumption) (by first | assumption | exact HS)))
      (first | (go_at_call 15; refine (KC _ _ _ _ _ (by first | exact .inl ⟨rfl, rfl, rfl, rfl, rfl⟩ | exact .inr (.inl ⟨rfl, rfl, rfl, rfl, rfl⟩) | exact .inr (.inr ⟨rfl, rfl, rfl, rfl, rfl⟩)) _).mono ?_; rintro e w9 ⟨rfl, hb9⟩))
    rename_i hHeld
    clear HS
    have HF1 := hHeld
    go_wp2_with fail
    have HS := k6_keep (W := w9) ⟨HF1.1, HF1.2.1, HF1.2.2.1, HF1.2.2.2.1, HF1.2.2.2.2.1, HF1.2.2.2.2.2.1⟩ (Below.refl _ _).drew
    have HF2 := And.intro HF1.1 (And.intro HF1.2.1 (And.intro HF1.2.2.1 (And.intro HF1.2.2.2.1 (And.intro HF1.2.2.2.2.1 HF1.2.2.2.2.2.1))))
    have hB2 := hB.trans (HF1.2.2.2.2.2.2.mono hB.size)
    clear HF1 HF hB hHeld
    go_region_held3 (fun w' => w'.cell? ⟨w.heap.size, 0, none⟩ = some (.int .i64 h) ∧ w'.cell? ⟨w.heap.size, 1, none⟩ = some (.int .u64 l) ∧ w'.cell? ⟨w.heap.size + 1, 0, none⟩ = some (.int .i64 h') ∧ w'.cell? ⟨w.heap.size + 1, 1, none⟩ = some (.int .u64 l') ∧ w'.cell? ⟨g, 0, none⟩ = some (.int .i64 R) ∧ w'.cell? ⟨g, 1, none⟩ = some (.int .u64 S) ∧ Below w9.heap.size w9 w')
      (first | exact HS | (refine k6_next HF2 (by assumption) (by first | assumption | exact HS)))
      (first | (go_at_call 15; refine (KC _ _ _ _ _ (by first | exact .inl ⟨rfl, rfl, rfl, rfl, rfl⟩ | exact .inr (.inl ⟨rfl, rfl, rfl, rfl, rfl⟩) | exact .inr (.inr ⟨rfl, rfl, rfl, rfl, rfl⟩)) _).mono ?_; rintro e w9 ⟨rfl, hb9⟩) | (go_at_call 17; refine (lives_any _).mono ?_; rintro e w9 ⟨rfl, hb9⟩))
    rename_i hHeld
    have HB2 := Lib.hid (hB2.trans (hHeld.2.2.2.2.2.2.mono hB2.size))
    clear hHeld
    go_wp2_with fail
    go_ret
    exact ⟨rfl, HB2.out⟩
set_option maxHeartbeats 3200000 in
theorem back_10 {h l h' l' n p q P Q R S c1 : Int} {tx : List UInt8} (w : World)
    (KP : ∀ w, Calls Try.prog 26 #[.agg #[.int .i64 h, .int .u64 l]] w fun e w' => e = .returned (.string ⟨tx.toArray⟩) ∧ Below w.heap.size w w')
    (KS : ∀ w, Calls Try.prog 24 #[.string ⟨tx.toArray⟩] w fun e w' => e = .returned (.tuple #[.agg #[.int .i64 h, .int .u64 l], .bool true]) ∧ Below w.heap.size w w')
    (KO : ∀ w, Calls Try.prog 20 #[.int .i64 n] w fun e w' => e = .returned (.agg #[.int .i64 p, .int .u64 q]) ∧ Below w.heap.size w w')
    (KF : ∀ w, Calls Try.prog 18 #[.agg #[.int .i64 p, .int .u64 q]] w fun e w' => e = .returned (.tuple #[.int .i64 n, .bool true]) ∧ Below w.heap.size w w')
    (A1 : ∀ w, Calls Try.prog 9 #[.agg #[.int .i64 h, .int .u64 l], .agg #[.int .i64 h', .int .u64 l']] w fun e w' => e = .returned (.tuple #[.agg #[.int .i64 P, .int .u64 Q], .bool true]) ∧ Below w.heap.size w w')
    (S1 : ∀ w, Calls Try.prog 11 #[.agg #[.int .i64 P, .int .u64 Q], .agg #[.int .i64 h', .int .u64 l']] w fun e w' => e = .returned (.tuple #[.agg #[.int .i64 h, .int .u64 l], .bool true]) ∧ Below w.heap.size w w')
    (S2 : ∀ w, Calls Try.prog 11 #[.agg #[.int .i64 h, .int .u64 l], .agg #[.int .i64 h', .int .u64 l']] w fun e w' => e = .returned (.tuple #[.agg #[.int .i64 R, .int .u64 S], .bool false]) ∧ Below w.heap.size w w')
    (KC : ∀ x y x' y' c : Int, (x = h ∧ y = l ∧ x' = h' ∧ y' = l' ∧ c = c1) ∨ (x = h' ∧ y = l' ∧ x' = h ∧ y' = l ∧ c = -c1) → ∀ w, Calls Try.prog 15 #[.agg #[.int .i64 x, .int .u64 y], .agg #[.int .i64 x', .int .u64 y']] w fun e w' => e = .returned (.int .i64 c) ∧ Below w.heap.size w w')
    (e1 : IntKind.i64.wrap c1 = c1) : Calls Try.prog 6 #[.agg #[.int .i64 h, .int .u64 l], .agg #[.int .i64 h', .int .u64 l'], .int .i64 n] w fun e w' => e = .returned (.bool true) ∧ Below w.heap.size w w' := by
    obtain ⟨fa, fb⟩ := two_cells w (.int .i64 h) (.int .u64 l) (.int .i64 h') (.int .u64 l') 24
    have hB := two_new w (.cells #[.int .i64 h, .int .u64 l] 24) (.cells #[.int .i64 h', .int .u64 l'] 24)
    go_enter Try.func6, Try.ntmps6
    go_wp2_with fail
    refine (KP _).mono ?_
    rintro e w1 ⟨rfl, b1⟩
    replace fa := keep_two b1 fa
    replace fb := keep_two b1 fb
    replace hB := hB.trans (b1.mono hB.size)
    clear b1
    go_wp2_with fail
    refine (KS _).mono ?_
    rintro e w2 ⟨rfl, b2⟩
    replace fa := keep_alloc (keep_two b2 fa) (.cells #[.int .i64 h, .int .u64 l] 24)
    replace fb := keep_alloc (keep_two b2 fb) (.cells #[.int .i64 h, .int .u64 l] 24)
    replace hB := (hB.trans (b2.mono hB.size)).alloc (hB.trans (b2.mono hB.size)).size (.cells #[.int .i64 h, .int .u64 l] 24)
    have fx := new_two w2 (.int .i64 h) (.int .u64 l) 24
    clear b2
    go_wp2_with fail
    refine (KO _).mono ?_
    rintro e w3 ⟨rfl, b3⟩
    replace fa := keep_two b3 fa
    replace fb := keep_two b3 fb
    replace fx := keep_two b3 fx
    replace hB := hB.trans (b3.mono hB.size)
    clear b3
    go_wp2_with fail
    refine (KF _).mono ?_
    rintro e w4 ⟨rfl, b4⟩
    replace fa := keep_two b4 fa
    replace fb := keep_two b4 fb
    replace fx := keep_two b4 fx
    replace hB := hB.trans (b4.mono hB.size)
    clear b4
    go_wp2_with fail
    clear KP KS KO KF fx
    refine (A1 _).mono ?_
    rintro e w5 ⟨rfl, b5⟩
    replace fa := keep_alloc (keep_two b5 fa) (.cells #[.int .i64 P, .int .u64 Q] 24)
    replace fb := keep_alloc (keep_two b5 fb) (.cells #[.int .i64 P, .int .u64 Q] 24)
    replace hB := (hB.trans (b5.mono hB.size)).alloc (hB.trans (b5.mono hB.size)).size (.cells #[.int .i64 P, .int .u64 Q] 24)
    have fs := new_two w5 (.int .i64 P) (.int .u64 Q) 24
    clear b5
    go_wp2_with fail
    refine (S1 _).mono ?_
    rintro e w6 ⟨rfl, b6⟩
    replace fa := keep_alloc (keep_two b6 fa) (.cells #[.int .i64 h, .int .u64 l] 24)
    replace fb := keep_alloc (keep_two b6 fb) (.cells #[.int .i64 h, .int .u64 l] 24)
    replace fs := keep_alloc (keep_two b6 fs) (.cells #[.int .i64 h, .int .u64 l] 24)
    replace hB := (hB.trans (b6.mono hB.size)).alloc (hB.trans (b6.mono hB.size)).size (.cells #[.int .i64 h, .int .u64 l] 24)
    have fd := new_two w6 (.int .i64 h) (.int .u64 l) 24
    clear b6
    go_wp2_with fail
    clear fd
    clear fs
    refine (S2 _).mono ?_
    rintro e w7 ⟨rfl, b7⟩
    replace fa := keep_alloc (keep_two b7 fa) (.cells #[.int .i64 R, .int .u64 S] 24)
    replace fb := keep_alloc (keep_two b7 fb) (.cells #[.int .i64 R, .int .u64 S] 24)
    replace hB := (hB.trans (b7.mono hB.size)).alloc (hB.trans (b7.mono hB.size)).size (.cells #[.int .i64 R, .int .u64 S] 24)
    have fd := new_two w7 (.int .i64 R) (.int .u64 S) 24
    clear b7
    go_wp2_with fail
    have HF := k6_two fa fb fd
    clear fa fb fd A1 S2 S1
    generalize w7.heap.size = g at HF ⊢
    generalize w7.alloc (.cells #[.int .i64 R, .int .u64 S] 24) = W at HF hB ⊢
    have HS := k6_keep HF (Below.refl _ _).drew
    clear HS
    go_quiet (fail)
    go_wp2_with fail
    have HS := k6_keep HF (below_drewN (Below.refl W.heap.size W) nq).drew
    go_region_held3 (fun w' => w'.cell? ⟨w.heap.size, 0, none⟩ = some (.int .i64 h) ∧ w'.cell? ⟨w.heap.size, 1, none⟩ = some (.int .u64 l) ∧ w'.cell? ⟨w.heap.size + 1, 0, none⟩ = some (.int .i64 h') ∧ w'.cell? ⟨w.heap.size + 1, 1, none⟩ = some (.int .u64 l') ∧ w'.cell? ⟨g, 0, none⟩ = some (.int .i64 R) ∧ w'.cell? ⟨g, 1, none⟩ = some (.int .u64 S) ∧ Below W.heap.size W w')
      (first | exact HS | (refine k6_next HF (by assumption) (by first | assumption | exact HS)))
      (first | (go_at_call 15; refine (KC _ _ _ _ _ (by first | exact .inl ⟨rfl, rfl, rfl, rfl, rfl⟩ | exact .inr ⟨rfl, rfl, rfl, rfl, rfl⟩) _).mono ?_; rintro e w9 ⟨rfl, hb9⟩) | (go_at_call 17; refine (lives_any _).mono ?_; rintro e w9 ⟨rfl, hb9⟩))
    rename_i hHeld
    have HB2 := Lib.hid (hB.trans (hHeld.2.2.2.2.2.2.mono hB.size))
    clear hHeld
    go_wp2_with fail
    go_ret
    exact ⟨rfl, HB2.out⟩
set_option maxHeartbeats 3200000 in
theorem back_11 {h l h' l' n p q P Q R S c1 : Int} {tx : List UInt8} (w : World)
    (KP : ∀ w, Calls Try.prog 26 #[.agg #[.int .i64 h, .int .u64 l]] w fun e w' => e = .returned (.string ⟨tx.toArray⟩) ∧ Below w.heap.size w w')
    (KS : ∀ w, Calls Try.prog 24 #[.string ⟨tx.toArray⟩] w fun e w' => e = .returned (.tuple #[.agg #[.int .i64 h, .int .u64 l], .bool true]) ∧ Below w.heap.size w w')
    (KO : ∀ w, Calls Try.prog 20 #[.int .i64 n] w fun e w' => e = .returned (.agg #[.int .i64 p, .int .u64 q]) ∧ Below w.heap.size w w')
    (KF : ∀ w, Calls Try.prog 18 #[.agg #[.int .i64 p, .int .u64 q]] w fun e w' => e = .returned (.tuple #[.int .i64 n, .bool true]) ∧ Below w.heap.size w w')
    (A1 : ∀ w, Calls Try.prog 9 #[.agg #[.int .i64 h, .int .u64 l], .agg #[.int .i64 h', .int .u64 l']] w fun e w' => e = .returned (.tuple #[.agg #[.int .i64 P, .int .u64 Q], .bool true]) ∧ Below w.heap.size w w')
    (S1 : ∀ w, Calls Try.prog 11 #[.agg #[.int .i64 P, .int .u64 Q], .agg #[.int .i64 h', .int .u64 l']] w fun e w' => e = .returned (.tuple #[.agg #[.int .i64 h, .int .u64 l], .bool true]) ∧ Below w.heap.size w w')
    (S2 : ∀ w, Calls Try.prog 11 #[.agg #[.int .i64 h, .int .u64 l], .agg #[.int .i64 h', .int .u64 l']] w fun e w' => e = .returned (.tuple #[.agg #[.int .i64 R, .int .u64 S], .bool true]) ∧ Below w.heap.size w w')
    (KC : ∀ x y x' y' c : Int, (x = h ∧ y = l ∧ x' = h' ∧ y' = l' ∧ c = c1) ∨ (x = h' ∧ y = l' ∧ x' = h ∧ y' = l ∧ c = -c1) ∨ (x = R ∧ y = S ∧ x' = 0 ∧ y' = 0 ∧ c = c1) → ∀ w, Calls Try.prog 15 #[.agg #[.int .i64 x, .int .u64 y], .agg #[.int .i64 x', .int .u64 y']] w fun e w' => e = .returned (.int .i64 c) ∧ Below w.heap.size w w')
    (e1 : IntKind.i64.wrap c1 = c1) : Calls Try.prog 6 #[.agg #[.int .i64 h, .int .u64 l], .agg #[.int .i64 h', .int .u64 l'], .int .i64 n] w fun e w' => e = .returned (.bool true) ∧ Below w.heap.size w w' := by
    obtain ⟨fa, fb⟩ := two_cells w (.int .i64 h) (.int .u64 l) (.int .i64 h') (.int .u64 l') 24
    have hB := two_new w (.cells #[.int .i64 h, .int .u64 l] 24) (.cells #[.int .i64 h', .int .u64 l'] 24)
    go_enter Try.func6, Try.ntmps6
    go_wp2_with fail
    refine (KP _).mono ?_
    rintro e w1 ⟨rfl, b1⟩
    replace fa := keep_two b1 fa
    replace fb := keep_two b1 fb
    replace hB := hB.trans (b1.mono hB.size)
    clear b1
    go_wp2_with fail
    refine (KS _).mono ?_
    rintro e w2 ⟨rfl, b2⟩
    replace fa := keep_alloc (keep_two b2 fa) (.cells #[.int .i64 h, .int .u64 l] 24)
    replace fb := keep_alloc (keep_two b2 fb) (.cells #[.int .i64 h, .int .u64 l] 24)
    replace hB := (hB.trans (b2.mono hB.size)).alloc (hB.trans (b2.mono hB.size)).size (.cells #[.int .i64 h, .int .u64 l] 24)
    have fx := new_two w2 (.int .i64 h) (.int .u64 l) 24
    clear b2
    go_wp2_with fail
    refine (KO _).mono ?_
    rintro e w3 ⟨rfl, b3⟩
    replace fa := keep_two b3 fa
    replace fb := keep_two b3 fb
    replace fx := keep_two b3 fx
    replace hB := hB.trans (b3.mono hB.size)
    clear b3
    go_wp2_with fail
    refine (KF _).mono ?_
    rintro e w4 ⟨rfl, b4⟩
    replace fa := keep_two b4 fa
    replace fb := keep_two b4 fb
    replace fx := keep_two b4 fx
    replace hB := hB.trans (b4.mono hB.size)
    clear b4
    go_wp2_with fail
    clear KP KS KO KF fx
    refine (A1 _).mono ?_
    rintro e w5 ⟨rfl, b5⟩
    replace fa := keep_alloc (keep_two b5 fa) (.cells #[.int .i64 P, .int .u64 Q] 24)
    replace fb := keep_alloc (keep_two b5 fb) (.cells #[.int .i64 P, .int .u64 Q] 24)
    replace hB := (hB.trans (b5.mono hB.size)).alloc (hB.trans (b5.mono hB.size)).size (.cells #[.int .i64 P, .int .u64 Q] 24)
    have fs := new_two w5 (.int .i64 P) (.int .u64 Q) 24
    clear b5
    go_wp2_with fail
    refine (S1 _).mono ?_
    rintro e w6 ⟨rfl, b6⟩
    replace fa := keep_alloc (keep_two b6 fa) (.cells #[.int .i64 h, .int .u64 l] 24)
    replace fb := keep_alloc (keep_two b6 fb) (.cells #[.int .i64 h, .int .u64 l] 24)
    replace fs := keep_alloc (keep_two b6 fs) (.cells #[.int .i64 h, .int .u64 l] 24)
    replace hB := (hB.trans (b6.mono hB.size)).alloc (hB.trans (b6.mono hB.size)).size (.cells #[.int .i64 h, .int .u64 l] 24)
    have fd := new_two w6 (.int .i64 h) (.int .u64 l) 24
    clear b6
    go_wp2_with fail
    clear fd
    clear fs
    refine (S2 _).mono ?_
    rintro e w7 ⟨rfl, b7⟩
    replace fa := keep_alloc (keep_two b7 fa) (.cells #[.int .i64 R, .int .u64 S] 24)
    replace fb := keep_alloc (keep_two b7 fb) (.cells #[.int .i64 R, .int .u64 S] 24)
    replace hB := (hB.trans (b7.mono hB.size)).alloc (hB.trans (b7.mono hB.size)).size (.cells #[.int .i64 R, .int .u64 S] 24)
    have fd := new_two w7 (.int .i64 R) (.int .u64 S) 24
    clear b7
    go_wp2_with fail
    have HF := k6_two fa fb fd
    clear fa fb fd A1 S2 S1
    generalize w7.heap.size = g at HF ⊢
    generalize w7.alloc (.cells #[.int .i64 R, .int .u64 S] 24) = W at HF hB ⊢
    have HS := k6_keep HF (Below.refl _ _).drew
    go_region_held3 (fun w' => w'.cell? ⟨w.heap.size, 0, none⟩ = some (.int .i64 h) ∧ w'.cell? ⟨w.heap.size, 1, none⟩ = some (.int .u64 l) ∧ w'.cell? ⟨w.heap.size + 1, 0, none⟩ = some (.int .i64 h') ∧ w'.cell? ⟨w.heap.size + 1, 1, none⟩ = some (.int .u64 l') ∧ w'.cell? ⟨g, 0, none⟩ = some (.int .i64 R) ∧ w'.cell? ⟨g, 1, none⟩ = some (.int .u64 S) ∧ Below W.heap.size W w')
      (first | exact HS | (refine k6_next HF (by assumption) (by first | assumption | exact HS)))
      (first | (go_at_call 15; refine (KC _ _ _ _ _ (by first | exact .inl ⟨rfl, rfl, rfl, rfl, rfl⟩ | exact .inr (.inl ⟨rfl, rfl, rfl, rfl, rfl⟩) | exact .inr (.inr ⟨rfl, rfl, rfl, rfl, rfl⟩)) _).mono ?_; rintro e w9 ⟨rfl, hb9⟩))
    rename_i hHeld
    clear HS
    have HF1 := hHeld
    go_wp2_with fail
    have HS := k6_keep (W := w9) ⟨HF1.1, HF1.2.1, HF1.2.2.1, HF1.2.2.2.1, HF1.2.2.2.2.1, HF1.2.2.2.2.2.1⟩ (Below.refl _ _).drew
    have HF2 := And.intro HF1.1 (And.intro HF1.2.1 (And.intro HF1.2.2.1 (And.intro HF1.2.2.2.1 (And.intro HF1.2.2.2.2.1 HF1.2.2.2.2.2.1))))
    have hB2 := hB.trans (HF1.2.2.2.2.2.2.mono hB.size)
    clear HF1 HF hB hHeld
    go_region_held3 (fun w' => w'.cell? ⟨w.heap.size, 0, none⟩ = some (.int .i64 h) ∧ w'.cell? ⟨w.heap.size, 1, none⟩ = some (.int .u64 l) ∧ w'.cell? ⟨w.heap.size + 1, 0, none⟩ = some (.int .i64 h') ∧ w'.cell? ⟨w.heap.size + 1, 1, none⟩ = some (.int .u64 l') ∧ w'.cell? ⟨g, 0, none⟩ = some (.int .i64 R) ∧ w'.cell? ⟨g, 1, none⟩ = some (.int .u64 S) ∧ Below w9.heap.size w9 w')
      (first | exact HS | (refine k6_next HF2 (by assumption) (by first | assumption | exact HS)))
      (first | (go_at_call 15; refine (KC _ _ _ _ _ (by first | exact .inl ⟨rfl, rfl, rfl, rfl, rfl⟩ | exact .inr (.inl ⟨rfl, rfl, rfl, rfl, rfl⟩) | exact .inr (.inr ⟨rfl, rfl, rfl, rfl, rfl⟩)) _).mono ?_; rintro e w9 ⟨rfl, hb9⟩) | (go_at_call 17; refine (lives_any _).mono ?_; rintro e w9 ⟨rfl, hb9⟩))
    rename_i hHeld
    have HB2 := Lib.hid (hB2.trans (hHeld.2.2.2.2.2.2.mono hB2.size))
    clear hHeld
    go_wp2_with fail
    go_ret
    exact ⟨rfl, HB2.out⟩
end Go.Proofs.Ytnljlbdecknbpaa
