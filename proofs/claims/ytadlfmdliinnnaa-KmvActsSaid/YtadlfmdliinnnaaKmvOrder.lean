/- The walk of KmvOrder: a sketch hangs on its set alone. Conditions: none. -/
import Derived.Test.YtadlfmdliinnnaaKmvSets
import Derived.Test.YtadlfmdliinnnaaKmvNone
import Derived.Test.YtadlfmdliinnnaaKmvBx
set_option maxRecDepth 100000
namespace Go.Proofs.Ytadlfmdliinnnaa
open Go.RowKit Go.Maps Go.Sort

section
variable {w : World} {sa : Option Addr} {n sc : Nat} {S : List (Nat × Nat)}
set_option maxHeartbeats 6400000 in
theorem order_bad (hs : SetAt w sa n sc S) (t k m : Int) (hg : goodB t S k m = false) (la : Option Addr) (ln lc : Nat) (cut : Int) :
    Calls Try.prog 4 #[setV t sa n sc k m, .slice la ln lc, .int .u64 cut] w fun e w' => e = .returned (.bool true) ∧ Below w.heap.size w w' := by
  have S0 := bx_start w t sa n sc k m
  obtain ⟨c0, c1, c2, c3⟩ := bx_cells S0 (List.mem_cons_self ..)
  have S1 := S0.drew
  have KN := Lib.hid (fun W (h : Side w [Bx w t sa n sc k m] W) => bx_nil hs t k m hg h)
  have KG := Lib.hid (fun W (h : Side w [Bx w t sa n sc k m] W) => hg ▸ bx_good hs t k m h)
  have KC := Lib.hid (fun W (h : Side w [Bx w t sa n sc k m] W) => bx_cells h (List.mem_cons_self ..))
  have KL := Lib.hid (fun W (h : Side w [Bx w t sa n sc k m] W) => bx_lives h)
  clear hs hg
  unfold setV
  unfold setO at S0 S1 c0 c1 c2 c3
  go_enter Try.func4, Try.ntmps4
  go_wp2_with fail
  go_region_held3 (fun w' => w'.cell? ⟨w.heap.size, 0, none⟩ = some (.int .i64 t) ∧ w'.cell? ⟨w.heap.size, 1, none⟩ = some (.slice sa n sc) ∧ w'.cell? ⟨w.heap.size, 2, none⟩ = some (.int .i64 k) ∧ w'.cell? ⟨w.heap.size, 3, none⟩ = some (.int .i64 m))
    (first | assumption | exact KC.out _ (by assumption))
    ((go_at_call 9; refine (KN.out _ (by assumption)).mono ?_; rintro e w5 ⟨rfl, s5⟩))
  have S5 := Lib.hid s5
  obtain ⟨d0, d1, d2, d3⟩ := bx_cells s5 (List.mem_cons_self ..)
  clear s5 KN
  go_wp2_with fail
  refine (KG.out _ S5.out).mono ?_
  rintro e w6 ⟨rfl, s6⟩
  have KL2 := KL.out _ s6
  clear KG KL s6
  go_wp2_with fail
  refine KL2.mono ?_
  rintro e w7 ⟨rfl, hb⟩
  clear KL2
  go_wp2_with fail
  go_ret
  exact ⟨rfl, hb⟩

set_option maxHeartbeats 6400000 in
theorem order_long (hs : SetAt w sa n sc S) (t : Nat) (k m : Int) (hg : goodB t S k m = true) (la : Option Addr) (ln lc : Nat) (cut : Int) (hln : 300 < ln) :
    Calls Try.prog 4 #[setV t sa n sc k m, .slice la ln lc, .int .u64 cut] w fun e w' => e = .returned (.bool true) ∧ Below w.heap.size w w' := by
  have S0 := bx_start w t sa n sc k m
  obtain ⟨c0, c1, c2, c3⟩ := bx_cells S0 (List.mem_cons_self ..)
  have S1 := S0.drew
  have KA := Lib.hid (fun W (h : Side w [Bx w t sa n sc k m] W) => bx_new hs t k m hg h 0)
  have KB := Lib.hid (fun W p (h : Side w [(0, Sk p (SkV.empty t S)), Bx w t sa n sc k m] W) => bx_new hs t k m hg h 1)
  have KD := Lib.hid (fun W p q (h : Side w [(1, Sk q (SkV.empty t S)), (0, Sk p (SkV.empty t S)), Bx w t sa n sc k m] W) => bx_new hs t k m hg h 2)
  have KG := Lib.hid (fun W E (h : Side w E W) => hg ▸ bx_good hs t k m h)
  have KCB := Lib.hid (fun W (h : Side w [Bx w t sa n sc k m] W) => bx_cells h (.head _))
  have KC0 := Lib.hid (fun W p (h : Side w [(0, Sk p (SkV.empty t S)), Bx w t sa n sc k m] W) => bx_cells h (.tail _ (.head _)))
  have KC1 := Lib.hid (fun W p q (h : Side w [(1, Sk q (SkV.empty t S)), (0, Sk p (SkV.empty t S)), Bx w t sa n sc k m] W) => bx_cells h (.tail _ (.tail _ (.head _))))
  have KC2 := Lib.hid (fun W p q r (h : Side w [(2, Sk r (SkV.empty t S)), (1, Sk q (SkV.empty t S)), (0, Sk p (SkV.empty t S)), Bx w t sa n sc k m] W) => bx_cells h (.tail _ (.tail _ (.tail _ (.head _)))))
  have KL := Lib.hid (fun W E (h : Side w E W) => bx_lives h)
  have tl : decide ((300 : Int) < (ln : Int)) = true := decide_eq_true (by omega)
  clear hs hg hln
  unfold setV
  unfold setO at S0 S1 c0 c1 c2 c3
  go_enter Try.func4, Try.ntmps4
  go_wp2_with fail
  go_region_held3 (fun w' => w'.cell? ⟨w.heap.size, 0, none⟩ = some (.int .i64 t) ∧ w'.cell? ⟨w.heap.size, 1, none⟩ = some (.slice sa n sc) ∧ w'.cell? ⟨w.heap.size, 2, none⟩ = some (.int .i64 k) ∧ w'.cell? ⟨w.heap.size, 3, none⟩ = some (.int .i64 m))
    (first | assumption | exact KCB.out _ (by assumption) | exact KC0.out _ _ (by assumption) | exact KC1.out _ _ _ (by assumption) | exact KC2.out _ _ _ _ (by assumption))
    (first
      | (go_at_call 9; refine (KA.out _ (by assumption)).mono ?_; rintro e w5 ⟨p5, rfl, s5⟩)
      | (go_at_call 9; refine (KB.out _ _ (by assumption)).mono ?_; rintro e w6 ⟨p6, rfl, s6⟩)
      | (go_at_call 9; refine (KD.out _ _ _ (by assumption)).mono ?_; rintro e w7 ⟨p7, rfl, s7⟩))
  have S5 := Lib.hid s7
  obtain ⟨d0, d1, d2, d3⟩ := KC2.out _ _ _ _ s7
  clear s7 KA KB KD KCB KC0 KC1 KC2
  go_wp2_with fail
  refine (KG.out _ _ S5.out).mono ?_
  rintro e w8 ⟨rfl, s8⟩
  have KL2 := KL.out _ _ s8
  clear KG KL s8
  go_wp2_with fail
  refine KL2.mono ?_
  rintro e w9 ⟨rfl, hb⟩
  clear KL2
  go_wp2_with fail
  go_ret
  exact ⟨rfl, hb⟩
end
end Go.Proofs.Ytadlfmdliinnnaa
