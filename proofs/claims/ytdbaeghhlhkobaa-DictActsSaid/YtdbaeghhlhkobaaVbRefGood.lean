/- Contract of the document's own Good of values. Conditions: none. -/
import Derived.Test.YtdbaeghhlhkobaaOrderC
import Derived.Test.YtdbaeghhlhkobaaValD
set_option maxRecDepth 100000
namespace Go.Proofs.Ytdbaeghhlhkobaa
open Go.RowKit Go.Maps Go.Sort Go.Lib

theorem nil_list : (⟨#[]⟩ : ByteArray).toList = [] := by simp [Lib.toList_data]
theorem refGood_null (n : Int) (s : ByteArray) (w : World) : Calls Try.prog 35 #[vv 0 n s] w fun e w' => e = .returned (.bool (n == 0 && s.toList == [])) ∧ Below w.heap.size w w' := by
  have KE := eql_val
  have KU := guard_val
  go_enter Try.func35, Try.ntmps35
  go_wp2_with fail
  go_ret
  exact ⟨ret_bool (by unfold sameV; rw [nil_list]; cases s.toList <;> simp), (Below.refl _ _).alloc (Nat.le_refl _) _⟩
theorem refGood_int (n : Int) (s : ByteArray) (w : World) : Calls Try.prog 35 #[vv 1 n s] w fun e w' => e = .returned (.bool (s.toList == [])) ∧ Below w.heap.size w w' := by
  go_enter Try.func35, Try.ntmps35
  go_wp2_with fail
  go_ret
  exact ⟨by simp, (Below.refl _ _).alloc (Nat.le_refl _) _⟩
theorem refGood_float (n : Int) (s : ByteArray) (h0 : -9223372036854775808 ≤ n) (h1 : n < 9223372036854775808) (w : World) : Calls Try.prog 35 #[vv 2 n s] w fun e w' => e = .returned (.bool (goodW (wi n) && s.toList == [])) ∧ Below w.heap.size w w' := by
  have KG := refGood_any (wi n) (wi_lt n)
  rw [iw_wi n h0 h1] at KG
  generalize goodW (wi n) = g at *
  have hn := nil_list
  clear h0 h1
  cases hs : (s.toList == [])
  · go_enter Try.func35, Try.ntmps35
    go_wp2_with fail
    go_ret
    exact ⟨by simp, (Below.refl _ _).alloc (Nat.le_refl _) _⟩
  · go_enter Try.func35, Try.ntmps35
    go_wp2_with fail
    refine (KG _).mono ?_
    rintro e w1 ⟨rfl, rfl⟩
    go_wp2_with fail
    go_ret
    exact ⟨by simp, (Below.refl _ _).alloc (Nat.le_refl _) _⟩
theorem refGood_str (n : Int) (s : ByteArray) (w : World) : Calls Try.prog 35 #[vv 3 n s] w fun e w' => e = .returned (.bool (decide (s.size ≤ 64) && n == 0)) ∧ Below w.heap.size w w' := by
  cases e0 : (n == 0)
  · go_enter Try.func35, Try.ntmps35
    go_wp2_with fail
    go_ret
    exact ⟨by simp, (Below.refl _ _).alloc (Nat.le_refl _) _⟩
  · go_enter Try.func35, Try.ntmps35
    go_wp2_with fail
    go_ret
    exact ⟨by simp; omega, (Below.refl _ _).alloc (Nat.le_refl _) _⟩
theorem refGood_bool (n : Int) (s : ByteArray) (w : World) : Calls Try.prog 35 #[vv 4 n s] w fun e w' => e = .returned (.bool ((n == 0 || n == 1) && s.toList == [])) ∧ Below w.heap.size w w' := by
  have hn := nil_list
  cases hs : (s.toList == []) <;> cases e0 : (n == 0) <;> cases e1 : (n == 1)
  all_goals (
    go_enter Try.func35, Try.ntmps35
    go_wp2_with fail
    go_ret
    exact ⟨rfl, (Below.refl _ _).alloc (Nat.le_refl _) _⟩)
theorem refGood_other (k n : Int) (s : ByteArray) (hk : k < 0 ∨ 4 < k) (w : World) : Calls Try.prog 35 #[vv k n s] w fun e w' => e = .returned (.bool false) ∧ Below w.heap.size w w' := by
  have h0 : (k == 0) = false := by rw [beq_eq_false_iff_ne]; omega
  have h1 : (k == 1) = false := by rw [beq_eq_false_iff_ne]; omega
  have h2 : (k == 2) = false := by rw [beq_eq_false_iff_ne]; omega
  have h3 : (k == 3) = false := by rw [beq_eq_false_iff_ne]; omega
  have h4 : (k == 4) = false := by rw [beq_eq_false_iff_ne]; omega
  clear hk
  go_enter Try.func35, Try.ntmps35
  go_wp2_with fail
  go_ret
  exact ⟨rfl, (Below.refl _ _).alloc (Nat.le_refl _) _⟩
theorem refvgood_any (k n : Int) (s : ByteArray) (h0 : -9223372036854775808 ≤ n) (h1 : n < 9223372036854775808) (w : World) :
    Calls Try.prog 35 #[vv k n s] w fun e w' => e = .returned (.bool (goodV k n s)) ∧ Below w.heap.size w w' := by
  unfold goodV
  by_cases c0 : k = 0
  · subst c0; rw [if_pos rfl]; exact refGood_null n s w
  by_cases c1 : k = 1
  · subst c1; rw [if_neg (by decide), if_pos rfl]; exact refGood_int n s w
  by_cases c2 : k = 2
  · subst c2; rw [if_neg (by decide), if_neg (by decide), if_pos rfl]; exact refGood_float n s h0 h1 w
  by_cases c3 : k = 3
  · subst c3; rw [if_neg (by decide), if_neg (by decide), if_neg (by decide), if_pos rfl]; exact refGood_str n s w
  by_cases c4 : k = 4
  · subst c4; rw [if_neg (by decide), if_neg (by decide), if_neg (by decide), if_neg (by decide), if_pos rfl]; exact refGood_bool n s w
  rw [if_neg c0, if_neg c1, if_neg c2, if_neg c3, if_neg c4]
  exact refGood_other k n s (by omega) w
end Go.Proofs.Ytdbaeghhlhkobaa
