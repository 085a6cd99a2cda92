/- Contracts of schema's small tests, and of Column on both sides. Conditions: none. -/
import Derived.Test.YtjlpmhjnfgmmcaaSchF
import Derived.BigQuiet
set_option maxRecDepth 100000
namespace Go.Proofs.Ytjlpmhjnfgmmcaa
open Go.RowKit Go.Maps Go.Sort Go.Lib

theorem box_below (w : World) (o : Obj) : Below w.heap.size w (w.alloc o) := (Below.refl _ _).alloc (Nat.le_refl _) o
theorem bel_dN {B : Nat} {a w : World} (h : Below B a w) (n : Nat) : Below B a (w.drewN n) := ⟨h.os, h.tape, h.output, h.size, h.block⟩
theorem misnamed_any (c : ByteArray × Int) (w : World) : Calls Try.prog 28 #[.agg #[.string c.1, .int .i64 c.2]] w fun e w' => e = .returned (.bool (misB c)) ∧ Below w.heap.size w w' := by
  have KN := name_any c.1
  unfold misB nmB
  generalize nameL c.1.data.toList = b at *
  have hb1 := Lib.hid (box_below w (.cells #[.string c.1, .int .i64 c.2] 49))
  go_enter Try.func28, Try.ntmps28
  go_wp2_with fail
  refine (KN _).mono ?_
  rintro e w1 ⟨rfl, hb⟩
  go_wp2_with fail
  go_ret
  exact ⟨rfl, hb1.out.trans (hb.mono hb1.out.size)⟩
theorem odd_any (c : ByteArray × Int) (w : World) : Calls Try.prog 31 #[.agg #[.string c.1, .int .i64 c.2]] w fun e w' => e = .returned (.bool (oddB c)) ∧ Below w.heap.size w w' := by
  unfold oddB
  obtain ⟨x, y⟩ := c
  simp only
  have hb1 := Lib.hid (box_below w (.cells #[.string x, .int .i64 y] 49))
  by_cases h1 : y < 1
  · have t1 : decide (y < 1) = true := decide_eq_true h1
    rw [decide_eq_true (.inl h1)]
    clear h1
    go_enter Try.func31, Try.ntmps31
    go_wp2_with fail
    go_ret
    exact ⟨rfl, hb1.out⟩
  have t1 : decide (y < 1) = false := decide_eq_false h1
  by_cases h2 : 4 < y
  · have t2 : decide (4 < y) = true := decide_eq_true h2
    rw [decide_eq_true (.inr h2)]
    clear h1 h2
    go_enter Try.func31, Try.ntmps31
    go_wp2_with fail
    go_ret
    exact ⟨rfl, hb1.out⟩
  have t2 : decide (4 < y) = false := decide_eq_false h2
  rw [decide_eq_false (by omega)]
  clear h1 h2
  go_enter Try.func31, Try.ntmps31
  go_wp2_with fail
  go_ret
  exact ⟨rfl, hb1.out⟩
theorem str_any (c : Int × ByteArray) (w : World) : Calls Try.prog 40 #[.agg #[.int .i64 c.1, .string c.2]] w fun e w' => e = .returned (.bool (strB c)) ∧ Below w.heap.size w w' := by
  unfold strB
  obtain ⟨x, y⟩ := c
  simp only
  have hb1 := Lib.hid (box_below w (.cells #[.int .i64 x, .string y] 41))
  by_cases h1 : x < 1
  · have t1 : decide (x < 1) = true := decide_eq_true h1
    rw [decide_eq_true (.inl h1)]
    clear h1
    go_enter Try.func40, Try.ntmps40
    go_wp2_with fail
    go_ret
    exact ⟨rfl, hb1.out⟩
  have t1 : decide (x < 1) = false := decide_eq_false h1
  by_cases h2 : 7 < x
  · have t2 : decide (7 < x) = true := decide_eq_true h2
    rw [decide_eq_true (.inr h2)]
    clear h1 h2
    go_enter Try.func40, Try.ntmps40
    go_wp2_with fail
    go_ret
    exact ⟨rfl, hb1.out⟩
  have t2 : decide (7 < x) = false := decide_eq_false h2
  rw [decide_eq_false (by omega)]
  clear h1 h2
  go_enter Try.func40, Try.ntmps40
  go_wp2_with fail
  go_ret
  exact ⟨rfl, hb1.out⟩
theorem few_any (n most : Nat) (w : World) : Calls Try.prog 30 #[.int .i64 (n : Int), .int .i64 (most : Int)] w fun e w' => e = .returned (.bool (fewN n most)) ∧ w' = w := by
  unfold fewN
  go_enter Try.func30, Try.ntmps30
  go_wp2
  all_goals
    go_ret
    refine ⟨ret_bool ?_, rfl⟩
    rw [Bool.eq_iff_iff]
    try (simp <;> omega)
theorem measures_any (m k : Int) (w : World) : Calls Try.prog 48 #[.int .i64 m, .int .i64 k] w fun e w' => e = .returned (.bool (!noMea m k)) ∧ w' = w := by
  unfold noMea
  cases t1 : (m == 2)
  · cases t2 : (m == 6)
    · go_enter Try.func48, Try.ntmps48
      go_wp2_with fail
      go_ret
      exact ⟨rfl, rfl⟩
    · cases t3 : (k == 1)
      all_goals cases t4 : (k == 2)
      all_goals (
        have u3 : (k != 1) = !(k == 1) := rfl
        have u4 : (k != 2) = !(k == 2) := rfl
        rw [t3] at u3
        rw [t4] at u4
        rw [u3, u4]
        go_enter Try.func48, Try.ntmps48
        go_wp2_with fail
        go_ret
        exact ⟨rfl, rfl⟩)
  · have t2 : (m == 6) = false := by rw [beq_iff_eq] at t1; rw [beq_eq_false_iff_ne]; omega
    rw [t2]
    cases t3 : (k == 1)
    all_goals (
      have u3 : (k != 1) = !(k == 1) := rfl
      rw [t3] at u3
      rw [u3]
      go_enter Try.func48, Try.ntmps48
      go_wp2_with fail
      go_ret
      exact ⟨rfl, rfl⟩)
/-- what Column answers -/
def colVal (cs : Cl) (s : ByteArray) : Value := match colAt cs s with
  | some x => .tuple #[.int .i64 (x.1 : Int), .int .i64 x.2, .bool true]
  | none => .tuple #[.int .i64 0, .int .i64 0, .bool false]
theorem beq_list (a b : ByteArray) : (a.toList == b.toList) = (a == b) := (beq_toListBytes a b).symm
set_option maxHeartbeats 1600000 in
theorem column_any {w : World} {p : Option Addr} {n k : Nat} {cs : Cl} (hr : Holds2 w (.slice p n k) (cs.map colC)) (hl : cs.length = n) (hn : n ≤ 9223372036854775807) (tn s : ByteArray) :
    Calls Try.prog 11 #[.agg #[.string tn, .slice p n k], .string s] w fun e w' => e = .returned (colVal cs s) ∧ Below w.heap.size w w' := by
  obtain ⟨R, hR⟩ : ∃ R, colVal cs s = R := ⟨_, rfl⟩
  have HV := Lib.hid hR
  rw [hR]
  have hb1 := Lib.hid (box_below w (.cells #[.string tn, .slice p n k] 26))
  have HR := Lib.hid hr
  have HN := Lib.hid hn
  have HF := Lib.hid hl
  clear hr hn hl hR
  go_enter Try.func11, Try.ntmps11
  go_wp2_with fail
  go_loopw [12] (fun s' W => ∃ i : Nat, s' = .int .i64 i ∧ i ≤ n ∧ Hid (Below w.heap.size w W) ∧ Hid (∀ (j : Nat) (y : ByteArray × Int), j < i → cs[j]? = some y → (y.1 == s) = false)) (fun s' _ => n - (intOf s').toNat)
  case atStart => exact ⟨0, rfl, by omega, hb1, Lib.hid (fun j y hj => by omega)⟩
  case round =>
    obtain ⟨i, rfl, hi, hb, hno⟩ := hrel
    by_cases hlt : i < n
    · obtain ⟨x, hx⟩ : ∃ x, cs[i]? = some x := ⟨_, List.getElem?_eq_getElem (by rw [HF.out]; exact hlt)⟩
      obtain ⟨ad, rfl, c0, c1⟩ := (HR.out.below hb.out).at_ (show (cs.map colC)[i]? = some (colC x) by rw [List.getElem?_map, hx]; rfl)
      simp only [colC] at c0 c1
      obtain ⟨x, z⟩ := x
      simp only at c0 c1
      have HX := Lib.hid hx
      have hlt' : (i : Int) < (n : Int) := Int.ofNat_lt.2 hlt
      have b0 : (0 : Int) ≤ (i : Int) := Int.natCast_nonneg i
      have hw := i_next (p := i) (by have := HN.out; omega)
      have HLT := Lib.hid hlt
      have HB2 := Lib.hid (hb.out.trans ((box_below wr (.cells #[.string x, .int .i64 z] 49)).mono hb.out.size))
      have t0 := beq_list x s
      cases hq : (x == s)
      · rw [hq] at t0
        have HNO : Hid (∀ (j : Nat) (y : ByteArray × Int), j < i + 1 → cs[j]? = some y → (y.1 == s) = false) := Lib.hid (fun j y hj hy => by
          by_cases e : j = i
          · subst e; rw [HX.out] at hy; cases hy; exact hq
          · exact hno.out j y (by omega) hy)
        clear hno hx hq hi hlt
        go_wp2_with fail
        go_roundw
        case rel => exact ⟨i + 1, by go_num, by have := HLT.out; omega, HB2, HNO⟩
        case measure => have := HLT.out; simp [intOf]; omega
      · rw [hq] at t0
        have HE : Hid (.tuple #[.int .i64 (i : Int), .int .i64 z, .bool true] = R) := Lib.hid (by rw [← HV.out]; unfold colVal; rw [col_some HX.out hq hno.out])
        clear hno hx hq hi hlt
        go_wp2_with fail
        go_quiet (fail)
        go_wp2_with fail
        go_ret3
        exact ⟨by rw [← HE.out]; rfl, bel_dN HB2.out _⟩
    · have HE : Hid (.tuple #[.int .i64 0, .int .i64 0, .bool false] = R) := Lib.hid (by
        rw [← HV.out]; unfold colVal
        rw [col_none (fun j y hy => hno.out j y (by have := (List.getElem?_eq_some_iff.1 hy).1; have := HF.out; omega) hy)])
      have hlt' : ¬ ((i : Int) < (n : Int)) := by omega
      clear hno
      go_wp2_with fail
      go_ret3
      exact ⟨by rw [← HE.out]; rfl, hb.out⟩
set_option maxHeartbeats 1600000 in
theorem refColumn_any {w : World} {p : Option Addr} {n k : Nat} {cs : Cl} (hr : Holds2 w (.slice p n k) (cs.map colC)) (hl : cs.length = n) (hn : n ≤ 9223372036854775807) (tn s : ByteArray) :
    Calls Try.prog 12 #[.agg #[.string tn, .slice p n k], .string s] w fun e w' => e = .returned (colVal cs s) ∧ Below w.heap.size w w' := by
  obtain ⟨R, hR⟩ : ∃ R, colVal cs s = R := ⟨_, rfl⟩
  have HV := Lib.hid hR
  rw [hR]
  have hb1 := Lib.hid (box_below w (.cells #[.string tn, .slice p n k] 26))
  have HR := Lib.hid hr
  have HN := Lib.hid hn
  have HF := Lib.hid hl
  clear hr hn hl hR
  go_enter Try.func12, Try.ntmps12
  go_wp2_with fail
  go_loopw [12] (fun s' W => ∃ i : Nat, s' = .int .i64 i ∧ i ≤ n ∧ Hid (Below w.heap.size w W) ∧ Hid (∀ (j : Nat) (y : ByteArray × Int), j < i → cs[j]? = some y → (y.1 == s) = false)) (fun s' _ => n - (intOf s').toNat)
  case atStart => exact ⟨0, rfl, by omega, hb1, Lib.hid (fun j y hj => by omega)⟩
  case round =>
    obtain ⟨i, rfl, hi, hb, hno⟩ := hrel
    by_cases hlt : i < n
    · obtain ⟨x, hx⟩ : ∃ x, cs[i]? = some x := ⟨_, List.getElem?_eq_getElem (by rw [HF.out]; exact hlt)⟩
      obtain ⟨ad, rfl, c0, c1⟩ := (HR.out.below hb.out).at_ (show (cs.map colC)[i]? = some (colC x) by rw [List.getElem?_map, hx]; rfl)
      simp only [colC] at c0 c1
      obtain ⟨x, z⟩ := x
      simp only at c0 c1
      have HX := Lib.hid hx
      have hlt' : (i : Int) < (n : Int) := Int.ofNat_lt.2 hlt
      have b0 : (0 : Int) ≤ (i : Int) := Int.natCast_nonneg i
      have hw := i_next (p := i) (by have := HN.out; omega)
      have HLT := Lib.hid hlt
      have HB2 := Lib.hid (hb.out.trans ((box_below wr (.cells #[.string x, .int .i64 z] 49)).mono hb.out.size))
      have t0 := beq_list x s
      cases hq : (x == s)
      · rw [hq] at t0
        have HNO : Hid (∀ (j : Nat) (y : ByteArray × Int), j < i + 1 → cs[j]? = some y → (y.1 == s) = false) := Lib.hid (fun j y hj hy => by
          by_cases e : j = i
          · subst e; rw [HX.out] at hy; cases hy; exact hq
          · exact hno.out j y (by omega) hy)
        clear hno hx hq hi hlt
        go_wp2_with fail
        go_roundw
        case rel => exact ⟨i + 1, by go_num, by have := HLT.out; omega, HB2, HNO⟩
        case measure => have := HLT.out; simp [intOf]; omega
      · rw [hq] at t0
        have HE : Hid (.tuple #[.int .i64 (i : Int), .int .i64 z, .bool true] = R) := Lib.hid (by rw [← HV.out]; unfold colVal; rw [col_some HX.out hq hno.out])
        clear hno hx hq hi hlt
        go_wp2_with fail
        go_quiet (fail)
        go_wp2_with fail
        go_ret3
        exact ⟨by rw [← HE.out]; rfl, bel_dN HB2.out _⟩
    · have HE : Hid (.tuple #[.int .i64 0, .int .i64 0, .bool false] = R) := Lib.hid (by
        rw [← HV.out]; unfold colVal
        rw [col_none (fun j y hy => hno.out j y (by have := (List.getElem?_eq_some_iff.1 hy).1; have := HF.out; omega) hy)])
      have hlt' : ¬ ((i : Int) < (n : Int)) := by omega
      clear hno
      go_wp2_with fail
      go_ret3
      exact ⟨by rw [← HE.out]; rfl, hb.out⟩
end Go.Proofs.Ytjlpmhjnfgmmcaa
