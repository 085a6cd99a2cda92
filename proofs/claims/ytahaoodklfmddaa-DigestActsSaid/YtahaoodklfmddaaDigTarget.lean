/- Contract of digest's Target. Conditions: none but numbers of 64 bits. -/
import Derived.Test.YtahaoodklfmddaaDigFew
set_option maxRecDepth 100000
namespace Go.Proofs.Ytahaoodklfmddaa
open Go.RowKit Go.Maps Go.Sort

/-- so many thousandths, from 0 to 1000 -/
def mil (m : Int) : Int := min (max m 0) 1000
def tgt (n m : Int) : Int := if n < 1 then 0 else max (n / 1000 * mil m + (n % 1000 * mil m + 999) / 1000) 1
theorem mil_in (m : Int) : 0 ≤ mil m ∧ mil m ≤ 1000 := by unfold mil; omega
theorem tgt_parts {n s : Int} (h1 : 1 ≤ n) (h2 : n ≤ 9223372036854775807) (s0 : 0 ≤ s) (s1 : s ≤ 1000) :
    0 ≤ n / 1000 * s ∧ n / 1000 * s ≤ n / 1000 * 1000 ∧ 0 ≤ n % 1000 * s ∧ n % 1000 * s ≤ n % 1000 * 1000 :=
  ⟨Int.mul_nonneg (by omega) s0, Int.mul_le_mul_of_nonneg_left s1 (by omega), Int.mul_nonneg (by omega) s0, Int.mul_le_mul_of_nonneg_left s1 (by omega)⟩
theorem mil_low {m : Int} (h : m < 0) : mil m = 0 := by unfold mil; omega
theorem mil_high {m : Int} (h : 1000 < m) : mil m = 1000 := by unfold mil; omega
theorem mil_mid {m : Int} (h : 0 ≤ m) (h' : m ≤ 1000) : mil m = m := by unfold mil; omega
/-- what Target computes, with the thousandths clamped -/
theorem tgt_wrap {n s : Int} (h1 : 1 ≤ n) (h2 : n ≤ 9223372036854775807) (s0 : 0 ≤ s) (s1 : s ≤ 1000) :
    wrap64 (wrap64 (n / 1000 * s) + wrap64 ((wrap64 (wrap64 (n % 1000 * s) + 999)).tdiv 1000)) = n / 1000 * s + (n % 1000 * s + 999) / 1000 := by
  obtain ⟨p1, p2, p3, p4⟩ := tgt_parts h1 h2 s0 s1
  have w3 : wrap64 (n / 1000 * s) = n / 1000 * s := (by unfold wrap64; omega)
  have w4 : wrap64 (n % 1000 * s) = n % 1000 * s := (by unfold wrap64; omega)
  have w5 : wrap64 (n % 1000 * s + 999) = n % 1000 * s + 999 := (by unfold wrap64; omega)
  have td2 : (n % 1000 * s + 999).tdiv 1000 = (n % 1000 * s + 999) / 1000 := Int.tdiv_eq_ediv_of_nonneg (by omega)
  have w6 : wrap64 ((n % 1000 * s + 999) / 1000) = (n % 1000 * s + 999) / 1000 := (by unfold wrap64; omega)
  rw [w3, w4, w5, td2, w6]
  exact (by unfold wrap64; omega)
set_option maxHeartbeats 1600000 in
theorem target_any {n m : Int} (hn : InI n) (w : World) :
    Calls Try.prog 22 #[.int .i64 n, .int .i64 m] w fun e w' => e = .returned (.int .i64 (tgt n m)) ∧ w = w' := by
  by_cases h1 : n < 1
  · have e : tgt n m = 0 := by unfold tgt; rw [if_pos h1]
    rw [e]
    clear hn e
    go_enter Try.func22, Try.ntmps22
    go_wp2_with fail
    go_ret
    exact ⟨rfl, rfl⟩
  · have e : tgt n m = max (n / 1000 * mil m + (n % 1000 * mil m + 999) / 1000) 1 := by unfold tgt; rw [if_neg h1]
    have td : n.tdiv 1000 = n / 1000 := Int.tdiv_eq_ediv_of_nonneg (by omega)
    have tm : n.tmod 1000 = n % 1000 := Int.tmod_eq_emod_of_nonneg (by omega)
    have hn1 : 1 ≤ n := by omega
    have hn2 := hn.2
    rw [e]
    clear e hn
    by_cases c1 : m < 0
    · rw [mil_low c1]
      have HW := tgt_wrap (n := n) (s := 0) hn1 hn2 (by omega) (by omega)
      clear hn1 hn2
      go_enter Try.func22, Try.ntmps22
      go_wp2_with fail
      all_goals
        go_ret
        refine ⟨?_, rfl⟩
        simp [wrap64]
        rfl
    · by_cases c2 : 1000 < m
      · rw [mil_high c2]
        have HW := tgt_wrap (n := n) (s := 1000) hn1 hn2 (by omega) (by omega)
        have c3 : 0 < m := by omega
        have c4 : ¬ m < 1000 := by omega
        go_enter Try.func22, Try.ntmps22
        go_wp2_with fail
        all_goals
          go_ret
          refine ⟨congrArg (fun z => Ending.returned (.int .i64 z)) ?_, rfl⟩
          unfold wrap64 at *
          omega
      · rw [mil_mid (by omega) (by omega)]
        have HW := tgt_wrap (n := n) (s := m) hn1 hn2 (by omega) (by omega)
        by_cases c3 : m = 0
        · subst c3
          go_enter Try.func22, Try.ntmps22
          go_wp2_with fail
          all_goals
            go_ret
            refine ⟨?_, rfl⟩
            simp
            rfl
        · by_cases c4 : m = 1000
          · subst c4
            go_enter Try.func22, Try.ntmps22
            go_wp2_with fail
            all_goals
              go_ret
              refine ⟨congrArg (fun z => Ending.returned (.int .i64 z)) ?_, rfl⟩
              unfold wrap64 at *
              omega
          · have c5 : 0 < m := by omega
            have c6 : m < 1000 := by omega
            have c7 : ¬ 1000 < m := by omega
            go_enter Try.func22, Try.ntmps22
            go_wp2_with fail
            all_goals
              go_ret
              refine ⟨congrArg (fun z => Ending.returned (.int .i64 z)) ?_, rfl⟩
              rw [HW] at *
              omega
end Go.Proofs.Ytahaoodklfmddaa
