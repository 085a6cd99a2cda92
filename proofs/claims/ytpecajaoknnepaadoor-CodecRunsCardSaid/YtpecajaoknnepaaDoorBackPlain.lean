/- Plain mathematics of runs and differences that are read again. Conditions: none. -/
import Derived.Test.YtpecajaoknnepaaDoorCodecUnruns
import Derived.Test.YtpecajaoknnepaaDoorCodecDelta
import Derived.Test.YtpecajaoknnepaaDoorCodecShort
import Derived.Test.YtpecajaoknnepaaDoorNumbersBack
set_option maxRecDepth 100000
namespace Go.Proofs.YtpecajaoknnepaaDoor

theorem nums_dig (r : List UInt8) {u : Nat} (hu : u < 18446744073709551616) : numsOf (dig u ++ r) = (u :: (numsOf r).1, (numsOf r).2) := by
  have hg := get_dig0 r hu
  have hp := dig_pos u
  have hne : dig u ++ r ≠ [] := by
    intro e
    have := congrArg List.length e
    rw [List.length_append, List.length_nil] at this
    omega
  rw [nums_more hne (by rw [hg]; show (dig u).length ≠ 0; omega), hg]
  show (u :: (numsOf ((dig u ++ r).drop (dig u).length)).1, (numsOf ((dig u ++ r).drop (dig u).length)).2) = _
  rw [List.drop_left]
/-- runs, as numbers -/
def runsN (l : List (UInt64 × Nat)) : List (Nat × Nat) := l.map fun p => (p.1.toNat, p.2)
def flat : List (Nat × Nat) → List Nat
  | [] => []
  | p :: r => p.1 :: p.2 :: flat r
theorem flat_len : ∀ l : List (Nat × Nat), (flat l).length = 2 * l.length
  | [] => rfl
  | p :: r => by rw [flat, List.length_cons, List.length_cons, flat_len r, List.length_cons]; omega
theorem pairs_flat : ∀ l : List (Nat × Nat), pairsOf (flat l) = l
  | [] => rfl
  | p :: r => by rw [flat, pairsOf, pairs_flat r]
theorem nums_runs : ∀ (l : List (UInt64 × Nat)), (∀ p ∈ l, p.2 < 18446744073709551616) → numsOf (runsB l) = (flat (runsN l), false)
  | [], _ => by rw [show runsB [] = [] from rfl, nums_nil]; rfl
  | p :: r, h => by
    have ih := nums_runs r (fun q hq => h q (List.mem_cons_of_mem _ hq))
    have e : runsB (p :: r) = dig p.1.toNat ++ (dig p.2 ++ runsB r) := by simp [runsB]
    rw [e, nums_dig _ p.1.toNat_lt, nums_dig _ (h p List.mem_cons_self), ih]
    rfl
theorem split_run (u : UInt64) : ∀ r : List UInt64, ∃ k rest, u :: r = List.replicate (k + 1) u ++ rest ∧ ∀ x t, rest = x :: t → x ≠ u
  | [] => ⟨0, [], rfl, fun x t h => by cases h⟩
  | v :: r => by
    by_cases h : v = u
    · subst h
      obtain ⟨k, rest, e, hr⟩ := split_run v r
      exact ⟨k + 1, rest, by rw [e]; rfl, hr⟩
    · exact ⟨0, v :: r, rfl, fun x t e => by injection e with e1 e2; rw [← e1]; exact h⟩
theorem unr_runs : ∀ (n : Nat) (l : List UInt64) (acc : List UInt64), l.length ≤ n → (∀ x t, l = x :: t → acc.getLast? ≠ some x) → acc.length + l.length ≤ 100000 →
    (runsN (runsOf l)).foldl unrStep (some acc) = some (acc ++ l) := by
  intro n
  induction n with
  | zero =>
    intro l acc hl _ _
    have : l = [] := List.eq_nil_of_length_eq_zero (by omega)
    subst this
    rw [List.append_nil]; rfl
  | succ n ih =>
    intro l acc hl hne hb
    cases l with
    | nil => rw [List.append_nil]; rfl
    | cons u r =>
      have hnu := hne u r rfl
      obtain ⟨k, rest, e, hr⟩ := split_run u r
      rw [e] at hb hl ⊢
      rw [List.length_append, List.length_replicate] at hb hl
      rw [runs_rep u rest hr k]
      have hU : UInt64.ofNat u.toNat = u := UInt64.ofNat_toNat
      have hs : unrStep (some acc) (u.toNat, k + 1) = some (acc ++ List.replicate (k + 1) u) := by
        rw [unrStep]
        show (if acc.getLast? = some (UInt64.ofNat u.toNat) ∨ k + 1 = 0 ∨ 100000 - acc.length < k + 1 then none else some (acc ++ List.replicate (k + 1) (UInt64.ofNat u.toNat))) = _
        rw [hU, if_neg]
        rintro (h | h | h)
        · exact hnu h
        · omega
        · omega
      show (runsN (runsOf rest)).foldl unrStep (unrStep (some acc) (u.toNat, k + 1)) = _
      rw [hs, ih rest _ (by omega) (fun x t ex => ?_) (by rw [List.length_append, List.length_replicate]; omega), List.append_assoc]
      have hx := hr x t ex
      rw [show (acc ++ List.replicate (k + 1) u).getLast? = some u by rw [List.getLast?_append, List.getLast?_replicate]; rfl]
      intro h
      exact hx (Option.some.inj h).symm
/-- what Runs wrote is read as it was -/
theorem unruns_runs (l : List UInt64) (hl : l.length ≤ 100000) : unrAns (runsB (runsOf l)) = (l, 0) := by
  have hp := (runs_le l).2
  have hn := nums_runs (runsOf l) (fun p hp2 => by have := (hp p hp2).2; omega)
  refine unrAns_ok ?_ ?_
  · rw [pairsBad, hn]
    show (false || decide ((flat (runsN (runsOf l))).length % 2 = 1)) = false
    rw [flat_len, Bool.false_or]
    exact decide_eq_false (by omega)
  · rw [hn]
    show unr (pairsOf (flat (runsN (runsOf l)))) = _
    rw [pairs_flat, unr, unr_runs l.length l [] (Nat.le_refl _) (fun x t _ h => by cases h) (by simpa using hl)]
    rfl

/-- differences, as numbers -/
def zs : Int → List Int → List Nat
  | _, [] => []
  | a, n :: r => zigU (dlt n a) :: zs n r
theorem nums_deltas : ∀ (m : List Int) (a : Int), numsOf (deltaL a m) = (zs a m, false)
  | [], _ => by rw [deltaL, nums_nil]; rfl
  | n :: r, a => by
    have hd := dlt_bd n a
    rw [deltaL, nums_dig _ (zigU_eq hd.1 hd.2).2, nums_deltas r n]
    rfl
theorem zag_zig {n : Int} (h1 : -9223372036854775808 ≤ n) (h2 : n ≤ 9223372036854775807) : zagN (zigU n) = n := by
  have := (zigU_eq h1 h2).1
  generalize zigU n = z at this
  by_cases h : n < 0
  · rw [zig_neg h] at this
    rw [zag_odd (by omega)]; omega
  · rw [zig_pos h] at this
    rw [zag_even (by omega)]; omega
theorem und_deltas : ∀ (m : List Int) (a : Int) (acc : List Int), (∀ n ∈ m, -9223372036854775808 ≤ n ∧ n ≤ 9223372036854775807) → ((zs a m).foldl undStep (acc, a)).1 = acc ++ m
  | [], _, _, _ => by rw [zs, List.append_nil]; rfl
  | n :: r, a, acc, h => by
    have hn := h n List.mem_cons_self
    have hd := dlt_bd n a
    have e : IntKind.i64.wrap (a + zagN (zigU (dlt n a))) = n := by
      rw [zag_zig hd.1 hd.2, dlt, IntKind.wrap_i64, IntKind.wrap_i64]; omega
    rw [zs, List.foldl_cons, undStep, e, und_deltas r n _ (fun x hx => h x (List.mem_cons_of_mem _ hx)), List.append_assoc]
    rfl
/-- what Deltas wrote is read as it was -/
theorem undeltas_deltas (m : List Int) (h : ∀ n ∈ m, -9223372036854775808 ≤ n ∧ n ≤ 9223372036854775807) : undAns (deltaL 0 m) = (m, 0) := by
  rw [undAns, nums_deltas]
  show ((und (zs 0 m)).1, (0 : Int)) = _
  rw [und, und_deltas m 0 [] h]
  rfl
theorem deltaL_len : ∀ (m : List Int) (a : Int), (deltaL a m).length ≤ 10 * m.length
  | [], _ => Nat.zero_le _
  | n :: r, a => by
    have := deltaL_len r n
    have hd := dlt_bd n a
    have := dig_len10 (zigU_eq hd.1 hd.2).2
    rw [deltaL, List.length_append, List.length_cons]; omega
end Go.Proofs.YtpecajaoknnepaaDoor
