/- Contract of slices.Equal at seeds that are alike. Conditions: none. -/
import Derived.Test.YtadlfmdliinnnaaKmvBytes
import Derived.Laws.StructEq
set_option maxRecDepth 100000
namespace Go.Proofs.Ytadlfmdliinnnaa
open Go.RowKit Go.Maps Go.Sort

theorem neq_seed (w : World) (a b : Int) : (binOp .neq 65 (.agg #[.int .u64 a, .int .u64 b]) (.agg #[.int .u64 a, .int .u64 b])).run Try.prog w = .ok (.bool false) w := by
  have u3 := Try.underlying32
  have hS : Try.prog.underlying 65 = some (.struct (Try.prog.fieldsOf 65)) := by kernel_rfl
  have hp : Try.prog.stoodInHeld 65 = false := by kernel_rfl
  rw [run_neq_struct, show (10000 : Nat) = 9999 + 1 from rfl, run_equalIn_agg w 9999 65 _ _ hS hp]
  simp only [Program.fieldsOf, Try.underlying65]
  go_simp
theorem guard_seed (w : World) (o : BinOp) (x y : Operand) (a b a' b' : Int) : (eqGuard o 65 x y (.agg #[.int .u64 a, .int .u64 b]) (.agg #[.int .u64 a', .int .u64 b'])).run Try.prog w = .ok () w :=
  run_eqGuard_agg w o _ x y _ _ (by kernel_rfl)

set_option maxHeartbeats 1600000 in
theorem equal_same {w : World} {a b : Addr} {n c d : Nat} {S : List (Nat × Nat)} (h : SeedsIn w a S) (g : SeedsIn w b S) (hn : S.length = n) (h7 : n ≤ 1000) :
    Calls Try.prog 37 #[.slice (some a) n c, .slice (some b) n d] w (Draws (.bool true) w) := by
  have KN := fun W A B => neq_seed W A B
  have KG := fun W o x y A B A' B' => guard_seed W o x y A B A' B'
  have H := Lib.hid h
  have G := Lib.hid g
  have HN := Lib.hid hn
  clear h g hn
  go_enter Try.func37, Try.ntmps37
  go_wp2_with fail
  go_loopw [5, 13] (fun _ k wr => ∃ (m q : Nat), k = .int .i64 m ∧ m ≤ n ∧ wr = w.drewN q) (fun _ k _ => n - (intOf k).toNat)
  case atStart => exact ⟨0, 0, rfl, Nat.zero_le _, (World.drewN_zero _).symm⟩
  case round =>
    obtain ⟨m, q, rfl, hm, rfl⟩ := hrel
    by_cases hlt : m < n
    · have hmS : m < S.length := by rw [HN.out]; exact hlt
      obtain ⟨d0, d1⟩ := H.out.read hmS
      obtain ⟨e0, e1⟩ := G.out.read hmS
      generalize S[m] = sd at *
      obtain ⟨A, B⟩ := sd
      have b0 : (0 : Int) ≤ (m : Int) := by omega
      have b1 : (m : Int) < (n : Int) := by omega
      go_wp2_with fail
      go_quiet (fail)
      go_wp2_with fail
      go_roundw
      case rel => exact ⟨m + 1, _, by go_num, by omega, rfl⟩
      case measure => simp [intOf]; omega
    · go_wp2_with fail
      go_ret
      exact ⟨rfl, _, rfl⟩
end Go.Proofs.Ytadlfmdliinnnaa
