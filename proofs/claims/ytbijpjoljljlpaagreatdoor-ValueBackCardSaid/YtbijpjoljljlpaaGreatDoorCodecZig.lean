/- Contracts of codec.Zig, codec.Zag and the document's own: ints without a sign. Conditions: none. -/
import Derived.Test.YtbijpjoljljlpaaGreatDoorBits
import Derived.Outline
set_option maxRecDepth 100000
namespace Go.Proofs.YtbijpjoljljlpaaGreatDoor
open Go.RowKit Go.Maps Go.Sort

def zigN (n : Int) : Int := if n < 0 then -2 * n - 1 else 2 * n
def zagN (u : Nat) : Int := if u % 2 = 1 then -((u / 2 : Nat) : Int) - 1 else ((u / 2 : Nat) : Int)
theorem zig_neg {n : Int} (h : n < 0) : zigN n = -2 * n - 1 := by unfold zigN; rw [if_pos h]
theorem zig_pos {n : Int} (h : ¬ n < 0) : zigN n = 2 * n := by unfold zigN; rw [if_neg h]
theorem zag_odd {u : Nat} (h : u % 2 = 1) : zagN u = -((u / 2 : Nat) : Int) - 1 := by unfold zagN; rw [if_pos h]
theorem zag_even {u : Nat} (h : ¬ u % 2 = 1) : zagN u = ((u / 2 : Nat) : Int) := by unfold zagN; rw [if_neg h]
theorem zig_walk {n : Int} (h1 : -9223372036854775808 ≤ n) (h : n < 0) : bits BinOp.xor IntKind.u64 IntKind.u64.max (IntKind.u64.wrap (IntKind.u64.wrap n * 2)) = zigN n := by
  rw [zig_neg h]
  have e : IntKind.u64.wrap (IntKind.u64.wrap n * 2) = ((2 * n + 18446744073709551616).toNat : Int) := by
    rw [IntKind.wrap_u64, IntKind.wrap_u64]; omega
  rw [e, not_u64 _ (by omega)]
  omega

set_option maxHeartbeats 400000 in
theorem Zig_any (n : Int) (w : World) (h1 : -9223372036854775808 ≤ n) (h2 : n ≤ 9223372036854775807) :
    Calls Tryz.prog 137 #[.int .i64 n] w fun e w' => e = .returned (.int .u64 (zigN n)) ∧ w = w' := by
  by_cases h : n < 0
  · go_enter Tryz.func137, Tryz.ntmps137
    go_wp2
    go_ret
    exact ⟨ret_int (zig_walk h1 (by omega)), rfl⟩
  · go_enter Tryz.func137, Tryz.ntmps137
    go_wp2
    go_ret
    refine ⟨ret_int ?_, rfl⟩
    rw [zig_pos (by omega)]; omega
set_option maxHeartbeats 400000 in
theorem Zag_any (u : Nat) (w : World) (h1 : u < 18446744073709551616) :
    Calls Tryz.prog 44 #[.int .u64 (u : Int)] w fun e w' => e = .returned (.int .i64 (zagN u)) ∧ w = w' := by
  have e1 := and1_u64 u h1
  have e2 := not_i64 (u / 2) (by omega)
  have e3 : ((u / 2 : Nat) : Int) = (u : Int) / 2 := by omega
  by_cases h : u % 2 = 1
  · have t : (bits BinOp.and IntKind.u64 (u : Int) 1 == 1) = true := by rw [e1, h]; rfl
    have H := Lib.hid (zag_odd h)
    rw [e3] at e2
    have E2 := Lib.hid e2
    have E3 := Lib.hid e3
    clear e1 e2 e3 h
    go_enter Tryz.func44, Tryz.ntmps44
    go_wp2
    go_ret
    refine ⟨ret_int ?_, rfl⟩
    rw [H.out, E2.out, E3.out]
  · have t : (bits BinOp.and IntKind.u64 (u : Int) 1 == 1) = false := by rw [e1, show u % 2 = 0 by omega]; rfl
    have H := Lib.hid (zag_even h)
    have E3 := Lib.hid e3
    clear e1 e2 e3 h
    go_enter Tryz.func44, Tryz.ntmps44
    go_wp2
    go_ret
    refine ⟨ret_int ?_, rfl⟩
    rw [H.out, E3.out]
end Go.Proofs.YtbijpjoljljlpaaGreatDoor
