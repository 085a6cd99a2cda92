/- Contracts of codec.Zig, codec.Zag and the document's own: ints without a sign. Conditions: none. -/
import Derived.Test.YtfoeodiijbdbeaaGreatBits
import Derived.Outline
set_option maxRecDepth 100000
namespace Go.Proofs.YtfoeodiijbdbeaaGreat
open Go.RowKit Go.Maps Go.Sort

def zigN (n : Int) : Int := if n < 0 then -2 * n - 1 else 2 * n
def zagN (u : Nat) : Int := if u % 2 = 1 then -((u / 2 : Nat) : Int) - 1 else ((u / 2 : Nat) : Int)
theorem zig_neg {n : Int} (h : n < 0) : zigN n = -2 * n - 1 := by unfold zigN; rw [if_pos h]
theorem zig_pos {n : Int} (h : ¬ n < 0) : zigN n = 2 * n := by unfold zigN; rw [if_neg h]
theorem zag_odd {u : Nat} (h : u % 2 = 1) : zagN u = -((u / 2 : Nat) : Int) - 1 := by unfold zagN; rw [if_pos h]
theorem zag_even {u : Nat} (h : ¬ u % 2 = 1) : zagN u = ((u / 2 : Nat) : Int) := by unfold zagN; rw [if_neg h]
theorem zig_walk {n : Int} (h1 : -9223372036854775808 ≤ n) (h : n < 0) : bits BinOp.xor IntKind.u64 IntKind.u64.max (IntKind.u64.wrap (IntKind.u64.wrap n * 2)) = zigN n := by
  rw [zig_neg h]
  have e : IntKind.u64.wrap (IntKind.u64.wrap n * 2) = ((2 * n + 18446744073709551616).toNat : Int) := by
    rw [IntKind.wrap_u64, IntKind.wrap_u64]; omega
  rw [e, not_u64 _ (by omega)]
  omega

end Go.Proofs.YtfoeodiijbdbeaaGreat
