/- Nodes as cells, any code read as a node: for sorts whose comparison wants nodes. Conditions: none. -/
import Derived.Test.YtahaoodklfmddaaDigBits
set_option maxRecDepth 100000
namespace Go.Proofs.Ytahaoodklfmddaa
open Go.RowKit Go.Maps Go.Sort

/-- the code of a node -/
def NodeC (c : Nat) : Prop := c / 18446744073709551616 ≤ 64 ∧ c % 18446744073709551616 < 2 ^ (64 - c / 18446744073709551616)
instance (c : Nat) : Decidable (NodeC c) := by unfold NodeC; infer_instance
/-- a code, or 0 where it is none of a node -/
def asN (c : Nat) : Nat := if NodeC c then c else 0
theorem asN_node (c : Nat) : NodeC (asN c) := by
  unfold asN
  split
  · assumption
  · decide
theorem asN_eq {c : Nat} (h : NodeC c) : asN c = c := if_pos h
def nA (x : Nat × Int) : Int := ((asN x.1 / 18446744073709551616 : Nat) : Int)
def nU (x : Nat × Int) : Int := ((asN x.1 % 18446744073709551616 : Nat) : Int)
/-- a node's cells -/
def encG (x : Nat × Int) : List Value := [.int .i64 (nA x), .int .u64 (nU x), .int .i64 x.2]
theorem encG_form (x : Nat × Int) : encG x = [.int .i64 (nA x), .int .u64 (nU x), .int .i64 x.2] := rfl
theorem encG_len (x : Nat × Int) : (encG x).length = 3 := rfl
theorem encG_one (x : Nat × Int) : ∀ v ∈ encG x, v.oneCell' = true := fun v hv => by
  simp [encG] at hv
  rcases hv with rfl | rfl | rfl <;> rfl
theorem encG_eq {x : Nat × Int} (h : NodeC x.1) : encG x = encN x := by
  unfold encG encN nA nU
  rw [asN_eq h]
/-- the greatest number of a node -/
def gr (c : Nat) : Nat := asN c % 18446744073709551616 * 2 ^ (asN c / 18446744073709551616) + (2 ^ (asN c / 18446744073709551616) - 1)
def cfG (x y : Nat × Int) : Int := Lib.compareInt (gr x.1 : Nat) (gr y.1 : Nat)
end Go.Proofs.Ytahaoodklfmddaa
