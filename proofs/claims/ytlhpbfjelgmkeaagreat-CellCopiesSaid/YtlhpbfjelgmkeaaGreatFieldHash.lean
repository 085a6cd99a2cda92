/- Contracts of field.Mul over natural numbers and of field.Hash. Conditions: none (each a uint64). -/
import Derived.Test.YtlhpbfjelgmkeaaGreatFieldB
import Derived.Deep.RegionHeld3
set_option maxRecDepth 100000
namespace Go.Proofs.YtlhpbfjelgmkeaaGreat
open Go.RowKit

def mulP (x y : Nat) : Nat := x * y % 2305843009213693951
theorem mulP_lt (x y : Nat) : mulP x y < 2305843009213693951 := Nat.mod_lt _ (by decide)
theorem mulP_cast (x y : Nat) : ((x : Int) * (y : Int)) % 2305843009213693951 = (mulP x y : Int) := by
  unfold mulP; rw [← Int.natCast_mul]; omega
theorem mul_nat (x y : Nat) (w : World) (h1 : x < 18446744073709551616) (h3 : y < 18446744073709551616) : Calls Tryz.prog 215 #[.int .u64 (x : Int), .int .u64 (y : Int)] w fun e w' => e = .returned (.int .u64 (mulP x y : Int)) ∧ Below w.heap.size w w' :=
  (mul_any x y w (by omega) (by omega) (by omega) (by omega)).mono fun e w' ⟨h, b⟩ => ⟨by rw [h, mulP_cast], b⟩


def hashP (a b x : Nat) : Nat := (a * x + b) % 2305843009213693951
theorem hash_math (a b x : Nat) : ((mulP a x : Int) + (b : Int)) % 2305843009213693951 = (hashP a b x : Int) := by
  unfold hashP mulP
  generalize a * x = Z
  omega
theorem box_n (w : World) (o : Obj) (n : Nat) (_ : True) : Below w.heap.size w ((w.alloc o).drewN n) := by
  have h := (Below.refl w.heap.size w).alloc (Nat.le_refl _) o
  exact ⟨h.os, h.tape, h.output, h.size, h.block⟩
/-- a later world -/
def Later (w w' : World) : Prop := w.heap.size < w'.heap.size ∧ Below w.heap.size w w'
theorem box_start (w : World) (u v : Value) (t : TypeId) : ((w.alloc (.cells #[u, v] t)).drew.cell? ⟨w.heap.size, 0, none⟩ = some u ∧ (w.alloc (.cells #[u, v] t)).drew.cell? ⟨w.heap.size, 1, none⟩ = some v) ∧ Later w (w.alloc (.cells #[u, v] t)).drew :=
  ⟨⟨by go_simp, by go_simp⟩, by simp, ((Below.refl _ _).alloc (Nat.le_refl _) _).drew⟩
theorem box_keep {w w' w1 : World} {u v : Value} (hb : Below w'.heap.size w' w1) (h0 : w'.cell? ⟨w.heap.size, 0, none⟩ = some u ∧ w'.cell? ⟨w.heap.size, 1, none⟩ = some v ∧ Later w w') : w1.cell? ⟨w.heap.size, 0, none⟩ = some u ∧ w1.cell? ⟨w.heap.size, 1, none⟩ = some v ∧ Later w w1 :=
  ⟨by rw [hb.cell (p := ⟨w.heap.size, 0, none⟩) h0.2.2.1]; exact h0.1, by rw [hb.cell (p := ⟨w.heap.size, 1, none⟩) h0.2.2.1]; exact h0.2.1, Nat.lt_of_lt_of_le h0.2.2.1 hb.size, h0.2.2.2.trans (hb.mono h0.2.2.2.size)⟩
set_option maxHeartbeats 1600000 in
theorem hash_any (a b x : Nat) (w : World) (h1 : a < 18446744073709551616) (h2 : b < 18446744073709551616) (h3 : x < 18446744073709551616) : Calls Tryz.prog 210 #[.agg #[.int .u64 (a : Int), .int .u64 (b : Int)], .int .u64 (x : Int)] w fun e w' => e = .returned (.int .u64 (hashP a b x : Int)) ∧ Below w.heap.size w w' := by
  have HM := Lib.hid (hash_math a b x)
  have l1 := mulP_lt a x
  have HS := box_start w (.int .u64 (a : Int)) (.int .u64 (b : Int)) 95
  go_enter Tryz.func210, Tryz.ntmps210
  go_wp2_with fail
  go_region_held3 (fun w' => w'.cell? ⟨w.heap.size, 0, none⟩ = some (.int .u64 (a : Int)) ∧ w'.cell? ⟨w.heap.size, 1, none⟩ = some (.int .u64 (b : Int)) ∧ Later w w')
    (first | exact ⟨HS.1.1, HS.1.2, HS.2⟩ | (refine box_keep (by assumption) (by first | assumption | exact ⟨HS.1.1, HS.1.2, HS.2⟩)))
    (first | (go_at_call 215; refine (mul_nat a x _ h1 h3).mono ?_; rintro e w1 ⟨rfl, hb1⟩) | (go_at_call 214; refine (add_any _ _ _ (by omega) (by omega) (by omega) (by omega)).mono ?_; rintro e w1 ⟨rfl, rfl⟩))
  rename_i hHeld
  go_wp2_with fail
  go_ret
  exact ⟨ret_int HM.out, hHeld.2.2.2⟩
end Go.Proofs.YtlhpbfjelgmkeaaGreat
