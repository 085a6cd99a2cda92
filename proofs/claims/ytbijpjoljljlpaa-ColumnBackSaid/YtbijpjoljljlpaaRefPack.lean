/- Contracts of talusref02.Pack: one bit after the other. Conditions: small lists. -/
import Derived.Test.YtbijpjoljljlpaaCodecPack
import Derived.Test.YtbijpjoljljlpaaCodecReadMain
import Derived.Test.YtbijpjoljljlpaaLend
set_option maxRecDepth 100000
namespace Go.Proofs.Ytbijpjoljljlpaa
open Go.RowKit Go.Maps Go.Sort

/-- one bit more -/
theorem bit_step (m P f u k : Nat) (hP : P < 2 ^ f) :
    (u / 2 ^ k % 2 = 0 → P + u % 2 ^ (k + 1) * 2 ^ f = P + u % 2 ^ k * 2 ^ f) ∧
    (u / 2 ^ k % 2 = 1 → (bytesN m (P + u % 2 ^ k * 2 ^ f)).set ((f + k) / 8) (UInt8.ofNat ((P + u % 2 ^ k * 2 ^ f) / 256 ^ ((f + k) / 8) + 1 % 2 ^ (8 - (f + k) % 8) * 2 ^ ((f + k) % 8))) = bytesN m (P + u % 2 ^ (k + 1) * 2 ^ f)) ∧
    (P + u % 2 ^ k * 2 ^ f) / 256 ^ ((f + k) / 8) < 2 ^ ((f + k) % 8) := by
  have hN : P + u % 2 ^ k * 2 ^ f < 2 ^ (f + k) := by
    have h1 : u % 2 ^ k + 1 ≤ 2 ^ k := Nat.mod_lt _ (Nat.two_pow_pos _)
    have h2 := Nat.mul_le_mul_right (2 ^ f) h1
    rw [Nat.add_mul, Nat.one_mul, ← Nat.pow_add, Nat.add_comm k f] at h2
    omega
  have hs := mod_split u k 1
  rw [Nat.pow_one] at hs
  refine ⟨fun h => ?_, fun h => ?_, low_lt _ _ hN⟩
  · rw [hs, h]; simp
  · have h1 : 1 % 2 ^ (8 - (f + k) % 8) = 1 := Nat.mod_eq_of_lt (Nat.one_lt_two_pow (by omega))
    have hb := bytes_or m _ (f + k) 1 hN (Nat.one_lt_two_pow (by omega))
    rw [h1, hb, hs, h, Nat.add_mul, Nat.one_mul, Nat.one_mul, Nat.pow_add, Nat.mul_comm (2 ^ f)]
    congr 1
    omega

end Go.Proofs.Ytbijpjoljljlpaa
