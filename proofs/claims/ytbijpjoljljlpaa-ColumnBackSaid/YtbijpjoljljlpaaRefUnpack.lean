/- Contracts of talusref02.Unpack: one bit after the other. Conditions: none but Go's. -/
import Derived.Test.YtbijpjoljljlpaaRefPack
import Derived.Test.YtbijpjoljljlpaaCodecReadOk
set_option maxRecDepth 100000
namespace Go.Proofs.Ytbijpjoljljlpaa
open Go.RowKit Go.Maps Go.Sort

theorem app1u {w : World} {B : Nat} {v : Value} {xs : List UInt64} (hown : w.ownsRow B 44 1 v xs.length (u64s xs)) (hB : B ≤ w.heap.size) (c : UInt64) (n : Int) (hn : n = (c.toNat : Int)) (hx : xs.length ≤ 1000000) :
    ∃ v2 w2, Hid (∀ ty, (Builtin.append_ #[46, 46] ty #[v, .slice (some ⟨w.heap.size, 0, none⟩) 1 1]).run Try.prog (w.alloc (.cells #[.int .u64 n] 44)) = .ok v2 w2) ∧
      Hid (w2.ownsRow B 44 1 v2 (xs ++ [c]).length (u64s (xs ++ [c])) ∧ Below B w w2) := by
  have hs : Holds (w.alloc (.cells #[.int .u64 n] 44)) (.slice (some ⟨w.heap.size, 0, none⟩) 1 1) (u64s [c]) :=
    Holds.of_heap (alloc1 _ _) (by rw [hn]; rfl) 1 1 rfl (Nat.le_refl _)
  have hb1 : Below B w (w.alloc (.cells #[.int .u64 n] 44)) := (Below.refl _ _).alloc hB _
  have ho := hown.alloc (.cells #[.int .u64 n] 44)
  have := app_any (P := Try.prog) Try.underlying46 infoU (by omega) rfl (by rw [u64s_len]; exact ho) (Nat.le_trans hB hb1.size) hs (u64s_one [c]) (by rw [u64s_len, u64s_len]; simp; omega)
  rw [← u64s_append, u64s_len] at this
  obtain ⟨v2, w2, r, o, g, b⟩ := this
  exact ⟨v2, w2, r, o, hb1.trans (below_grown g (Nat.le_trans hB hb1.size) (ownsRow_ge hown))⟩

theorem bit_of (bs : List UInt8) (t : Nat) (h : t / 8 < bs.length) : bs[t / 8].toNat / 2 ^ (t % 8) % 2 = numB bs / 2 ^ t % 2 := by
  rw [numB_at bs _ h, piece_eq, Nat.mod_mod_of_dvd]
  exact ⟨2 ^ (7 - t % 8), by rw [← Nat.pow_succ']; congr 1; omega⟩

theorem num_step (N f k : Nat) : N / 2 ^ f % 2 ^ (k + 1) = N / 2 ^ f % 2 ^ k + N / 2 ^ (f + k) % 2 * 2 ^ k := by
  have := mod_split (N / 2 ^ f) k 1
  rw [Nat.pow_one] at this
  rw [this, Nat.pow_add, Nat.div_div_eq_div_mul]
theorem or_bit (x k : Nat) (h : x < 2 ^ k) : x ||| 2 ^ k = x + 2 ^ k := by
  have := Nat.two_pow_add_eq_or_of_lt h 1
  rw [Nat.mul_one] at this
  rw [Nat.or_comm, ← this, Nat.add_comm]
theorem unpackL_snoc (wd j N : Nat) : unpackL wd (j + 1) N = unpackL wd j N ++ [UInt64.ofNat (N / 2 ^ (wd * j) % 2 ^ wd)] := by
  simp [unpackL, List.range_succ]
theorem unpackL_len (wd j N : Nat) : (unpackL wd j N).length = j := by simp [unpackL]

end Go.Proofs.Ytbijpjoljljlpaa
