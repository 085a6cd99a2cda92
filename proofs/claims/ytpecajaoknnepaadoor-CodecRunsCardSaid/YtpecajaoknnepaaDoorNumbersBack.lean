/- Plain mathematics of what is packed and read again. Conditions: none. -/
import Derived.Test.YtpecajaoknnepaaDoorPacksAll
set_option maxRecDepth 100000
namespace Go.Proofs.YtpecajaoknnepaaDoor

theorem bigN_at (wd : Nat) (l : List Nat) (h : ∀ u ∈ l, u < 2 ^ wd) : ∀ (j : Nat) (hj : j < l.length), bigN wd l / 2 ^ (wd * j) % 2 ^ wd = l[j] := by
  induction l with
  | nil => intro j hj; cases hj
  | cons x r ih =>
    intro j hj
    have hx := h x List.mem_cons_self
    have hp := Nat.two_pow_pos wd
    cases j with
    | zero => rw [Nat.mul_zero, Nat.pow_zero, Nat.div_one, bigN, Nat.add_mul_mod_self_left, Nat.mod_eq_of_lt hx]; rfl
    | succ j =>
      rw [bigN, Nat.mul_succ, Nat.add_comm, Nat.pow_add, Nat.mul_comm (2 ^ (wd * j)), ← Nat.div_div_eq_div_mul]
      rw [show (2 ^ wd * bigN wd r + x) / 2 ^ wd = bigN wd r by rw [Nat.mul_add_div hp, Nat.div_eq_of_lt hx, Nat.add_zero]]
      have := ih (fun u hu => h u (List.mem_cons_of_mem _ hu)) j (by simpa using hj)
      simpa using this
/-- what was packed is read as it was -/
theorem unpack_pack (wd : Nat) (l : List UInt64) (h : ∀ u ∈ l, u.toNat < 2 ^ wd) :
    numB (bytesN ((wd * l.length + 7) / 8) (bigN wd (nats l))) < 2 ^ (wd * l.length) ∧ unpackL wd l.length (numB (bytesN ((wd * l.length + 7) / 8) (bigN wd (nats l)))) = l := by
  have hn : (nats l).length = l.length := by simp [nats]
  have hall : ∀ u ∈ nats l, u < 2 ^ wd := fun u hu => by obtain ⟨x, hx, rfl⟩ := List.mem_map.1 hu; exact h x hx
  have hbig := bigN_lt wd (nats l) hall
  rw [hn] at hbig
  have hpow : 2 ^ (wd * l.length) ≤ 256 ^ ((wd * l.length + 7) / 8) := by
    rw [pow256]
    exact Nat.pow_le_pow_right (by omega) (by omega)
  rw [numB_bytes _ _ (Nat.lt_of_lt_of_le hbig hpow)]
  refine ⟨hbig, ?_⟩
  apply List.ext_getElem
  · rw [unpackL_len]
  · intro j h1 h2
    have := bigN_at wd (nats l) hall j (by rw [hn]; exact h2)
    simp only [unpackL, List.getElem_map, List.getElem_range, this]
    simp [nats]
end Go.Proofs.YtpecajaoknnepaaDoor
