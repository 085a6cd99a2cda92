/- Contracts of place.sibling and place.greatest. Conditions: a node's place. -/
import Derived.Test.YtahaoodklfmddaaDigPlaces
import Derived.Test.YtahaoodklfmddaaBits
set_option maxRecDepth 100000
namespace Go.Proofs.Ytahaoodklfmddaa
open Go.RowKit Go.Maps Go.Sort

theorem xor_u64 (a b : Nat) (ha : a < 18446744073709551616) (hb : b < 18446744073709551616) : bits .xor .u64 (a : Int) (b : Int) = ((a ^^^ b : Nat) : Int) := by
  have h1 : (BitVec.ofInt 64 (a : Int)).toNat = a := ofInt_nat64 a ha
  have h2 : (BitVec.ofInt 64 (b : Int)).toNat = b := ofInt_nat64 b hb
  have hx : a ^^^ b < 2 ^ 64 := Nat.xor_lt_two_pow (by omega) (by omega)
  show IntKind.u64.wrap ((BitVec.ofInt 64 (a : Int) ^^^ BitVec.ofInt 64 (b : Int)).toNat : Int) = _
  rw [BitVec.toNat_xor, h1, h2, IntKind.wrap_u64]
  omega
theorem xor_one (u : Nat) : u ^^^ 1 = if u % 2 = 0 then u + 1 else u - 1 := by
  have h1 : (u ^^^ 1) / 2 = u / 2 := by
    have := Nat.xor_div_two (a := u) (b := 1)
    simpa using this
  have h2 : (u ^^^ 1) % 2 = (u + 1) % 2 := by
    have h3 : (u ^^^ 1) % 2 ^ 1 = u % 2 ^ 1 ^^^ 1 % 2 ^ 1 := Nat.xor_mod_two_pow
    rcases (by omega : u % 2 = 0 ∨ u % 2 = 1) with e | e
    · rw [show (2 : Nat) ^ 1 = 2 from rfl, e] at h3
      rw [h3, show (0 ^^^ 1 % 2 : Nat) = 1 from rfl]
      omega
    · rw [show (2 : Nat) ^ 1 = 2 from rfl, e] at h3
      rw [h3, show (1 ^^^ 1 % 2 : Nat) = 0 from rfl]
      omega
  split <;> omega
theorem sibling_any {a : Int} {u : Nat} (hu : u < 18446744073709551616) (w : World) : Calls Try.prog 74 #[.agg #[.int .i64 a, .int .u64 (u : Int)]] w fun e w' => e = .returned (.agg #[.int .i64 a, .int .u64 ((u ^^^ 1 : Nat) : Int)]) ∧ ∃ os', w' = grow w os' := by
  have hx : bits .xor .u64 (u : Int) 1 = ((u ^^^ 1 : Nat) : Int) := xor_u64 u 1 hu (by decide)
  generalize ((u ^^^ 1 : Nat) : Int) = v at hx ⊢
  go_enter Try.func74, Try.ntmps74
  go_wp2_with fail
  refine bodyPost_ret (results_cell_row rfl _ _ (w.heap.size + 1) 67 _ (0, 0) _ rfl (heap_alloc2_new w _ _) Try.underlying67 rfl (by kernel_rfl)) rfl ?_
  exact ⟨rfl, grow_two w _ _⟩
theorem great_bits {l u : Nat} (hl : l ≤ 64) (hu : u < 2 ^ (64 - l)) : bits .or .u64 (IntKind.u64.wrap ((u : Int) * 2 ^ l)) (IntKind.u64.wrap (IntKind.u64.wrap (2 ^ l) - 1)) = ((u * 2 ^ l + (2 ^ l - 1) : Nat) : Int) := by
  have c1 : ((u : Int) * 2 ^ l) = ((u * 2 ^ l : Nat) : Int) := by simp
  have c2 : ((2 : Int) ^ l) = ((2 ^ l : Nat) : Int) := by simp
  rw [c1, c2]
  rcases Nat.lt_or_ge l 64 with h | h
  · have p1 : 2 ^ l * 2 ^ (64 - l) = 18446744073709551616 := by rw [← Nat.pow_add, show l + (64 - l) = 64 by omega]
    have p2 : 0 < 2 ^ l := Nat.two_pow_pos l
    have p3 : 2 ^ l < 18446744073709551616 := (Nat.pow_lt_pow_right (a := 2) (by decide) h : 2 ^ l < 2 ^ 64)
    have p4 : u * 2 ^ l < 18446744073709551616 := by
      rw [← p1, Nat.mul_comm]
      exact Nat.mul_lt_mul_of_pos_left hu p2
    have e := Nat.two_pow_add_eq_or_of_lt (i := l) (b := 2 ^ l - 1) (by omega) u
    rw [Nat.mul_comm] at e
    generalize u * 2 ^ l = A at p4 e ⊢
    generalize 2 ^ l = B at p2 p3 e ⊢
    have w1 : IntKind.u64.wrap ((A : Nat) : Int) = ((A : Nat) : Int) := by rw [IntKind.wrap_u64]; omega
    have w2 : IntKind.u64.wrap ((B : Nat) : Int) = ((B : Nat) : Int) := by rw [IntKind.wrap_u64]; omega
    have w3 : IntKind.u64.wrap (((B : Nat) : Int) - 1) = ((B - 1 : Nat) : Int) := by rw [IntKind.wrap_u64]; omega
    rw [w1, w2, w3, or_u64 A (B - 1) p4 (by omega), e]
  · obtain rfl : l = 64 := by omega
    obtain rfl : u = 0 := by simpa using hu
    rfl
theorem greatest_any {l u : Nat} (hl : l ≤ 64) (hu : u < 2 ^ (64 - l)) (w : World) : Calls Try.prog 39 #[.agg #[.int .i64 (l : Int), .int .u64 (u : Int)]] w fun e w' => e = .returned (.int .u64 ((u * 2 ^ l + (2 ^ l - 1) : Nat) : Int)) ∧ ∃ q os', w' = grow (w.drewN q) os' := by
  have HB := great_bits hl hu
  generalize ((u * 2 ^ l + (2 ^ l - 1) : Nat) : Int) = v at HB ⊢
  have HG : Hid (∃ q os', (w.alloc (.cells #[.int .i64 (l : Int), .int .u64 (u : Int)] 67)).drew = grow (w.drewN q) os') := Lib.hid ⟨1, _, by rw [alloc_eq_grow]; rfl⟩
  go_enter Try.func39, Try.ntmps39
  go_wp2_with fail
  have d0 : (w.alloc (.cells #[.int .i64 (l : Int), .int .u64 (u : Int)] 67)).cell? ⟨w.heap.size, 0, none⟩ = some (.int .i64 (l : Int)) := by rw [cell_of_row _ _ _ _ _ _ (heap_alloc_new w _)]; rfl
  have d1 : (w.alloc (.cells #[.int .i64 (l : Int), .int .u64 (u : Int)] 67)).cell? ⟨w.heap.size, 1, none⟩ = some (.int .u64 (u : Int)) := by rw [cell_of_row _ _ _ _ _ _ (heap_alloc_new w _)]; rfl
  generalize (w.alloc (.cells #[.int .i64 (l : Int), .int .u64 (u : Int)] 67)) = W at *
  generalize w.heap.size = G at *
  have hl0 : (0 : Int) ≤ (l : Int) := by omega
  refine wp_region_mix (fun Z => Z.cell? ⟨G, 0, none⟩ = some (.int .i64 (l : Int)) ∧ Z.cell? ⟨G, 1, none⟩ = some (.int .u64 (u : Int))) 11 [(true, 0), (true, 1), (true, 2), (true, 3), (true, 4), (true, 5), (true, 6), (true, 7), (true, 8), (true, 9), (true, 10)] (by kernel_rfl) (by decide +kernel) rfl (by decide +kernel) ⟨d0, d1⟩ ?_
  iterate 11
    refine wpMix_take (v := ?_) rfl rfl ?_ ?_
    rotate_left
    · (intro W hW; (try dsimp only at hW); go_simp) <;> with_reducible rfl
    simp only [Act.put, List.setIfInBounds_toArray, List.set_cons_zero, List.set_cons_succ]
  refine wpMix_nil ?_
  go_wp2_with fail
  go_ret
  exact ⟨rfl, HG.out⟩
end Go.Proofs.Ytahaoodklfmddaa
