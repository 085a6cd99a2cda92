/- The walk of WideTimes. Conditions: none. -/
import Derived.Test.YtnljlbdecknbpaaWideX
set_option maxRecDepth 100000
namespace Go.Proofs.Ytnljlbdecknbpaa
open Go.RowKit

/-- a number in the first new block -/
def TS (w wr : World) (X : Int) : Prop := wr.heap[w.heap.size]? = some (.cells #[.int .i64 (hiW X), .int .u64 (loW X)] 24 (0, 0)) ∧ Below w.heap.size w wr
theorem TS.size {w wr : World} {X : Int} (h : TS w wr X) : w.heap.size < wr.heap.size := by
  have := h.1
  rcases Nat.lt_or_ge w.heap.size wr.heap.size with hlt | hge
  · exact hlt
  · rw [Array.getElem?_eq_none hge] at this; cases this
theorem TS.next {w wr w1 : World} {X : Int} (h : TS w wr X) (hb : Below wr.heap.size wr w1) : TS w w1 X :=
  ⟨by rw [hb.block _ h.size]; exact h.1, h.2.trans (hb.mono (Nat.le_of_lt h.size))⟩
theorem TS.cells {w wr : World} {X : Int} (h : TS w wr X) : wr.cell? ⟨w.heap.size, 0, none⟩ = some (.int .i64 (hiW X)) ∧ wr.cell? ⟨w.heap.size, 1, none⟩ = some (.int .u64 (loW X)) ∧ wr.frozen? ⟨w.heap.size, 0, none⟩ = false ∧ wr.frozen? ⟨w.heap.size, 1, none⟩ = false :=
  ⟨by rw [cell_of_row _ _ _ _ _ _ h.1]; rfl, by rw [cell_of_row _ _ _ _ _ _ h.1]; rfl, free_of_row h.1 0, free_of_row h.1 1⟩
theorem TS.store {w wr : World} {X : Int} (h : TS w wr X) (Y : Int) : TS w ((wr.setCell ⟨w.heap.size, 0, none⟩ (.int .i64 (hiW Y))).setCell ⟨w.heap.size, 1, none⟩ (.int .u64 (loW Y))) Y := by
  refine ⟨?_, (h.2.setCell (by simp) _).setCell (by simp) _⟩
  rw [heap_set (heap_set h.1 _)]; rfl
theorem TS.drew {w wr : World} {X : Int} (h : TS w wr X) : TS w wr.drew X := ⟨h.1, h.2.drew⟩
theorem times_bound (j : Nat) (n : Int) (hj : j ≤ 50) (h0 : -9223372036854775808 ≤ n) (h1 : n < 9223372036854775808) : -461168601842738790400 ≤ (j : Int) * n ∧ (j : Int) * n ≤ 461168601842738790400 := by
  have h : ((j : Int) * n).natAbs ≤ 50 * 9223372036854775808 := by
    rw [Int.natAbs_mul, Int.natAbs_natCast]
    exact Nat.mul_le_mul hj (by omega)
  omega
set_option maxHeartbeats 3200000 in
theorem times_walk (n k : Int) (n0 : -9223372036854775808 ≤ n) (n1 : n < 9223372036854775808) (k0 : 0 ≤ k) (k1 : k < 18446744073709551616) (w : World) : Calls Try.prog 7 #[.int .i64 n, .int .u64 k] w fun e w' => e = .returned (.bool true) ∧ Below w.heap.size w w' := by
  obtain ⟨m, hm⟩ : ∃ m : Nat, k % 50 = (m : Int) := ⟨(k % 50).toNat, by omega⟩
  have hm50 : m < 50 := by omega
  have KO := fun w => of_any n w n0 n1
  have M1 := fun w => mul_any n (m : Int) w n0 n1 (by omega) (by omega)
  have M2 := fun w => mul_any (m : Int) n w (by omega) (by omega) n0 n1
  rw [Int.mul_comm] at M1
  unfold wv at KO M1 M2
  have hn := w_split n
  have KA : ∀ j : Nat, j < m → ∀ w, Calls Try.prog 9 #[.agg #[.int .i64 (hiW ((j : Int) * n)), .int .u64 (loW ((j : Int) * n))], .agg #[.int .i64 (hiW n), .int .u64 (loW n)]] w fun e w' => e = .returned (.tuple #[.agg #[.int .i64 (hiW (((j + 1 : Nat) : Int) * n)), .int .u64 (loW (((j + 1 : Nat) : Int) * n))], .bool true]) ∧ Below w.heap.size w w' := fun j hj w => by
    have hb := times_bound j n (by omega) n0 n1
    have hb2 := times_bound (j + 1) n (by omega) n0 n1
    have e : ((j + 1 : Nat) : Int) * n = (j : Int) * n + n := by rw [Int.natCast_add, Int.add_mul]; simp
    have hx := w_split ((j : Int) * n)
    have hf1 := fit_hi (fit_iff.2 (by omega) : fitW ((j : Int) * n) = true)
    have hf2 := fit_hi (fit_iff.2 (by omega) : fitW n = true)
    have K := add_any (hiW ((j : Int) * n)) (loW ((j : Int) * n)) (hiW n) (loW n) w hf1.1 hf1.2 hx.2.1 hx.2.2 hf2.1 hf2.2 hn.2.1 hn.2.2
    rw [hx.1, hn.1, ← e] at K
    have hf3 : fitW (((j + 1 : Nat) : Int) * n) = true := fit_iff.2 (by omega)
    unfold wv ansW at K
    rw [hf3, if_pos rfl] at K
    exact K
  have HA := Lib.hid KA
  have hs0 : TS w (w.alloc (.cells #[.int .i64 0, .int .u64 0] 24)) (((0 : Nat) : Int) * n) := by
    rw [show ((0 : Nat) : Int) * n = 0 by simp]
    exact ⟨alloc1 _ _, (Below.refl _ _).alloc (Nat.le_refl _) _⟩
  have HS := Lib.hid hs0
  have HM := Lib.hid (And.intro M1 M2)
  clear hs0 KA hn M1 M2
  go_enter Try.func7, Try.ntmps7
  go_wp2_with fail
  go_loopw [7, 8] (fun ok i wr => ∃ j : Nat, j ≤ m ∧ i = .int .i64 (j : Int) ∧ ok = .bool true ∧ Hid (TS w wr ((j : Int) * n))) (fun _ i _ => m - (intOf i).toNat)
  case atStart => exact ⟨0, by omega, rfl, rfl, HS⟩
  case round =>
    clear hm
    obtain ⟨j, hj, rfl, rfl, HR⟩ := hrel
    by_cases hlt : j < m
    · have K := HA.out j hlt
      obtain ⟨p, hp⟩ : ∃ p, hiW ((j : Int) * n) = p := ⟨_, rfl⟩
      obtain ⟨q, hq⟩ : ∃ p, loW ((j : Int) * n) = p := ⟨_, rfl⟩
      obtain ⟨p', hp'⟩ : ∃ p, hiW (((j + 1 : Nat) : Int) * n) = p := ⟨_, rfl⟩
      obtain ⟨q', hq'⟩ : ∃ p, loW (((j + 1 : Nat) : Int) * n) = p := ⟨_, rfl⟩
      have hc := HR.out.drew.cells
      rw [hp, hq] at K hc
      rw [hp', hq'] at K
      have HD := Lib.hid HR.out.drew
      have HP := Lib.hid (And.intro hp (And.intro hq (And.intro hp' hq')))
      have HC2 : ∀ w1, Below wr.drew.heap.size wr.drew w1 → w1.cell? ⟨w.heap.size, 0, none⟩ = some (.int .i64 p) ∧ w1.cell? ⟨w.heap.size, 1, none⟩ = some (.int .u64 q) ∧ w1.frozen? ⟨w.heap.size, 0, none⟩ = false ∧ w1.frozen? ⟨w.heap.size, 1, none⟩ = false := fun w1 hb => by
        have := (HD.out.next hb).cells
        rw [hp, hq] at this
        exact this
      clear hp hq hp' hq'
      go_wp2_with fail
      go_region_with (first | (go_at_call 20; refine (KO _).mono ?_; rintro e w1 ⟨rfl, hb1⟩; have hc1 := HC2 _ hb1) | (go_at_call 9; refine (K _).mono ?_; rintro e w2 ⟨rfl, hb2⟩; have HD2 := Lib.hid ((HD.out.next hb1).next hb2); have hc2 := HD2.out.cells; rw [HP.out.1, HP.out.2.1] at hc2))
      all_goals
        have HD3 := Lib.hid (HD2.out.store (((j + 1 : Nat) : Int) * n))
        rw [HP.out.2.2.1, HP.out.2.2.2] at HD3
        clear hc HC2 KO K hb1 hb2 hc1
        go_wp2_with fail
        go_roundw
        case rel => exact ⟨j + 1, by omega, by go_num, rfl, HD3⟩
        case measure => first | (simp [intOf]; done) | (simp [intOf]; omega)
    · have hjm : j = m := by omega
      subst hjm
      obtain ⟨p, hp⟩ : ∃ p, hiW ((j : Int) * n) = p := ⟨_, rfl⟩
      obtain ⟨q, hq⟩ : ∃ p, loW ((j : Int) * n) = p := ⟨_, rfl⟩
      have hc := HR.out.cells
      have HM2 := HM.out
      rw [hp, hq] at hc HM2
      have HB := HR.out.2
      have HS2 := k2_keep ⟨hc.1, hc.2.1⟩ (Below.refl wr.heap.size wr).drew
      have hc12 := And.intro hc.1 hc.2.1
      have MM : ∀ x y : Int, (x = n ∧ y = (j : Int)) ∨ (x = (j : Int) ∧ y = n) → ∀ w, Calls Try.prog 22 #[.int .i64 x, .int .i64 y] w fun e w' => e = .returned (.agg #[.int .i64 p, .int .u64 q]) ∧ Below w.heap.size w w' := fun x y h w => by
        rcases h with ⟨rfl, rfl⟩ | ⟨rfl, rfl⟩
        · exact HM2.1 w
        · exact HM2.2 w
      clear hp hq HR KO HM2 HM HA
      go_wp2_with fail
      go_region_held3 (fun w' => w'.cell? ⟨w.heap.size, 0, none⟩ = some (.int .i64 p) ∧ w'.cell? ⟨w.heap.size, 1, none⟩ = some (.int .u64 q) ∧ Below wr.heap.size wr w')
        (first | exact HS2 | (refine k2_next hc12 (by assumption) (by first | assumption | exact HS2)))
        (first | (go_at_call 22; refine (MM _ _ (by first | exact .inl ⟨rfl, rfl⟩ | exact .inr ⟨rfl, rfl⟩) _).mono ?_; rintro e w1 ⟨rfl, hb1⟩) | (go_at_call 17; refine (lives_any _).mono ?_; rintro e w1 ⟨rfl, hb1⟩))
      rename_i hHeld
      have HB2 := Lib.hid (HB.trans (hHeld.2.2.mono HB.size))
      clear hHeld HB
      go_wp2_with fail
      go_ret
      exact ⟨rfl, HB2.out⟩
end Go.Proofs.Ytnljlbdecknbpaa
