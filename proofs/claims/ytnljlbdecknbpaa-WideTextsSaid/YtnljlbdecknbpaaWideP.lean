/- Contract of digits. Conditions: none. -/
import Derived.Test.YtnljlbdecknbpaaWideO
import Derived.Test.YtnljlbdecknbpaaDigs
set_option maxRecDepth 100000
namespace Go.Proofs.Ytnljlbdecknbpaa
open Go.RowKit

/-- a size in the first of two new blocks, a text of 39 bytes in the second -/
def DS (w wr : World) (H L : Nat) (xs : List UInt8) : Prop :=
  wr.heap[w.heap.size]? = some (.cells #[.int .u64 (H : Int), .int .u64 (L : Int)] 51 (0, 0)) ∧ wr.heap[w.heap.size + 1]? = some (.cells (u8s xs).toArray 69 (0, 0)) ∧ Below w.heap.size w wr
theorem DS.size {w wr : World} {H L : Nat} {xs : List UInt8} (h : DS w wr H L xs) : w.heap.size + 1 < wr.heap.size := by
  have := h.2.1
  rcases Nat.lt_or_ge (w.heap.size + 1) wr.heap.size with hlt | hge
  · exact hlt
  · rw [Array.getElem?_eq_none hge] at this; cases this
theorem DS.next {w wr w1 : World} {H L : Nat} {xs : List UInt8} (h : DS w wr H L xs) (hb : Below wr.heap.size wr w1) : DS w w1 H L xs := by
  have hz := h.size
  exact ⟨by rw [hb.block _ (by omega)]; exact h.1, by rw [hb.block _ hz]; exact h.2.1, h.2.2.trans (hb.mono (by omega))⟩
theorem DS.cells {w wr : World} {H L : Nat} {xs : List UInt8} (h : DS w wr H L xs) : wr.cell? ⟨w.heap.size, 0, none⟩ = some (.int .u64 (H : Int)) ∧ wr.cell? ⟨w.heap.size, 1, none⟩ = some (.int .u64 (L : Int)) ∧ wr.frozen? ⟨w.heap.size, 0, none⟩ = false ∧ wr.frozen? ⟨w.heap.size, 1, none⟩ = false :=
  ⟨by rw [cell_of_row _ _ _ _ _ _ h.1]; rfl, by rw [cell_of_row _ _ _ _ _ _ h.1]; rfl, free_of_row h.1 0, free_of_row h.1 1⟩
theorem DS.text {w wr : World} {H L : Nat} {xs : List UInt8} (h : DS w wr H L xs) {j : Nat} (hj : j < xs.length) : wr.cell? ⟨w.heap.size + 1, j, none⟩ = some (.int .u8 (xs[j].toNat : Int)) ∧ wr.frozen? ⟨w.heap.size + 1, j, none⟩ = false :=
  ⟨by rw [cell_of_row _ _ _ _ _ _ h.2.1]; simp [u8s, hj], free_of_row h.2.1 j⟩
theorem heap_far {w : World} {g b j : Nat} (h : b ≠ g) (v : Value) : (w.setCell ⟨b, j, none⟩ v).heap[g]? = w.heap[g]? := by
  simp [World.setCell, Array.getElem?_modify, h]
theorem DS.store {w wr : World} {H L : Nat} {xs : List UInt8} (h : DS w wr H L xs) (H2 L2 : Nat) : DS w ((wr.setCell ⟨w.heap.size, 0, none⟩ (.int .u64 (H2 : Int))).setCell ⟨w.heap.size, 1, none⟩ (.int .u64 (L2 : Int))) H2 L2 xs := by
  refine ⟨?_, ?_, (h.2.2.setCell (by simp) _).setCell (by simp) _⟩
  · rw [heap_set (heap_set h.1 _)]; rfl
  · rw [heap_far (by omega), heap_far (by omega)]; exact h.2.1
theorem DS.put {w wr : World} {H L : Nat} {xs : List UInt8} (h : DS w wr H L xs) (j : Nat) (c : UInt8) : DS w (wr.setCell ⟨w.heap.size + 1, j, none⟩ (.int .u8 (c.toNat : Int))) H L (xs.set j c) := by
  refine ⟨?_, ?_, h.2.2.setCell (by simp) _⟩
  · rw [heap_far (by omega)]; exact h.1
  · rw [heap_set h.2.1]
    congr 2
    apply Array.toList_inj.1
    simp [u8s, List.map_set]
theorem DS.holds {w wr : World} {H L : Nat} {xs : List UInt8} (h : DS w wr H L xs) (j : Nat) (hj : j ≤ xs.length) : Holds wr (.slice (some ⟨w.heap.size + 1, j, none⟩) (xs.length - j) (xs.length - j)) (u8s (xs.drop j)) := by
  have h0 : Holds wr (.slice (some ⟨w.heap.size + 1, 0, none⟩) xs.length xs.length) (u8s xs) := Holds.of_heap h.2.1 rfl _ _ (u8s_len xs).symm (Nat.le_refl _)
  have h1 := h0.drop j hj
  rw [Addr.add_at, Nat.zero_add] at h1
  have e : (u8s xs).drop j = u8s (xs.drop j) := by simp [u8s, List.map_drop]
  rw [e] at h1
  exact h1
theorem sv_nat (N : Nat) : hiW (N : Int) = ((N / 18446744073709551616 : Nat) : Int) ∧ loW (N : Int) = ((N % 18446744073709551616 : Nat) : Int) := ⟨(Int.natCast_ediv N 18446744073709551616).symm, (Int.natCast_emod N 18446744073709551616).symm⟩
theorem drop_set_here {xs : List UInt8} {j : Nat} (hj : j < xs.length) (c : UInt8) : (xs.set j c).drop j = c :: xs.drop (j + 1) := by
  rw [List.drop_eq_getElem_cons (by simpa using hj), List.drop_set, if_pos (by omega)]
  simp
theorem ds_new (w : World) (a b : Obj) : ((w.alloc a).alloc b).heap[w.heap.size]? = some a ∧ ((w.alloc a).alloc b).heap[w.heap.size + 1]? = some b := by
  have h1 := ((Below.refl (w.heap.size + 1) (w.alloc a)).alloc (by simp) b).block w.heap.size (by omega)
  have h2 := alloc1 (w.alloc a) b
  rw [World.size_alloc] at h2
  exact ⟨h1.trans (alloc1 w a), h2⟩
theorem toStr' {w : World} {v : Value} {l : List UInt8} (h : Holds w v (u8s l)) : (convert 63 9 v).run Try.prog w = .ok (.string ⟨l.toArray⟩) w :=
  str_of_holds Try.underlying63 Try.underlying5 Try.underlying9 h

theorem slice39 (b j : Nat) (hj : j ≤ 38) (w : World) : (Instr.sliceAt 69 (.pointer (some ⟨b, 0, none⟩)) (some (.int .i64 (j : Int))) none none).run Try.prog w = .ok (.slice (some ⟨b, j, none⟩) (39 - j) (39 - j)) w := by
  have hl : Try.prog.arrayLen 69 = 39 := by kernel_rfl
  have he : Try.prog.elem 69 = 5 := by kernel_rfl
  rw [run_sliceAt_array_l w 69 ⟨b, 0, none⟩ (by kernel_rfl) .i64 (j : Int) (by omega) (by rw [hl]; omega), he, Try.sizeOf5, hl]
  simp only [Result.andThen, slicedAt, Int.toNat_natCast, Nat.mul_one, Addr.add_at, Nat.zero_add]
  rw [if_neg (by omega)]
set_option maxHeartbeats 1600000 in
theorem digits_any (H0 L0 : Nat) (w : World) (h1 : H0 < 18446744073709551616) (l1 : L0 < 18446744073709551616) : Calls Try.prog 43 #[.agg #[.int .u64 (H0 : Int), .int .u64 (L0 : Int)]] w fun e w' => e = .returned (.string ⟨(digs (H0 * 18446744073709551616 + L0)).toArray⟩) ∧ Below w.heap.size w w' := by
  obtain ⟨N0, hN0⟩ : ∃ N, H0 * 18446744073709551616 + L0 = N := ⟨_, rfl⟩
  have hs : DS w ((w.alloc (.cells #[.int .u64 (H0 : Int), .int .u64 (L0 : Int)] 51)).alloc (.cells (u8s (List.replicate 39 0)).toArray 69)) H0 L0 (List.replicate 39 0) := ⟨(ds_new _ _ _).1, (ds_new _ _ _).2, two_new _ _ _⟩
  have HI := Lib.hid (show H0 < 18446744073709551616 ∧ L0 < 18446744073709551616 ∧ H0 * 18446744073709551616 + L0 < 10 ^ 39 ∧ digs (H0 * 18446744073709551616 + L0) ++ (List.replicate 39 (0 : UInt8)).drop 39 = digs N0 by
    refine ⟨h1, l1, ?_, by rw [hN0]; simp⟩
    have : (10 : Nat) ^ 39 = 1000000000000000000000000000000000000000 := by decide
    omega)
  rw [hN0]
  clear hN0 h1 l1
  go_enter Try.func43, Try.ntmps43
  go_wp2_with fail
  go_loopw [4, 6] (fun st i wr => ∃ (j H L : Nat) (xs : List UInt8), j ≤ 38 ∧ st = .int .i64 ((j : Int) + 1) ∧ i = .int .i64 (38 - (j : Int)) ∧ Hid (DS w wr H L xs ∧ xs.length = 39 ∧ H < 18446744073709551616 ∧ L < 18446744073709551616 ∧ H * 18446744073709551616 + L < 10 ^ (j + 1) ∧ digs (H * 18446744073709551616 + L) ++ xs.drop (j + 1) = digs N0)) (fun _ i _ => 39 - (intOf i).toNat)
  case atStart => exact ⟨38, H0, L0, List.replicate 39 0, by omega, rfl, rfl, Lib.hid ⟨hs, rfl, HI.out.1, HI.out.2.1, HI.out.2.2.1, HI.out.2.2.2⟩⟩
  case round =>
    obtain ⟨j, H, L, xs, hj, rfl, rfl, HR⟩ := hrel
    have hcut := fun w => cut_any H L w HR.out.2.2.1 HR.out.2.2.2.1
    obtain ⟨N, hN⟩ : ∃ N, H * 18446744073709551616 + L = N := ⟨_, rfl⟩
    have hq := sv_nat (N / 10)
    rw [hN] at hcut
    unfold sv at hcut
    rw [hq.1, hq.2] at hcut
    obtain ⟨H2, hH2⟩ : ∃ N', N / 10 / 18446744073709551616 = N' := ⟨_, rfl⟩
    obtain ⟨L2, hL2⟩ : ∃ N', N / 10 % 18446744073709551616 = N' := ⟨_, rfl⟩
    obtain ⟨D, hD⟩ : ∃ N', N % 10 = N' := ⟨_, rfl⟩
    have hD2 : D < 10 := by omega
    rw [hH2, hL2, hD] at hcut
    have HN := Lib.hid hN
    have HQ := Lib.hid (And.intro hH2 (And.intro hL2 hD))
    clear hN hH2 hL2 hD hq
    have HR1 := Lib.hid (And.intro HR.out.1 (And.intro HR.out.2.1 (And.intro HR.out.2.2.2.2.1 HR.out.2.2.2.2.2)))
    have hc := HR.out.1.cells
    clear HR
    have hv : ((UInt8.ofNat (48 + D)).toNat : Int) = 48 + (D : Int) := by rw [dig_nat hD2]; omega
    go_wp2_with fail
    refine (hcut _).mono ?_
    rintro e w1 ⟨rfl, b1⟩
    have d1 := HR1.out.1.next b1
    have c1 := d1.cells
    have d2 := d1.store H2 L2
    have t2 := d2.text (j := j) (by rw [HR1.out.2.1]; omega)
    have d3 := d2.put j (UInt8.ofNat (48 + D))
    rw [hv] at d3
    have c3 := d3.cells
    have k3 := toStr' (d3.holds j (by rw [List.length_set, HR1.out.2.1]; omega))
    rw [List.length_set, HR1.out.2.1] at k3
    have HD := Lib.hid d3
    have ks := fun w' => slice39 (w.heap.size + 1) j hj w'
    clear hc b1 d1 d2 d3 hcut hv
    by_cases hz : N / 10 = 0
    · have hH : H2 = 0 := by rw [← HQ.out.1, hz]
      have hL : L2 = 0 := by rw [← HQ.out.2.1, hz]
      have t0 : ((H2 : Int) == 0) = true := by rw [hH]; rfl
      have t1 : ((L2 : Int) == 0) = true := by rw [hL]; rfl
      clear hH hL
      have e2 : (xs.set j (UInt8.ofNat (48 + D))).drop j = digs N0 := by
        rw [drop_set_here (by rw [HR1.out.2.1]; omega), ← HR1.out.2.2.2, HN.out, digs_last N _ hz, HQ.out.2.2]
      rw [e2] at k3
      go_wp2_with fail
      go_ret
      exact ⟨rfl, HD.out.2.2⟩
    · have hz' : N / 10 < 10 ^ j := by
        have := HR1.out.2.2.1
        rw [HN.out, Nat.pow_succ] at this
        omega
      obtain ⟨i, rfl⟩ : ∃ i, j = i + 1 := by
        rcases j with _ | i
        · rw [Nat.pow_zero] at hz'; omega
        · exact ⟨i, rfl⟩
      have hsum : H2 * 18446744073709551616 + L2 = N / 10 := by rw [← HQ.out.1, ← HQ.out.2.1]; omega
      have e2 : digs (N / 10) ++ (xs.set (i + 1) (UInt8.ofNat (48 + D))).drop (i + 1) = digs N0 := by
        rw [drop_set_here (by rw [HR1.out.2.1]; omega), ← HR1.out.2.2.2, HN.out, digs_cut N _ hz, HQ.out.2.2]
      have hb : H2 < 18446744073709551616 ∧ L2 < 18446744073709551616 := by
        have h10 : (10 : Nat) ^ (i + 1) ≤ 10 ^ 38 := Nat.pow_le_pow_right (by decide) (by omega)
        have h38 : (10 : Nat) ^ 38 = 100000000000000000000000000000000000000 := by decide
        refine ⟨by omega, ?_⟩
        rw [← HQ.out.2.1]; exact Nat.mod_lt _ (by decide)
      have HH := Lib.hid (And.intro HD.out (And.intro (show (xs.set (i + 1) (UInt8.ofNat (48 + D))).length = 39 by rw [List.length_set, HR1.out.2.1]) (And.intro hb.1 (And.intro hb.2 (And.intro (hsum ▸ hz') (hsum ▸ e2))))))
      clear hz' hb e2 HD k3
      by_cases hH : H2 = 0
      · have t0 : ((H2 : Int) == 0) = true := by rw [hH]; rfl
        have t1 : ((L2 : Int) == 0) = false := by rw [beq_eq_false_iff_ne]; omega
        clear hH hsum hz
        go_wp2_with fail
        go_roundw
        case rel => exact ⟨i, H2, L2, _, by omega, rfl, by go_num, HH⟩
        case measure => first | (simp [intOf]; done) | (simp [intOf]; omega)
      · have t0 : ((H2 : Int) == 0) = false := by rw [beq_eq_false_iff_ne]; omega
        clear hH hsum hz
        go_wp2_with fail
        go_roundw
        case rel => exact ⟨i, H2, L2, _, by omega, rfl, by go_num, HH⟩
        case measure => first | (simp [intOf]; done) | (simp [intOf]; omega)
end Go.Proofs.Ytnljlbdecknbpaa
