/- The texts RefUnpack PacksAll, one behind the other; each one's own comment says what it holds. -/
import Derived.Test.YtknghmcdnlkfcaaPackAN
import Derived.Test.YtknghmcdnlkfcaaPackAK
import Derived.Test.YtknghmcdnlkfcaaPackAL
/- Contracts of talusref02.Unpack: one bit after the other. Conditions: none but Go's. -/
set_option maxRecDepth 100000
namespace Go.Proofs.Ytknghmcdnlkfcaa
open Go.RowKit Go.Maps Go.Sort

theorem app1u {w : World} {B : Nat} {v : Value} {xs : List UInt64} (hown : w.ownsRow B 61 1 v xs.length (u64s xs)) (hB : B ≤ w.heap.size) (c : UInt64) (n : Int) (hn : n = (c.toNat : Int)) (hx : xs.length ≤ 1000000) :
    ∃ v2 w2, Hid (∀ ty, (Builtin.append_ #[63, 63] ty #[v, .slice (some ⟨w.heap.size, 0, none⟩) 1 1]).run Try.prog (w.alloc (.cells #[.int .u64 n] 61)) = .ok v2 w2) ∧
      Hid (w2.ownsRow B 61 1 v2 (xs ++ [c]).length (u64s (xs ++ [c])) ∧ Below B w w2) := by
  have hs : Holds (w.alloc (.cells #[.int .u64 n] 61)) (.slice (some ⟨w.heap.size, 0, none⟩) 1 1) (u64s [c]) :=
    Holds.of_heap (alloc1 _ _) (by rw [hn]; rfl) 1 1 rfl (Nat.le_refl _)
  have hb1 : Below B w (w.alloc (.cells #[.int .u64 n] 61)) := (Below.refl _ _).alloc hB _
  have ho := hown.alloc (.cells #[.int .u64 n] 61)
  have := app_any (P := Try.prog) Try.underlying63 infoU (by omega) rfl (by rw [u64s_len]; exact ho) (Nat.le_trans hB hb1.size) hs (u64s_one [c]) (by rw [u64s_len, u64s_len]; simp; omega)
  rw [← u64s_append, u64s_len] at this
  obtain ⟨v2, w2, r, o, g, b⟩ := this
  exact ⟨v2, w2, r, o, hb1.trans (below_grown g (Nat.le_trans hB hb1.size) (ownsRow_ge hown))⟩

theorem bit_of (bs : List UInt8) (t : Nat) (h : t / 8 < bs.length) : bs[t / 8].toNat / 2 ^ (t % 8) % 2 = numB bs / 2 ^ t % 2 := by
  rw [numB_at bs _ h, piece_eq, Nat.mod_mod_of_dvd]
  exact ⟨2 ^ (7 - t % 8), by rw [← Nat.pow_succ']; congr 1; omega⟩

theorem num_step (N f k : Nat) : N / 2 ^ f % 2 ^ (k + 1) = N / 2 ^ f % 2 ^ k + N / 2 ^ (f + k) % 2 * 2 ^ k := by
  have := mod_split (N / 2 ^ f) k 1
  rw [Nat.pow_one] at this
  rw [this, Nat.pow_add, Nat.div_div_eq_div_mul]
theorem or_bit (x k : Nat) (h : x < 2 ^ k) : x ||| 2 ^ k = x + 2 ^ k := by
  have := Nat.two_pow_add_eq_or_of_lt h 1
  rw [Nat.mul_one] at this
  rw [Nat.or_comm, ← this, Nat.add_comm]
theorem unpackL_snoc (wd j N : Nat) : unpackL wd (j + 1) N = unpackL wd j N ++ [UInt64.ofNat (N / 2 ^ (wd * j) % 2 ^ wd)] := by
  simp [unpackL, List.range_succ]
theorem unpackL_len (wd j N : Nat) : (unpackL wd j N).length = j := by simp [unpackL]

theorem refUnpack_arg {w : World} (wd n : Int) (hw : wd < 0 ∨ 64 < wd ∨ n < 0 ∨ 100000 < n) (v : Value) :
    Calls Try.prog 38 #[.int .i64 wd, .int .i64 n, v] w fun e w' => e = .returned (.tuple #[.slice none 0 0, .int .i64 2]) ∧ w' = w := by
  go_enter Try.func38, Try.ntmps38
  by_cases h1 : wd < 0
  · have t1 : decide (wd < 0) = true := decide_eq_true h1
    go_wp2_with fail
    go_ret2
    exact ⟨rfl, rfl⟩
  · have t1 : decide (wd < 0) = false := decide_eq_false h1
    by_cases h2 : 64 < wd
    · have t2 : decide ((64 : Int) < wd) = true := decide_eq_true h2
      go_wp2_with fail
      go_ret2
      exact ⟨rfl, rfl⟩
    · have t2 : decide ((64 : Int) < wd) = false := decide_eq_false h2
      by_cases h3 : n < 0
      · have t3 : decide (n < 0) = true := decide_eq_true h3
        go_wp2_with fail
        go_ret2
        exact ⟨rfl, rfl⟩
      · have t3 : decide (n < 0) = false := decide_eq_false h3
        have t4 : decide ((100000 : Int) < n) = true := decide_eq_true (by omega)
        go_wp2_with fail
        go_ret2
        exact ⟨rfl, rfl⟩

theorem refUnpack_size {w : World} {a : Option Addr} {bl cap : Nat} (wd n : Nat) (hw : wd ≤ 64) (hn : n ≤ 100000) (hne : bl ≠ (wd * n + 7) / 8) :
    Calls Try.prog 38 #[.int .i64 (wd : Int), .int .i64 (n : Int), .slice a bl cap] w fun e w' => e = .returned (.tuple #[.slice none 0 0, .int .i64 8]) ∧ w' = w := by
  have hle : wd * n ≤ 64 * 100000 := Nat.mul_le_mul hw hn
  have e2 : (n : Int) * (wd : Int) = ((wd * n : Nat) : Int) := by rw [Int.natCast_mul, Int.mul_comm]
  generalize wd * n = tot at *
  obtain ⟨m, hm⟩ : ∃ m, m = (tot + 7) / 8 := ⟨_, rfl⟩
  rw [← hm] at hne
  have q1 : ((tot : Int) + 7) / 8 = (m : Int) := by omega
  have t5 : ((bl : Int) != (m : Int)) = true := by rw [bne_iff_ne]; omega
  have t1 : decide ((wd : Int) < 0) = false := decide_eq_false (by omega)
  have t2 : decide ((64 : Int) < (wd : Int)) = false := decide_eq_false (by omega)
  have t3 : decide ((n : Int) < 0) = false := decide_eq_false (by omega)
  have t4 : decide ((100000 : Int) < (n : Int)) = false := decide_eq_false (by omega)
  clear hm hne
  go_enter Try.func38, Try.ntmps38
  go_wp2_with fail
  go_ret2
  exact ⟨rfl, rfl⟩

set_option maxHeartbeats 1600000 in
theorem refUnpack_main {w : World} {a : Option Addr} {cap : Nat} {bs : List UInt8} (h : Holds w (.slice a bs.length cap) (u8s bs)) (wd n : Nat) (hw : wd ≤ 64) (hn : n ≤ 100000) (hb : bs.length = (wd * n + 7) / 8) :
    Calls Try.prog 38 #[.int .i64 (wd : Int), .int .i64 (n : Int), .slice a bs.length cap] w fun e w' => ∃ v' f, e = .returned (.tuple #[v', .int .i64 f]) ∧
      Hid ((numB bs < 2 ^ (wd * n) ∧ f = 0 ∧ w'.ownsRow w.heap.size 61 1 v' n (u64s (unpackL wd n (numB bs))) ∨ ¬ numB bs < 2 ^ (wd * n) ∧ f = 8 ∧ v' = .slice none 0 0) ∧ Below w.heap.size w w') := by
  have hle : wd * n ≤ 64 * 100000 := Nat.mul_le_mul hw hn
  have e2 : (n : Int) * (wd : Int) = ((wd * n : Nat) : Int) := by rw [Int.natCast_mul, Int.mul_comm]
  obtain ⟨tot, ht⟩ : ∃ tot, tot = wd * n := ⟨_, rfl⟩
  obtain ⟨m, hm⟩ : ∃ m, m = bs.length := ⟨_, rfl⟩
  obtain ⟨N, hN⟩ : ∃ N, N = numB bs := ⟨_, rfl⟩
  have hlt := numB_lt bs
  rw [pow256] at hlt
  rw [← ht] at hle e2 hb ⊢
  rw [← hm] at hb h hlt ⊢
  rw [← hN] at hlt ⊢
  have q1 : ((tot : Int) + 7) / 8 = (m : Int) := by omega
  have t1 : decide ((wd : Int) < 0) = false := decide_eq_false (by omega)
  have t2 : decide ((64 : Int) < (wd : Int)) = false := decide_eq_false (by omega)
  have t3 : decide ((n : Int) < 0) = false := decide_eq_false (by omega)
  have t4 : decide ((100000 : Int) < (n : Int)) = false := decide_eq_false (by omega)
  have hm2 : m ≤ 1000000 := by omega
  have H := Lib.hid h
  have HT := Lib.hid ht
  have HM := Lib.hid hm
  have HN := Lib.hid hN
  have HB := Lib.hid hb
  have HL := Lib.hid hlt
  clear h ht hm hN hb hlt
  go_enter Try.func38, Try.ntmps38
  go_wp2_with fail
  clear q1
  go_loopw [8, 9, 10] (fun v at' i wr => ∃ j : Nat, j ≤ n ∧ at' = .int .i64 ((wd * j : Nat) : Int) ∧ i = .int .i64 j ∧ Hid (wr.ownsRow w.heap.size 61 1 v j (u64s (unpackL wd j N)) ∧ Below w.heap.size w wr)) (fun _ _ i _ => n - (intOf i).toNat)
  case atStart => exact ⟨0, by omega, by simp, rfl, Lib.hid ⟨World.ownsRow_nil _ _ _ _, Below.refl _ _⟩⟩
  case round =>
    obtain ⟨j, hj, rfl, rfl, HR⟩ := hrel
    by_cases hjn : j < n
    · have hfl : wd * j + wd ≤ tot := by rw [HT.out, ← Nat.mul_succ]; exact Nat.mul_le_mul_left _ hjn
      have HS1 : Hid (wd * (j + 1) = wd * j + wd) := Lib.hid (Nat.mul_succ _ _)
      have hgb := H.out.below HR.out.2
      obtain ⟨va, vc, hvf, _⟩ := ownsRow_form HR.out.1
      subst hvf
      have hx64 : N / 2 ^ (wd * j) % 2 ^ wd < 2 ^ 64 := Nat.lt_of_lt_of_le (Nat.mod_lt _ (Nat.two_pow_pos _)) (Nat.pow_le_pow_right (by omega) hw)
      have hown : wr.ownsRow w.heap.size 61 1 (.slice va j vc) (unpackL wd j N).length (u64s (unpackL wd j N)) := by
        rw [unpackL_len]
        exact HR.out.1
      obtain ⟨v2, w2, HRUN, HR2⟩ := app1u (xs := unpackL wd j N) hown HR.out.2.size (UInt64.ofNat (N / 2 ^ (wd * j) % 2 ^ wd)) ((N / 2 ^ (wd * j) % 2 ^ wd : Nat) : Int) (by rw [ofNat_toNat64, Nat.mod_eq_of_lt hx64]) (by rw [unpackL_len]; omega)
      rw [← unpackL_snoc, unpackL_len] at HR2
      have HG := Lib.hid hgb
      clear hgb hown hx64
      generalize hf : wd * j = f at *
      go_wp2_with fail
      go_loop [9, 11, 12] (fun at' u i => ∃ k : Nat, k ≤ wd ∧ at' = .int .i64 ((f + k : Nat) : Int) ∧ i = .int .i64 k ∧ u = .int .u64 ((N / 2 ^ f % 2 ^ k : Nat) : Int)) (fun _ _ i => wd - (intOf i).toNat)
      case atStart => exact ⟨0, by omega, by simp, rfl, by simp [Nat.mod_one]⟩
      case round =>
        obtain ⟨k, hk, rfl, rfl, rfl⟩ := hrel
        by_cases hkw : k < wd
        · have hi : (f + k) / 8 < m := by have := HB.out; omega
          obtain ⟨ad, rfl⟩ := HG.out.ptr (by omega)
          have hi2 : (f + k) / 8 < bs.length := by rw [← HM.out]; exact hi
          have hcell : wr.cell? (ad.add ((f + k) / 8)) = some (.int .u8 (bs[(f + k) / 8].toNat : Int)) := HG.out.cell (by simp [u8s, hi2])
          have hbit := bit_of bs (f + k) hi2
          rw [← HN.out] at hbit
          have hstep := num_step N f k
          rw [← hbit] at hstep
          have hby := bs[(f + k) / 8].toNat_lt
          have hold : N / 2 ^ f % 2 ^ k < 2 ^ k := Nat.mod_lt _ (Nat.two_pow_pos _)
          have hp : 2 ^ k ≤ 2 ^ 63 := Nat.pow_le_pow_right (by omega) (by omega)
          have hor := or_u64 (N / 2 ^ f % 2 ^ k) (2 ^ k) (by omega) (by omega)
          rw [or_bit _ _ hold] at hor
          have p8 : IntKind.u64.wrap ((2 : Int) ^ k) = ((2 ^ k : Nat) : Int) := by
            rw [IntKind.wrap_u64, show (2 : Int) ^ k = ((2 ^ k : Nat) : Int) by simp]
            omega
          have y1 : ((bs[(f + k) / 8].toNat : Nat) : Int) / 2 ^ ((f + k) % 8) = ((bs[(f + k) / 8].toNat / 2 ^ ((f + k) % 8) : Nat) : Int) := by simp
          have hq : bs[(f + k) / 8].toNat / 2 ^ ((f + k) % 8) < 256 := Nat.lt_of_le_of_lt (Nat.div_le_self _ _) hby
          have y2 := and_u8 _ 1 hq (by omega)
          rw [Nat.and_one_is_mod, show ((1 : Nat) : Int) = 1 from rfl] at y2
          have hc2 : bs[(f + k) / 8].toNat / 2 ^ ((f + k) % 8) % 2 = 0 ∨ bs[(f + k) / 8].toNat / 2 ^ ((f + k) % 8) % 2 = 1 := by omega
          generalize bs[(f + k) / 8].toNat / 2 ^ ((f + k) % 8) = q at *
          generalize bs[(f + k) / 8].toNat = by' at *
          have q5 : (((f + k : Nat)) : Int).tmod 8 = (((f + k) % 8 : Nat) : Int) := by rw [Int.tmod_eq_emod_of_nonneg (by omega)]; omega
          have q3 : IntKind.i64.wrap (((f + k : Nat) : Int) / 8) = (((f + k) / 8 : Nat) : Int) := by rw [IntWalk.i64_in _ (by omega)]; omega
          have hr8 : (f + k) % 8 < 8 := by omega
          have htt : f + k ≤ 6400000 := by omega
          rcases hc2 with hz | hz
          · rw [hz] at y2 hstep
            simp only [Nat.zero_mul, Nat.add_zero] at hstep
            have HST := Lib.hid hstep
            clear hbit hstep hz hold hp hor p8
            generalize N / 2 ^ f % 2 ^ k = old at *
            generalize ht2 : f + k = t at *
            have HT2 := Lib.hid ht2
            clear ht2 hfl hi2
            generalize t / 8 = i8 at *
            generalize t % 8 = r8 at *
            go_wp2_with fail
            go_round
            case rel => exact ⟨k + 1, by omega, by have := HT2.out; go_num, by go_num, by rw [HST.out]⟩
            case measure => simp [intOf]; omega
          · rw [hz] at y2 hstep
            rw [Nat.one_mul] at hstep
            have HST := Lib.hid hstep
            clear hbit hstep hz hold hp
            generalize N / 2 ^ f % 2 ^ k = old at *
            have HNW : Hid (∃ nw, nw = old + 2 ^ k) := Lib.hid ⟨_, rfl⟩
            generalize hnw : old + 2 ^ k = nw at *
            generalize hsb : 2 ^ k = sb at p8 hor
            clear hnw hsb HNW
            generalize ht2 : f + k = t at *
            have HT2 := Lib.hid ht2
            clear ht2 hfl hi2
            generalize t / 8 = i8 at *
            generalize t % 8 = r8 at *
            go_wp2_with fail
            go_round
            case rel => exact ⟨k + 1, by omega, by have := HT2.out; go_num, by go_num, by rw [HST.out]⟩
            case measure => simp [intOf]; omega
        · have HJ : Hid (k = wd) := Lib.hid (by omega)
          rw [HJ.out]
          go_wp2_with (at_builtin; refine wpList_append_run rfl _ _ 63 rfl rfl rfl (HRUN.out _) ?_)
          go_roundw
          case rel => exact ⟨j + 1, by omega, by rw [HS1.out]; simp, by go_num, Lib.hid ⟨HR2.out.1, HR.out.2.trans (HR2.out.2)⟩⟩
          case measure => simp [intOf]; omega
    · have HJ : Hid (j = n) := Lib.hid (by omega)
      rw [HJ.out] at HR ⊢
      rw [← HT.out]
      clear hj
      have hgb := Lib.hid (H.out.below HR.out.2)
      go_wp2_with fail
      go_loop [9] (fun at' => ∃ i : Nat, at' = .int .i64 ((tot + i : Nat) : Int) ∧ tot + i ≤ 8 * m ∧ Hid (N / 2 ^ tot % 2 ^ i = 0)) (fun at' => 8 * m - (intOf at').toNat)
      case atStart => exact ⟨0, by simp, by have := HB.out; omega, Lib.hid (by simp [Nat.mod_one])⟩
      case round =>
        obtain ⟨i, rfl, hi8, HZ⟩ := hrel
        by_cases hlt : tot + i < 8 * m
        · have hi : (tot + i) / 8 < m := by omega
          obtain ⟨ad, rfl⟩ := hgb.out.ptr (by omega)
          have hi2 : (tot + i) / 8 < bs.length := by rw [← HM.out]; exact hi
          have hcell : wr.cell? (ad.add ((tot + i) / 8)) = some (.int .u8 (bs[(tot + i) / 8].toNat : Int)) := hgb.out.cell (by simp [u8s, hi2])
          have hbit := bit_of bs (tot + i) hi2
          rw [← HN.out] at hbit
          have hstep := num_step N tot i
          rw [← hbit, HZ.out, Nat.zero_add] at hstep
          have hby := bs[(tot + i) / 8].toNat_lt
          have y1 : ((bs[(tot + i) / 8].toNat : Nat) : Int) / 2 ^ ((tot + i) % 8) = ((bs[(tot + i) / 8].toNat / 2 ^ ((tot + i) % 8) : Nat) : Int) := by simp
          have hq : bs[(tot + i) / 8].toNat / 2 ^ ((tot + i) % 8) < 256 := Nat.lt_of_le_of_lt (Nat.div_le_self _ _) hby
          have y2 := and_u8 _ 1 hq (by omega)
          rw [Nat.and_one_is_mod, show ((1 : Nat) : Int) = 1 from rfl] at y2
          have hc2 : bs[(tot + i) / 8].toNat / 2 ^ ((tot + i) % 8) % 2 = 0 ∨ bs[(tot + i) / 8].toNat / 2 ^ ((tot + i) % 8) % 2 = 1 := by omega
          generalize bs[(tot + i) / 8].toNat / 2 ^ ((tot + i) % 8) = q at *
          generalize bs[(tot + i) / 8].toNat = by' at *
          have q5 : (((tot + i : Nat)) : Int).tmod 8 = (((tot + i) % 8 : Nat) : Int) := by rw [Int.tmod_eq_emod_of_nonneg (by omega)]; omega
          have q3 : IntKind.i64.wrap (((tot + i : Nat) : Int) / 8) = (((tot + i) / 8 : Nat) : Int) := by rw [IntWalk.i64_in _ (by omega)]; omega
          have hr8 : (tot + i) % 8 < 8 := by omega
          have htt : tot + i ≤ 6400016 := by have := HB.out; omega
          have t5 : decide (((tot + i : Nat) : Int) < 8 * (m : Int)) = true := decide_eq_true (by omega)
          rcases hc2 with hz | hz
          · rw [hz] at y2 hstep
            rw [Nat.zero_mul] at hstep
            have HST := Lib.hid hstep
            clear hbit hstep hz
            generalize ht2 : tot + i = t at *
            have HT2 := Lib.hid ht2
            clear ht2 hi2
            generalize t / 8 = i8 at *
            generalize t % 8 = r8 at *
            go_wp2_with fail
            go_round
            case rel => exact ⟨i + 1, by have := HT2.out; go_num, by have := HT2.out; omega, HST⟩
            case measure => simp [intOf]; omega
          · rw [hz] at y2 hbit
            have HBAD : Hid (¬ N < 2 ^ tot) := Lib.hid fun hN => by
              have h1 : N / 2 ^ (tot + i) = 0 := Nat.div_eq_of_lt (Nat.lt_of_lt_of_le hN (Nat.pow_le_pow_right (by omega) (by omega)))
              rw [h1] at hbit
              omega
            clear hbit hstep hz
            generalize tot + i = t at *
            clear hi2
            generalize t / 8 = i8 at *
            generalize t % 8 = r8 at *
            go_wp2_with fail
            go_ret2
            exact ⟨_, _, rfl, Lib.hid ⟨.inr ⟨Nat.not_lt.1 HBAD.out, rfl, rfl⟩, HR.out.2⟩⟩
        · have HGOOD : Hid (N < 2 ^ tot) := Lib.hid (by
            have h1 := HL.out
            rw [show 8 * m = tot + i by omega, Nat.pow_add] at h1
            have h2 : N / 2 ^ tot < 2 ^ i := Nat.div_lt_of_lt_mul h1
            have h3 := HZ.out
            rw [Nat.mod_eq_of_lt h2] at h3
            exact (Nat.div_eq_zero_iff.1 h3).resolve_left (by have := Nat.two_pow_pos tot; omega))
          have t5 : decide (((tot + i : Nat) : Int) < 8 * (m : Int)) = false := decide_eq_false (by omega)
          go_wp2_with fail
          go_ret2
          exact ⟨_, _, rfl, Lib.hid ⟨.inl ⟨HGOOD.out, rfl, HR.out.1⟩, HR.out.2⟩⟩
end Go.Proofs.Ytknghmcdnlkfcaa
/- Pack and Unpack, and the document's: the same answers for any width and count. Conditions: small lists. -/
set_option maxRecDepth 100000
namespace Go.Proofs.Ytknghmcdnlkfcaa
open Go.RowKit Go.Maps Go.Sort

theorem Pack_arg {w : World} (wd : Int) (hw : wd < 0 ∨ 64 < wd) (v : Value) :
    Calls Try.prog 46 #[.int .i64 wd, v] w fun e w' => e = .returned (.tuple #[.slice none 0 0, .int .i64 2]) ∧ Below w.heap.size w w' := by
  refine (callsIn_wide (n := 0)).1 ?_
  refine callsIn_of_wp_marks Try.func46 rfl trivial ?_ rfl
  simp only [Try.ntmps46, List.size_toArray, List.length_cons, List.length_nil, Nat.reduceAdd, Nat.reduceSub, Array.replicate_succ, Array.replicate_zero, List.push_toArray, List.append_toArray, List.nil_append, List.cons_append]
  by_cases h : wd < 0
  · have t1 : decide (wd < 0) = true := decide_eq_true h
    gi_wp2_with fail
    refine leave_marks (B := w.heap.size) (v := .tuple #[.slice none 0 0, .int .i64 2]) (fun w' => by simp [results, Try.results46, go_sem]) [] _ trivial (fun W' hs => ?_)
    exact ⟨rfl, hs.below⟩
  · have t1 : decide (wd < 0) = false := decide_eq_false h
    have t2 : decide ((64 : Int) < wd) = true := decide_eq_true (by omega)
    gi_wp2_with fail
    refine leave_marks (B := w.heap.size) (v := .tuple #[.slice none 0 0, .int .i64 2]) (fun w' => by simp [results, Try.results46, go_sem]) [] _ trivial (fun W' hs => ?_)
    exact ⟨rfl, hs.below⟩

theorem below3r (w : World) (A B C : Obj) : Below w.heap.size w (((w.alloc A).alloc B).alloc C) := (((Below.refl _ _).alloc (Nat.le_refl _) _).alloc (by simp) _).alloc (by simp; omega) _

theorem Unpack_arg {w : World} (wd n : Int) (hw : wd < 0 ∨ 64 < wd ∨ n < 0 ∨ 100000 < n) (v : Value) (hv : ∃ a l c, v = .slice a l c) :
    Calls Try.prog 72 #[.int .i64 wd, .int .i64 n, v] w fun e w' => e = .returned (.tuple #[.slice none 0 0, .int .i64 2]) ∧ Below w.heap.size w w' := by
  obtain ⟨a, l, c, rfl⟩ := hv
  go_enter Try.func72, Try.ntmps72
  by_cases h1 : wd < 0
  · have t1 : decide (wd < 0) = true := decide_eq_true h1
    go_wp2_with fail
    go_ret2
    exact ⟨rfl, below3r _ _ _ _⟩
  · have t1 : decide (wd < 0) = false := decide_eq_false h1
    by_cases h2 : 64 < wd
    · have t2 : decide ((64 : Int) < wd) = true := decide_eq_true h2
      go_wp2_with fail
      go_ret2
      exact ⟨rfl, below3r _ _ _ _⟩
    · have t2 : decide ((64 : Int) < wd) = false := decide_eq_false h2
      by_cases h3 : n < 0
      · have t3 : decide (n < 0) = true := decide_eq_true h3
        go_wp2_with fail
        go_ret2
        exact ⟨rfl, below3r _ _ _ _⟩
      · have t3 : decide (n < 0) = false := decide_eq_false h3
        have t4 : decide ((100000 : Int) < n) = true := decide_eq_true (by omega)
        go_wp2_with fail
        go_ret2
        exact ⟨rfl, below3r _ _ _ _⟩

/-- the document's answers -/
def packAns (wd : Int) (l : List UInt64) : List UInt8 × Int :=
  if wd < 0 ∨ 64 < wd then ([], 2) else if ∀ u ∈ l, u.toNat < 2 ^ wd.toNat then (bytesN ((wd.toNat * l.length + 7) / 8) (bigN wd.toNat (nats l)), 0) else ([], 6)
def unpackAns (wd n : Int) (bs : List UInt8) : List UInt64 × Int :=
  if wd < 0 ∨ 64 < wd ∨ n < 0 ∨ 100000 < n then ([], 2) else if bs.length = (wd.toNat * n.toNat + 7) / 8 ∧ numB bs < 2 ^ (wd.toNat * n.toNat) then (unpackL wd.toNat n.toNat (numB bs), 0) else ([], 8)

theorem Pack_all {w : World} {a : Option Addr} {cap : Nat} {l : List UInt64} (h : Holds w (.slice a l.length cap) (u64s l)) (hl : l.length ≤ 100000) (wd : Int) :
    Calls Try.prog 46 #[.int .i64 wd, .slice a l.length cap] w fun e w' => ∃ v', e = .returned (.tuple #[v', .int .i64 (packAns wd l).2]) ∧ Hid (Holds w' v' (u8s (packAns wd l).1) ∧ Below w.heap.size w w') := by
  unfold packAns
  by_cases h1 : wd < 0 ∨ 64 < wd
  · simp only [if_pos h1]
    refine (Pack_arg wd h1 _).mono ?_
    rintro e w' ⟨rfl, hb⟩
    exact ⟨_, rfl, Lib.hid ⟨Holds.nil _, hb⟩⟩
  · obtain ⟨x, rfl⟩ : ∃ x : Nat, wd = x := ⟨wd.toNat, by omega⟩
    have hx : x ≤ 64 := by omega
    simp only [if_neg h1, Int.toNat_natCast]
    by_cases h2 : ∀ u ∈ l, u.toNat < 2 ^ x
    · simp only [if_pos h2]
      refine (Pack_main h (by omega) x hx (fun u hu => Lib.bitLen_le _ _ hx (h2 u hu)) h2).mono ?_
      rintro e w' ⟨v', rfl, hv⟩
      refine ⟨v', rfl, Lib.hid ⟨Holds.of_row (base := w.heap.size) (e := 5) ?_, hv.out.2⟩⟩
      rw [u8s_len, bytesN_len]
      exact hv.out.1
    · simp only [if_neg h2]
      refine (Pack_range h (by omega) x hx (by simpa using h2)).mono ?_
      rintro e w' ⟨rfl, hb⟩
      exact ⟨_, rfl, Lib.hid ⟨Holds.nil _, hb⟩⟩
theorem refPack_all {w : World} {a : Option Addr} {cap : Nat} {l : List UInt64} (h : Holds w (.slice a l.length cap) (u64s l)) (hl : l.length ≤ 100000) (wd : Int) :
    Calls Try.prog 32 #[.int .i64 wd, .slice a l.length cap] w fun e w' => ∃ v', e = .returned (.tuple #[v', .int .i64 (packAns wd l).2]) ∧ Hid (Holds w' v' (u8s (packAns wd l).1) ∧ Below w.heap.size w w') := by
  unfold packAns
  by_cases h1 : wd < 0 ∨ 64 < wd
  · simp only [if_pos h1]
    refine (refPack_arg wd h1 _).mono ?_
    rintro e w' ⟨rfl, rfl⟩
    exact ⟨_, rfl, Lib.hid ⟨Holds.nil _, Below.refl _ _⟩⟩
  · obtain ⟨x, rfl⟩ : ∃ x : Nat, wd = x := ⟨wd.toNat, by omega⟩
    have hx : x ≤ 64 := by omega
    simp only [if_neg h1, Int.toNat_natCast]
    by_cases h2 : ∀ u ∈ l, u.toNat < 2 ^ x
    · simp only [if_pos h2]
      exact refPack_ok h hl x hx h2
    · simp only [if_neg h2]
      refine (refPack_range h hl x hx (by simpa using h2)).mono ?_
      rintro e w' ⟨rfl, rfl⟩
      exact ⟨_, rfl, Lib.hid ⟨Holds.nil _, Below.refl _ _⟩⟩

theorem row_holds {w : World} {B n : Nat} {v : Value} {l : List UInt64} (h : w.ownsRow B 61 1 v n (u64s l)) (hn : n = l.length) : ∃ a c, v = .slice a l.length c ∧ Holds w (.slice a l.length c) (u64s l) := by
  subst hn
  obtain ⟨a, c, rfl, _⟩ := ownsRow_form h
  exact ⟨a, c, rfl, Holds.of_row (base := B) (e := 61) (by rw [u64s_len]; exact h)⟩

theorem Unpack_all {w : World} {a : Option Addr} {cap : Nat} {bs : List UInt8} (h : Holds w (.slice a bs.length cap) (u8s bs)) (wd n : Int) :
    Calls Try.prog 72 #[.int .i64 wd, .int .i64 n, .slice a bs.length cap] w fun e w' => ∃ a' c', e = .returned (.tuple #[.slice a' (unpackAns wd n bs).1.length c', .int .i64 (unpackAns wd n bs).2]) ∧ Hid (Holds w' (.slice a' (unpackAns wd n bs).1.length c') (u64s (unpackAns wd n bs).1) ∧ Below w.heap.size w w') := by
  unfold unpackAns
  by_cases h1 : wd < 0 ∨ 64 < wd ∨ n < 0 ∨ 100000 < n
  · simp only [if_pos h1]
    refine (Unpack_arg wd n h1 _ ⟨_, _, _, rfl⟩).mono ?_
    rintro e w' ⟨rfl, hb⟩
    exact ⟨_, _, rfl, Lib.hid ⟨Holds.nil _, hb⟩⟩
  · obtain ⟨x, rfl⟩ : ∃ x : Nat, wd = x := ⟨wd.toNat, by omega⟩
    obtain ⟨y, rfl⟩ : ∃ y : Nat, n = y := ⟨n.toNat, by omega⟩
    have hx : x ≤ 64 := by omega
    have hy : y ≤ 100000 := by omega
    simp only [if_neg h1, Int.toNat_natCast]
    by_cases h2 : bs.length = (x * y + 7) / 8 ∧ numB bs < 2 ^ (x * y)
    · simp only [if_pos h2]
      refine (Unpack_ok h x y hx hy h2.1 h2.2).mono ?_
      rintro e w' ⟨v', rfl, hv⟩
      obtain ⟨a', c', rfl, hh⟩ := row_holds hv.out.1 (unpackL_len _ _ _).symm
      exact ⟨a', c', rfl, Lib.hid ⟨hh, hv.out.2⟩⟩
    · simp only [if_neg h2]
      by_cases h3 : bs.length = (x * y + 7) / 8
      · refine (Unpack_trail h x y hx hy h3 (fun h4 => h2 ⟨h3, h4⟩)).mono ?_
        rintro e w' ⟨rfl, hb⟩
        exact ⟨_, _, rfl, Lib.hid ⟨Holds.nil _, hb⟩⟩
      · refine (Unpack_size x y hx hy h3).mono ?_
        rintro e w' ⟨rfl, hb⟩
        exact ⟨_, _, rfl, Lib.hid ⟨Holds.nil _, hb⟩⟩
theorem refUnpack_all {w : World} {a : Option Addr} {cap : Nat} {bs : List UInt8} (h : Holds w (.slice a bs.length cap) (u8s bs)) (wd n : Int) :
    Calls Try.prog 38 #[.int .i64 wd, .int .i64 n, .slice a bs.length cap] w fun e w' => ∃ a' c', e = .returned (.tuple #[.slice a' (unpackAns wd n bs).1.length c', .int .i64 (unpackAns wd n bs).2]) ∧ Hid (Holds w' (.slice a' (unpackAns wd n bs).1.length c') (u64s (unpackAns wd n bs).1) ∧ Below w.heap.size w w') := by
  unfold unpackAns
  by_cases h1 : wd < 0 ∨ 64 < wd ∨ n < 0 ∨ 100000 < n
  · simp only [if_pos h1]
    refine (refUnpack_arg wd n h1 _).mono ?_
    rintro e w' ⟨rfl, rfl⟩
    exact ⟨_, _, rfl, Lib.hid ⟨Holds.nil _, Below.refl _ _⟩⟩
  · obtain ⟨x, rfl⟩ : ∃ x : Nat, wd = x := ⟨wd.toNat, by omega⟩
    obtain ⟨y, rfl⟩ : ∃ y : Nat, n = y := ⟨n.toNat, by omega⟩
    have hx : x ≤ 64 := by omega
    have hy : y ≤ 100000 := by omega
    simp only [if_neg h1, Int.toNat_natCast]
    by_cases h3 : bs.length = (x * y + 7) / 8
    · refine (refUnpack_main h x y hx hy h3).mono ?_
      rintro e w' ⟨v', f, rfl, hv⟩
      rcases hv.out.1 with ⟨h4, rfl, ho⟩ | ⟨h4, rfl, rfl⟩
      · simp only [if_pos (show bs.length = (x * y + 7) / 8 ∧ numB bs < 2 ^ (x * y) from ⟨h3, h4⟩)]
        obtain ⟨a', c', rfl, hh⟩ := row_holds ho (unpackL_len _ _ _).symm
        exact ⟨a', c', rfl, Lib.hid ⟨hh, hv.out.2⟩⟩
      · simp only [if_neg (show ¬ (bs.length = (x * y + 7) / 8 ∧ numB bs < 2 ^ (x * y)) from fun h => h4 h.2)]
        exact ⟨_, _, rfl, Lib.hid ⟨Holds.nil _, hv.out.2⟩⟩
    · simp only [if_neg (show ¬ (bs.length = (x * y + 7) / 8 ∧ numB bs < 2 ^ (x * y)) from fun h => h3 h.1)]
      refine (refUnpack_size x y hx hy h3).mono ?_
      rintro e w' ⟨rfl, rfl⟩
      exact ⟨_, _, rfl, Lib.hid ⟨Holds.nil _, Below.refl _ _⟩⟩
end Go.Proofs.Ytknghmcdnlkfcaa
