/- slices.Sort at []uint64: the insertion sort, the turned range, the heap, partitionEqual. Conditions: none but the places. -/
import Derived.Test.YtlhpbfjelgmkeaaGreatSrtA
set_option maxRecDepth 1000000
namespace Go.Proofs.YtlhpbfjelgmkeaaGreat.Dig
open Go.Shelf Go.RowKit Go.Lib Go.Sort

set_option maxHeartbeats 4000000 in
theorem insertion_w (blk off cap a b : Nat) (d0 : Array UInt64) (w0 w : World) (R : RowW w0 blk off d0) (S : Srt w0 blk off d0 w) (hab : a ≤ b) (hb : b ≤ d0.size) (hsz : d0.size < 4611686018427387904) :
    Calls Tryz.prog 262 #[.slice (some ⟨blk, off, none⟩) d0.size cap, .int .i64 a, .int .i64 b] w fun e w' => e = .returned (.tuple #[]) ∧ Srt w0 blk off d0 w' := by
  have S0 : Aside (Srt w0 blk off d0 w) := S
  have HR : Hid (RowW w0 blk off d0) := R
  have mixed : Tryz.prog.follows .mixedOrders = true := by kernel_rfl
  clear S R
  go_enter Tryz.func262, Tryz.ntmps262
  go_wp2
  go_loopg [6] (b - a) (fun kx si wr => ∃ (i : Nat), si = .int .i64 i ∧ a + 1 ≤ i ∧ b - i ≤ kx ∧ Aside (Srt w0 blk off d0 wr))
  case atStart => exact ⟨a + 1, by go_num, by omega, by omega, S0⟩
  case round =>
    clear S0
    obtain ⟨i, rfl, hai, hkx, S1⟩ := hrel
    by_cases hlt : i < b
    · have hltz : (i : Int) < (b : Int) := by omega
      go_wp2
      go_loopg [7] (i - a) (fun kj sj wj => ∃ (j : Nat), sj = .int .i64 j ∧ a ≤ j ∧ j ≤ i ∧ j - a ≤ kj ∧ Aside (Srt w0 blk off d0 wj))
      case atStart => exact ⟨i, rfl, by omega, by omega, by omega, S1⟩
      case round =>
        clear S1
        obtain ⟨j, rfl, haj, hji, hkj, S1⟩ := hrel
        obtain ⟨G, hcw, hfw, HW⟩ := S1.out.fam HR.out
        go_wp2
        by_cases hja : a < j
        · obtain ⟨jm, rfl⟩ : ∃ jm, j = jm + 1 := ⟨j - 1, by omega⟩
          have hjz : (a : Int) < (jm : Int) + 1 := by omega
          have hwp : IntKind.i64.wrap (jm : Int) = (jm : Int) := by rw [IntKind.wrap_i64]; omega
          have b1 : (jm : Int) + 1 < (d0.size : Int) := by omega
          have b2 : (jm : Int) < (d0.size : Int) := by omega
          have b3 : jm + 1 < d0.size := by omega
          have b4 : jm < d0.size := by omega
          have p0 : (0 : Int) ≤ (jm : Int) + 1 := by omega
          have e0 : ((jm : Int) + 1).toNat = jm + 1 := by omega
          go_quiet (first | (go_at_call 268; refine Calls.quiet_of_same (less_w _ _ _)))
          go_wp2
          · clear S1
            go_region
            all_goals go_wp2
            trace_state
            go_roundg (jm - a)
            case measure => omega
            case rel => exact ⟨jm, by go_num, by omega, by omega, by omega, HW.out _ _ _ (by omega) (by omega)⟩
          · trace_state
            go_roundg (b - (i + 1))
            case measure => omega
            case rel => exact ⟨i + 1, by go_num, by omega, by omega, S1.out.drewN _⟩
        · go_quiet (first | (go_at_call 268; refine Calls.quiet_of_same (less_w _ _ _)))
          go_wp2
          go_roundg (b - (i + 1))
          case measure => omega
          case rel => exact ⟨i + 1, by go_num, by omega, by omega, S1.out.drewN _⟩
    · go_wp2
      go_end0
      exact ⟨rfl, S1.out⟩

set_option maxHeartbeats 4000000 in
theorem reverse_w (blk off cap a b : Nat) (d0 : Array UInt64) (w0 w : World) (R : RowW w0 blk off d0) (S : Srt w0 blk off d0 w) (hab : a < b) (hb : b ≤ d0.size) (hsz : d0.size < 4611686018427387904) :
    Calls Tryz.prog 266 #[.slice (some ⟨blk, off, none⟩) d0.size cap, .int .i64 a, .int .i64 b] w fun e w' => e = .returned (.tuple #[]) ∧ Srt w0 blk off d0 w' := by
  have S0 : Aside (Srt w0 blk off d0 w) := S
  have HR : Hid (RowW w0 blk off d0) := R
  have mixed : Tryz.prog.follows .mixedOrders = true := by kernel_rfl
  clear S R
  go_enter Tryz.func266, Tryz.ntmps266
  go_wp2
  go_loopg [6, 7] b (fun kx si sj wr => ∃ (i j : Nat), si = .int .i64 i ∧ sj = .int .i64 j ∧ j < b ∧ j ≤ kx ∧ Aside (Srt w0 blk off d0 wr))
  case atStart => exact ⟨a, b - 1, by go_num, by go_num, by omega, by omega, S0⟩
  case round =>
    clear S0
    obtain ⟨i, j, rfl, rfl, hjb, hkx, S1⟩ := hrel
    by_cases hlt : i < j
    · obtain ⟨G, hcw, hfw, HW⟩ := S1.out.fam HR.out
      clear S1
      go_wp2
      go_region
      all_goals go_wp2
      go_roundg (j - 1)
      case measure => omega
      case rel => exact ⟨i + 1, j - 1, by go_num, by go_num, by omega, by omega, HW.out _ _ _ (by omega) (by omega)⟩
    · go_wp2
      go_end0
      exact ⟨rfl, S1.out⟩

set_option maxHeartbeats 8000000 in
theorem sift_w (blk off cap lo hi first : Nat) (d0 : Array UInt64) (w0 w : World) (R : RowW w0 blk off d0) (S : Srt w0 blk off d0 w) (hlo : lo ≤ d0.size) (hb : first + hi ≤ d0.size) (hsz : d0.size < 1152921504606846976) :
    Calls Tryz.prog 271 #[.slice (some ⟨blk, off, none⟩) d0.size cap, .int .i64 lo, .int .i64 hi, .int .i64 first] w fun e w' => e = .returned (.tuple #[]) ∧ Srt w0 blk off d0 w' := by
  have S0 : Aside (Srt w0 blk off d0 w) := S
  have HR : Hid (RowW w0 blk off d0) := R
  have mixed : Tryz.prog.follows .mixedOrders = true := by kernel_rfl
  clear S R
  go_enter Tryz.func271, Tryz.ntmps271
  go_wp2
  go_loopg [8] (hi - lo) (fun kx si wr => ∃ (r : Nat), si = .int .i64 r ∧ r ≤ d0.size ∧ hi - r ≤ kx ∧ Aside (Srt w0 blk off d0 wr))
  case atStart => exact ⟨lo, rfl, hlo, by omega, S0⟩
  case round =>
    clear S0
    obtain ⟨r, rfl, hrs, hkx, S1⟩ := hrel
    obtain ⟨c, hc⟩ : ∃ c, c = 2 * r + 1 := ⟨_, rfl⟩
    have t1 : 2 * (r : Int) + 1 = (c : Int) := by omega
    have w1 : IntKind.i64.wrap (2 * (r : Int)) = 2 * (r : Int) := by rw [IntKind.wrap_i64]; omega
    have w2 : IntKind.i64.wrap (2 * (r : Int) + 1) = (c : Int) := by rw [IntKind.wrap_i64]; omega
    have hrc : r < c := by omega
    have hcm : c < 4611686018427387904 := by omega
    clear hc
    by_cases hch : c < hi
    · have hchz : ¬ (hi : Int) ≤ (c : Int) := by omega
      obtain ⟨G, hcw, hfw, HW⟩ := S1.out.fam HR.out
      obtain ⟨A, hA⟩ : ∃ A, first + r = A := ⟨_, rfl⟩
      obtain ⟨B, hB⟩ : ∃ B, first + c = B := ⟨_, rfl⟩
      obtain ⟨C, hC⟩ : ∃ C, B + 1 = C := ⟨_, rfl⟩
      obtain ⟨D, hD⟩ : ∃ D, c + 1 = D := ⟨_, rfl⟩
      have tA : (first : Int) + (r : Int) = (A : Int) := by omega
      have tB : (first : Int) + (c : Int) = (B : Int) := by omega
      have tC : (B : Int) + 1 = (C : Int) := by omega
      have tD : (c : Int) + 1 = (D : Int) := by omega
      have tE : (first : Int) + (D : Int) = (C : Int) := by omega
      have bA : (A : Int) < (d0.size : Int) := by omega
      have bB : (B : Int) < (d0.size : Int) := by omega
      have cA := hcw A (by omega)
      have cB := hcw B (by omega)
      have nA : A < d0.size := by omega
      have nB : B < d0.size := by omega
      have hCB : C ≤ B + 1 := by omega
      have hDc : c < D := by omega
      have hFD : first + D = C := by omega
      have hBc : c ≤ B := by omega
      have wA : IntKind.i64.wrap (A : Int) = (A : Int) := by rw [IntKind.wrap_i64]; omega
      have wB : IntKind.i64.wrap (B : Int) = (B : Int) := by rw [IntKind.wrap_i64]; omega
      have wC : IntKind.i64.wrap (C : Int) = (C : Int) := by rw [IntKind.wrap_i64]; omega
      have wD : IntKind.i64.wrap (D : Int) = (D : Int) := by rw [IntKind.wrap_i64]; omega
      have bC0 : Hid (D < hi → C < d0.size) := fun _ => by omega
      have nAB : A < B := by omega
      have nAC : A < C := by omega
      clear hA hB hC hD hlo hb
      go_wp2_with fail
      by_cases hdh : D < hi
      · have hdz : (D : Int) < (hi : Int) := by omega
        have nC : C < d0.size := bC0.out hdh
        have cC := hcw C nC
        have bC : (C : Int) < (d0.size : Int) := by omega
        go_quiet (first | (go_at_call 268; refine Calls.quiet_of_same (less_w _ _ _)))
        go_wp2
        · have S2 : Aside (Srt w0 blk off d0 (wr.drewN nq)) := S1.out.drewN nq
          clear S1 hcw hfw HW cA cB cC
          generalize wr.drewN nq = wv at S2 ⊢
          obtain ⟨G2, hcw2, hfw2, HW⟩ := S2.out.fam HR.out
          have cA := hcw2 A nA
          have cB := hcw2 B nB
          have cC := hcw2 C nC
          go_quiet (first | (go_at_call 268; refine Calls.quiet_of_same (less_w _ _ _)))
          go_wp2
          · refine bodyPost_ret (results_none rfl _ _ _) rfl ?_
            exact ⟨rfl, S2.out.drewN _⟩
          · go_region
            all_goals go_wp2
            go_roundg (hi - D)
            case measure => omega
            case rel => exact ⟨D, rfl, by omega, by omega, HW.out _ _ _ (by omega) (by omega)⟩
        · have S2 : Aside (Srt w0 blk off d0 (wr.drewN nq)) := S1.out.drewN nq
          clear S1 hcw hfw HW cA cB cC
          generalize wr.drewN nq = wv at S2 ⊢
          obtain ⟨G2, hcw2, hfw2, HW⟩ := S2.out.fam HR.out
          have cA := hcw2 A nA
          have cB := hcw2 B nB
          have cC := hcw2 C nC
          go_quiet (first | (go_at_call 268; refine Calls.quiet_of_same (less_w _ _ _)))
          go_wp2
          · refine bodyPost_ret (results_none rfl _ _ _) rfl ?_
            exact ⟨rfl, S2.out.drewN _⟩
          · go_region
            all_goals go_wp2
            go_roundg (hi - c)
            case measure => omega
            case rel => exact ⟨c, rfl, by omega, by omega, HW.out _ _ _ (by omega) (by omega)⟩
      · have hdz : decide ((D : Int) < (hi : Int)) = false := by simp; omega
        go_quiet (first | (go_at_call 268; refine Calls.quiet_of_same (less_w _ _ _)))
        go_wp2_with fail
        have S2 : Aside (Srt w0 blk off d0 (wr.drewN nq)) := S1.out.drewN nq
        clear S1 hcw hfw HW cA cB
        generalize wr.drewN nq = wv at S2 ⊢
        obtain ⟨G2, hcw2, hfw2, HW⟩ := S2.out.fam HR.out
        have cA := hcw2 A nA
        have cB := hcw2 B nB
        go_quiet (first | (go_at_call 268; refine Calls.quiet_of_same (less_w _ _ _)))
        go_wp2
        · refine bodyPost_ret (results_none rfl _ _ _) rfl ?_
          exact ⟨rfl, S2.out.drewN _⟩
        · go_region
          all_goals go_wp2
          go_roundg (hi - c)
          case measure => omega
          case rel => exact ⟨c, rfl, by omega, by omega, HW.out _ _ _ (by omega) (by omega)⟩
    · have hchz : (hi : Int) ≤ (c : Int) := by omega
      go_wp2_with fail
      go_end0
      exact ⟨rfl, S1.out⟩

set_option maxHeartbeats 8000000 in
theorem heap_w (blk off cap a b : Nat) (d0 : Array UInt64) (w0 w : World) (R : RowW w0 blk off d0) (S : Srt w0 blk off d0 w) (hab : a < b) (hb : b ≤ d0.size) (hsz : d0.size < 1152921504606846976) :
    Calls Tryz.prog 263 #[.slice (some ⟨blk, off, none⟩) d0.size cap, .int .i64 a, .int .i64 b] w fun e w' => e = .returned (.tuple #[]) ∧ Srt w0 blk off d0 w' := by
  have S0 : Aside (Srt w0 blk off d0 w) := S
  have HR : Hid (RowW w0 blk off d0) := R
  obtain ⟨hi, hhi⟩ : ∃ hi, b = a + hi := ⟨b - a, by omega⟩
  have mixed : Tryz.prog.follows .mixedOrders = true := by kernel_rfl
  have KS : Aside (∀ (W : World) (lo h : Nat), Srt w0 blk off d0 W → lo ≤ hi → h ≤ hi → Calls Tryz.prog 271 #[.slice (some ⟨blk, off, none⟩) d0.size cap, .int .i64 lo, .int .i64 h, .int .i64 a] W fun e w' => e = .returned (.tuple #[]) ∧ Aside (Srt w0 blk off d0 w')) :=
    fun W lo h h1 h2 h3 => sift_w blk off cap lo h a d0 w0 W R h1 (by omega) (by omega) hsz
  clear S R
  have th : (b : Int) - (a : Int) = (hi : Int) := by omega
  have wh : IntKind.i64.wrap ((b : Int) - (a : Int)) = (hi : Int) := by rw [IntKind.wrap_i64]; omega
  have wh2 : IntKind.i64.wrap (hi : Int) = (hi : Int) := by rw [IntKind.wrap_i64]; omega
  obtain ⟨m, hm⟩ : ∃ m, hi = m + 1 := ⟨hi - 1, by omega⟩
  have nhi : a + hi ≤ d0.size := by omega
  have nm : m < hi := by omega
  have tm : (hi : Int) - 1 = (m : Int) := by omega
  have wm : IntKind.i64.wrap (m : Int) = (m : Int) := by rw [IntKind.wrap_i64]; omega
  clear hm hhi hb
  go_enter Tryz.func263, Tryz.ntmps263
  go_wp2_with fail
  go_loopg [9] (m + 1) (fun kx si wr => ∃ (z : Int), si = .int .i64 z ∧ -1 ≤ z ∧ z ≤ (m : Int) ∧ (z + 1).toNat ≤ kx ∧ Aside (Srt w0 blk off d0 wr))
  case atStart => exact ⟨_, rfl, by omega, by omega, by omega, S0⟩
  case round =>
    clear S0
    obtain ⟨z, rfl, hz1, hzm, hkx, S1⟩ := hrel
    by_cases hz : 0 ≤ z
    · obtain ⟨k, rfl⟩ : ∃ k : Nat, z = (k : Int) := ⟨z.toNat, by omega⟩
      have K := KS.out wr k hi S1.out (by omega) (by omega)
      clear S1
      go_wp2_with fail
      refine K.mono ?_
      rintro e w' ⟨rfl, S2⟩
      clear K
      go_wp2_with fail
      go_roundg k
      case measure => omega
      case rel => exact ⟨(k : Int) - 1, by go_num, by omega, by omega, by omega, S2⟩
    · obtain rfl : z = -1 := by omega
      go_wp2_with fail
      go_loopg [10] (m + 1) (fun kx si wr => ∃ (z : Int), si = .int .i64 z ∧ -1 ≤ z ∧ z ≤ (m : Int) ∧ (z + 1).toNat ≤ kx ∧ Aside (Srt w0 blk off d0 wr))
      case atStart => exact ⟨_, rfl, by omega, by omega, by omega, S1⟩
      case round =>
        clear S1
        obtain ⟨z, rfl, hz1, hzm, hkx, S1⟩ := hrel
        by_cases hz : 0 ≤ z
        · obtain ⟨k, rfl⟩ : ∃ k : Nat, z = (k : Int) := ⟨z.toNat, by omega⟩
          obtain ⟨G, hcw, hfw, HW⟩ := S1.out.fam HR.out
          clear S1
          obtain ⟨A, hA⟩ : ∃ A, a + k = A := ⟨_, rfl⟩
          have tA : (a : Int) + (k : Int) = (A : Int) := by omega
          have wA : IntKind.i64.wrap (A : Int) = (A : Int) := by rw [IntKind.wrap_i64]; omega
          have ba : (a : Int) < (d0.size : Int) := by omega
          have bA : (A : Int) < (d0.size : Int) := by omega
          have na : a < d0.size := by omega
          have nA : A < d0.size := by omega
          have ca := hcw a na
          have cA := hcw A nA
          have hkm : k ≤ m := by omega
          have haA : a ≤ A := by omega
          clear hA
          obtain ⟨u, cU⟩ := cell_set_some (i := off + a) (.int .u64 (G A)) cA
          go_wp2_with fail
          go_region
          all_goals
            go_wp2_with fail
            have S2 : Aside (Srt w0 blk off d0 _) := HW.out 1 a A na nA
            have K := KS.out _ 0 k S2.out (by omega) (by omega)
            clear HW S2 hcw hfw
            refine K.mono ?_
            rintro e w' ⟨rfl, S3⟩
            clear K
            go_wp2_with fail
            go_roundg k
            case measure => omega
            case rel => exact ⟨(k : Int) - 1, by go_num, by omega, by omega, by omega, S3⟩
        · obtain rfl : z = -1 := by omega
          go_wp2
          go_end0
          exact ⟨rfl, S1.out⟩

set_option maxHeartbeats 8000000 in
theorem parteq_w (blk off cap a b p : Nat) (d0 : Array UInt64) (w0 w : World) (R : RowW w0 blk off d0) (S : Srt w0 blk off d0 w) (hap : a ≤ p) (hpb : p < b) (hb : b ≤ d0.size) (hsz : d0.size < 1152921504606846976) :
    Calls Tryz.prog 269 #[.slice (some ⟨blk, off, none⟩) d0.size cap, .int .i64 a, .int .i64 b, .int .i64 p] w fun e w' => ∃ m : Nat, e = .returned (.int .i64 m) ∧ a < m ∧ m ≤ b ∧ Srt w0 blk off d0 w' := by
  have HR : Hid (RowW w0 blk off d0) := R
  have mixed : Tryz.prog.follows .mixedOrders = true := by kernel_rfl
  obtain ⟨G, hcw, hfw, HW⟩ := S.fam R
  have na : a < d0.size := by omega
  have np : p < d0.size := by omega
  have ca := hcw a na
  have cp := hcw p np
  have ba : (a : Int) < (d0.size : Int) := by omega
  have bp : (p : Int) < (d0.size : Int) := by omega
  obtain ⟨u, cU⟩ := cell_set_some (i := off + a) (.int .u64 (G p)) cp
  clear S R
  go_enter Tryz.func269, Tryz.ntmps269
  go_wp2_with fail
  go_region
  all_goals
    go_wp2_with fail
    have S0 : Aside (Srt w0 blk off d0 _) := HW.out 1 a p na np
    clear HW hcw hfw ca cp cU
    go_loopg [9, 10] (b - a) (fun kx si sj wr => ∃ (i j : Nat), si = .int .i64 i ∧ sj = .int .i64 j ∧ a < i ∧ i ≤ b ∧ a ≤ j ∧ j < b ∧ j + 1 - i ≤ kx ∧ Aside (Srt w0 blk off d0 wr))
    case atStart => exact ⟨a + 1, b - 1, by go_num, by go_num, by omega, by omega, by omega, by omega, by omega, S0⟩
    case round =>
      clear S0
      obtain ⟨i0, j0, rfl, rfl, hai0, hib0, haj0, hjb0, hkx, S1⟩ := hrel
      go_wp2
      go_loopg [9] (b - i0) (fun kj si wr => ∃ (i : Nat), si = .int .i64 i ∧ i0 ≤ i ∧ i ≤ b ∧ b - i ≤ kj ∧ Aside (Srt w0 blk off d0 wr))
      case atStart => exact ⟨i0, rfl, by omega, by omega, by omega, S1⟩
      case round =>
        clear S1
        obtain ⟨i, rfl, hii, hib, hkj, S1⟩ := hrel
        by_cases hij : i ≤ j0
        · have hijz : (i : Int) ≤ (j0 : Int) := by omega
          obtain ⟨G, hcw, hfw, HW⟩ := S1.out.fam HR.out
          have ca := hcw a na
          have ni : i < d0.size := by omega
          have ci := hcw i ni
          have bi : (i : Int) < (d0.size : Int) := by omega
          go_wp2_with fail
          go_quiet (first | (go_at_call 268; refine Calls.quiet_of_same (less_w _ _ _)))
          go_wp2
          · go_roundg (b - (i + 1))
            case measure => omega
            case rel => exact ⟨i + 1, by go_num, by omega, by omega, by omega, S1.out.drewN _⟩
          · have S2 : Aside (Srt w0 blk off d0 (wr.drewN nq)) := S1.out.drewN nq
            clear S1 hcw hfw HW ca ci
            generalize wr.drewN nq = wv at S2 ⊢
            have S1 := S2
            clear S2
            go_loopg [10] (j0 + 1) (fun kj sj wr => ∃ (j : Nat), sj = .int .i64 j ∧ a ≤ j ∧ j ≤ j0 ∧ j + 1 ≤ kj ∧ Aside (Srt w0 blk off d0 wr))
            case atStart => exact ⟨j0, rfl, by omega, by omega, by omega, S1⟩
            case round =>
              clear S1
              obtain ⟨j, rfl, haj, hjj, hkl, S1⟩ := hrel
              by_cases hij : i ≤ j
              · have hijz : (i : Int) ≤ (j : Int) := by omega
                obtain ⟨G, hcw, hfw, HW⟩ := S1.out.fam HR.out
                have ca := hcw a na
                have nj : j < d0.size := by omega
                have ni : i < d0.size := by omega
                have cj := hcw j nj
                have ci := hcw i ni
                have bj : (j : Int) < (d0.size : Int) := by omega
                have bi : (i : Int) < (d0.size : Int) := by omega
                go_wp2_with fail
                go_quiet (first | (go_at_call 268; refine Calls.quiet_of_same (less_w _ _ _)))
                go_wp2
                · go_roundg j
                  case measure => omega
                  case rel => exact ⟨j - 1, by go_num, by omega, by omega, by omega, S1.out.drewN _⟩
                · have S2 : Aside (Srt w0 blk off d0 (wr.drewN nq)) := S1.out.drewN nq
                  clear S1 hcw hfw HW ca ci cj
                  generalize wr.drewN nq = wv at S2 ⊢
                  obtain ⟨G2, hcw2, hfw2, HW⟩ := S2.out.fam HR.out
                  have ci := hcw2 i ni
                  have cj := hcw2 j nj
                  obtain ⟨u2, cU2⟩ := cell_set_some (i := off + i) (.int .u64 (G2 j)) cj
                  go_region
                  all_goals
                    go_wp2
                    go_roundg (j - i)
                    case measure => omega
                    case rel => exact ⟨i + 1, j - 1, by go_num, by go_num, by omega, by omega, by omega, by omega, by omega, HW.out _ _ _ (by omega) (by omega)⟩
              · have hijz : decide ((i : Int) ≤ (j : Int)) = false := by simp; omega
                go_wp2_with fail
                go_quiet (first | (go_at_call 268; refine Calls.quiet_of_same (less_w _ _ _)))
                go_wp2
                refine bodyPost_ret (results_tmp rfl _ _ _) rfl ?_
                exact ⟨i, rfl, by omega, by omega, S1.out.drewN _⟩
        · have hijz : decide ((i : Int) ≤ (j0 : Int)) = false := by simp; omega
          go_wp2_with fail
          go_quiet (first | (go_at_call 268; refine Calls.quiet_of_same (less_w _ _ _)))
          go_wp2
          have S2 : Aside (Srt w0 blk off d0 (wr.drewN nq)) := S1.out.drewN nq
          clear S1
          generalize wr.drewN nq = wv at S2 ⊢
          have S1 := S2
          clear S2
          go_loopg [10] (j0 + 1) (fun kj sj wr => ∃ (j : Nat), sj = .int .i64 j ∧ a ≤ j ∧ j ≤ j0 ∧ j + 1 ≤ kj ∧ Aside (Srt w0 blk off d0 wr))
          case atStart => exact ⟨j0, rfl, by omega, by omega, by omega, S1⟩
          case round =>
            clear S1
            obtain ⟨j, rfl, haj, hjj, hkl, S1⟩ := hrel
            by_cases hij : i ≤ j
            · exfalso; omega
            · have hijz : decide ((i : Int) ≤ (j : Int)) = false := by simp; omega
              go_wp2_with fail
              go_quiet (first | (go_at_call 268; refine Calls.quiet_of_same (less_w _ _ _)))
              go_wp2
              refine bodyPost_ret (results_tmp rfl _ _ _) rfl ?_
              exact ⟨i, rfl, by omega, by omega, S1.out.drewN _⟩
end Go.Proofs.YtlhpbfjelgmkeaaGreat.Dig
