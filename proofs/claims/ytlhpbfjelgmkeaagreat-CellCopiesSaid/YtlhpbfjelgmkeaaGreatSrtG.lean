/- slices.Sort at []uint64: partialInsertionSort. Conditions: none but the places. -/
import Derived.Test.YtlhpbfjelgmkeaaGreatSrtA
set_option maxRecDepth 1000000
namespace Go.Proofs.YtlhpbfjelgmkeaaGreat.Dig
open Go.Shelf Go.RowKit Go.Lib Go.Sort

def EndsB (w0 : World) (blk off : Nat) (d0 : Array UInt64) (e : Ending) (w' : World) : Prop := ∃ t : Bool, e = .returned (.bool t) ∧ Srt w0 blk off d0 w'

set_option maxHeartbeats 16000000 in
theorem pins_w (blk off cap a b : Nat) (d0 : Array UInt64) (w0 w : World) (R : RowW w0 blk off d0) (S : Srt w0 blk off d0 w) (hab : a < b) (hb : b ≤ d0.size) (hsz : d0.size < 1152921504606846976) :
    Calls Tryz.prog 267 #[.slice (some ⟨blk, off, none⟩) d0.size cap, .int .i64 a, .int .i64 b] w fun e w' => EndsB w0 blk off d0 e w' := by
  have HR : Hid (RowW w0 blk off d0) := R
  have mixed : Tryz.prog.follows .mixedOrders = true := by kernel_rfl
  have S0 : Aside (Srt w0 blk off d0 w) := S
  clear S R
  go_enter Tryz.func267, Tryz.ntmps267
  go_wp2
  go_loopg [7, 8] 5 (fun kx si sj wr => ∃ (i J : Nat), si = .int .i64 i ∧ sj = .int .i64 J ∧ a < i ∧ i ≤ b ∧ J ≤ 5 ∧ 5 - J ≤ kx ∧ Aside (Srt w0 blk off d0 wr))
  case atStart => exact ⟨a + 1, 0, by go_num, rfl, by omega, by omega, by omega, by omega, S0⟩
  case round =>
    clear S0
    obtain ⟨i0, J, rfl, rfl, hai0, hib0, hJ, hkx, S1⟩ := hrel
    by_cases hJ5 : J < 5
    · have hJz : (J : Int) < 5 := by omega
      go_wp2
      go_loopg [7] (b - i0) (fun kj si wr => ∃ (im : Nat), si = .int .i64 ((im + 1 : Nat) : Int) ∧ a ≤ im ∧ im + 1 ≤ b ∧ b - im ≤ kj + 1 ∧ Aside (Srt w0 blk off d0 wr))
      case atStart => exact ⟨i0 - 1, by go_num, by omega, by omega, by omega, S1⟩
      case round =>
        clear S1
        obtain ⟨im, rfl, hai, hib, hkj, S1⟩ := hrel
        by_cases hlt : im + 1 < b
        · have hltz : (im : Int) + 1 < (b : Int) := by omega
          have hwp : IntKind.i64.wrap (im : Int) = (im : Int) := by rw [IntKind.wrap_i64]; omega
          have b1 : (im : Int) + 1 < (d0.size : Int) := by omega
          have b2 : (im : Int) < (d0.size : Int) := by omega
          have b3 : im + 1 < d0.size := by omega
          have b4 : im < d0.size := by omega
          have p0 : (0 : Int) ≤ (im : Int) + 1 := by omega
          have e0 : ((im : Int) + 1).toNat = im + 1 := by omega
          obtain ⟨G, hcw, hfw, HW⟩ := S1.out.fam HR.out
          go_wp2
          go_quiet (first | (go_at_call 268; refine Calls.quiet_of_same (less_w _ _ _)))
          go_wp2
          · go_roundg (b - (im + 1) - 1)
            case measure => omega
            case rel => exact ⟨im + 1, by go_num, by omega, by omega, by omega, S1.out.drewN _⟩
          · refine bodyPost_ret (results_tmp rfl _ _ _) rfl ?_
            exact ⟨false, rfl, S1.out.drewN _⟩
          · have S2 : Aside (Srt w0 blk off d0 (wr.drewN nq)) := S1.out.drewN nq
            clear S1 hcw hfw HW
            generalize wr.drewN nq = wv at S2 ⊢
            have S1 := S2
            clear S2
            obtain ⟨G2, hcw2, hfw2, HW2⟩ := S1.out.fam HR.out
            clear S1
            go_region
            all_goals
              have S1 : Aside (Srt w0 blk off d0 _) := HW2.out 1 (im + 1) im b3 b4
              clear HW2 hcw2 hfw2
              go_wp2
              · go_loopg [9] (im + 1) (fun kj sj wr => ∃ (j : Nat), sj = .int .i64 j ∧ j < (im + 1) ∧ j ≤ kj ∧ Aside (Srt w0 blk off d0 wr))
                case atStart => exact ⟨(im + 1) - 1, by go_num, by omega, by omega, S1⟩
                case round =>
                  clear S1
                  obtain ⟨j, rfl, hji, hkl, S1⟩ := hrel
                  by_cases hl : 1 ≤ j
                  · obtain ⟨jm, rfl⟩ : ∃ jm, j = jm + 1 := ⟨j - 1, by omega⟩
                    have hlz : (1 : Int) ≤ (jm : Int) + 1 := by omega
                    have hwp : IntKind.i64.wrap (jm : Int) = (jm : Int) := by rw [IntKind.wrap_i64]; omega
                    have b1 : (jm : Int) + 1 < (d0.size : Int) := by omega
                    have b2 : (jm : Int) < (d0.size : Int) := by omega
                    have b3 : jm + 1 < d0.size := by omega
                    have b4 : jm < d0.size := by omega
                    have p0 : (0 : Int) ≤ (jm : Int) + 1 := by omega
                    have e0 : ((jm : Int) + 1).toNat = jm + 1 := by omega
                    obtain ⟨G, hcw, hfw, HW⟩ := S1.out.fam HR.out
                    go_wp2
                    go_quiet (first | (go_at_call 268; refine Calls.quiet_of_same (less_w _ _ _)))
                    go_wp2
                    · have S2 : Aside (Srt w0 blk off d0 (wr.drewN nq)) := S1.out.drewN nq
                      clear S1 hcw hfw HW
                      generalize wr.drewN nq = wv at S2 ⊢
                      have S1 := S2
                      clear S2
                      go_loopg [10] (b - (im + 1)) (fun kj sj wr => ∃ (jm : Nat), sj = .int .i64 ((jm + 1 : Nat) : Int) ∧ (im + 1) ≤ jm ∧ jm + 1 ≤ b ∧ b - jm ≤ kj ∧ Aside (Srt w0 blk off d0 wr))
                      case atStart => exact ⟨(im + 1), by go_num, by omega, by omega, by omega, S1⟩
                      case round =>
                        clear S1
                        obtain ⟨jm, rfl, hij, hjb, hkl, S1⟩ := hrel
                        by_cases hl : jm + 1 < b
                        · have hlz : (jm : Int) + 1 < (b : Int) := by omega
                          have hwp : IntKind.i64.wrap (jm : Int) = (jm : Int) := by rw [IntKind.wrap_i64]; omega
                          have b1 : (jm : Int) + 1 < (d0.size : Int) := by omega
                          have b2 : (jm : Int) < (d0.size : Int) := by omega
                          have b3 : jm + 1 < d0.size := by omega
                          have b4 : jm < d0.size := by omega
                          have p0 : (0 : Int) ≤ (jm : Int) + 1 := by omega
                          have e0 : ((jm : Int) + 1).toNat = jm + 1 := by omega
                          obtain ⟨G, hcw, hfw, HW⟩ := S1.out.fam HR.out
                          go_wp2
                          go_quiet (first | (go_at_call 268; refine Calls.quiet_of_same (less_w _ _ _)))
                          go_wp2
                          · have S2 : Aside (Srt w0 blk off d0 (wr.drewN nq)) := S1.out.drewN nq
                            clear S1
                            have S1 := S2
                            go_roundg (5 - (J + 1))
                            case measure => omega
                            case rel => exact ⟨(im + 1), J + 1, rfl, by go_num, by omega, by omega, by omega, by omega, S1⟩
                          · have S2 : Aside (Srt w0 blk off d0 (wr.drewN nq)) := S1.out.drewN nq
                            clear S1 hcw hfw HW
                            generalize wr.drewN nq = wv at S2 ⊢
                            have S1 := S2
                            clear S2
                            obtain ⟨G2, hcw2, hfw2, HW⟩ := S1.out.fam HR.out
                            clear S1
                            go_region
                            all_goals
                              go_wp2
                              go_roundg (b - (jm + 1))
                              case measure => omega
                              case rel => exact ⟨jm + 1, by go_num, by omega, by omega, by omega, HW.out _ _ _ (by omega) (by omega)⟩
                        · have hlz : ¬ (jm : Int) + 1 < (b : Int) := by omega
                          go_wp2
                          go_roundg (5 - (J + 1))
                          case measure => omega
                          case rel => exact ⟨(im + 1), J + 1, rfl, by go_num, by omega, by omega, by omega, by omega, S1⟩
                    · have S2 : Aside (Srt w0 blk off d0 (wr.drewN nq)) := S1.out.drewN nq
                      clear S1 hcw hfw HW
                      generalize wr.drewN nq = wv at S2 ⊢
                      have S1 := S2
                      clear S2
                      go_roundg (5 - (J + 1))
                      case measure => omega
                      case rel => exact ⟨(im + 1), J + 1, rfl, by go_num, by omega, by omega, by omega, by omega, S1⟩
                    · have S2 : Aside (Srt w0 blk off d0 (wr.drewN nq)) := S1.out.drewN nq
                      clear S1 hcw hfw HW
                      generalize wr.drewN nq = wv at S2 ⊢
                      have S1 := S2
                      clear S2
                      obtain ⟨G2, hcw2, hfw2, HW⟩ := S1.out.fam HR.out
                      clear S1
                      go_region
                      all_goals
                        go_wp2
                        go_roundg jm
                        case measure => omega
                        case rel => exact ⟨jm, by go_num, by omega, by omega, HW.out _ _ _ (by omega) (by omega)⟩
                  · obtain rfl : j = 0 := by omega
                    go_wp2
                    · go_loopg [10] (b - (im + 1)) (fun kj sj wr => ∃ (jm : Nat), sj = .int .i64 ((jm + 1 : Nat) : Int) ∧ (im + 1) ≤ jm ∧ jm + 1 ≤ b ∧ b - jm ≤ kj ∧ Aside (Srt w0 blk off d0 wr))
                      case atStart => exact ⟨(im + 1), by go_num, by omega, by omega, by omega, S1⟩
                      case round =>
                        clear S1
                        obtain ⟨jm, rfl, hij, hjb, hkl, S1⟩ := hrel
                        by_cases hl : jm + 1 < b
                        · have hlz : (jm : Int) + 1 < (b : Int) := by omega
                          have hwp : IntKind.i64.wrap (jm : Int) = (jm : Int) := by rw [IntKind.wrap_i64]; omega
                          have b1 : (jm : Int) + 1 < (d0.size : Int) := by omega
                          have b2 : (jm : Int) < (d0.size : Int) := by omega
                          have b3 : jm + 1 < d0.size := by omega
                          have b4 : jm < d0.size := by omega
                          have p0 : (0 : Int) ≤ (jm : Int) + 1 := by omega
                          have e0 : ((jm : Int) + 1).toNat = jm + 1 := by omega
                          obtain ⟨G, hcw, hfw, HW⟩ := S1.out.fam HR.out
                          go_wp2
                          go_quiet (first | (go_at_call 268; refine Calls.quiet_of_same (less_w _ _ _)))
                          go_wp2
                          · have S2 : Aside (Srt w0 blk off d0 (wr.drewN nq)) := S1.out.drewN nq
                            clear S1
                            have S1 := S2
                            go_roundg (5 - (J + 1))
                            case measure => omega
                            case rel => exact ⟨(im + 1), J + 1, rfl, by go_num, by omega, by omega, by omega, by omega, S1⟩
                          · have S2 : Aside (Srt w0 blk off d0 (wr.drewN nq)) := S1.out.drewN nq
                            clear S1 hcw hfw HW
                            generalize wr.drewN nq = wv at S2 ⊢
                            have S1 := S2
                            clear S2
                            obtain ⟨G2, hcw2, hfw2, HW⟩ := S1.out.fam HR.out
                            clear S1
                            go_region
                            all_goals
                              go_wp2
                              go_roundg (b - (jm + 1))
                              case measure => omega
                              case rel => exact ⟨jm + 1, by go_num, by omega, by omega, by omega, HW.out _ _ _ (by omega) (by omega)⟩
                        · have hlz : ¬ (jm : Int) + 1 < (b : Int) := by omega
                          go_wp2
                          go_roundg (5 - (J + 1))
                          case measure => omega
                          case rel => exact ⟨(im + 1), J + 1, rfl, by go_num, by omega, by omega, by omega, by omega, S1⟩
                    · go_roundg (5 - (J + 1))
                      case measure => omega
                      case rel => exact ⟨(im + 1), J + 1, rfl, by go_num, by omega, by omega, by omega, by omega, S1⟩
              · go_loopg [10] (b - (im + 1)) (fun kj sj wr => ∃ (jm : Nat), sj = .int .i64 ((jm + 1 : Nat) : Int) ∧ (im + 1) ≤ jm ∧ jm + 1 ≤ b ∧ b - jm ≤ kj ∧ Aside (Srt w0 blk off d0 wr))
                case atStart => exact ⟨(im + 1), by go_num, by omega, by omega, by omega, S1⟩
                case round =>
                  clear S1
                  obtain ⟨jm, rfl, hij, hjb, hkl, S1⟩ := hrel
                  by_cases hl : jm + 1 < b
                  · have hlz : (jm : Int) + 1 < (b : Int) := by omega
                    have hwp : IntKind.i64.wrap (jm : Int) = (jm : Int) := by rw [IntKind.wrap_i64]; omega
                    have b1 : (jm : Int) + 1 < (d0.size : Int) := by omega
                    have b2 : (jm : Int) < (d0.size : Int) := by omega
                    have b3 : jm + 1 < d0.size := by omega
                    have b4 : jm < d0.size := by omega
                    have p0 : (0 : Int) ≤ (jm : Int) + 1 := by omega
                    have e0 : ((jm : Int) + 1).toNat = jm + 1 := by omega
                    obtain ⟨G, hcw, hfw, HW⟩ := S1.out.fam HR.out
                    go_wp2
                    go_quiet (first | (go_at_call 268; refine Calls.quiet_of_same (less_w _ _ _)))
                    go_wp2
                    · have S2 : Aside (Srt w0 blk off d0 (wr.drewN nq)) := S1.out.drewN nq
                      clear S1
                      have S1 := S2
                      go_roundg (5 - (J + 1))
                      case measure => omega
                      case rel => exact ⟨(im + 1), J + 1, rfl, by go_num, by omega, by omega, by omega, by omega, S1⟩
                    · have S2 : Aside (Srt w0 blk off d0 (wr.drewN nq)) := S1.out.drewN nq
                      clear S1 hcw hfw HW
                      generalize wr.drewN nq = wv at S2 ⊢
                      have S1 := S2
                      clear S2
                      obtain ⟨G2, hcw2, hfw2, HW⟩ := S1.out.fam HR.out
                      clear S1
                      go_region
                      all_goals
                        go_wp2
                        go_roundg (b - (jm + 1))
                        case measure => omega
                        case rel => exact ⟨jm + 1, by go_num, by omega, by omega, by omega, HW.out _ _ _ (by omega) (by omega)⟩
                  · have hlz : ¬ (jm : Int) + 1 < (b : Int) := by omega
                    go_wp2
                    go_roundg (5 - (J + 1))
                    case measure => omega
                    case rel => exact ⟨(im + 1), J + 1, rfl, by go_num, by omega, by omega, by omega, by omega, S1⟩
        · obtain rfl : b = im + 1 := by omega
          have hltz : decide ((im : Int) + 1 < ((im + 1 : Nat) : Int)) = false := by simp
          go_wp2
          go_quiet (first | (go_at_call 268; refine Calls.quiet_of_same (less_w _ _ _)))
          go_wp2
          refine bodyPost_ret (results_tmp rfl _ _ _) rfl ?_
          exact ⟨true, rfl, S1.out.drewN _⟩
    · have hJz : ¬ (J : Int) < 5 := by omega
      go_wp2
      refine bodyPost_ret (results_tmp rfl _ _ _) rfl ?_
      exact ⟨false, rfl, S1.out⟩
end Go.Proofs.YtlhpbfjelgmkeaaGreat.Dig
