/- slices.Sort at []uint64: partition. Conditions: none but the places. -/
import Derived.Test.YtlhpbfjelgmkeaaGreatSrtA
set_option maxRecDepth 1000000
namespace Go.Proofs.YtlhpbfjelgmkeaaGreat.Dig
open Go.Shelf Go.RowKit Go.Lib Go.Sort

set_option maxHeartbeats 16000000 in
theorem part_w (blk off cap a b p : Nat) (d0 : Array UInt64) (w0 w : World) (R : RowW w0 blk off d0) (S : Srt w0 blk off d0 w) (hap : a ≤ p) (hpb : p < b) (hb : b ≤ d0.size) (hsz : d0.size < 1152921504606846976) :
    Calls Tryz.prog 270 #[.slice (some ⟨blk, off, none⟩) d0.size cap, .int .i64 a, .int .i64 b, .int .i64 p] w fun e w' => ∃ (m : Nat) (t : Bool), e = .returned (.tuple #[.int .i64 m, .bool t]) ∧ a ≤ m ∧ m < b ∧ Srt w0 blk off d0 w' := by
  have HR : Hid (RowW w0 blk off d0) := R
  have mixed : Tryz.prog.follows .mixedOrders = true := by kernel_rfl
  obtain ⟨G, hcw, hfw, HW⟩ := S.fam R
  have na : a < d0.size := by omega
  have np : p < d0.size := by omega
  have ca := hcw a na
  have cp := hcw p np
  have ba : (a : Int) < (d0.size : Int) := by omega
  have bp : (p : Int) < (d0.size : Int) := by omega
  obtain ⟨u, cU⟩ := cell_set_some (i := off + a) (.int .u64 (G p)) cp
  obtain ⟨a1, ha1⟩ : ∃ a1, a1 = a + 1 := ⟨_, rfl⟩
  obtain ⟨b1, hb1⟩ : ∃ b1, b1 = b - 1 := ⟨_, rfl⟩
  have ta : (a : Int) + 1 = (a1 : Int) := by omega
  have tb : (b : Int) - 1 = (b1 : Int) := by omega
  have wa : IntKind.i64.wrap (a1 : Int) = (a1 : Int) := by rw [IntKind.wrap_i64]; omega
  have wb : IntKind.i64.wrap (b1 : Int) = (b1 : Int) := by rw [IntKind.wrap_i64]; omega
  have la1 : a < a1 := by omega
  have la2 : a1 ≤ b := by omega
  have lb1 : a ≤ b1 := by omega
  have lb2 : b1 < b := by omega
  clear S R ha1 hb1
  go_enter Tryz.func270, Tryz.ntmps270
  go_wp2_with fail
  go_region
  all_goals
    go_wp2_with fail
    have S1 : Aside (Srt w0 blk off d0 _) := HW.out 1 a p na np
    clear HW hcw hfw ca cp cU ta tb wa wb
    go_loopg [10] (b - a1) (fun kj si wr => ∃ (i1 : Nat), si = .int .i64 i1 ∧ a1 ≤ i1 ∧ i1 ≤ b ∧ b - i1 ≤ kj ∧ Aside (Srt w0 blk off d0 wr))
    case atStart => exact ⟨a1, rfl, by omega, by omega, by omega, S1⟩
    case round =>
      clear S1
      obtain ⟨i1, rfl, hii, hib, hkj, S1⟩ := hrel
      by_cases hij0 : i1 ≤ b1
      · have hijz : (i1 : Int) ≤ (b1 : Int) := by omega
        obtain ⟨G, hcw, hfw, HW⟩ := S1.out.fam HR.out
        have ca := hcw a na
        have ni : i1 < d0.size := by omega
        have ci := hcw i1 ni
        have bi : (i1 : Int) < (d0.size : Int) := by omega
        go_wp2_with fail
        go_quiet (first | (go_at_call 268; refine Calls.quiet_of_same (less_w _ _ _)))
        go_wp2
        · go_roundg (b - (i1 + 1))
          case measure => omega
          case rel => exact ⟨i1 + 1, by go_num, by omega, by omega, by omega, S1.out.drewN _⟩
        · have S2 : Aside (Srt w0 blk off d0 (wr.drewN nq)) := S1.out.drewN nq
          clear S1 hcw hfw HW ca ci
          generalize wr.drewN nq = wv at S2 ⊢
          have S1 := S2
          clear S2
          go_loopg [11] (b1 + 1) (fun kj sj wr => ∃ (j : Nat), sj = .int .i64 j ∧ a ≤ j ∧ j ≤ b1 ∧ j + 1 ≤ kj ∧ Aside (Srt w0 blk off d0 wr))
          case atStart => exact ⟨b1, rfl, by omega, by omega, by omega, S1⟩
          case round =>
            clear S1
            obtain ⟨j, rfl, haj, hjj, hkl, S1⟩ := hrel
            by_cases hij : i1 ≤ j
            · have hijz : (i1 : Int) ≤ (j : Int) := by omega
              obtain ⟨G, hcw, hfw, HW⟩ := S1.out.fam HR.out
              have ca := hcw a na
              have nj : j < d0.size := by omega
              have cj := hcw j nj
              have bj : (j : Int) < (d0.size : Int) := by omega
              go_wp2_with fail
              go_quiet (first | (go_at_call 268; refine Calls.quiet_of_same (less_w _ _ _)))
              go_wp2
              · go_roundg j
                case measure => omega
                case rel => exact ⟨j - 1, by go_num, by omega, by omega, by omega, S1.out.drewN _⟩
              · have S2 : Aside (Srt w0 blk off d0 (wr.drewN nq)) := S1.out.drewN nq
                clear S1 hcw hfw HW ca cj
                generalize wr.drewN nq = wv at S2 ⊢
                have S1 := S2
                clear S2
                obtain ⟨G2, hcw2, hfw2, HW⟩ := S1.out.fam HR.out
                have ci := hcw2 i1 ni
                have cj := hcw2 j nj
                obtain ⟨u2, cU2⟩ := cell_set_some (i := off + i1) (.int .u64 (G2 j)) cj
                go_region
                all_goals
                  go_wp2_with fail
                  have S3 : Aside (Srt w0 blk off d0 _) := HW.out 1 i1 j ni nj
                  clear HW hcw2 hfw2 ci cj cU2 S1
                  obtain ⟨jm, hjm⟩ : ∃ jm, j = jm + 1 := ⟨j - 1, by omega⟩
                  go_loopg [10, 11] (b - a) (fun kx si sj wr => ∃ (i j : Nat), si = .int .i64 i ∧ sj = .int .i64 j ∧ a < i ∧ i ≤ b ∧ a ≤ j ∧ j < b ∧ j + 1 - i ≤ kx ∧ Aside (Srt w0 blk off d0 wr))
                  case atStart => exact ⟨i1 + 1, j - 1, by go_num, by go_num, by omega, by omega, by omega, by omega, by omega, S3⟩
                  case round =>
                    clear S3
                    obtain ⟨i0, j0, rfl, rfl, hai0, hib0, haj0, hjb0, hkx, S1⟩ := hrel
                    go_wp2
                    go_loopg [10] (b - i0) (fun kj si wr => ∃ (i : Nat), si = .int .i64 i ∧ i0 ≤ i ∧ i ≤ b ∧ b - i ≤ kj ∧ Aside (Srt w0 blk off d0 wr))
                    case atStart => exact ⟨i0, rfl, by omega, by omega, by omega, S1⟩
                    case round =>
                      clear S1
                      obtain ⟨i, rfl, hii, hib, hkj, S1⟩ := hrel
                      by_cases hij0 : i ≤ j0
                      · have hijz : (i : Int) ≤ (j0 : Int) := by omega
                        obtain ⟨G, hcw, hfw, HW⟩ := S1.out.fam HR.out
                        have ca := hcw a na
                        have ni : i < d0.size := by omega
                        have ci := hcw i ni
                        have bi : (i : Int) < (d0.size : Int) := by omega
                        go_wp2_with fail
                        go_quiet (first | (go_at_call 268; refine Calls.quiet_of_same (less_w _ _ _)))
                        go_wp2
                        · go_roundg (b - (i + 1))
                          case measure => omega
                          case rel => exact ⟨i + 1, by go_num, by omega, by omega, by omega, S1.out.drewN _⟩
                        · have S2 : Aside (Srt w0 blk off d0 (wr.drewN nq)) := S1.out.drewN nq
                          clear S1 hcw hfw HW ca ci
                          generalize wr.drewN nq = wv at S2 ⊢
                          have S1 := S2
                          clear S2
                          go_loopg [11] (j0 + 1) (fun kj sj wr => ∃ (j : Nat), sj = .int .i64 j ∧ a ≤ j ∧ j ≤ j0 ∧ j + 1 ≤ kj ∧ Aside (Srt w0 blk off d0 wr))
                          case atStart => exact ⟨j0, rfl, by omega, by omega, by omega, S1⟩
                          case round =>
                            clear S1
                            obtain ⟨j, rfl, haj, hjj, hkl, S1⟩ := hrel
                            by_cases hij : i ≤ j
                            · have hijz : (i : Int) ≤ (j : Int) := by omega
                              obtain ⟨G, hcw, hfw, HW⟩ := S1.out.fam HR.out
                              have ca := hcw a na
                              have nj : j < d0.size := by omega
                              have cj := hcw j nj
                              have bj : (j : Int) < (d0.size : Int) := by omega
                              go_wp2_with fail
                              go_quiet (first | (go_at_call 268; refine Calls.quiet_of_same (less_w _ _ _)))
                              go_wp2
                              · go_roundg j
                                case measure => omega
                                case rel => exact ⟨j - 1, by go_num, by omega, by omega, by omega, S1.out.drewN _⟩
                              · have S2 : Aside (Srt w0 blk off d0 (wr.drewN nq)) := S1.out.drewN nq
                                clear S1 hcw hfw HW ca cj
                                generalize wr.drewN nq = wv at S2 ⊢
                                have S1 := S2
                                clear S2
                                obtain ⟨G2, hcw2, hfw2, HW⟩ := S1.out.fam HR.out
                                have ci := hcw2 i ni
                                have cj := hcw2 j nj
                                obtain ⟨u2, cU2⟩ := cell_set_some (i := off + i) (.int .u64 (G2 j)) cj
                                go_region
                                all_goals
                                  go_wp2
                                  go_roundg (j - i)
                                  case measure => omega
                                  case rel => exact ⟨i + 1, j - 1, by go_num, by go_num, by omega, by omega, by omega, by omega, by omega, HW.out _ _ _ (by omega) (by omega)⟩
                            · have hijz : decide ((i : Int) ≤ (j : Int)) = false := by simp; omega
                              go_wp2_with fail
                              go_quiet (first | (go_at_call 268; refine Calls.quiet_of_same (less_w _ _ _)))
                              go_wp2
                              have S2 : Aside (Srt w0 blk off d0 (wr.drewN nq)) := S1.out.drewN nq
                              clear S1 
                              generalize wr.drewN nq = wv at S2 ⊢
                              have S1 := S2
                              clear S2
                              obtain ⟨G2, hcw2, hfw2, HW⟩ := S1.out.fam HR.out
                              have nj : j < d0.size := by omega
                              have bj : (j : Int) < (d0.size : Int) := by omega
                              have ca := hcw2 a na
                              have cj := hcw2 j nj
                              obtain ⟨u2, cU2⟩ := cell_set_some (i := off + j) (.int .u64 (G2 a)) ca
                              go_wp2
                              go_region
                              all_goals
                                go_wp2
                                refine bodyPost_ret (results_tmp2 rfl _ _ _) rfl ?_
                                exact ⟨j, false, rfl, by omega, by omega, HW.out _ _ _ (by omega) (by omega)⟩
                      · have hijz : decide ((i : Int) ≤ (j0 : Int)) = false := by simp; omega
                        go_wp2_with fail
                        go_quiet (first | (go_at_call 268; refine Calls.quiet_of_same (less_w _ _ _)))
                        go_wp2
                        have S2 : Aside (Srt w0 blk off d0 (wr.drewN nq)) := S1.out.drewN nq
                        clear S1 
                        generalize wr.drewN nq = wv at S2 ⊢
                        have S1 := S2
                        clear S2
                        go_loopg [11] (j0 + 1) (fun kj sj wr => ∃ (j : Nat), sj = .int .i64 j ∧ a ≤ j ∧ j ≤ j0 ∧ j + 1 ≤ kj ∧ Aside (Srt w0 blk off d0 wr))
                        case atStart => exact ⟨j0, rfl, by omega, by omega, by omega, S1⟩
                        case round =>
                          clear S1
                          obtain ⟨j, rfl, haj, hjj, hkl, S1⟩ := hrel
                          by_cases hij : i ≤ j
                          · exfalso; omega
                          · have hijz : decide ((i : Int) ≤ (j : Int)) = false := by simp; omega
                            go_wp2_with fail
                            go_quiet (first | (go_at_call 268; refine Calls.quiet_of_same (less_w _ _ _)))
                            go_wp2
                            have S2 : Aside (Srt w0 blk off d0 (wr.drewN nq)) := S1.out.drewN nq
                            clear S1 
                            generalize wr.drewN nq = wv at S2 ⊢
                            have S1 := S2
                            clear S2
                            obtain ⟨G2, hcw2, hfw2, HW⟩ := S1.out.fam HR.out
                            have nj : j < d0.size := by omega
                            have bj : (j : Int) < (d0.size : Int) := by omega
                            have ca := hcw2 a na
                            have cj := hcw2 j nj
                            obtain ⟨u2, cU2⟩ := cell_set_some (i := off + j) (.int .u64 (G2 a)) ca
                            go_wp2
                            go_region
                            all_goals
                              go_wp2
                              refine bodyPost_ret (results_tmp2 rfl _ _ _) rfl ?_
                              exact ⟨j, false, rfl, by omega, by omega, HW.out _ _ _ (by omega) (by omega)⟩
            · have hijz : decide ((i1 : Int) ≤ (j : Int)) = false := by simp; omega
              go_wp2_with fail
              go_quiet (first | (go_at_call 268; refine Calls.quiet_of_same (less_w _ _ _)))
              go_wp2
              have S2 : Aside (Srt w0 blk off d0 (wr.drewN nq)) := S1.out.drewN nq
              clear S1 
              generalize wr.drewN nq = wv at S2 ⊢
              have S1 := S2
              clear S2
              obtain ⟨G2, hcw2, hfw2, HW⟩ := S1.out.fam HR.out
              have nj : j < d0.size := by omega
              have bj : (j : Int) < (d0.size : Int) := by omega
              have ca := hcw2 a na
              have cj := hcw2 j nj
              obtain ⟨u2, cU2⟩ := cell_set_some (i := off + j) (.int .u64 (G2 a)) ca
              go_wp2
              go_region
              all_goals
                go_wp2
                refine bodyPost_ret (results_tmp2 rfl _ _ _) rfl ?_
                exact ⟨j, true, rfl, by omega, by omega, HW.out _ _ _ (by omega) (by omega)⟩
      · have hijz : decide ((i1 : Int) ≤ (b1 : Int)) = false := by simp; omega
        go_wp2_with fail
        go_quiet (first | (go_at_call 268; refine Calls.quiet_of_same (less_w _ _ _)))
        go_wp2
        have S2 : Aside (Srt w0 blk off d0 (wr.drewN nq)) := S1.out.drewN nq
        clear S1 
        generalize wr.drewN nq = wv at S2 ⊢
        have S1 := S2
        clear S2
        go_loopg [11] (b1 + 1) (fun kj sj wr => ∃ (j : Nat), sj = .int .i64 j ∧ a ≤ j ∧ j ≤ b1 ∧ j + 1 ≤ kj ∧ Aside (Srt w0 blk off d0 wr))
        case atStart => exact ⟨b1, rfl, by omega, by omega, by omega, S1⟩
        case round =>
          clear S1
          obtain ⟨j, rfl, haj, hjj, hkl, S1⟩ := hrel
          by_cases hij : i1 ≤ j
          · exfalso; omega
          · have hijz : decide ((i1 : Int) ≤ (j : Int)) = false := by simp; omega
            go_wp2_with fail
            go_quiet (first | (go_at_call 268; refine Calls.quiet_of_same (less_w _ _ _)))
            go_wp2
            have S2 : Aside (Srt w0 blk off d0 (wr.drewN nq)) := S1.out.drewN nq
            clear S1 
            generalize wr.drewN nq = wv at S2 ⊢
            have S1 := S2
            clear S2
            obtain ⟨G2, hcw2, hfw2, HW⟩ := S1.out.fam HR.out
            have nj : j < d0.size := by omega
            have bj : (j : Int) < (d0.size : Int) := by omega
            have ca := hcw2 a na
            have cj := hcw2 j nj
            obtain ⟨u2, cU2⟩ := cell_set_some (i := off + j) (.int .u64 (G2 a)) ca
            go_wp2
            go_region
            all_goals
              go_wp2
              refine bodyPost_ret (results_tmp2 rfl _ _ _) rfl ?_
              exact ⟨j, true, rfl, by omega, by omega, HW.out _ _ _ (by omega) (by omega)⟩
end Go.Proofs.YtlhpbfjelgmkeaaGreat.Dig
