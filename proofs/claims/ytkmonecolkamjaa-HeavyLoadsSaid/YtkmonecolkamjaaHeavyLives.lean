/- The example at the end of each law of heavy holds in any world. Conditions: none. -/
import Derived.Test.YtkmonecolkamjaaHeavySide
set_option maxRecDepth 100000
namespace Go.Proofs.Ytkmonecolkamjaa
open Go.RowKit Go.Maps Go.Sort Go.Shelf

theorem in1 : InI 1 := by unfold InI; omega
theorem in2 : InI 2 := by unfold InI; omega
theorem in3 : InI 3 := by unfold InI; omega
set_option maxHeartbeats 12800000 in
theorem lives_any (w : World) : Calls Try.prog 11 #[] w fun e w' => e = .returned (.bool true) ∧ Below w.heap.size w w' := by
  have K1 := side_new (Side.nil w) 0 (m := 2) (by omega) (by omega)
  have a0 : ∀ W, (Instr.index 66 (.agg #[.int .i64 1, .int .i64 1, .int .i64 2, .int .i64 3]) (.int .i64 0)).run Try.prog W = .ok (.int .i64 1) W := fun _ => by kernel_rfl
  have a1 : ∀ W, (Instr.index 66 (.agg #[.int .i64 1, .int .i64 1, .int .i64 2, .int .i64 3]) (.int .i64 1)).run Try.prog W = .ok (.int .i64 1) W := fun _ => by kernel_rfl
  have a2 : ∀ W, (Instr.index 66 (.agg #[.int .i64 1, .int .i64 1, .int .i64 2, .int .i64 3]) (.int .i64 2)).run Try.prog W = .ok (.int .i64 2) W := fun _ => by kernel_rfl
  have a3 : ∀ W, (Instr.index 66 (.agg #[.int .i64 1, .int .i64 1, .int .i64 2, .int .i64 3]) (.int .i64 3)).run Try.prog W = .ok (.int .i64 3) W := fun _ => by kernel_rfl
  have b0 : ∀ W, (Instr.index 67 (.agg #[.int .i64 1, .int .i64 1, .int .i64 2]) (.int .i64 0)).run Try.prog W = .ok (.int .i64 1) W := fun _ => by kernel_rfl
  have b1 : ∀ W, (Instr.index 67 (.agg #[.int .i64 1, .int .i64 1, .int .i64 2]) (.int .i64 1)).run Try.prog W = .ok (.int .i64 1) W := fun _ => by kernel_rfl
  have b2 : ∀ W, (Instr.index 67 (.agg #[.int .i64 1, .int .i64 1, .int .i64 2]) (.int .i64 2)).run Try.prog W = .ok (.int .i64 2) W := fun _ => by kernel_rfl
  go_enter Try.func11, Try.ntmps11
  go_wp2_with fail
  refine K1.mono ?_
  rintro e w1 ⟨p, rfl, S1⟩
  clear K1
  have K2 := side_new S1.out 1 (m := 2) (by omega) (by omega)
  clear S1
  go_wp2_with fail
  refine K2.mono ?_
  rintro e w2 ⟨q, rfl, S2⟩
  clear K2
  have S2' : Hid (Side w [(0, Hk p (E1 0)), (1, Hk q (E1 0))] w2) := Lib.hid (S2.out.sub (fun x hx => by simp at hx ⊢; rcases hx with rfl | rfl <;> simp [E1]))
  clear S2
  go_wp2_with fail
  go_loopw [4, 20] (fun _ k wr => ∃ m : Nat, k = .int .i64 m ∧ m ≤ 4 ∧ Hid (Side w [(0, Hk p (E1 m)), (1, Hk q (E1 0))] wr)) (fun _ k _ => 4 - (intOf k).toNat)
  case atStart => exact ⟨0, rfl, by omega, S2'.out⟩
  case round =>
    clear S2'
    obtain ⟨m, rfl, hm, HR⟩ := hrel
    rcases (by omega : m = 0 ∨ m = 1 ∨ m = 2 ∨ m = 3 ∨ m = 4) with rfl | rfl | rfl | rfl | rfl
    · have KI := side_ins HR.out (fun e he => by simp at he; subst he; simp) in1
      go_wp2_with fail
      refine KI.mono ?_
      rintro e w5 ⟨rfl, S6⟩
      clear KI HR
      go_wp2_with fail
      go_roundw
      case rel => exact ⟨1, rfl, by omega, S6⟩
      case measure => simp [intOf]
    · have KI := side_ins HR.out (fun e he => by simp at he; subst he; simp) in1
      go_wp2_with fail
      refine KI.mono ?_
      rintro e w5 ⟨rfl, S6⟩
      clear KI HR
      go_wp2_with fail
      go_roundw
      case rel => exact ⟨2, rfl, by omega, S6⟩
      case measure => simp [intOf]
    · have KI := side_ins HR.out (fun e he => by simp at he; subst he; simp) in2
      go_wp2_with fail
      refine KI.mono ?_
      rintro e w5 ⟨rfl, S6⟩
      clear KI HR
      go_wp2_with fail
      go_roundw
      case rel => exact ⟨3, rfl, by omega, S6⟩
      case measure => simp [intOf]
    · have KI := side_ins HR.out (fun e he => by simp at he; subst he; simp) in3
      go_wp2_with fail
      refine KI.mono ?_
      rintro e w5 ⟨rfl, S6⟩
      clear KI HR
      go_wp2_with fail
      go_roundw
      case rel => exact ⟨4, rfl, by omega, S6⟩
      case measure => simp [intOf]
    · have KT := side_top HR.out (List.mem_cons_self ..) 1 (by omega)
      rw [E1_4] at KT
      clear a0 a1 a2 a3
      go_wp2_with fail
      refine KT.mono ?_
      rintro e w3 ⟨g, c, R, he, hg, hRk, hRow, hBel⟩
      have hR := ranked_one R hRk
      subst hR
      have he' : e = .returned (.slice (some ⟨g, 0, none⟩) 1 c) := he
      subst he'
      have S3 : Hid (Side w [(1, Hk q (E1 0)), (0, Hk p ⟨2, 4, [(1, 1)]⟩), (9, RowTh g [(1, 1)])] w3) := Lib.hid ((side_row HR.out hBel 9 hRow hg).sub (fun x hx => by
        rw [E1_4]
        simp at hx ⊢
        rcases hx with rfl | rfl | rfl <;> simp))
      clear KT HR hRow hRk hBel hg he
      go_wp2_with fail
      go_loopw [7, 30] (fun _ k wr => ∃ m : Nat, k = .int .i64 m ∧ m ≤ 3 ∧ Hid (Side w [(1, Hk q (E1 m)), (0, Hk p ⟨2, 4, [(1, 1)]⟩), (9, RowTh g [(1, 1)])] wr)) (fun _ k _ => 3 - (intOf k).toNat)
      case atStart => exact ⟨0, rfl, by omega, S3.out⟩
      case round =>
        clear S3
        obtain ⟨m, rfl, hm, HR⟩ := hrel
        have HNE : Hid (∀ e ∈ [(0, Hk p ⟨2, 4, [(1, 1)]⟩), (9, RowTh g [(1, 1)])], e.1 ≠ 1) := Lib.hid fun e he => by
          simp at he
          rcases he with rfl | rfl <;> simp
        rcases (by omega : m = 0 ∨ m = 1 ∨ m = 2 ∨ m = 3) with rfl | rfl | rfl | rfl
        · have KI := side_ins HR.out HNE.out in1
          go_wp2_with fail
          refine KI.mono ?_
          rintro e w5 ⟨rfl, S6⟩
          clear KI HR
          go_wp2_with fail
          go_roundw
          case rel => exact ⟨1, rfl, by omega, S6⟩
          case measure => simp [intOf]
        · have KI := side_ins HR.out HNE.out in1
          go_wp2_with fail
          refine KI.mono ?_
          rintro e w5 ⟨rfl, S6⟩
          clear KI HR
          go_wp2_with fail
          go_roundw
          case rel => exact ⟨2, rfl, by omega, S6⟩
          case measure => simp [intOf]
        · have KI := side_ins HR.out HNE.out in2
          go_wp2_with fail
          refine KI.mono ?_
          rintro e w5 ⟨rfl, S6⟩
          clear KI HR
          go_wp2_with fail
          go_roundw
          case rel => exact ⟨3, rfl, by omega, S6⟩
          case measure => simp [intOf]
        · have KN := side_new HR.out 2 (m := 2) (by omega) (by omega)
          clear b0 b1 b2 HR HNE
          go_wp2_with fail
          refine KN.mono ?_
          rintro e w5 ⟨r, rfl, S5⟩
          have KI := side_ins S5.out (fun e he => by simp at he; rcases he with rfl | rfl | rfl <;> simp) in3
          clear KN S5
          go_wp2_with fail
          refine KI.mono ?_
          rintro e w6 ⟨rfl, S6⟩
          have S6' := S6.out.sub (E' := [(1, Hk q (E1 3)), (2, Hk r ((HV.none_ 2).ins 3)), (0, Hk p ⟨2, 4, [(1, 1)]⟩), (9, RowTh g [(1, 1)])]) (fun x hx => by simp at hx ⊢; rcases hx with rfl | rfl | rfl | rfl <;> simp)
          have KM := side_merge S6' (fun e he => by simp at he; rcases he with rfl | rfl | rfl <;> simp) (j := 2) (List.mem_cons_self ..) (by rw [E1_3, E2_1]) (by rw [E1_3, E2_1]; decide)
          clear KI S6 S6'
          go_wp2_with fail
          refine KM.mono ?_
          rintro e w7 ⟨rfl, S7⟩
          obtain ⟨V', hMP, S8⟩ := side_merged S7.out
          have hV := E_merge hMP
          subst hV
          have KC := side_counters S8 (List.mem_cons_self ..)
          have HS8 := Lib.hid S8
          clear KM S7 hMP S8
          go_wp2_with fail
          refine KC.mono ?_
          rintro e w8 ⟨g2, c2, he, hg2, hc2, hRow2, hBel2⟩
          have he' : e = .returned (.slice (some ⟨g2, 0, none⟩) 1 c2) := he
          subst he'
          have S9 := Lib.hid (HS8.out.below hBel2)
          have hRow1 := side_rowP S9.out (k := 9) (g := g) (R := [(1, 1)]) (by simp)
          obtain ⟨x0, x1, _, _⟩ := hRow1.cell (k := 0) rfl
          obtain ⟨y0, y1, _, _⟩ := hRow2.cell (k := 0) rfl
          simp only [Nat.zero_mul, Nat.zero_add] at x0 x1 y0 y1
          have KT := side_total S9.out (i := 0) (p := p) (V := ⟨2, 4, [(1, 1)]⟩) (by simp)
          have KE := fun W => eql_ctr W 1 1
          have KG := fun W o x y => guard_ctr W o x y 1 1 1 1
          have HBL := Lib.hid S9.out.base
          clear KC HS8 hg2 hc2 hRow2 hBel2 hRow1 he S9
          go_wp2_with fail
          refine KT.mono ?_
          rintro e w9 ⟨rfl, rfl⟩
          clear KT
          go_wp2_with fail
          go_ret
          exact ⟨rfl, HBL.out⟩
end Go.Proofs.Ytkmonecolkamjaa
