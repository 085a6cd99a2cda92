/- Contracts of Print on both sides. Conditions: none. -/
import Derived.Test.YtnljlbdecknbpaaWideP
import Derived.Test.YtnljlbdecknbpaaDivide
set_option maxRecDepth 100000
namespace Go.Proofs.Ytnljlbdecknbpaa
open Go.RowKit

theorem str_app (a b : List UInt8) : (⟨a.toArray⟩ ++ ⟨b.toArray⟩ : ByteArray) = ⟨(a ++ b).toArray⟩ := by
  apply ByteArray.ext
  simp
theorem ret_str {a b : ByteArray} (h : a = b) : Ending.returned (.string a) = .returned (.string b) := by rw [h]
theorem len39 {n : Nat} (h : n < 340282366920938463463374607431768211456) : (digs n).length ≤ 39 := digs_len 38 n (Nat.lt_of_lt_of_le h (by decide))
theorem print_pos {N : Int} (h : 0 ≤ N) : printL N = digs N.natAbs := by unfold printL; rw [if_neg (by omega)]
theorem print_neg {N : Int} (h : N < 0) : printL N = 45 :: digs N.natAbs := by unfold printL; rw [if_pos h]
theorem c1_cells {w w' : World} {a0 a1 : Value} (hb : Below (w.heap.size + 1) (w.alloc (.cells #[a0, a1] 24)) w') :
    w'.cell? ⟨w.heap.size, 0, none⟩ = some a0 ∧ w'.cell? ⟨w.heap.size, 1, none⟩ = some a1 ∧ w'.frozen? ⟨w.heap.size, 0, none⟩ = false ∧ w'.frozen? ⟨w.heap.size, 1, none⟩ = false := by
  refine ⟨?_, ?_, ?_, ?_⟩
  · rw [hb.cell (p := ⟨w.heap.size, 0, none⟩) (by simp)]; go_simp
  · rw [hb.cell (p := ⟨w.heap.size, 1, none⟩) (by simp)]; go_simp
  · rw [hb.frozen (p := ⟨w.heap.size, 0, none⟩) (by simp)]; go_simp
  · rw [hb.frozen (p := ⟨w.heap.size, 1, none⟩) (by simp)]; go_simp
theorem o1_next {w w' w1 : World} {o : Obj} (hb : Below (w.heap.size + 1) (w.alloc o) w') (hk : Below w'.heap.size w' w1) : Below (w.heap.size + 1) (w.alloc o) w1 := by
  have hz := hb.size
  rw [World.size_alloc] at hz
  exact hb.trans (hk.mono hz)
theorem o1_done {w w' : World} {o : Obj} (hb : Below (w.heap.size + 1) (w.alloc o) w') : Below w.heap.size w w' := ((Below.refl _ _).alloc (Nat.le_refl _) _).trans (hb.mono (by omega))
set_option maxHeartbeats 800000 in
theorem print_any (h l : Int) (w : World) (h0 : -9223372036854775808 ≤ h) (h1 : h < 9223372036854775808) (l0 : 0 ≤ l) (l1 : l < 18446744073709551616) : Calls Try.prog 26 #[.agg #[.int .i64 h, .int .u64 l]] w fun e w' => e = .returned (.string ⟨(printL (h * 18446744073709551616 + l)).toArray⟩) ∧ Below w.heap.size w w' := by
  obtain ⟨N, hN⟩ : ∃ N, N = h * 18446744073709551616 + l := ⟨_, rfl⟩
  have K1 := fun w => sizeOf_any h l w h0 h1 l0 l1
  rw [← hN] at K1 ⊢
  have K3 := below_any h l
  obtain ⟨H, hH⟩ : ∃ H, H = N.natAbs / 18446744073709551616 := ⟨_, rfl⟩
  obtain ⟨L, hL⟩ : ∃ H, H = N.natAbs % 18446744073709551616 := ⟨_, rfl⟩
  have ha : absW N = (N.natAbs : Int) := by unfold absW; split <;> omega
  have K2 := fun w => digits_any H L w (by omega) (by omega)
  rw [show H * 18446744073709551616 + L = N.natAbs by omega] at K2
  unfold sv at K1
  rw [ha, (sv_nat _).1, (sv_nat _).2, ← hH, ← hL] at K1
  by_cases hn : N < 0
  · rw [print_neg hn]
    rw [decide_eq_true (by omega)] at K3
    have hd := len39 (n := N.natAbs) (by omega)
    clear hH hL ha hn hN
    generalize digs N.natAbs = d at K2 hd ⊢
    go_enter Try.func26, Try.ntmps26
    go_wp2_with fail
    refine (K1 _).mono ?_
    rintro e w1 ⟨rfl, b1⟩
    replace b1 := o1_next (Below.refl _ _) b1
    go_wp2_with fail
    refine (K2 _).mono ?_
    rintro e w2 ⟨rfl, b2⟩
    replace b2 := o1_next b1 b2
    have hc := c1_cells b2
    clear b1
    go_wp2_with fail
    refine (K3 _).mono ?_
    rintro e w3 ⟨rfl, b3⟩
    replace b3 := o1_next b2 b3
    clear b2 hc
    go_wp2_with fail
    go_ret
    exact ⟨ret_str (str_app [45] d), o1_done b3⟩
  · rw [print_pos (by omega)]
    rw [decide_eq_false (by omega)] at K3
    clear hH hL ha hn hN
    generalize digs N.natAbs = d at K2 ⊢
    go_enter Try.func26, Try.ntmps26
    go_wp2_with fail
    refine (K1 _).mono ?_
    rintro e w1 ⟨rfl, b1⟩
    replace b1 := o1_next (Below.refl _ _) b1
    go_wp2_with fail
    refine (K2 _).mono ?_
    rintro e w2 ⟨rfl, b2⟩
    replace b2 := o1_next b1 b2
    have hc := c1_cells b2
    clear b1
    go_wp2_with fail
    refine (K3 _).mono ?_
    rintro e w3 ⟨rfl, b3⟩
    replace b3 := o1_next b2 b3
    clear b2 hc
    go_wp2_with fail
    go_ret
    exact ⟨rfl, o1_done b3⟩
theorem set_first {w : World} {n : Nat} {x y : Value} (h : w.cell? ⟨n, 0, none⟩ = some x) (h' : w.cell? ⟨n, 1, none⟩ = some y) (u v : Value) : ((w.setCell ⟨n, 0, none⟩ u).setCell ⟨n, 1, none⟩ v).cell? ⟨n, 0, none⟩ = some u := by
  rw [World.cell?_setCell_other _ _ _ _ (by simp)]; exact (set_two h h' u v).1
theorem o1_set {w w' : World} (h : Below w.heap.size w w') (u v : Value) : Below w.heap.size w ((w'.setCell ⟨w.heap.size, 0, none⟩ u).setCell ⟨w.heap.size, 1, none⟩ v) := (h.setCell (by simp) _).setCell (by simp) _
theorem box_drewN (w : World) (o : Obj) (n : Nat) : Below w.heap.size w ((w.alloc o).drewN n) := by
  have h := (Below.refl w.heap.size w).alloc (Nat.le_refl _) o
  exact ⟨h.os, h.tape, h.output, h.size, h.block⟩
theorem div_facts (H L : Nat) (hH : H < 18446744073709551616) (hL : L < 18446744073709551616) : ∃ H1 H2 L2 D : Nat, H % 10 = H1 ∧ H / 10 = H2 ∧ H1 < 10 ∧ H2 < 18446744073709551616 ∧ L2 < 18446744073709551616 ∧ D < 10 ∧ (H * 18446744073709551616 + L) / 10 = H2 * 18446744073709551616 + L2 ∧ (H * 18446744073709551616 + L) % 10 = D ∧ (H1 * 18446744073709551616 + L) / 10 = L2 ∧ (H1 * 18446744073709551616 + L) % 10 = D :=
  ⟨H % 10, H / 10, _, _, rfl, rfl, Nat.mod_lt _ (by decide), Nat.lt_of_le_of_lt (Nat.div_le_self _ _) hH, Nat.div_lt_of_lt_mul (by omega), Nat.mod_lt _ (by decide), quo_gen H 18446744073709551616 L 10 (by decide), rem_gen H 18446744073709551616 L 10, rfl, rfl⟩
theorem one_byte (w : World) (D : Nat) (hD : D < 10) : (convert 63 9 (.slice (some ⟨w.heap.size, 0, none⟩) 1 1)).run Try.prog (w.alloc (.cells #[.int .u8 (48 + (D : Int))] 5)) = .ok (.string ⟨#[UInt8.ofNat (48 + D)]⟩) (w.alloc (.cells #[.int .u8 (48 + (D : Int))] 5)) := by
  have hv : ((UInt8.ofNat (48 + D)).toNat : Int) = 48 + (D : Int) := by rw [dig_nat hD]; omega
  exact toStr' (l := [UInt8.ofNat (48 + D)]) (Holds.of_heap (alloc1 _ _) (by rw [← hv]; rfl) 1 1 rfl (Nat.le_refl _))
set_option maxHeartbeats 1600000 in
theorem refPrint_any (h l : Int) (w : World) (h0 : -9223372036854775808 ≤ h) (h1 : h < 9223372036854775808) (l0 : 0 ≤ l) (l1 : l < 18446744073709551616) : Calls Try.prog 27 #[.agg #[.int .i64 h, .int .u64 l]] w fun e w' => e = .returned (.string ⟨(printL (h * 18446744073709551616 + l)).toArray⟩) ∧ Below w.heap.size w w' := by
  obtain ⟨N, hN⟩ : ∃ N, N = h * 18446744073709551616 + l := ⟨_, rfl⟩
  obtain ⟨H, hH⟩ : ∃ H, H = N.natAbs / 18446744073709551616 := ⟨_, rfl⟩
  obtain ⟨L, hL⟩ : ∃ H, H = N.natAbs % 18446744073709551616 := ⟨_, rfl⟩
  have HI : H < 18446744073709551616 ∧ L < 18446744073709551616 ∧ digs (H * 18446744073709551616 + L) = digs N.natAbs := ⟨by omega, by omega, by rw [show H * 18446744073709551616 + L = N.natAbs by omega]⟩
  have HD0 := len39 (n := N.natAbs) (by omega)
  by_cases hn : h < 0
  · have T := fun w => turned_wrap h l w l0 l1
    rw [← hN] at T ⊢
    rw [print_neg (by omega)]
    have hs := w_split (-N)
    have e0 : IntKind.u64.wrap (IntKind.i64.wrap (hiW (-N))) = (H : Int) := by rw [IntKind.wrap_u64, IntKind.wrap_i64]; omega
    have e9 : loW (-N) = (L : Int) := by omega
    rw [e9] at T
    generalize IntKind.i64.wrap (hiW (-N)) = P at T e0
    clear hs e9 hH hL
    generalize digs N.natAbs = D0 at HI HD0 ⊢
    replace HI := Lib.hid HI
    replace HD0 := Lib.hid HD0
    clear hN
    go_enter Try.func27, Try.ntmps27
    go_wp2_with fail
    refine (T _).mono ?_
    rintro e w1 ⟨rfl, b1⟩
    replace b1 := o1_next (Below.refl _ _) b1
    have hc := c1_cells b1
    have hr1 := fun u => (set_two hc.1 hc.2.1 u u).1
    have hr2 := fun u v => (set_two hc.1 hc.2.1 u v).2
    have hr3 := fun u v => set_first hc.1 hc.2.1 u v
    have HBW := Lib.hid (o1_set (o1_done b1))
    clear b1 T
    go_wp2_with fail
    go_quiet (fail)
    go_wp2_with fail
    clear hr1 hr2 hr3 hc
    go_loopw [4, 5, 6] (fun hi lo s wr => ∃ (H L : Nat) (tail : List UInt8), hi = .int .u64 (H : Int) ∧ lo = .int .u64 (L : Int) ∧ s = .string ⟨tail.toArray⟩ ∧ Hid (H < 18446744073709551616 ∧ L < 18446744073709551616 ∧ digs (H * 18446744073709551616 + L) ++ tail = D0 ∧ Below w.heap.size w wr)) (fun hi lo _ _ => (intOf hi).toNat * 18446744073709551616 + (intOf lo).toNat)
    case atStart => exact ⟨H, L, [], rfl, rfl, rfl, Lib.hid ⟨HI.out.1, HI.out.2.1, by rw [List.append_nil]; exact HI.out.2.2, below_drewN (HBW.out _ _) _⟩⟩
    case round =>
      clear HI
      obtain ⟨H, L, tail, rfl, rfl, rfl, HR⟩ := hrel
      have htl : tail.length ≤ 39 := by
        have := congrArg List.length HR.out.2.2.1
        rw [List.length_append] at this
        have := HD0.out
        omega
      obtain ⟨H1, H2, L2, D, f1, f2, f3, hH, hq2, hr2, q1, q2, f4, f5⟩ := div_facts H L HR.out.1 HR.out.2.1
      have KD := fun w => divide_yes H1 L 10 w f3 HR.out.2.1 (by decide)
      rw [f4, f5] at KD
      have e1 : ((H : Int) % 10) = (H1 : Int) := by rw [← f1]; exact (Int.natCast_emod H 10).symm
      have e2 : ((H : Int) / 10) = (H2 : Int) := by rw [← f2]; exact (Int.natCast_ediv H 10).symm
      obtain ⟨N1, hN1⟩ : ∃ N, H * 18446744073709551616 + L = N := ⟨_, rfl⟩
      have HN := HR.out.2.2.1
      have HBel := Lib.hid HR.out.2.2.2
      rw [hN1] at q1 q2 HN
      have hlt : N1 / 10 ≠ 0 → N1 / 10 < N1 := by omega
      have HM := Lib.hid hN1
      clear hN1 HR f1 f2 f3 f4 f5
      have e3 : IntKind.u8.wrap (48 + (D : Int)) = 48 + (D : Int) := by rw [IntKind.wrap_u8]; omega
      have kc := fun w => one_byte w D hr2
      obtain ⟨c, hcc⟩ : ∃ c, UInt8.ofNat (48 + D) = c := ⟨_, rfl⟩
      rw [hcc] at kc
      have HQ := Lib.hid q1
      have hz : (N1 / 10 = 0 ∧ H2 = 0 ∧ L2 = 0) ∨ (N1 / 10 ≠ 0 ∧ H2 = 0 ∧ L2 ≠ 0) ∨ (N1 / 10 ≠ 0 ∧ H2 ≠ 0) := by omega
      rcases hz with ⟨z1, z2, z3⟩ | ⟨z1, z2, z3⟩ | ⟨z1, z2⟩
      · rw [digs_last N1 _ z1, q2, hcc] at HN
        have HE := Lib.hid HN
        have t0 : ((H2 : Int) == 0) = true := by rw [z2]; rfl
        have t1 : ((L2 : Int) == 0) = true := by rw [z3]; rfl
        clear z1 z2 z3 q1 q2 HN hlt hcc
        go_wp2_with fail
        refine (KD _).mono ?_
        rintro e w' ⟨rfl, rfl⟩
        clear KD
        go_wp2_with fail
        go_ret
        exact ⟨ret_str (by rw [← HE.out]; exact (by rw [str_app [c] tail]; exact str_app [45] _)), HBel.out.trans ((Below.refl _ _).alloc HBel.out.size _)⟩
      · rw [digs_cut N1 _ z1, q2, hcc] at HN
        have HE := Lib.hid HN
        have HL := Lib.hid (hlt z1)
        have t0 : ((H2 : Int) == 0) = true := by rw [z2]; rfl
        have t1 : ((L2 : Int) == 0) = false := by rw [beq_eq_false_iff_ne]; omega
        clear z1 z2 z3 q1 q2 HN hlt hcc
        go_wp2_with fail
        refine (KD _).mono ?_
        rintro e w' ⟨rfl, rfl⟩
        clear KD
        go_wp2_with fail
        go_roundw
        case rel => exact ⟨H2, L2, c :: tail, rfl, rfl, congrArg Value.string (str_app [c] tail), Lib.hid ⟨hH, hq2, by rw [← HQ.out]; exact HE.out, HBel.out.trans ((Below.refl _ _).alloc HBel.out.size _)⟩⟩
        case measure =>
          have a1 := HQ.out
          have a2 := HL.out
          have a3 := HM.out
          simp only [intOf, Int.toNat_natCast]
          omega
      · rw [digs_cut N1 _ z1, q2, hcc] at HN
        have HE := Lib.hid HN
        have HL := Lib.hid (hlt z1)
        have t0 : ((H2 : Int) == 0) = false := by rw [beq_eq_false_iff_ne]; omega
        clear z1 z2 q1 q2 HN hlt hcc
        go_wp2_with fail
        refine (KD _).mono ?_
        rintro e w' ⟨rfl, rfl⟩
        clear KD
        go_wp2_with fail
        go_roundw
        case rel => exact ⟨H2, L2, c :: tail, rfl, rfl, congrArg Value.string (str_app [c] tail), Lib.hid ⟨hH, hq2, by rw [← HQ.out]; exact HE.out, HBel.out.trans ((Below.refl _ _).alloc HBel.out.size _)⟩⟩
        case measure =>
          have a1 := HQ.out
          have a2 := HL.out
          have a3 := HM.out
          simp only [intOf, Int.toNat_natCast]
          omega
  · rw [← hN, print_pos (by omega)]
    have e0 : IntKind.u64.wrap h = (H : Int) := by rw [IntKind.wrap_u64]; omega
    have e9 : l = (L : Int) := by omega
    subst e9
    clear hH hL l0 l1
    generalize digs N.natAbs = D0 at HI HD0 ⊢
    replace HI := Lib.hid HI
    replace HD0 := Lib.hid HD0
    clear hN
    go_enter Try.func27, Try.ntmps27
    go_wp2_with fail
    go_quiet (fail)
    go_wp2_with fail
    go_loopw [4, 5, 6] (fun hi lo s wr => ∃ (H L : Nat) (tail : List UInt8), hi = .int .u64 (H : Int) ∧ lo = .int .u64 (L : Int) ∧ s = .string ⟨tail.toArray⟩ ∧ Hid (H < 18446744073709551616 ∧ L < 18446744073709551616 ∧ digs (H * 18446744073709551616 + L) ++ tail = D0 ∧ Below w.heap.size w wr)) (fun hi lo _ _ => (intOf hi).toNat * 18446744073709551616 + (intOf lo).toNat)
    case atStart => exact ⟨H, L, [], rfl, rfl, rfl, Lib.hid ⟨HI.out.1, HI.out.2.1, by rw [List.append_nil]; exact HI.out.2.2, box_drewN _ _ _⟩⟩
    case round =>
      clear HI
      obtain ⟨H, L, tail, rfl, rfl, rfl, HR⟩ := hrel
      have htl : tail.length ≤ 39 := by
        have := congrArg List.length HR.out.2.2.1
        rw [List.length_append] at this
        have := HD0.out
        omega
      obtain ⟨H1, H2, L2, D, f1, f2, f3, hH, hq2, hr2, q1, q2, f4, f5⟩ := div_facts H L HR.out.1 HR.out.2.1
      have KD := fun w => divide_yes H1 L 10 w f3 HR.out.2.1 (by decide)
      rw [f4, f5] at KD
      have e1 : ((H : Int) % 10) = (H1 : Int) := by rw [← f1]; exact (Int.natCast_emod H 10).symm
      have e2 : ((H : Int) / 10) = (H2 : Int) := by rw [← f2]; exact (Int.natCast_ediv H 10).symm
      obtain ⟨N1, hN1⟩ : ∃ N, H * 18446744073709551616 + L = N := ⟨_, rfl⟩
      have HN := HR.out.2.2.1
      have HBel := Lib.hid HR.out.2.2.2
      rw [hN1] at q1 q2 HN
      have hlt : N1 / 10 ≠ 0 → N1 / 10 < N1 := by omega
      have HM := Lib.hid hN1
      clear hN1 HR f1 f2 f3 f4 f5
      have e3 : IntKind.u8.wrap (48 + (D : Int)) = 48 + (D : Int) := by rw [IntKind.wrap_u8]; omega
      have kc := fun w => one_byte w D hr2
      obtain ⟨c, hcc⟩ : ∃ c, UInt8.ofNat (48 + D) = c := ⟨_, rfl⟩
      rw [hcc] at kc
      have HQ := Lib.hid q1
      have hz : (N1 / 10 = 0 ∧ H2 = 0 ∧ L2 = 0) ∨ (N1 / 10 ≠ 0 ∧ H2 = 0 ∧ L2 ≠ 0) ∨ (N1 / 10 ≠ 0 ∧ H2 ≠ 0) := by omega
      rcases hz with ⟨z1, z2, z3⟩ | ⟨z1, z2, z3⟩ | ⟨z1, z2⟩
      · rw [digs_last N1 _ z1, q2, hcc] at HN
        have HE := Lib.hid HN
        have t0 : ((H2 : Int) == 0) = true := by rw [z2]; rfl
        have t1 : ((L2 : Int) == 0) = true := by rw [z3]; rfl
        clear z1 z2 z3 q1 q2 HN hlt hcc
        go_wp2_with fail
        refine (KD _).mono ?_
        rintro e w' ⟨rfl, rfl⟩
        clear KD
        go_wp2_with fail
        go_ret
        exact ⟨ret_str (by rw [← HE.out]; exact (by rw [str_app [c] tail]; exact str_app [] _)), HBel.out.trans ((Below.refl _ _).alloc HBel.out.size _)⟩
      · rw [digs_cut N1 _ z1, q2, hcc] at HN
        have HE := Lib.hid HN
        have HL := Lib.hid (hlt z1)
        have t0 : ((H2 : Int) == 0) = true := by rw [z2]; rfl
        have t1 : ((L2 : Int) == 0) = false := by rw [beq_eq_false_iff_ne]; omega
        clear z1 z2 z3 q1 q2 HN hlt hcc
        go_wp2_with fail
        refine (KD _).mono ?_
        rintro e w' ⟨rfl, rfl⟩
        clear KD
        go_wp2_with fail
        go_roundw
        case rel => exact ⟨H2, L2, c :: tail, rfl, rfl, congrArg Value.string (str_app [c] tail), Lib.hid ⟨hH, hq2, by rw [← HQ.out]; exact HE.out, HBel.out.trans ((Below.refl _ _).alloc HBel.out.size _)⟩⟩
        case measure =>
          have a1 := HQ.out
          have a2 := HL.out
          have a3 := HM.out
          simp only [intOf, Int.toNat_natCast]
          omega
      · rw [digs_cut N1 _ z1, q2, hcc] at HN
        have HE := Lib.hid HN
        have HL := Lib.hid (hlt z1)
        have t0 : ((H2 : Int) == 0) = false := by rw [beq_eq_false_iff_ne]; omega
        clear z1 z2 q1 q2 HN hlt hcc
        go_wp2_with fail
        refine (KD _).mono ?_
        rintro e w' ⟨rfl, rfl⟩
        clear KD
        go_wp2_with fail
        go_roundw
        case rel => exact ⟨H2, L2, c :: tail, rfl, rfl, congrArg Value.string (str_app [c] tail), Lib.hid ⟨hH, hq2, by rw [← HQ.out]; exact HE.out, HBel.out.trans ((Below.refl _ _).alloc HBel.out.size _)⟩⟩
        case measure =>
          have a1 := HQ.out
          have a2 := HL.out
          have a3 := HM.out
          simp only [intOf, Int.toNat_natCast]
          omega
end Go.Proofs.Ytnljlbdecknbpaa
