/- Contract of the reference's Parse. Conditions: none. -/
import Derived.Test.YtacbijgnmhkgoaaDoorOrderH
import Derived.Test.YtacbijgnmhkgoaaDoorOrderJ
import Derived.Test.YtacbijgnmhkgoaaDoorOrderK
set_option maxRecDepth 100000
namespace Go.Proofs.YtacbijgnmhkgoaaDoor
open Go.RowKit

/-- the digit that is found among the first k -/
def dv (c : UInt8) (k : Nat) : Nat := if hexV c < k then hexV c else 99
theorem dv_zero (c : UInt8) : dv c 0 = 99 := rfl
theorem dv_hit (c : UInt8) (k : Nat) (h : k = hexV c) : dv c (k + 1) = k := by unfold dv; rw [if_pos (by omega), h]
theorem dv_miss (c : UInt8) (k : Nat) (h : k ≠ hexV c) : dv c (k + 1) = dv c k := by
  unfold dv
  by_cases h2 : hexV c < k
  · rw [if_pos (by omega), if_pos h2]
  · rw [if_neg (by omega), if_neg h2]
theorem dv_all (c : UInt8) : dv c 16 = hexV c := by
  unfold dv
  rcases hexV_le c with h | h
  · rw [if_pos h]
  · rw [if_neg (by omega), h]
theorem cast_eq (a c : UInt8) : ((a.toNat : Int) == (c.toNat : Int)) = decide (a = c) := by
  rw [Bool.eq_iff_iff, beq_iff_eq, decide_eq_true_iff]
  constructor
  · intro h; exact UInt8.toNat_inj.1 (by omega)
  · intro h; rw [h]
theorem index_run (s : ByteArray) (i : Nat) (hi : i < s.data.toList.length) (w : World) : (Instr.index 9 (.string s) (.int .i64 (i : Int))).run Tryd.prog w = .ok (.int .u8 ((s.data.toList[i]).toNat : Int)) w := by
  have hs : i < s.size := by rw [Lib.size_eq]; exact hi
  rw [run_index_string w 9 s .i64 _ Tryd.underlying9, dif_pos ⟨by omega, by omega⟩]
  rfl
theorem arr_run (x y z : Int) (w : World) :
    (Instr.index 45 (.agg #[.int .u64 x, .int .u64 y, .int .u64 z]) (.int .i64 0)).run Tryd.prog w = .ok (.int .u64 x) w ∧
    (Instr.index 45 (.agg #[.int .u64 x, .int .u64 y, .int .u64 z]) (.int .i64 1)).run Tryd.prog w = .ok (.int .u64 y) w ∧
    (Instr.index 45 (.agg #[.int .u64 x, .int .u64 y, .int .u64 z]) (.int .i64 2)).run Tryd.prog w = .ok (.int .u64 z) w := ⟨by kernel_rfl, by kernel_rfl, by kernel_rfl⟩
theorem ref_three (w : World) :
    (Calls Tryd.prog 19 #[.int .i64 9221120237041090560] w fun e w' => e = .returned (.string ⟨#[78, 65, 78]⟩) ∧ Below w.heap.size w w') ∧
    (Calls Tryd.prog 19 #[.int .i64 9218868437227405312] w fun e w' => e = .returned (.string ⟨#[73, 78, 70]⟩) ∧ Below w.heap.size w w') ∧
    (Calls Tryd.prog 19 #[.int .i64 (iw 18442240474082181120)] w fun e w' => e = .returned (.string ⟨#[45, 73, 78, 70]⟩) ∧ Below w.heap.size w w') := by
  have h1 := refPrint_any 9221120237041090560 (by decide) w
  have h2 := refPrint_any 9218868437227405312 (by decide) w
  have h3 := refPrint_any 18442240474082181120 (by decide) w
  rw [pr_nan (by decide)] at h1
  rw [pr_inf] at h2
  rw [pr_minf] at h3
  exact ⟨h1, h2, h3⟩
set_option maxHeartbeats 3200000 in
theorem refParse_any (s : ByteArray) (w : World) : Calls Tryd.prog 22 #[.string s] w (ParsePost s.data.toList w) := by
  have hl := str_list s
  have hsz : s.size = s.data.toList.length := Lib.size_eq s
  have hix := index_run s
  obtain ⟨l, hl2⟩ : ∃ l, s.data.toList = l := ⟨_, rfl⟩
  have a0 := fun w => (arr_run 9221120237041090560 9218868437227405312 18442240474082181120 w).1
  have a1 := fun w => (arr_run 9221120237041090560 9218868437227405312 18442240474082181120 w).2.1
  have a2 := fun w => (arr_run 9221120237041090560 9218868437227405312 18442240474082181120 w).2.2
  have P0 := fun w => (ref_three w).1
  have P1 := fun w => (ref_three w).2.1
  have P2 := fun w => (ref_three w).2.2
  have h2 : IntKind.i64.wrap 18442240474082181120 = iw 18442240474082181120 := iw_i64 18442240474082181120 (by decide)
  have HIX : Hid (∀ (i : Nat) (hi : i < l.length) (w : World), (Instr.index 9 (.string s) (.int .i64 (i : Int))).run Tryd.prog w = .ok (.int .u8 ((l[i]).toNat : Int)) w) := Lib.hid (by rw [← hl2]; exact hix)
  rw [hl2] at hl hsz ⊢
  have HS := Lib.hid hsz
  clear hl2 hix hsz
  go_enter Tryd.func22, Tryd.ntmps22
  go_wp2_with fail
  go_loopw [11] (fun i wr => ∃ k : Nat, k ≤ 3 ∧ i = .int .i64 (k : Int) ∧ Hid (Below w.heap.size w wr ∧ (0 < k → l ≠ [78, 65, 78]) ∧ (1 < k → l ≠ [73, 78, 70]) ∧ (2 < k → l ≠ [45, 73, 78, 70]))) (fun i _ => 3 - (intOf i).toNat)
  case atStart => exact ⟨0, by omega, rfl, Lib.hid ⟨Below.refl _ _, by omega, by omega, by omega⟩⟩
  case round =>
    obtain ⟨k, hk, rfl, HR⟩ := hrel
    obtain ⟨wo, rfl⟩ : ∃ wo : World, wo = wr := ⟨_, rfl⟩
    rcases (by omega : k = 0 ∨ k = 1 ∨ k = 2 ∨ k = 3) with rfl | rfl | rfl | rfl
    · by_cases e : l = [78, 65, 78]
      · have t1 : ([78, 65, 78] == l) = true := by rw [e]; rfl
        have HP : Hid (ParseP l 9221120237041090560 true) := Lib.hid (by rw [e]; exact parseP_yes (by decide) reads_nan (pr_nan (by decide)))
        clear a1 a2 P1 P2 e
        go_wp2_with fail
        refine (P0 _).mono ?_
        rintro e w1 ⟨rfl, b1⟩
        have HB := Lib.hid (HR.out.1.trans (b1.mono HR.out.1.size))
        clear b1
        go_wp2_with fail
        go_ret2
        exact ⟨9221120237041090560, true, rfl, HP.out, HB.out⟩
      · have t1 : ([78, 65, 78] == l) = false := by rw [beq_eq_false_iff_ne]; exact fun h => e h.symm
        have HE := Lib.hid e
        clear a1 a2 P1 P2 e
        go_wp2_with fail
        refine (P0 _).mono ?_
        rintro e w1 ⟨rfl, b1⟩
        have HB := Lib.hid (HR.out.1.trans (b1.mono HR.out.1.size))
        clear b1
        go_wp2_with fail
        go_roundw
        case rel => exact ⟨1, by omega, rfl, Lib.hid ⟨HB.out, fun _ => HE.out, by omega, by omega⟩⟩
        case measure => simp [intOf]
    · by_cases e : l = [73, 78, 70]
      · have t1 : ([73, 78, 70] == l) = true := by rw [e]; rfl
        have HP : Hid (ParseP l 9218868437227405312 true) := Lib.hid (by rw [e]; exact parseP_yes (by decide) reads_inf pr_inf)
        clear a0 a2 P0 P2 e
        go_wp2_with fail
        refine (P1 _).mono ?_
        rintro e w1 ⟨rfl, b1⟩
        have HB := Lib.hid (HR.out.1.trans (b1.mono HR.out.1.size))
        clear b1
        go_wp2_with fail
        go_ret2
        exact ⟨9218868437227405312, true, rfl, HP.out, HB.out⟩
      · have t1 : ([73, 78, 70] == l) = false := by rw [beq_eq_false_iff_ne]; exact fun h => e h.symm
        have HE := Lib.hid e
        clear a0 a2 P0 P2 e
        go_wp2_with fail
        refine (P1 _).mono ?_
        rintro e w1 ⟨rfl, b1⟩
        have HB := Lib.hid (HR.out.1.trans (b1.mono HR.out.1.size))
        clear b1
        go_wp2_with fail
        go_roundw
        case rel => exact ⟨2, by omega, rfl, Lib.hid ⟨HB.out, fun _ => HR.out.2.1 (by omega), fun _ => HE.out, by omega⟩⟩
        case measure => simp [intOf]
    · by_cases e : l = [45, 73, 78, 70]
      · have t1 : ([45, 73, 78, 70] == l) = true := by rw [e]; rfl
        have HP : Hid (ParseP l 18442240474082181120 true) := Lib.hid (by rw [e]; exact parseP_yes (by decide) reads_minf pr_minf)
        clear a0 a1 P0 P1 e
        go_wp2_with fail
        refine (P2 _).mono ?_
        rintro e w1 ⟨rfl, b1⟩
        have HB := Lib.hid (HR.out.1.trans (b1.mono HR.out.1.size))
        clear b1
        go_wp2_with fail
        go_ret2
        exact ⟨18442240474082181120, true, rfl, HP.out, HB.out⟩
      · have t1 : ([45, 73, 78, 70] == l) = false := by rw [beq_eq_false_iff_ne]; exact fun h => e h.symm
        have HE := Lib.hid e
        clear a0 a1 P0 P1 e
        go_wp2_with fail
        refine (P2 _).mono ?_
        rintro e w1 ⟨rfl, b1⟩
        have HB := Lib.hid (HR.out.1.trans (b1.mono HR.out.1.size))
        clear b1
        go_wp2_with fail
        go_roundw
        case rel => exact ⟨3, by omega, rfl, Lib.hid ⟨HB.out, fun _ => HR.out.2.1 (by omega), fun _ => HR.out.2.2.1 (by omega), fun _ => HE.out⟩⟩
        case measure => simp [intOf]
    · have N1 : Hid (l ≠ [78, 65, 78] ∧ l ≠ [73, 78, 70] ∧ l ≠ [45, 73, 78, 70]) := Lib.hid ⟨HR.out.2.1 (by omega), HR.out.2.2.1 (by omega), HR.out.2.2.2 (by omega)⟩
      have HB := Lib.hid HR.out.1
      clear a0 a1 a2 P0 P1 P2 h2 HR
      by_cases h18 : l.length = 18
      · have t18 : s.size = 18 := by rw [HS.out]; exact h18
        have H18 := Lib.hid h18
        have hB16 : (l.drop 2).length = 16 := by rw [List.length_drop]; omega
        have HB16 := Lib.hid hB16
        clear h18 hB16
        go_wp2_with fail
        go_loopw [6, 7] (fun u i wr => ∃ (n A : Nat) (a : Int), n ≤ 16 ∧ i = .int .i64 ((n : Int) + 2) ∧ u = .int .u64 a ∧ Hid (a = (A : Int) ∧ A < 18446744073709551616 ∧ SoHex (l.drop 2) n A ∧ Below w.heap.size w wr)) (fun _ i _ => 18 - (intOf i).toNat)
        case atStart => exact ⟨0, 0, 0, by omega, rfl, rfl, Lib.hid ⟨rfl, by omega, soHex_start _, HB.out⟩⟩
        case round =>
          clear HB
          obtain ⟨n, A, a, hn, rfl, rfl, HR⟩ := hrel
          obtain ⟨w2, rfl⟩ : ∃ w2 : World, w2 = wr := ⟨_, rfl⟩
          by_cases hn2 : n < 16
          · have hnl : n < (l.drop 2).length := by rw [HB16.out]; exact hn2
            have hn3 : n + 2 < l.length := by rw [H18.out]; omega
            have hcx : (l.drop 2)[n]'hnl = l[n + 2]'hn3 := by
              rw [List.getElem_drop]; congr 1; omega
            have hxr := HIX.out (n + 2) hn3
            have hno := noHex_byte HR.out.2.2.1 hnl
            have hnx := fun d => soHex_wrap (d := d) HR.out.2.2.1 hnl
            rw [hcx] at hno hnx
            generalize l[n + 2]'hn3 = c at hxr hno hnx
            rw [show ((n + 2 : Nat) : Int) = (n : Int) + 2 by omega] at hxr
            have HNO := Lib.hid hno
            have HNX := Lib.hid hnx
            have HBW := Lib.hid HR.out.2.2.2
            have HA := Lib.hid (And.intro HR.out.1 HR.out.2.1)
            clear hno hnx hcx HR
            have tn : decide ((n : Int) + 2 < 18) = true := decide_eq_true (by omega)
            go_wp2_with fail
            go_loopw [8, 9] (fun d k wr => ∃ j : Nat, j ≤ 16 ∧ k = .int .u64 (j : Int) ∧ d = .int .u64 ((dv c j : Nat) : Int) ∧ Hid (Below w.heap.size w wr)) (fun _ k _ => 16 - (intOf k).toNat)
            case atStart => exact ⟨0, by omega, rfl, rfl, HBW⟩
            case round =>
              clear HBW
              obtain ⟨j, hj, rfl, rfl, HB3⟩ := hrel
              obtain ⟨w3, rfl⟩ : ∃ w3 : World, w3 = wr := ⟨_, rfl⟩
              by_cases hj2 : j < 16
              · have tj : decide ((j : Int) < 16) = true := decide_eq_true (by omega)
                have K := fun w => digit_any j hj2 w
                have he := cast_eq (hexd j) c
                by_cases hjc : j = hexV c
                · rw [decide_eq_true ((hexd_eq j hj2 c).2 hjc)] at he
                  have hd := dv_hit c j hjc
                  clear hjc
                  go_wp2_with fail
                  go_quiet ((exact Calls.quiet_of_same ((K _).mono fun _ _ ⟨h, hw⟩ => ⟨h, hw.symm⟩)))
                  go_wp2_with fail
                  go_roundw
                  case rel => exact ⟨j + 1, by omega, by go_num, by rw [hd], Lib.hid (drew_below HB3.out _)⟩
                  case measure => simp [intOf]; omega
                · rw [decide_eq_false (fun h => hjc ((hexd_eq j hj2 c).1 h))] at he
                  have hd := dv_miss c j hjc
                  clear hjc
                  go_wp2_with fail
                  go_quiet ((exact Calls.quiet_of_same ((K _).mono fun _ _ ⟨h, hw⟩ => ⟨h, hw.symm⟩)))
                  go_wp2_with fail
                  go_roundw
                  case rel => exact ⟨j + 1, by omega, by go_num, by rw [hd], Lib.hid (drew_below HB3.out _)⟩
                  case measure => simp [intOf]; omega
              · obtain rfl : j = 16 := by omega
                rw [dv_all]
                have tj : decide (((16 : Nat) : Int) < 16) = false := decide_eq_false (by omega)
                obtain ⟨d, hd⟩ : ∃ d, hexV c = d := ⟨_, rfl⟩
                rw [hd]
                by_cases h99 : d = 99
                · have t99 : ((d : Int) == 99) = true := by rw [h99]; rfl
                  have HP : Hid (ParseP l 0 false) := Lib.hid (parseP_no (no_drop N1.out.1 N1.out.2.1 N1.out.2.2 (HNO.out (fun v hv e => by
                    have := hexV_d v hv
                    rw [← e, hd] at this
                    omega))))
                  clear hd h99
                  go_wp2_with fail
                  go_ret2
                  exact ⟨0, false, rfl, HP.out, HB3.out⟩
                · have t99 : ((d : Int) == 99) = false := neq_cast (b := 99) h99
                  have hd16 : d < 16 := by rw [← hd]; exact (hexd_V c (by rw [hd]; exact h99)).1
                  have HNX2 := Lib.hid (HNX.out d (fun v hv e => by
                    have := hexV_d v hv
                    rw [← e, hd] at this
                    exact this.symm))
                  obtain ⟨B, hB⟩ : ∃ B, 16 * A % 18446744073709551616 = B := ⟨_, rfl⟩
                  have hB16 : ∃ x, B = 16 * x := ⟨A % 1152921504606846976, by omega⟩
                  have hBb : B < 18446744073709551616 := by omega
                  have hsh : IntKind.u64.wrap (a * 16) = (B : Int) := by rw [IntKind.wrap_u64, HA.out.1]; omega
                  have hor : bits .or .u64 (B : Int) (d : Int) = ((B + d : Nat) : Int) := by
                    rw [or_u64 B d hBb (by omega)]
                    obtain ⟨x, hx⟩ := hB16
                    rw [hx, or_low x d hd16]
                  rw [hB] at HNX2
                  have HN2 : Hid (((B + d : Nat) : Int) = ((B + d : Nat) : Int) ∧ B + d < 18446744073709551616 ∧ SoHex (l.drop 2) (n + 1) (B + d) ∧ Below w.heap.size w w3) := Lib.hid ⟨rfl, by obtain ⟨x, hx⟩ := hB16; omega, HNX2.out, HB3.out⟩
                  clear hd hd16 h99 hB hB16 hBb
                  go_wp2_with fail
                  go_roundw
                  case rel => exact ⟨n + 1, B + d, _, by omega, by go_num, rfl, HN2⟩
                  case measure => simp [intOf]; omega
          · obtain rfl : n = 16 := by omega
            have tn : decide (((16 : Nat) : Int) + 2 < 18) = false := decide_eq_false (by omega)
            have hra : ReadsAs l A := reads_drop N1.out.1 N1.out.2.1 N1.out.2.2 (fun c hc e => soHex_end (by rw [HB16.out]; exact HR.out.2.2.1) hc e)
            have hA := HR.out.2.1
            have ha := HR.out.1
            have HBW := Lib.hid HR.out.2.2.2
            have hw := iw_i64 A hA
            have K := fun w => refPrint_any A hA w
            have ht := toList_mk (prW A)
            subst ha
            clear HR
            by_cases e2 : prW A = l
            · have t1 : (prW A == l) = true := by rw [e2]; simp
              have t2 : (prW A != l) = false := by rw [e2]; simp
              have HP := Lib.hid (parseP_yes hA hra e2)
              generalize prW A = P at K ht t1 t2
              clear hA hra e2
              go_wp2_with fail
              refine (K _).mono ?_
              rintro e w4 ⟨rfl, b2⟩
              have HB2 := Lib.hid (HBW.out.trans (b2.mono HBW.out.size))
              clear b2 K
              go_wp2_with fail
              go_ret2
              exact ⟨A, true, rfl, HP.out, HB2.out⟩
            · have t1 : (prW A == l) = false := eq_false e2
              have t2 : (prW A != l) = true := by rw [bne_iff_ne]; exact e2
              have HP := Lib.hid (parseP_no (noFloat_of hra e2))
              generalize prW A = P at K ht t1 t2
              clear hA hra e2
              go_wp2_with fail
              refine (K _).mono ?_
              rintro e w4 ⟨rfl, b2⟩
              have HB2 := Lib.hid (HBW.out.trans (b2.mono HBW.out.size))
              clear b2 K
              go_wp2_with fail
              go_ret2
              exact ⟨0, false, rfl, HP.out, HB2.out⟩
      · have t18 : ((s.size : Int) != 18) = true := ne_cast (b := 18) (by rw [HS.out]; exact h18)
        have HP : Hid (ParseP l 0 false) := Lib.hid (parseP_no (no_len N1.out.1 N1.out.2.1 N1.out.2.2 h18))
        clear h18
        go_wp2_with fail
        go_ret2
        exact ⟨0, false, rfl, HP.out, HB.out⟩
end Go.Proofs.YtacbijgnmhkgoaaDoor
