/- Contract of talusref02.Get: the number that bytes begin with. Conditions: none. -/
import Derived.Test.YtehfoaicohnpfaaGreatDoorCodecGet
set_option maxRecDepth 100000
namespace Go.Proofs.YtehfoaicohnpfaaGreatDoor
open Go.RowKit Go.Maps Go.Sort

set_option maxHeartbeats 3200000 in
theorem refGet_any {w : World} {v : Value} {l : List UInt8} (h : Holds w v (u8s l)) (hx : l.length ≤ 17592186044000) :
    Calls Tryz.prog 45 #[v] w fun e w' => e = .returned (.tuple #[.int .u64 ((getN l).1 : Int), .int .i64 ((getN l).2 : Int)]) ∧ w = w' := by
  obtain ⟨a, c, hv, hc⟩ := h.form
  rw [u8s_len] at hv hc
  subst hv
  have H := Lib.hid h
  generalize hn : l.length = n at *
  have HN := Lib.hid hn
  clear h hn
  go_enter Tryz.func45, Tryz.ntmps45
  go_wp2_with fail
  go_loop [4, 5] (fun u i => ∃ (k U : Nat), k ≤ 10 ∧ k ≤ n ∧ i = .int .i64 k ∧ u = .int .u64 U ∧ Hid (U < 2 ^ (7 * k) ∧ getN l = getAt (l.drop k) k U)) (fun _ i => 10 - (intOf i).toNat)
  case atStart => exact ⟨0, 0, by omega, by omega, rfl, rfl, by simp, rfl⟩
  case round =>
    obtain ⟨k, U, hk, hkn, rfl, rfl, HR⟩ := hrel
    by_cases hlt : k < 10 ∧ k < n
    · obtain ⟨h10, hn⟩ := hlt
      have hkl : k < l.length := by rw [HN.out]; exact hn
      obtain ⟨ad, rfl⟩ := H.out.ptr (by omega)
      have hc : w.cell? (ad.add k) = some (.int .u8 (l[k].toNat : Int)) := H.out.cell (by simp [u8s, hkl])
      have hx := l[k].toNat_lt
      have HG := Lib.hid HR.out.2
      rw [drop_at hkl] at HG
      by_cases hbad : k = 9 ∧ 1 < l[k].toNat
      · obtain ⟨h9, hb2⟩ := hbad
        have HE : Hid (getN l = (0, 0)) := Lib.hid (by rw [HG.out]; subst h9; exact get_bad _ _ _ (by omega))
        have tE : ((k : Int) == 9) = true := by rw [beq_iff_eq]; omega
        clear HG h9
        generalize l[k].toNat = x at *
        go_wp2_with fail
        go_ret2
        rw [HE.out]
        exact ⟨rfl, rfl⟩
      · obtain ⟨g1, _, _, g4⟩ := get_arith k (l[k].toNat % 128) U h10 (by omega) HR.out.1 (by omega)
        have g5 : U + l[k].toNat % 128 * 2 ^ (7 * k) < 18446744073709551616 := by
          by_cases h9 : k = 9
          · subst h9
            have h1 : l[9].toNat % 128 * 2 ^ (7 * 9) ≤ 1 * 2 ^ (7 * 9) := Nat.mul_le_mul_right _ (by omega)
            have h2 := HR.out.1
            omega
          · have h1 : 2 ^ (7 * (k + 1)) ≤ 2 ^ 63 := Nat.pow_le_pow_right (by omega) (by omega)
            omega
        have G4 := Lib.hid g4
        have e7 : ((l[k].toNat % 128 : Nat) : Int) = (l[k].toNat : Int) % 128 := by omega
        rw [e7] at g1
        clear g4 e7
        by_cases h128 : l[k].toNat < 128
        · by_cases h0 : 0 < k ∧ l[k].toNat = 0
          · obtain ⟨hk0, h0⟩ := h0
            have HE := Lib.hid (HG.out.trans (get_zero _ _ _ _ hk0 h10 h0))
            have t0 : ((l[k].toNat : Int) == 0) = true := by rw [beq_iff_eq]; omega
            have h1 : l[k].toNat ≤ 1 := by omega
            by_cases h9 : k = 9
            · have t9 : ((k : Int) == 9) = true := by rw [beq_iff_eq]; omega
              clear HG h0 h9 hbad
              generalize l[k].toNat % 128 * 2 ^ (7 * k) = D at *
              generalize l[k].toNat = x at *
              go_wp2_with fail
              go_ret2
              rw [HE.out]
              exact ⟨rfl, rfl⟩
            · have t9 : ((k : Int) == 9) = false := by rw [beq_eq_false_iff_ne]; omega
              clear HG h0 h9 hbad
              generalize l[k].toNat % 128 * 2 ^ (7 * k) = D at *
              generalize l[k].toNat = x at *
              go_wp2_with fail
              go_ret2
              rw [HE.out]
              exact ⟨rfl, rfl⟩
          · have HE := Lib.hid (HG.out.trans (get_last _ _ _ _ h10 h0 hbad h128))
            rw [show l[k].toNat % 128 = l[k].toNat by omega] at *
            by_cases h9 : k = 9
            · have t9 : ((k : Int) == 9) = true := by rw [beq_iff_eq]; omega
              have h1 : decide ((1 : Int) < (l[k].toNat : Int)) = false := decide_eq_false (by omega)
              have hk0 : 0 < k := by omega
              have t0 : ((l[k].toNat : Int) == 0) = false := by rw [beq_eq_false_iff_ne]; omega
              clear HG h0 h9 hbad
              generalize l[k].toNat * 2 ^ (7 * k) = D at *
              generalize l[k].toNat = x at *
              go_wp2_with fail
              go_ret2
              rw [HE.out]
              exact ⟨rfl, rfl⟩
            · have t9 : ((k : Int) == 9) = false := by rw [beq_eq_false_iff_ne]; omega
              by_cases hk0 : 0 < k
              · have t0 : ((l[k].toNat : Int) == 0) = false := by rw [beq_eq_false_iff_ne]; omega
                clear HG h0 h9 hbad
                generalize l[k].toNat * 2 ^ (7 * k) = D at *
                generalize l[k].toNat = x at *
                go_wp2_with fail
                go_ret2
                rw [HE.out]
                exact ⟨rfl, rfl⟩
              · clear HG h0 h9 hbad
                generalize l[k].toNat * 2 ^ (7 * k) = D at *
                generalize l[k].toNat = x at *
                go_wp2_with fail
                go_ret2
                rw [HE.out]
                exact ⟨rfl, rfl⟩
        · have HE := Lib.hid (HG.out.trans (get_more _ _ _ _ h10 (by omega)))
          rw [show l[k].toNat - 128 = l[k].toNat % 128 by omega] at HE
          have t9 : ((k : Int) == 9) = false := by rw [beq_eq_false_iff_ne]; omega
          have h9 : k ≤ 8 := by omega
          clear HG hbad
          generalize l[k].toNat % 128 * 2 ^ (7 * k) = D at *
          generalize l[k].toNat = x at *
          go_wp2_with fail
          go_round
          case rel => exact ⟨k + 1, U + D, by omega, by omega, by go_num, by go_num, G4.out, HE.out⟩
          case measure => simp [intOf]; omega
    · have HE : Hid (getN l = (0, 0)) := Lib.hid (by
        rw [HR.out.2]
        by_cases h10 : k = 10
        · subst h10; exact get_ten _ _
        · rw [List.drop_eq_nil_of_le (by rw [HN.out]; omega)]; rfl)
      by_cases hkn : k < n
      · have t : decide ((k : Int) < 10) = false := decide_eq_false (by omega)
        go_wp2_with fail
        go_ret2
        rw [HE.out]
        exact ⟨rfl, rfl⟩
      · have t : decide (k < n) = false := decide_eq_false (by omega)
        go_wp2_with fail
        go_ret2
        rw [HE.out]
        exact ⟨rfl, rfl⟩
end Go.Proofs.YtehfoaicohnpfaaGreatDoor
