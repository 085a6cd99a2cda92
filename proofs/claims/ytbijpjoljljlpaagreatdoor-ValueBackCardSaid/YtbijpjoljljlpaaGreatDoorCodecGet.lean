/- Contracts of codec.Get and talusref02.Get: the number that bytes begin with. Conditions: none. -/
import Derived.Test.YtbijpjoljljlpaaGreatDoorCodecPut
set_option maxRecDepth 100000
namespace Go.Proofs.YtbijpjoljljlpaaGreatDoor
open Go.RowKit Go.Maps Go.Sort

/-- the number that bytes begin with, i digits being read -/
def getAt : List UInt8 → Nat → Nat → Nat × Nat
  | [], _, _ => (0, 0)
  | c :: r, i, u => if 10 ≤ i then (0, 0) else if i = 9 ∧ 1 < c.toNat then (0, 0) else
    if c.toNat < 128 then (if 0 < i ∧ c.toNat = 0 then (0, 0) else (u + c.toNat * 2 ^ (7 * i), i + 1)) else getAt r (i + 1) (u + (c.toNat - 128) * 2 ^ (7 * i))
def getN (l : List UInt8) : Nat × Nat := getAt l 0 0

theorem drop_at {l : List UInt8} {k : Nat} (h : k < l.length) : l.drop k = l[k] :: l.drop (k + 1) := by rw [List.drop_eq_getElem_cons h]

theorem get_nil (i u : Nat) : getAt [] i u = (0, 0) := rfl
theorem get_ten (l : List UInt8) (u : Nat) : getAt l 10 u = (0, 0) := by
  cases l with
  | nil => rfl
  | cons c r => rw [getAt, if_pos (by omega)]
theorem get_bad (c : UInt8) (r : List UInt8) (u : Nat) (h : 1 < c.toNat) : getAt (c :: r) 9 u = (0, 0) := by
  rw [getAt, if_neg (by omega), if_pos ⟨rfl, h⟩]
theorem get_zero (c : UInt8) (r : List UInt8) (i u : Nat) (hi : 0 < i) (hi2 : i < 10) (h : c.toNat = 0) : getAt (c :: r) i u = (0, 0) := by
  rw [getAt, if_neg (by omega), if_neg (by omega), if_pos (by omega), if_pos ⟨hi, h⟩]
theorem get_last (c : UInt8) (r : List UInt8) (i u : Nat) (hi2 : i < 10) (h0 : ¬ (0 < i ∧ c.toNat = 0)) (h9 : ¬ (i = 9 ∧ 1 < c.toNat)) (h : c.toNat < 128) : getAt (c :: r) i u = (u + c.toNat * 2 ^ (7 * i), i + 1) := by
  rw [getAt, if_neg (by omega), if_neg h9, if_pos h, if_neg h0]
theorem get_more (c : UInt8) (r : List UInt8) (i u : Nat) (hi2 : i < 10) (h : ¬ c.toNat < 128) : getAt (c :: r) i u = getAt r (i + 1) (u + (c.toNat - 128) * 2 ^ (7 * i)) := by
  by_cases h9 : i = 9
  · subst h9
    rw [get_bad _ _ _ (by omega), get_ten]
  · rw [getAt, if_neg (by omega), if_neg (by omega), if_neg h]

/-- the arithmetic of one digit -/
theorem get_arith (k d U : Nat) (hk : k < 10) (hd : d < 128) (hU : U < 2 ^ (7 * k)) (h : ¬ (k = 9 ∧ 2 ≤ d)) :
    IntKind.u64.wrap ((d : Int) * 2 ^ (7 * k)) = ((d * 2 ^ (7 * k) : Nat) : Int) ∧ (((d * 2 ^ (7 * k) : Nat) : Int) / 2 ^ (7 * k) != (d : Int)) = false ∧
    bits .or .u64 (U : Int) ((d * 2 ^ (7 * k) : Nat) : Int) = ((U + d * 2 ^ (7 * k) : Nat) : Int) ∧ U + d * 2 ^ (7 * k) < 2 ^ (7 * (k + 1)) := by
  have hp : 0 < 2 ^ (7 * k) := Nat.two_pow_pos _
  have hlt : d * 2 ^ (7 * k) < 18446744073709551616 := by
    by_cases h9 : k = 9
    · subst h9
      have : d ≤ 1 := by omega
      have := Nat.mul_le_mul_right (2 ^ (7 * 9)) this
      omega
    · have h1 : 2 ^ (7 * k) ≤ 2 ^ 56 := Nat.pow_le_pow_right (by omega) (by omega)
      have h2 := Nat.mul_le_mul (show d ≤ 127 by omega) h1
      omega
  have hlt2 : U < 18446744073709551616 := by
    have h1 : 2 ^ (7 * k) ≤ 2 ^ 63 := Nat.pow_le_pow_right (by omega) (by omega)
    omega
  have hor : U ||| d * 2 ^ (7 * k) = U + d * 2 ^ (7 * k) := by
    rw [Nat.or_comm, Nat.mul_comm, ← Nat.two_pow_add_eq_or_of_lt hU d, Nat.add_comm]
  have hc : ((d * 2 ^ (7 * k) : Nat) : Int) = (d : Int) * 2 ^ (7 * k) := by simp
  refine ⟨?_, ?_, ?_, ?_⟩
  · rw [← hc]; exact IntWalk.u64_in _ (by omega)
  · rw [hc, Int.mul_ediv_cancel _ (Int.ne_of_gt (Int.pow_pos (by omega)))]; simp
  · rw [or_u64 _ _ hlt2 hlt, hor]
  · rw [show 7 * (k + 1) = 7 * k + 7 by omega, Nat.pow_add]
    have : d * 2 ^ (7 * k) ≤ 127 * 2 ^ (7 * k) := Nat.mul_le_mul_right _ (by omega)
    omega
theorem get_over (k d : Nat) (hk : k = 9) (hd : d < 128) (h : 2 ≤ d) : (IntKind.u64.wrap ((d : Int) * 2 ^ (7 * k)) / 2 ^ (7 * k) != (d : Int)) = true := by
  subst hk
  rw [bne_iff_ne, IntKind.wrap_u64]
  omega

set_option maxHeartbeats 3200000 in
theorem Get_any {w : World} {v : Value} {l : List UInt8} (h : Holds w v (u8s l)) (hx : l.length ≤ 17592186044000) :
    Calls Tryz.prog 29 #[v] w fun e w' => e = .returned (.tuple #[.int .u64 ((getN l).1 : Int), .int .i64 ((getN l).2 : Int)]) ∧ w = w' := by
  obtain ⟨a, c, hv, hc⟩ := h.form
  rw [u8s_len] at hv hc
  subst hv
  have H := Lib.hid h
  generalize hn : l.length = n at *
  have HN := Lib.hid hn
  clear h hn
  go_enter Tryz.func29, Tryz.ntmps29
  go_wp2_with fail
  all_goals
    go_loop [4, 15] (fun u i => ∃ (k U : Nat), k ≤ 10 ∧ k ≤ n ∧ i = .int .i64 k ∧ u = .int .u64 U ∧ Hid (U < 2 ^ (7 * k) ∧ getN l = getAt (l.drop k) k U)) (fun _ i => 10 - (intOf i).toNat)
    case atStart => exact ⟨0, 0, by omega, by omega, rfl, rfl, by simp, rfl⟩
    case round =>
      obtain ⟨k, U, hk, hkn, rfl, rfl, HR⟩ := hrel
      by_cases hlt : k < 10 ∧ k < n
      · obtain ⟨h10, hn⟩ := hlt
        have hkl : k < l.length := by rw [HN.out]; exact hn
        obtain ⟨ad, rfl⟩ := H.out.ptr (by omega)
        have hc : w.cell? (ad.add k) = some (.int .u8 (l[k].toNat : Int)) := H.out.cell (by simp [u8s, hkl])
        have hx := l[k].toNat_lt
        have hd := and127 l[k].toNat hx
        have hd2 : l[k].toNat % 128 < 128 := by omega
        have HG := Lib.hid HR.out.2
        rw [drop_at hkl] at HG
        by_cases hbad : k = 9 ∧ 2 ≤ l[k].toNat % 128
        · obtain ⟨h9, hb2⟩ := hbad
          have HE : Hid (getN l = (0, 0)) := Lib.hid (by rw [HG.out]; subst h9; exact get_bad _ _ _ (by omega))
          have tE := get_over k _ h9 hd2 hb2
          clear HG h9
          generalize l[k].toNat % 128 = d at *
          generalize l[k].toNat = x at *
          go_wp2_with fail
          go_ret2
          rw [HE.out]
          exact ⟨rfl, rfl⟩
        · obtain ⟨g1, g2, g3, g4⟩ := get_arith k (l[k].toNat % 128) U h10 hd2 HR.out.1 hbad
          have G4 := Lib.hid g4
          clear g4
          by_cases h0 : l[k].toNat = 0
          · have t0 : ((l[k].toNat : Int) == 0) = true := by rw [beq_iff_eq]; omega
            by_cases hk0 : 0 < k
            · have HE := Lib.hid (HG.out.trans (get_zero _ _ _ _ hk0 h10 h0))
              clear HG h0
              generalize l[k].toNat % 128 * 2 ^ (7 * k) = D at *
              generalize l[k].toNat % 128 = d at *
              generalize l[k].toNat = x at *
              go_wp2_with fail
              go_ret2
              rw [HE.out]
              exact ⟨rfl, rfl⟩
            · have HE := Lib.hid (HG.out.trans (get_last _ _ _ _ h10 (by omega) (by omega) (by omega)))
              rw [show l[k].toNat % 128 = l[k].toNat by omega] at *
              clear HG h0
              generalize l[k].toNat * 2 ^ (7 * k) = D at *
              generalize l[k].toNat = x at *
              go_wp2_with fail
              go_ret2
              rw [HE.out]
              exact ⟨rfl, rfl⟩
          · have t0 : ((l[k].toNat : Int) == 0) = false := by rw [beq_eq_false_iff_ne]; omega
            by_cases h128 : l[k].toNat < 128
            · have HE := Lib.hid (HG.out.trans (get_last _ _ _ _ h10 (by omega) (by omega) (by omega)))
              rw [show l[k].toNat % 128 = l[k].toNat by omega] at *
              clear HG
              generalize l[k].toNat * 2 ^ (7 * k) = D at *
              generalize l[k].toNat = x at *
              go_wp2_with fail
              go_ret2
              rw [HE.out]
              exact ⟨rfl, rfl⟩
            · have HE := Lib.hid (HG.out.trans (get_more _ _ _ _ h10 (by omega)))
              rw [show l[k].toNat - 128 = l[k].toNat % 128 by omega] at HE
              clear HG
              generalize l[k].toNat % 128 * 2 ^ (7 * k) = D at *
              generalize l[k].toNat % 128 = d at *
              generalize l[k].toNat = x at *
              go_wp2_with fail
              go_round
              case rel => exact ⟨k + 1, U + D, by omega, by omega, by go_num, rfl, G4.out, HE.out⟩
              case measure => simp [intOf]; omega
      · have HE : Hid (getN l = (0, 0)) := Lib.hid (by
          rw [HR.out.2]
          by_cases h10 : k = 10
          · subst h10; exact get_ten _ _
          · rw [List.drop_eq_nil_of_le (by rw [HN.out]; omega)]; rfl)
        go_wp2_with fail
        go_ret2
        rw [HE.out]
        exact ⟨rfl, rfl⟩
end Go.Proofs.YtbijpjoljljlpaaGreatDoor
