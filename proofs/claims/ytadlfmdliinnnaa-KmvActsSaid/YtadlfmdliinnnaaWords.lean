/- Contract of talusref01.Words: are two lists of numbers alike. Conditions: small lists. -/
import Derived.Test.YtadlfmdliinnnaaTells
set_option maxRecDepth 100000
namespace Go.Proofs.Ytadlfmdliinnnaa
open Go.RowKit Go.Maps Go.Sort

theorem below_drew {w wr : World} {B : Nat} (h : Below B w wr) (n : Nat) : Below B w (wr.drewN n) := ⟨h.os, h.tape, h.output, h.size, h.block⟩

set_option maxHeartbeats 800000 in
theorem Words_any {w : World} {a1 a2 : Option Addr} {n1 n2 k1 k2 : Nat} {l1 l2 : List UInt64} (h1 : Holds w (.slice a1 n1 k1) (u64s l1)) (h2 : Holds w (.slice a2 n2 k2) (u64s l2)) (e1 : n1 = l1.length) (e2 : n2 = l2.length) (hl : l1.length ≤ 1000000) :
    Calls Try.prog 31 #[.slice a1 n1 k1, .slice a2 n2 k2] w fun r w' => r = .returned (.bool (decide (l1 = l2))) ∧ Below w.heap.size w w' := by
  have hl1 : n1 ≤ 1000000 := by omega
  have H1 := Lib.hid h1
  have H2 := Lib.hid h2
  have E1 := Lib.hid e1
  have E2 := Lib.hid e2
  clear h1 h2 e1 e2 hl
  go_enter Try.func31, Try.ntmps31
  by_cases hne : n1 = n2
  · subst hne
    go_wp2_with fail
    go_loopw [5, 13] (fun _ i wr => ∃ k : Nat, i = .int .i64 k ∧ k ≤ n1 ∧ Hid (l1.take k = l2.take k) ∧ Hid (Below w.heap.size w wr)) (fun _ i _ => n1 - (intOf i).toNat)
    case atStart => exact ⟨0, rfl, by omega, rfl, Below.refl _ _⟩
    case round =>
      obtain ⟨k, rfl, hk, HE, HB⟩ := hrel
      by_cases hlt : k < n1
      · have hk1 : k < l1.length := by rw [← E1.out]; exact hlt
        have hk2 : k < l2.length := by rw [← E2.out]; exact hlt
        have g1 := H1.out.below HB.out
        have g2 := H2.out.below HB.out
        obtain ⟨d1, rfl⟩ := g1.ptr (by omega)
        obtain ⟨d2, rfl⟩ := g2.ptr (by omega)
        have c1 : wr.cell? (d1.add k) = some (.int .u64 (l1[k].toNat : Int)) := g1.cell (by simp [u64s, hk1])
        have c2 : wr.cell? (d2.add k) = some (.int .u64 (l2[k].toNat : Int)) := g2.cell (by simp [u64s, hk2])
        have b1 : (k : Int) < (n1 : Int) := by omega
        have b0 : (0 : Int) ≤ (k : Int) := by omega
        have HS : Hid (l1[k].toNat = l2[k].toNat → l1.take (k + 1) = l2.take (k + 1)) := Lib.hid fun h => by
          rw [List.take_succ_eq_append_getElem hk1, List.take_succ_eq_append_getElem hk2, HE.out, UInt64.toNat_inj.1 h]
        have HD : Hid (¬ l1[k].toNat = l2[k].toNat → decide (l1 = l2) = false) := Lib.hid fun h => by
          refine decide_eq_false fun e => h ?_
          subst e
          rfl
        clear g1 g2
        generalize l1[k].toNat = x at *
        generalize l2[k].toNat = y at *
        by_cases hxy : x = y
        · have hh := Lib.hid (HS.out hxy)
          have t1 : ((x : Int) != (y : Int)) = false := by rw [hxy]; simp
          clear hxy HS HD
          go_wp2_with fail
          go_quiet (fail)
          go_wp2_with fail
          go_roundw
          case rel => exact ⟨k + 1, by go_num, by omega, hh, below_drew HB.out _⟩
          case measure => simp [intOf]; omega
        · have hh := Lib.hid (HD.out hxy)
          have t1 : ((x : Int) != (y : Int)) = true := by rw [bne_iff_ne]; omega
          clear hxy HS HD
          go_wp2_with fail
          go_quiet (fail)
          go_wp2_with fail
          go_ret
          rw [hh.out]
          exact ⟨rfl, below_drew HB.out _⟩
      · have hh : Hid (decide (l1 = l2) = true) := Lib.hid (decide_eq_true (by
          have e := HE.out
          rwa [List.take_of_length_le (by rw [← E1.out]; omega), List.take_of_length_le (by rw [← E2.out]; omega)] at e))
        go_wp2_with fail
        go_ret
        rw [hh.out]
        exact ⟨rfl, HB.out⟩
  · have hh : Hid (decide (l1 = l2) = false) := Lib.hid (decide_eq_false fun e => hne (by rw [E1.out, E2.out, e]))
    have t1 : ((n1 : Int) != (n2 : Int)) = true := by rw [bne_iff_ne]; omega
    go_wp2_with fail
    go_ret
    rw [hh.out]
    exact ⟨rfl, Below.refl _ _⟩
end Go.Proofs.Ytadlfmdliinnnaa
