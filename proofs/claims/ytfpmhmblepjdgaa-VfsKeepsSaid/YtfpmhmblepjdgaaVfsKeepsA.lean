/- VfsKeeps, one of its three ways. Conditions: none. -/
import Derived.Test.YtfpmhmblepjdgaaVfsKeeps
set_option maxRecDepth 100000
namespace Go.Proofs.Ytfpmhmblepjdgaa
open Go.ChangeShapes Go.WideShapes Go.ChangeAt Go.RowKit Go.Maps Go.Sort

set_option maxHeartbeats 40000000 in
theorem keeps_neg (w : World) (a0 : Option Addr) (n0 c0 : Nat) (k : List UInt8) (a1 : Option Addr) (n1 c1 : Nat) (r : List UInt8) (m : Int) (hk : Holds8 w (.slice a0 n0 c0) k) (hkb : ∀ (ad : Addr) (n c : Nat), Value.slice a0 n0 c0 = .slice (some ad) n c → n ≠ 0 → ad.block < w.heap.size)
    (hr : Holds8 w (.slice a1 n1 c1) r) (hrb : ∀ (ad : Addr) (n c : Nat), Value.slice a1 n1 c1 = .slice (some ad) n c → n ≠ 0 → ad.block < w.heap.size) (hkl : k.length = n0) (hrl : r.length = n1) (h0 : n0 ≤ 100000) (h1 : n1 ≤ 100000) (hm : m < 0) :
    Calls Try.prog 5 #[.slice a0 n0 c0, .slice a1 n1 c1, .int .i64 m] w fun e w' => e = .returned (.bool true) ∧ Below w.heap.size w w' := by
  have hd0 : decide ((100000 : Int) < (n0 : Int)) = false := decide_eq_false (by omega)
  have hd1 : decide ((100000 : Int) < (n1 : Int)) = false := decide_eq_false (by omega)
  have H0 := Lib.hid h0
  have H1 := Lib.hid h1
  clear h0 h1
  have HK := Lib.hid hk
  have HKB := Lib.hid hkb
  have HR := Lib.hid hr
  have HRB := Lib.hid hrb
  have HKL := Lib.hid hkl
  have HRL := Lib.hid hrl
  clear hk hkb hr hrb hkl hrl
  go_enter Try.func5, Try.ntmps5
  go_wp2_with fail
  refine (at_new w).mono ?_
  rintro e w1 ⟨p, rfl, X1⟩
  go_wp2_with fail
  refine (onat_create size102 ready102 X1.out).mono ?_
  rintro e w2 ⟨rfl, X2⟩
  obtain ⟨D2, X2⟩ := X2.out
  have X2 := Lib.hid X2
  have B2 : Hid (Below w.heap.size w w2) := by obtain ⟨T, _, hB, _⟩ := X2.out; exact hB
  go_wp2_with fail
  refine (onat_write size102 ready102 X2.out (HK.out.below B2.out) HKB.out (by have := HKL.out; have := H0.out; simp; omega) (by omega) (by omega)).mono ?_
  rintro e w3 ⟨rfl, X3⟩
  obtain ⟨D3, X3⟩ := X3.out
  have X3 := Lib.hid X3
  go_wp2_with fail
  refine (onat_sync size102 ready102 X3.out (by omega) (by omega)).mono ?_
  rintro e w4 ⟨rfl, X4⟩
  obtain ⟨D4, X4⟩ := X4.out
  have X4 := Lib.hid X4
  have B4 : Hid (Below w.heap.size w w4) := by obtain ⟨T, _, hB, _⟩ := X4.out; exact hB
  go_wp2_with fail
  refine (onat_write size102 ready102 X4.out (HR.out.below B4.out) HRB.out (by have := HKL.out; have := HRL.out; have := H0.out; have := H1.out; simp; omega) (by omega) (by omega)).mono ?_
  rintro e w5 ⟨rfl, X5⟩
  obtain ⟨D5, X5⟩ := X5.out
  have X5 := Lib.hid X5
  go_wp2_with fail
  refine (onat_cut (s0 := ⟨#[102]⟩) X5.out [m] 1 rfl _ rfl (by simp) 1 (by omega)).mono ?_
  rintro e w6 ⟨rfl, X6⟩
  obtain ⟨D6, X6⟩ := X6.out
  have X6 := Lib.hid X6
  go_wp2_with fail
  refine (onat_syncfail size102 ready102 X6.out (by omega) (by omega)).mono ?_
  rintro e w7 ⟨rfl, X7⟩
  obtain ⟨D7, X7⟩ := X7.out
  have X7 := Lib.hid X7
  go_wp2_with fail
  refine (onat_on (s0 := ⟨#[102]⟩) X7.out).mono ?_
  rintro e w7' ⟨rfl, rfl⟩
  go_wp2_with fail
  refine (onat_start (s0 := ⟨#[102]⟩) X7.out).mono ?_
  rintro e w8 ⟨rfl, X8⟩
  obtain ⟨D8, X8⟩ := X8.out
  have X8 := Lib.hid X8
  clear X1 X2 X3 X4 X5 X6 X7 B2 B4
  have hdm : decide (m < (n1 : Int)) = true := decide_eq_true (by omega)
  have hdq : decide (m < 0) = true := decide_eq_true (by omega)
  have HEQ := Lib.hid (keeps_eq (k := k) (r := r) (m := m) (q := 0) (by have := HRL.out; omega))
  have hq : 0 ≤ n1 := Nat.zero_le _
  clear hm
  go_wp2_with fail
  refine (onat_read size102 ready102 X8.out).mono ?_
  rintro e w9 ⟨v, rfl, HRD, X9⟩
  obtain ⟨x, hx⟩ : ∃ x, k ++ r.take 0 = x := ⟨_, rfl⟩
  rw [HEQ.out, hx] at HRD
  have hb9 : Below w.heap.size w w9 := by obtain ⟨T, _, hB, _⟩ := X9.out; exact hB
  have HB9 := Lib.hid hb9
  obtain ⟨v1, w10, v2, w11, hA⟩ := keeps_apps (q := 0) hb9 HK.out HR.out HKL.out HRL.out hq H0.out H1.out (by rw [hx]; exact HRD.out)
  rw [hx] at hA
  have HA := Lib.hid hA
  obtain ⟨va, vc, hva, _, _⟩ := ownsRow_form HRD.out
  subst hva
  have hqc : (0 : Int) ≤ (c1 : Int) := by obtain ⟨_, _, e, g, _⟩ := HR.out; simp at e; obtain ⟨_, e2, e3⟩ := e; omega
  clear hA hb9 X8 X9 HEQ hx hq
  go_wp2_with fail
  go_region_law (first
    | (refine step_append_want (by go_simp) (.tmp 81) (.tmp 82) 30 rfl rfl rfl (HA.out.run1 _) ?_)
    | (refine step_append_want (by go_simp) (.tmp 83) (.tmp 86) 30 rfl rfl rfl (HA.out.run2 _) ?_)
    | (go_simp; go_at_call 22; refine (Same_any HA.out.left HA.out.right).mono ?_; rintro e w' ⟨rfl, rfl⟩; simp only [decide_true])
    | (go_simp; go_at_call 12; refine (lives_any _).mono ?_; rintro e w' ⟨rfl, hbl⟩; have HBL := Lib.hid hbl; clear hbl))
  all_goals
    go_wp2_with fail
    go_ret
    exact ⟨rfl, HA.out.below.trans (HBL.out.mono HA.out.below.size)⟩
end Go.Proofs.Ytfpmhmblepjdgaa
