/- Contract of order.Print. Conditions: the tables as the program's text lays them. -/
import Derived.Test.YtbijpjoljljlpaaGreatDoorOrderE
import Derived.Test.YtbijpjoljljlpaaGreatDoorOrderPr
set_option maxRecDepth 100000
namespace Go.Proofs.YtbijpjoljljlpaaGreatDoor
open Go.RowKit

theorem str_app (a b : List UInt8) : (⟨a.toArray⟩ ++ ⟨b.toArray⟩ : ByteArray) = ⟨(a ++ b).toArray⟩ := by
  apply ByteArray.ext
  simp
theorem ret_str {a b : ByteArray} (h : a = b) : Ending.returned (.string a) = .returned (.string b) := by rw [h]
theorem rep48 (n : Nat) : Lib.repeatL [48] n = List.replicate n (48 : UInt8) := by
  induction n with
  | zero => rfl
  | succ n ih => first | (rw [List.replicate_succ, ← ih]; rfl) | (simp [Lib.repeatL, ih])
theorem repeat_any (k : Nat) (hk : k ≤ 16) (w : World) : Calls Tryz.prog 54 #[.string ⟨#[48]⟩, .int .i64 (16 - (k : Int))] w fun e w' => e = .returned (.string ⟨(List.replicate (16 - k) (48 : UInt8)).toArray⟩) ∧ Below w.heap.size w w' := by
  have h := Tryz.strings_Repeat ⟨#[48]⟩ (16 - k) w (by omega) (by show 1 * (16 - k) ≤ _; omega)
  rw [show ((16 - k : Nat) : Int) = 16 - (k : Int) by omega] at h
  rw [← rep48]
  exact h
set_option maxHeartbeats 800000 in
theorem print_any {w : World} (hv : Tab w) (u : Nat) (hu : u < 18446744073709551616) : Calls Tryz.prog 37 #[.int .i64 (iw u)] w fun e w' => e = .returned (.string ⟨(prW u).toArray⟩) ∧ Below w.heap.size w w' := by
  have K1 := fun w => canon_any u hu w
  have hc := canon_lt u hu
  have hn := nan_canon u
  obtain ⟨P, hP⟩ : ∃ P, P = prW u := ⟨_, rfl⟩
  rw [← hP]
  unfold prW at hP
  have ci := @canon_infs u
  obtain ⟨c, hcc⟩ : ∃ c, c = canonW u := ⟨_, rfl⟩
  rw [← hcc] at K1 hc hn hP ci
  clear hcc
  have K2 := fun w => float_any c hc w
  have K3 := fun w => isNaN_any c hc w
  rw [hn] at K3
  cases h : nanW u
  · rw [h] at hn K3 hP
    have ci := ci h
    have K4 := fun w => inf1_any c hc hn w
    have K5 := fun w => infm_any c hc hn w
    rw [if_neg (by decide)] at hP
    clear h hn
    by_cases h1 : u = 9218868437227405312
    · rw [if_pos h1] at hP
      rw [decide_eq_true ((ci _ (.inl rfl)).2 h1)] at K4
      subst hP
      clear ci hv hc h1 K5
      go_enter Tryz.func37, Tryz.ntmps37
      go_wp2_with fail
      refine (K1 _).mono ?_; rintro e w' ⟨rfl, rfl⟩; go_wp2_with fail
      refine (K2 _).mono ?_; rintro e w' ⟨rfl, rfl⟩; go_wp2_with fail
      refine (K3 _).mono ?_; rintro e w' ⟨rfl, rfl⟩; go_wp2_with fail
      refine (K4 _).mono ?_; rintro e w' ⟨rfl, rfl⟩; go_wp2_with fail
      go_ret
      exact ⟨rfl, Below.refl _ _⟩
    · rw [if_neg h1] at hP
      rw [decide_eq_false (fun h => h1 ((ci _ (.inl rfl)).1 h))] at K4
      by_cases h2 : u = 18442240474082181120
      · rw [if_pos h2] at hP
        rw [decide_eq_true ((ci _ (.inr rfl)).2 h2)] at K5
        subst hP
        clear ci hv hc h1 h2
        go_enter Tryz.func37, Tryz.ntmps37
        go_wp2_with fail
        refine (K1 _).mono ?_; rintro e w' ⟨rfl, rfl⟩; go_wp2_with fail
        refine (K2 _).mono ?_; rintro e w' ⟨rfl, rfl⟩; go_wp2_with fail
        refine (K3 _).mono ?_; rintro e w' ⟨rfl, rfl⟩; go_wp2_with fail
        refine (K4 _).mono ?_; rintro e w' ⟨rfl, rfl⟩; go_wp2_with fail
        refine (K5 _).mono ?_; rintro e w' ⟨rfl, rfl⟩; go_wp2_with fail
        go_ret
        exact ⟨rfl, Below.refl _ _⟩
      · rw [if_neg h2] at hP
        rw [decide_eq_false (fun h => h2 ((ci _ (.inr rfl)).1 h))] at K5
        have K6 := formatUint_any hv c hc
        have hb := bits_run c
        have HP := Lib.hid hP
        clear ci hv hc h1 h2 hP
        go_enter Tryz.func37, Tryz.ntmps37
        go_wp2_with fail
        refine (K1 _).mono ?_; rintro e w' ⟨rfl, rfl⟩; go_wp2_with fail
        refine (K2 _).mono ?_; rintro e w' ⟨rfl, rfl⟩; go_wp2_with fail
        refine (K3 _).mono ?_; rintro e w' ⟨rfl, rfl⟩; go_wp2_with fail
        refine (K4 _).mono ?_; rintro e w' ⟨rfl, rfl⟩; go_wp2_with fail
        refine (K5 _).mono ?_; rintro e w' ⟨rfl, rfl⟩; go_wp2_with fail
        refine K6.mono ?_
        rintro e w1 ⟨k, k1, k2, k3, rfl, b1⟩
        have hsz : (⟨(hexN k c).toArray⟩ : ByteArray).size = k := by show (hexN k c).toArray.size = k; rw [List.size_toArray, hexN_len]
        obtain ⟨S, hS⟩ : ∃ S : ByteArray, S = ⟨(hexN k c).toArray⟩ := ⟨_, rfl⟩
        rw [← hS] at hsz ⊢
        have K7 := fun w => repeat_any k k2 w
        obtain ⟨R, hR⟩ : ∃ R : ByteArray, R = ⟨(List.replicate (16 - k) (48 : UInt8)).toArray⟩ := ⟨_, rfl⟩
        rw [← hR] at K7
        have hRz : R.size = 16 - k := by rw [hR]; show (List.replicate (16 - k) (48 : UInt8)).toArray.size = _; rw [List.size_toArray, List.length_replicate]
        have hQz : ((⟨#[48, 102]⟩ : ByteArray) ++ R).size = 18 - k := by
          rw [ByteArray.size_append, hRz]; show 2 + (16 - k) = _; omega
        have HE : Hid ((⟨#[48, 102]⟩ : ByteArray) ++ R ++ S = ⟨P.toArray⟩) := Lib.hid (by
          rw [hR, hS, show (⟨#[48, 102]⟩ : ByteArray) = ⟨([48, 102] : List UInt8).toArray⟩ from rfl, str_app, str_app, HP.out, List.append_assoc, ← hexN_pad c k (16 - k) k3, show k + (16 - k) = 16 by omega])
        have B1 := Lib.hid b1
        clear hS hR HP k3 k1 b1 K1 K2 K3 K4 K5 K6 hb
        go_wp2_with fail
        refine (K7 _).mono ?_
        rintro e w2 ⟨rfl, b2⟩
        have B2 := Lib.hid (B1.out.trans (b2.mono B1.out.size))
        clear b2
        go_wp2_with fail
        go_ret
        exact ⟨ret_str HE.out, B2.out⟩
  · rw [h] at K3 hP
    rw [if_pos rfl] at hP
    subst hP
    clear hv hc ci h hn
    go_enter Tryz.func37, Tryz.ntmps37
    go_wp2_with fail
    refine (K1 _).mono ?_; rintro e w' ⟨rfl, rfl⟩; go_wp2_with fail
    refine (K2 _).mono ?_; rintro e w' ⟨rfl, rfl⟩; go_wp2_with fail
    refine (K3 _).mono ?_; rintro e w' ⟨rfl, rfl⟩; go_wp2_with fail
    go_ret
    exact ⟨rfl, Below.refl _ _⟩
end Go.Proofs.YtbijpjoljljlpaaGreatDoor
