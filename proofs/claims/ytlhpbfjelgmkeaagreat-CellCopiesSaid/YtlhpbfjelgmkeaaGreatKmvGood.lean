/- Contracts of kmv's within and Good: may settings be. Conditions: none. -/
import Derived.Test.YtlhpbfjelgmkeaaGreatKmvClone
set_option maxRecDepth 100000
namespace Go.Proofs.YtlhpbfjelgmkeaaGreat
open Go.RowKit Go.Maps Go.Sort

/-- settings that came in -/
structure SetAt (w : World) (sa : Option Addr) (n sc : Nat) (S : List (Nat × Nat)) : Prop where
  len : S.length = n
  cap : n ≤ sc ∧ sc ≤ maxLen
  lt : ∀ s ∈ S, s.1 < 18446744073709551616 ∧ s.2 < 18446744073709551616
  at_ : 0 < n → ∃ ad, sa = some ad ∧ SeedsIn w ad S
theorem SetAt.below {w w' : World} {sa : Option Addr} {n sc : Nat} {S : List (Nat × Nat)} (h : SetAt w sa n sc S) (hb : Below w.heap.size w w') : SetAt w' sa n sc S :=
  ⟨h.len, h.cap, h.lt, fun h0 => by
    obtain ⟨ad, e, hs⟩ := h.at_ h0
    exact ⟨ad, e, hs.keep (hb.block _ (seeds_lt hs (by rw [h.len]; exact h0)))⟩⟩

def seedB (s : Nat × Nat) : Bool := decide (0 < s.1 ∧ s.1 < 2305843009213693951 ∧ s.2 < 2305843009213693951)
def restB (t : Int) (n : Nat) (k m : Int) : Bool := decide (n % 2 = 1 ∧ n ≤ 7 ∧ (2 ≤ t ∧ t ≤ 64) ∧ (1 ≤ k ∧ k ≤ 64) ∧ (1 ≤ m ∧ m ≤ 64))
/-- may settings be? -/
def goodB (t : Int) (S : List (Nat × Nat)) (k m : Int) : Bool := S.all seedB && restB t S.length k m
theorem goodB_bad {t k m : Int} {S : List (Nat × Nat)} {s : Nat × Nat} (hs : s ∈ S) (hb : seedB s = false) : goodB t S k m = false := by
  unfold goodB
  rw [List.all_eq_false.2 ⟨s, hs, by simp [hb]⟩]; rfl
theorem goodB_all {t k m : Int} {S : List (Nat × Nat)} (hs : S.all seedB = true) : goodB t S k m = restB t S.length k m := by
  unfold goodB
  rw [hs]; rfl
theorem goodB_set {t k m : Int} {S : List (Nat × Nat)} (h : goodB t S k m = true) : ∃ tn : Nat, t = tn ∧ GoodS tn S := by
  unfold goodB restB at h
  rw [Bool.and_eq_true, decide_eq_true_eq] at h
  obtain ⟨h1, h2, h3, ⟨h4, h5⟩, _⟩ := h
  refine ⟨t.toNat, by omega, by omega, by omega, by omega, h3, h2, fun s hs => ?_⟩
  have := List.all_eq_true.1 h1 s hs
  simpa [seedB] using this

theorem within_any (n l : Int) (w : World) : Calls Tryz.prog 61 #[.int .i64 n, .int .i64 l] w fun e w' => e = .returned (.bool (decide (l ≤ n ∧ n ≤ 64))) ∧ w = w' := by
  go_enter Tryz.func61, Tryz.ntmps61
  go_wp2
  all_goals
    go_ret
    refine ⟨ret_bool ?_, rfl⟩
    rw [Bool.eq_iff_iff]
    simp
    omega
theorem fgood_any (x : Nat) (w : World) : Calls Tryz.prog 60 #[.int .u64 (x : Int)] w fun e w' => e = .returned (.bool (decide (x < 2305843009213693951))) ∧ w = w' :=
  (good_any x w).mono fun e w' ⟨h, hw⟩ => ⟨by rw [h]; exact ret_bool (decide_eq_decide.2 (by omega)), hw⟩

set_option maxHeartbeats 3200000 in
theorem kgood_any {w : World} {sa : Option Addr} {n sc : Nat} {S : List (Nat × Nat)} (h : SetAt w sa n sc S) (t k m : Int) :
    Calls Tryz.prog 30 #[.agg #[.int .i64 t, .slice sa n sc, .int .i64 k, .int .i64 m]] w fun e w' => e = .returned (.bool (goodB t S k m)) ∧ Below w.heap.size w w' := by
  have hb0 := (Below.refl w.heap.size w).alloc (Nat.le_refl _) (.cells #[.int .i64 t, .slice sa n sc, .int .i64 k, .int .i64 m] 32)
  have hw1 := alloc1 w (.cells #[.int .i64 t, .slice sa n sc, .int .i64 k, .int .i64 m] 32)
  have HS := Lib.hid (h.below hb0)
  have HB := Lib.hid hb0
  have hcm := h.cap
  have hlen := Lib.hid h.len
  unfold maxLen at hcm
  obtain ⟨hcm1, hcm2⟩ := hcm
  have c1 : (w.alloc (.cells #[.int .i64 t, .slice sa n sc, .int .i64 k, .int .i64 m] 32)).cell? ⟨w.heap.size, 1, none⟩ = some (.slice sa n sc) := by rw [cell_of_row _ _ _ _ _ _ hw1]; rfl
  have HW := Lib.hid hw1
  clear h hb0 hw1
  go_enter Tryz.func30, Tryz.ntmps30
  go_wp2_with fail
  have HB2 : Hid (Below (w.alloc (.cells #[.int .i64 t, .slice sa n sc, .int .i64 k, .int .i64 m] 32)).heap.size (w.alloc (.cells #[.int .i64 t, .slice sa n sc, .int .i64 k, .int .i64 m] 32)) (w.alloc (.cells #[.int .i64 t, .slice sa n sc, .int .i64 k, .int .i64 m] 32))) := Lib.hid (Below.refl _ _)
  obtain ⟨W, hW⟩ : ∃ W, W = w.alloc (.cells #[.int .i64 t, .slice sa n sc, .int .i64 k, .int .i64 m] 32) := ⟨_, rfl⟩
  rw [← hW] at HS HB HW HB2 c1 ⊢
  have hsz : W.heap.size = w.heap.size + 1 := by rw [hW]; simp
  clear hW
  go_loopw [4, 9] (fun _ i wr => ∃ j : Nat, i = .int .i64 j ∧ j ≤ n ∧ Hid ((S.take j).all seedB = true) ∧ Hid (Below W.heap.size W wr)) (fun _ i _ => n - (intOf i).toNat)
  case atStart => exact ⟨0, rfl, Nat.zero_le _, Lib.hid rfl, HB2⟩
  case round =>
    obtain ⟨j, rfl, hj, HT, HR⟩ := hrel
    by_cases hlt : j < n
    · have hjS : j < S.length := by rw [hlen.out]; exact hlt
      obtain ⟨ad, rfl, hsd⟩ := (HS.out.below HR.out).at_ (by omega)
      obtain ⟨d0, d1⟩ := hsd.read hjS
      have b0 : (0 : Int) ≤ (j : Int) := by omega
      have b1 : (j : Int) < (n : Int) := by omega
      have HM := Lib.hid (List.getElem_mem hjS)
      have HN := Lib.hid (List.take_succ_eq_append_getElem hjS)
      generalize S[j] = sd at *
      obtain ⟨A, B⟩ := sd
      have K1 := fgood_any A
      have K2 := fgood_any B
      have t0 : ((A : Int) == 0) = decide (A = 0) := by rw [Bool.eq_iff_iff]; simp
      have HD : Hid (seedB (A, B) = (!decide (A = 0) && decide (A < 2305843009213693951) && decide (B < 2305843009213693951))) := Lib.hid (by
        unfold seedB
        rw [Bool.eq_iff_iff]; simp; omega)
      simp only at d0 d1
      generalize decide (A < 2305843009213693951) = p1 at *
      generalize decide (B < 2305843009213693951) = p2 at *
      generalize decide (A = 0) = p0 at *
      clear hsd
      have c1' := c1
      rcases (by cases p0 <;> cases p1 <;> cases p2 <;> simp : (p0 = false ∧ p1 = true ∧ p2 = true) ∨ (!p0 && p1 && p2) = false) with ⟨rfl, rfl, rfl⟩ | hbad
      · go_wp2_with (first | ((with_reducible refine (K1 _).mono ?_); rintro e w' ⟨rfl, rfl⟩) | ((with_reducible refine (K2 _).mono ?_); rintro e w' ⟨rfl, rfl⟩))
        go_roundw
        case rel => exact ⟨j + 1, by go_num, by omega, Lib.hid (by rw [HN.out, List.all_append, HT.out]; simp [HD.out]), Lib.hid (HR.out.alloc HR.out.size _)⟩
        case measure => simp [intOf]; omega
      · rw [hbad] at HD
        cases p0 <;> cases p1 <;> cases p2
        all_goals
          first
            | (cases hbad; done)
            | (clear hbad
               go_wp2_with (first | ((with_reducible refine (K1 _).mono ?_); rintro e w' ⟨rfl, rfl⟩) | ((with_reducible refine (K2 _).mono ?_); rintro e w' ⟨rfl, rfl⟩))
               go_ret
               exact ⟨ret_bool (goodB_bad HM.out HD.out).symm, HB.out.trans ((HR.out.alloc (HR.out.size) _).mono (by omega))⟩)
    · have hje : j = n := by omega
      have hbx : wr.heap[w.heap.size]? = some (.cells #[.int .i64 t, .slice sa n sc, .int .i64 k, .int .i64 m] 32) := (HR.out.block _ (by omega)).trans HW.out
      have q0 : wr.cell? ⟨w.heap.size, 0, none⟩ = some (.int .i64 t) := by rw [cell_of_row _ _ _ _ _ _ hbx]; rfl
      have q1 : wr.cell? ⟨w.heap.size, 1, none⟩ = some (.slice sa n sc) := by rw [cell_of_row _ _ _ _ _ _ hbx]; rfl
      have q2 : wr.cell? ⟨w.heap.size, 2, none⟩ = some (.int .i64 k) := by rw [cell_of_row _ _ _ _ _ _ hbx]; rfl
      have q3 : wr.cell? ⟨w.heap.size, 3, none⟩ = some (.int .i64 m) := by rw [cell_of_row _ _ _ _ _ _ hbx]; rfl
      have HP : Hid (Below w.heap.size w wr) := Lib.hid (HB.out.trans (HR.out.mono (by omega)))
      have HD : Hid (goodB t S k m = (decide (n % 2 = 1) && decide (n ≤ 7) && decide (2 ≤ t ∧ t ≤ 64) && decide (1 ≤ k ∧ k ≤ 64) && decide (1 ≤ m ∧ m ≤ 64))) := Lib.hid (by
        have := HT.out
        rw [hje, ← hlen.out, List.take_length] at this
        rw [goodB_all this, hlen.out]
        unfold restB
        rw [Bool.eq_iff_iff]; simp [and_assoc])
      have K1 := within_any t 2
      have K2 := within_any k 1
      have K3 := within_any m 1
      have t1 : ((n : Int) % 2 == 1) = decide (n % 2 = 1) := by rw [Bool.eq_iff_iff]; simp; omega
      clear hbx HT HR HS
      generalize decide (2 ≤ t ∧ t ≤ 64) = p1 at *
      generalize decide (1 ≤ k ∧ k ≤ 64) = p2 at *
      generalize decide (1 ≤ m ∧ m ≤ 64) = p3 at *
      generalize decide (n % 2 = 1) = p4 at *
      by_cases h7 : n ≤ 7
      · rw [decide_eq_true h7] at HD
        cases p4 <;> cases p1 <;> cases p2 <;> cases p3
        all_goals
          go_wp2_with (first | ((with_reducible refine (K1 _).mono ?_); rintro e w' ⟨rfl, rfl⟩) | ((with_reducible refine (K2 _).mono ?_); rintro e w' ⟨rfl, rfl⟩) | ((with_reducible refine (K3 _).mono ?_); rintro e w' ⟨rfl, rfl⟩))
          go_ret
          exact ⟨ret_bool HD.out.symm, HP.out⟩
      · rw [decide_eq_false h7] at HD
        cases p4
        all_goals
          go_wp2_with (first | ((with_reducible refine (K1 _).mono ?_); rintro e w' ⟨rfl, rfl⟩) | ((with_reducible refine (K2 _).mono ?_); rintro e w' ⟨rfl, rfl⟩) | ((with_reducible refine (K3 _).mono ?_); rintro e w' ⟨rfl, rfl⟩))
          go_ret
          exact ⟨ret_bool HD.out.symm, HP.out⟩
end Go.Proofs.YtlhpbfjelgmkeaaGreat
