/- codec.Pack gives up a number that is wider than the width. Conditions: small lists. -/
import Derived.Test.YtbijpjoljljlpaaCodecPack
set_option maxRecDepth 100000
namespace Go.Proofs.Ytbijpjoljljlpaa
open Go.RowKit Go.Maps Go.Sort

theorem bit_lt (wd : Nat) : ∀ (x : Nat), x < 2 ^ 64 → Lib.bitLen x ≤ wd → x < 2 ^ wd := by
  induction wd with
  | zero =>
    intro x hx h
    rcases Nat.eq_zero_or_pos x with rfl | hp
    · simp
    · rw [Lib.bitLen_half x (by omega) hx] at h
      omega
  | succ n ih =>
    intro x hx h
    rcases Nat.eq_zero_or_pos x with rfl | hp
    · exact Nat.two_pow_pos _
    · rw [Lib.bitLen_half x (by omega) hx] at h
      have := ih (x / 2) (by omega) (by omega)
      rw [Nat.pow_succ]
      omega
theorem bit_ge (wd x : Nat) (hw : wd ≤ 64) (h : wd < Lib.bitLen x) : ¬ x < 2 ^ wd := fun hx => by
  have := Lib.bitLen_le x wd hw hx
  omega

set_option maxHeartbeats 400000 in
theorem Pack_range {w : World} {v : Value} {l : List UInt64} (h : Holds w v (u64s l)) (hl : l.length ≤ 1000000) (wd : Nat) (hw : wd ≤ 64) (hbad : ∃ u ∈ l, ¬ u.toNat < 2 ^ wd) :
    Calls Try.prog 24 #[.int .i64 (wd : Int), v] w fun e w' => e = .returned (.tuple #[.slice none 0 0, .int .i64 6]) ∧ Below w.heap.size w w' := by
  obtain ⟨a, c, hv, hc⟩ := h.form
  rw [u64s_len] at hv hc
  subst hv
  have H := Lib.hid h
  generalize hn : l.length = n at *
  have HN := Lib.hid hn
  have HF := Lib.hid hbad
  clear h hn hbad
  refine (callsIn_wide (n := 0)).1 ?_
  refine callsIn_of_wp_marks Try.func24 rfl trivial ?_ rfl
  simp only [Try.ntmps24, List.size_toArray, List.length_cons, List.length_nil, Nat.reduceAdd, Nat.reduceSub, Array.replicate_succ, Array.replicate_zero, List.push_toArray, List.append_toArray, List.nil_append, List.cons_append]
  have t1 : decide ((wd : Int) < 0) = false := decide_eq_false (by omega)
  have t2 : decide ((64 : Int) < (wd : Int)) = false := decide_eq_false (by omega)
  gi_wp2
  gi_loop [21] (fun i => ∃ k : Nat, i = .int .i64 k ∧ k ≤ n ∧ Hid (∀ u ∈ l.take k, u.toNat < 2 ^ wd)) (fun i => n - (intOf i).toNat)
  case atStart => exact ⟨0, rfl, by omega, Lib.hid (by simp)⟩
  case round =>
    obtain ⟨k, rfl, hk, HP⟩ := hrel
    by_cases hlt : k < n
    · have hkl : k < l.length := by rw [HN.out]; exact hlt
      obtain ⟨ad, rfl⟩ := H.out.ptr (by omega)
      have hc : w.cell? (ad.add k) = some (.int .u64 (l[k].toNat : Int)) := H.out.cell (by simp [u64s, hkl])
      have hx := l[k].toNat_lt
      have HS : Hid (l[k].toNat < 2 ^ wd → ∀ u ∈ l.take (k + 1), u.toNat < 2 ^ wd) := Lib.hid fun h u hu => by
        rw [List.take_succ_eq_append_getElem hkl, List.mem_append] at hu
        rcases hu with hu | hu
        · exact HP.out u hu
        · obtain rfl := List.mem_singleton.1 hu
          exact h
      generalize l[k].toNat = x at *
      gi_wp2_with fail
      refine ⟨trivial, rfl, (callsIn_wide.2 (Try.bits_Len64 (x : Int) _ (by omega) (by omega))).mono ?_⟩
      rintro e w' ⟨rfl, rfl⟩
      rw [Int.toNat_natCast]
      have HB := Lib.hid (bit_lt wd x (by omega))
      generalize Lib.bitLen x = bl at *
      by_cases hb : bl ≤ wd
      · have t3 : decide ((wd : Int) < (bl : Int)) = false := decide_eq_false (by omega)
        gi_wp2_with fail
        go_round
        case rel => exact ⟨k + 1, by go_num, by omega, Lib.hid (HS.out (HB.out hb))⟩
        case measure => simp [intOf]; omega
      · have t3 : decide ((wd : Int) < (bl : Int)) = true := decide_eq_true (by omega)
        gi_wp2_with fail
        refine leave_marks (B := w'.heap.size) (v := .tuple #[.slice none 0 0, .int .i64 6]) (fun w' => by simp [results, Try.results24, go_sem]) [] _ trivial (fun W' hs => ?_)
        exact ⟨rfl, hs.below⟩
    · obtain ⟨u, hu, hb⟩ := HF.out
      refine absurd (HP.out u ?_) hb
      rw [List.take_of_length_le (by rw [HN.out]; omega)]
      exact hu
end Go.Proofs.Ytbijpjoljljlpaa
