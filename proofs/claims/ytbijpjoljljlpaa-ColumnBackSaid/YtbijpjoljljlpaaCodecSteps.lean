/- Contracts of codec.steps and its iterator: where each byte's bits begin. Conditions: small numbers. -/
import Derived.Test.YtbijpjoljljlpaaRange
import Derived.Test.YtbijpjoljljlpaaTells
import Derived.Outline
set_option maxRecDepth 100000
namespace Go.Proofs.Ytbijpjoljljlpaa
open Go.RowKit Go.Maps Go.Sort
attribute [local go_sem] Oper.semAt_some

def stepsL (f w d : Nat) : List (Nat × Nat) := if h : d < w then (d, f + d) :: stepsL f w (d + (8 - (f + d) % 8)) else []
termination_by w - d
decreasing_by omega
theorem steps_in {f w d : Nat} (h : d < w) : stepsL f w d = (d, f + d) :: stepsL f w (d + (8 - (f + d) % 8)) := by rw [stepsL, dif_pos h]
theorem steps_out {f w d : Nat} (h : ¬ d < w) : stepsL f w d = [] := by rw [stepsL, dif_neg h]
def stepE (p : Nat × Nat) : Array Value := #[.int .i64 (p.1 : Int), .int .i64 (p.2 : Int)]
def stepsE (f w : Nat) : List (Array Value) := (stepsL f w 0).map stepE
theorem stepsE_at {f w d k : Nat} (h : (stepsL f w 0).drop k = stepsL f w d) (hd : d < w) : ∃ hk : k < (stepsE f w).length, (stepsE f w)[k] = #[.int .i64 (d : Int), .int .i64 ((f + d : Nat) : Int)] ∧ (stepsL f w 0).drop (k + 1) = stepsL f w (d + (8 - (f + d) % 8)) := by
  rw [steps_in hd] at h
  have hk : k < (stepsL f w 0).length := by
    rcases Nat.lt_or_ge k (stepsL f w 0).length with g | g
    · exact g
    · rw [List.drop_eq_nil_of_le g] at h; cases h
  rw [List.drop_eq_getElem_cons hk] at h
  injection h with h1 h2
  exact ⟨by simpa [stepsE] using hk, by simp [stepsE, h1, stepE], h2⟩

def stepsR (bw bf w f : Nat) (W : World) : Prop := W.cell? ⟨bw, 0, none⟩ = some (.int .i64 (w : Int)) ∧ W.cell? ⟨bf, 0, none⟩ = some (.int .i64 (f : Int))

set_option maxHeartbeats 800000 in
theorem steps_seq (bw bf w f : Nat) (hw : w ≤ 64) (hf : f ≤ 1000000000000) : SeqIs Try.prog 48 #[.pointer (some ⟨bw, 0, none⟩), .pointer (some ⟨bf, 0, none⟩)] (stepsE f w) (stepsR bw bf w f) := by
  intro l J W hR _ hY h0
  have HR := Lib.hid hR
  have HY := Lib.hid hY
  have H0 := Lib.hid h0
  clear hR hY h0
  refine callsIn_of_wp Try.func48 rfl trivial ?_ rfl
  simp only [Try.ntmps48, List.size_toArray, List.length_cons, List.length_nil, Nat.reduceAdd, Nat.reduceSub, Array.replicate_succ, Array.replicate_zero, List.push_toArray, List.append_toArray, List.nil_append, List.cons_append]
  gi_wp2
  gi_loopw [4] (fun d wr => ∃ k dn : Nat, d = .int .i64 (dn : Int) ∧ dn ≤ w + 8 ∧ k ≤ (stepsE f w).length ∧ Hid ((stepsL f w 0).drop k = stepsL f w dn ∧ J k wr)) (fun d _ => w - (intOf d).toNat)
  case atStart => exact ⟨0, 0, rfl, by omega, by omega, rfl, H0.out⟩
  case round =>
    obtain ⟨k, dn, rfl, hdn, hkl, HK⟩ := hrel
    obtain ⟨c1, c2⟩ := HR.out k _ HK.out.2
    by_cases hlt : dn < w
    · obtain ⟨hk, e1, e2⟩ := stepsE_at HK.out.1 hlt
      obtain ⟨fn, tmps, assign, body, hy, hRd⟩ := HY.out k hk wr HK.out.2
      rw [e1, show ((f + dn : Nat) : Int) = (f : Int) + (dn : Int) by omega] at hy
      have E2 := Lib.hid e2
      clear e1 e2
      gi_wp2
      refine ⟨rfl, hRd.mono ?_⟩
      rintro e W3 ⟨rfl, hJ⟩
      have HJ := Lib.hid hJ
      clear hJ c1 c2 hy hRd
      gi_wp2
      go_roundw
      case rel => exact ⟨k + 1, dn + (8 - (f + dn) % 8), by go_num, by omega, by omega, E2.out, HJ.out⟩
      case measure => simp [intOf]; omega
    · have e := HK.out.1
      rw [steps_out hlt, List.drop_eq_nil_iff] at e
      have e2 : k = (stepsE f w).length := by
        have h2 : (stepsE f w).length = (stepsL f w 0).length := by simp [stepsE]
        omega
      have HJ := Lib.hid HK.out.2
      rw [e2] at HJ
      clear e e2 hkl
      gi_wp2
      go_end0
      exact ⟨⟨_, rfl⟩, HJ.out⟩

set_option maxHeartbeats 400000 in
/-- steps: two boxes, and the iterator over them -/
theorem steps_any (f w : Int) (W : World) : Calls Try.prog 33 #[.int .i64 f, .int .i64 w] W fun e W' =>
    e = .returned (.func (.func 48) #[] #[.pointer (some ⟨W.heap.size + 1, 0, none⟩), .pointer (some ⟨W.heap.size, 0, none⟩)]) ∧ W' = (W.alloc (.cells #[.int .i64 f] 3)).alloc (.cells #[.int .i64 w] 3) := by
  go_enter Try.func33, Try.ntmps33
  go_wp2
  go_ret
  exact ⟨rfl, rfl⟩

set_option maxHeartbeats 400000 in
theorem packedBytes_any (w n : Nat) (hw : w ≤ 64) (hn : n ≤ 100000000000) (W : World) : Calls Try.prog 32 #[.int .i64 (w : Int), .int .i64 (n : Int)] W fun e W' => e = .returned (.int .i64 (((w * n + 7) / 8 : Nat) : Int)) ∧ W = W' := by
  have h1 : w * n ≤ 64 * 100000000000 := Nat.mul_le_mul hw hn
  have e : (w : Int) * (n : Int) = ((w * n : Nat) : Int) := by simp
  generalize w * n = m at *
  go_enter Try.func32, Try.ntmps32
  go_wp2
  go_ret
  exact ⟨ret_int (by omega), rfl⟩
end Go.Proofs.Ytbijpjoljljlpaa
