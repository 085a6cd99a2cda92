/- Contract of Parse. Conditions: the text is no longer than any string. -/
import Derived.Test.YtnljlbdecknbpaaWideR
import Derived.Test.YtnljlbdecknbpaaWideM
import Derived.Test.YtnljlbdecknbpaaParse
set_option maxRecDepth 100000
namespace Go.Proofs.Ytnljlbdecknbpaa
open Go.RowKit

theorem trim_len (l : List UInt8) : (Lib.trimPrefix l [45]).length ≤ l.length := by
  unfold Lib.trimPrefix
  split
  · rw [List.length_drop]; omega
  · exact Nat.le_refl _
theorem p1_res {w w' : World} {c0 c1 : Value} (hb : Below (w.heap.size + 1) (w.alloc (.cells #[c0, c1] 24)) w') : w'.cell? ⟨w.heap.size, 0, none⟩ = some c0 ∧ w'.cell? ⟨w.heap.size, 1, none⟩ = some c1 ∧ w'.frozen? ⟨w.heap.size, 0, none⟩ = false ∧ w'.frozen? ⟨w.heap.size, 1, none⟩ = false := c1_cells hb
theorem p1_alloc {w w' : World} {o : Obj} (hb : Below (w.heap.size + 1) (w.alloc o) w') (o' : Obj) : Below (w.heap.size + 1) (w.alloc o) (w'.alloc o') := by
  have hz := hb.size
  rw [World.size_alloc] at hz
  exact hb.alloc hz o'
set_option maxHeartbeats 1600000 in
theorem parse_any (s : ByteArray) (hsz : s.size < 9223372036854775807) (w : World) : Calls Try.prog 24 #[.string s] w (ParseP s.data.toList w) := by
  have KC := fun w => Try.strings_CutPrefix s ⟨#[45]⟩ w
  have hcut := cut_of s.data.toList
  have hlen := trim_len s.data.toList
  rw [← str_size] at hlen
  rw [show (⟨#[45]⟩ : ByteArray).data.toList = [45] from rfl] at KC
  generalize s.data.toList = l at hcut KC hlen ⊢
  generalize Lib.trimPrefix l [45] = k at hcut KC hlen
  generalize Lib.hasPrefix l [45] = neg at hcut KC
  have hks : (⟨k.toArray⟩ : ByteArray).size = k.length := by rw [str_size]
  have KR := fun w => read_any ⟨k.toArray⟩ (by omega) w
  rw [show (⟨k.toArray⟩ : ByteArray).data.toList = k from rfl] at KR
  have KS : ∀ (T S : Nat), T < 18446744073709551616 → S < 18446744073709551616 → ∀ w, Calls Try.prog 38 #[.agg #[.int .u64 (T : Int), .int .u64 (S : Int)], .bool neg] w fun e w' => e = .returned (.tuple #[wv (sgnW ((T * 18446744073709551616 + S : Nat) : Int) neg), .bool (sgnOk ((T * 18446744073709551616 + S : Nat) : Int) neg)]) ∧ Below w.heap.size w w' := fun T S hT hS w => by
    have e : ((T : Int) * 18446744073709551616 + (S : Int)) = ((T * 18446744073709551616 + S : Nat) : Int) := by omega
    cases neg
    · have K := signed_pos (T : Int) (S : Int) w (by omega) (by omega) (by omega) (by omega)
      rw [e] at K; exact K
    · have K := signed_neg (T : Int) (S : Int) w (by omega) (by omega) (by omega) (by omega)
      rw [e] at K; exact K
  have HC := Lib.hid hcut
  clear hcut hlen hks hsz
  go_enter Try.func24, Try.ntmps24
  go_wp2_with fail
  refine (KC _).mono ?_
  rintro e w' ⟨rfl, rfl⟩
  go_wp2_with fail
  refine (KR _).mono ?_
  rintro e w1 ⟨T, S, b, rfl, b1, hT, hS, hyes, hno⟩
  have d1 := o1_next (Below.refl _ _) b1
  cases b with
  | false =>
    have HNo := Lib.hid (cut_no HC.out (hno rfl))
    have d2 := p1_alloc d1 (.cells #[.int .u64 (T : Int), .int .u64 (S : Int)] 51)
    have hres := p1_res d2
    have hr1 := fun u => (set_two hres.1 hres.2.1 u u).1
    have hr2 := fun u v => (set_two hres.1 hres.2.1 u v).2
    clear b1 KS KR KC hyes hno
    go_wp2_with fail
    refine bodyPost_ret (v := .tuple #[.agg #[.int .i64 0, .int .u64 0], .bool false]) (by simp [results, Try.results24, go_sem, hr1, hr2]) rfl ⟨0, false, rfl, o1_set (o1_done d2) _ _, (fun h => by cases h), fun _ => ⟨rfl, HNo.out⟩⟩
  | true =>
    have hk := hyes rfl
    have K := KS T S hT hS
    have HA : ∀ b, sgnOk ((T * 18446744073709551616 + S : Nat) : Int) neg = b → (b = true → fitW (sgnW ((T * 18446744073709551616 + S : Nat) : Int) neg) = true ∧ l = printL (sgnW ((T * 18446744073709551616 + S : Nat) : Int) neg)) ∧ (b = false → sgnW ((T * 18446744073709551616 + S : Nat) : Int) neg = 0 ∧ NoText l) := fun b hb => ⟨fun h => cut_yes HC.out hk (hb.trans h), fun h => cut_not HC.out hk (hb.trans h)⟩
    generalize sgnW ((T * 18446744073709551616 + S : Nat) : Int) neg = N at K HA
    generalize sgnOk ((T * 18446744073709551616 + S : Nat) : Int) neg = ok at K HA
    have HF := Lib.hid (HA ok rfl)
    unfold wv at K
    obtain ⟨x, hx⟩ : ∃ x, hiW N = x := ⟨_, rfl⟩
    obtain ⟨y, hy⟩ : ∃ x, loW N = x := ⟨_, rfl⟩
    rw [hx, hy] at K
    have HX := Lib.hid (And.intro hx hy)
    clear HA hx hy KS KR KC hyes hno hk
    go_wp2_with fail
    refine (K _).mono ?_
    rintro e w2 ⟨rfl, b2⟩
    have d3 := o1_next (p1_alloc d1 (.cells #[.int .u64 (T : Int), .int .u64 (S : Int)] 51)) b2
    have hres := p1_res d3
    have hr1 := fun u => (set_two hres.1 hres.2.1 u u).1
    have hr2 := fun u v => (set_two hres.1 hres.2.1 u v).2
    have HB := Lib.hid (o1_set (o1_done d3))
    clear b1 b2 d1 d3 K
    go_wp2_with fail
    refine bodyPost_ret (v := .tuple #[.agg #[.int .i64 x, .int .u64 y], .bool ok]) (by simp [results, Try.results24, go_sem, hr1, hr2]) rfl ⟨N, ok, by rw [← HX.out.1, ← HX.out.2], HB.out _ _, HF.out.1, HF.out.2⟩
end Go.Proofs.Ytnljlbdecknbpaa
