/- The walk of WideTexts. Conditions: none. -/
import Derived.Test.YtnljlbdecknbpaaWideBB
import Derived.Test.YtnljlbdecknbpaaWideDD
set_option maxRecDepth 100000
namespace Go.Proofs.Ytnljlbdecknbpaa
open Go.RowKit

set_option maxHeartbeats 1600000 in
theorem texts_walk (h l : Int) (s : ByteArray) (h0 : -9223372036854775808 ≤ h) (h1 : h < 9223372036854775808) (l0 : 0 ≤ l) (l1 : l < 18446744073709551616) (w : World) : Calls Try.prog 5 #[.agg #[.int .i64 h, .int .u64 l], .string s] w fun e w' => e = .returned (.bool true) ∧ Below w.heap.size w w' := by
  have K1 := fun w => print_any h l w h0 h1 l0 l1
  have K2 := fun w => refPrint_any h l w h0 h1 l0 l1
  generalize (⟨(printL (h * 18446744073709551616 + l)).toArray⟩ : ByteArray) = P at K1 K2
  by_cases hl : (1000 : Int) < (s.size : Int)
  · clear K1 K2
    go_enter Try.func5, Try.ntmps5
    go_wp2_with fail
    refine (lives_any _).mono ?_
    rintro e w1 ⟨rfl, b1⟩
    replace b1 := o1_next (Below.refl _ _) b1
    go_wp2_with fail
    go_ret
    exact ⟨rfl, o1_done b1⟩
  · have K3 := fun w => parse_any s (by omega) w
    have K4 := fun w => refParse_any s w
    generalize s.data.toList = tx at K3 K4
    go_enter Try.func5, Try.ntmps5
    go_wp2_with fail
    have fa := new_two w (.int .i64 h) (.int .u64 l) 24
    have hB := (Below.refl w.heap.size w).alloc (Nat.le_refl _) (.cells #[.int .i64 h, .int .u64 l] 24)
    refine (K3 _).mono ?_
    rintro e w1 ⟨N, b, rfl, b1, g1, g2⟩
    replace fa := keep_alloc (keep_two b1 fa) (.cells #[.int .i64 (hiW N), .int .u64 (loW N)] 24)
    replace hB := (hB.trans (b1.mono hB.size)).alloc (hB.trans (b1.mono hB.size)).size (.cells #[.int .i64 (hiW N), .int .u64 (loW N)] 24)
    have f1 := new_two w1 (.int .i64 (hiW N)) (.int .u64 (loW N)) 24
    clear b1
    go_wp2_with fail
    refine (K4 _).mono ?_
    rintro e w2 ⟨M, c, rfl, b2, g3, g4⟩
    obtain ⟨rfl, rfl⟩ := parse_alike g1 g2 g3 g4
    replace fa := keep_alloc (keep_two b2 fa) (.cells #[.int .i64 (hiW N), .int .u64 (loW N)] 24)
    replace f1 := keep_alloc (keep_two b2 f1) (.cells #[.int .i64 (hiW N), .int .u64 (loW N)] 24)
    replace hB := (hB.trans (b2.mono hB.size)).alloc (hB.trans (b2.mono hB.size)).size (.cells #[.int .i64 (hiW N), .int .u64 (loW N)] 24)
    have f2 := new_two w2 (.int .i64 (hiW N)) (.int .u64 (loW N)) 24
    clear b2 g1 g2 g3 g4 K3 K4
    go_wp2_with fail
    have HF := k6_two fa f1 f2
    clear fa f1 f2
    generalize w1.heap.size = u1 at HF ⊢
    generalize w2.heap.size = u2 at HF ⊢
    generalize w2.alloc (.cells #[.int .i64 (hiW N), .int .u64 (loW N)] 24) = W at HF hB ⊢
    have HS := k6_keep HF (Below.refl _ _).drew
    go_region_held3 (fun w' => w'.cell? ⟨w.heap.size, 0, none⟩ = some (.int .i64 h) ∧ w'.cell? ⟨w.heap.size, 1, none⟩ = some (.int .u64 l) ∧ w'.cell? ⟨u1, 0, none⟩ = some (.int .i64 (hiW N)) ∧ w'.cell? ⟨u1, 1, none⟩ = some (.int .u64 (loW N)) ∧ w'.cell? ⟨u2, 0, none⟩ = some (.int .i64 (hiW N)) ∧ w'.cell? ⟨u2, 1, none⟩ = some (.int .u64 (loW N)) ∧ Below W.heap.size W w')
      (first | exact HS | (refine k6_next HF (by assumption) (by first | assumption | exact HS)))
      (first | (go_at_call 26; refine (K1 _).mono ?_; rintro e w9 ⟨rfl, hb9⟩) | (go_at_call 27; refine (K2 _).mono ?_; rintro e w9 ⟨rfl, hb9⟩) | (go_at_call 17; refine (lives_any _).mono ?_; rintro e w9 ⟨rfl, hb9⟩))
    rename_i hHeld
    have HB2 := Lib.hid (hB.trans (hHeld.2.2.2.2.2.2.mono hB.size))
    clear hHeld
    go_wp2_with fail
    go_ret
    exact ⟨rfl, HB2.out⟩
end Go.Proofs.Ytnljlbdecknbpaa
