/- The walk of CodecNumbers: any number in bytes, any int without a sign, and the number that any bytes begin with. Conditions: the table of Sum reads as the program's text lays it. -/
import Derived.Test.YtemeimcncddkjaaDoorCodecLives
import Derived.Test.YtemeimcncddkjaaDoorCodecRefGet
import Derived.Test.YtemeimcncddkjaaDoorLend
set_option maxRecDepth 100000
namespace Go.Proofs.YtemeimcncddkjaaDoor
open Go.RowKit Go.Maps Go.Sort

theorem numbers_long {w : World} (hq : Quads w) (a : Option Addr) (len cap u : Nat) (n : Int) (h : 1000 < len) :
    Calls Tryd.prog 3 #[.slice a len cap, .int .u64 (u : Int), .int .i64 n] w fun e w' => e = .returned (.bool true) ∧ Below w.heap.size w w' := by
  have HQ := Lib.hid hq
  clear hq
  go_enter Tryd.func3, Tryd.ntmps3
  go_wp2_with fail
  refine (lives_any HQ.out).mono ?_
  rintro e w1 ⟨rfl, hb⟩
  have HB := Lib.hid hb
  clear hb
  go_wp2_with fail
  go_ret
  exact ⟨rfl, HB.out⟩

set_option maxHeartbeats 1600000 in
theorem numbers_main {w : World} (hq : Quads w) {a : Option Addr} {cap : Nat} {l : List UInt8} (h : Holds w (.slice a l.length cap) (u8s l)) (hl : l.length ≤ 1000) (u : Nat) (hu : u < 18446744073709551616) (n : Int) (h1 : -9223372036854775808 ≤ n) (h2 : n ≤ 9223372036854775807) :
    Calls Tryd.prog 3 #[.slice a l.length cap, .int .u64 (u : Int), .int .i64 n] w fun e w' => e = .returned (.bool true) ∧ Below w.heap.size w w' := by
  have HQ := Lib.hid hq
  have H := Lib.hid h
  obtain ⟨x1, hx1⟩ : ∃ x, x = (getN l).1 := ⟨_, rfl⟩
  obtain ⟨x2, hx2⟩ : ∃ x, x = (getN l).2 := ⟨_, rfl⟩
  obtain ⟨ln, hln⟩ : ∃ x, x = l.length := ⟨_, rfl⟩
  rw [← hln] at H hl ⊢
  have X1 := Lib.hid hx1
  have X2 := Lib.hid hx2
  have HN := Lib.hid hln
  clear h hq hx1 hx2 hln
  go_enter Tryd.func3, Tryd.ntmps3
  go_wp2_with fail
  have hlend := Lend_any (w := w) (a := a) (c := cap) (l := l) (by rw [← HN.out]; exact H.out) (by rw [← HN.out]; omega)
  rw [← HN.out] at hlend
  refine hlend.mono ?_
  rintro e w1 ⟨rfl, hc, hb⟩
  rw [HN.out] at hc
  have hm := lend_mid hc
  rw [← HN.out] at hm
  have M := Lib.hid hm
  have C1 := Lib.hid hc
  have B1 := Lib.hid hb
  clear hlend hc hb hm
  go_wp2_with fail
  refine (Get_any M.out (by rw [← HN.out]; omega)).mono ?_
  rintro e w1' ⟨rfl, rfl⟩
  rw [← X1.out, ← X2.out]
  go_wp2_with fail
  refine (refGet_any (H.out.below B1.out) (by rw [← HN.out]; omega)).mono ?_
  rintro e w1' ⟨rfl, rfl⟩
  rw [← X1.out, ← X2.out]
  go_wp2_with fail
  refine (Put_any M.out u hu (by rw [← HN.out]; omega)).mono ?_
  rintro e w2 ⟨v2, rfl, o2, b2⟩
  have O2 := Lib.hid (Holds.of_row (xs := u8s (l ++ dig u)) (by rw [u8s_len]; exact o2))
  have B2 := Lib.hid b2
  clear o2 b2
  go_wp2_with fail
  refine (refPut_any ((H.out.below B1.out).below B2.out) u hu (by rw [← HN.out]; omega)).mono ?_
  rintro e w3 ⟨v3, rfl, o3, b3⟩
  have O3 := Lib.hid (Holds.of_row (xs := u8s (l ++ dig u)) (by rw [u8s_len]; exact o3))
  have B3 := Lib.hid b3
  clear o3 b3
  go_wp2_with fail
  refine (Same_any (O2.out.below B3.out) O3.out).mono ?_
  rintro e w3' ⟨rfl, rfl⟩
  rw [decide_eq_true rfl]
  have B13 := Lib.hid (B2.out.trans (B3.out.mono B2.out.size))
  have C3 := Lib.hid ((B13.out.block _ (Array.getElem?_eq_some_iff.1 C1.out).1).trans C1.out)
  have B4 := Lib.hid (B1.out.trans (B13.out.mono B1.out.size))
  clear O2 O3
  go_wp2_with fail
  refine (Zig_any n _ h1 h2).mono ?_
  rintro e w3' ⟨rfl, rfl⟩
  generalize hz : zigN n = z
  have HZ := Lib.hid hz
  clear hz
  go_wp2_with fail
  refine (refZig_any n _ h1 h2).mono ?_
  rintro e w3' ⟨rfl, rfl⟩
  rw [HZ.out]
  go_wp2_with fail
  refine (Zag_any u _ hu).mono ?_
  rintro e w3' ⟨rfl, rfl⟩
  generalize hz : zagN u = z2
  have HZ2 := Lib.hid hz
  clear hz
  go_wp2_with fail
  refine (refZag_any u _ hu).mono ?_
  rintro e w3' ⟨rfl, rfl⟩
  rw [HZ2.out]
  go_wp2_with fail
  have hkept := Kept_any (w := w3) (a := a) (c := cap) (l := l) C3.out (by rw [← HN.out]; exact H.out.below B4.out) (by rw [← HN.out]; omega)
  rw [← HN.out] at hkept
  refine hkept.mono ?_
  rintro e w4 ⟨rfl, b4⟩
  have B5 := Lib.hid (B4.out.trans (b4.mono B4.out.size))
  clear b4 hkept
  go_wp2_with fail
  refine (lives_any (HQ.out.below B5.out HQ.out.1)).mono ?_
  rintro e w5 ⟨rfl, b5⟩
  have B6 := Lib.hid (B5.out.trans (b5.mono B5.out.size))
  clear b5
  go_wp2_with fail
  go_ret
  exact ⟨rfl, B6.out⟩
end Go.Proofs.YtemeimcncddkjaaDoor
