/- The walk of FieldHashes. Conditions: none. -/
import Derived.Test.YtifngjpgbjjacaaFieldR
set_option maxRecDepth 100000
namespace Go.Proofs.Ytifngjpgbjjacaa
open Go.RowKit

theorem hash_back (A B x n : Nat) (hn : fN = n + 1) (hA : A % 2305843009213693951 ≠ 0) (hB : B < 2305843009213693951) : mulP (addP (hashP A B x) (2305843009213693951 - B)) (powP A n) = x % 2305843009213693951 := by
  have e1 : addP (hashP A B x) (2305843009213693951 - B) = mulP A x := by
    unfold addP hashP mulP
    generalize A * x = Z
    omega
  have h := rule_inv A n hn hA
  rw [e1]
  have e2 : mulP (mulP A x) (powP A n) = mulP x (mulP A (powP A n)) := by
    rw [rule_assoc x A]
    unfold mulP
    rw [Nat.mul_comm A x]
  rw [e2, h]
  unfold mulP
  rw [Nat.mul_one]
theorem hashP_lt (a b x : Nat) : hashP a b x < 2305843009213693951 := Nat.mod_lt _ (by decide)

theorem box2 (w : World) (u v : Value) (t : TypeId) : (w.alloc (.cells #[u, v] t)).cell? ⟨w.heap.size, 0, none⟩ = some u ∧ (w.alloc (.cells #[u, v] t)).cell? ⟨w.heap.size, 1, none⟩ = some v ∧ w.heap.size < (w.alloc (.cells #[u, v] t)).heap.size ∧ Below w.heap.size w (w.alloc (.cells #[u, v] t)) :=
  ⟨by go_simp, by go_simp, by simp, (Below.refl _ _).alloc (Nat.le_refl _) _⟩

set_option maxHeartbeats 3200000 in
theorem hashes_walk (a b : Nat) (h1 : a < 18446744073709551616) (h2 : b < 18446744073709551616) (l : List UInt64) (ad : Option Addr) (len cap : Nat) (w : World) (hl : Holds w (.slice ad len cap) (u64s l)) (hcap : len ≤ 9223372036854775807) : Calls Try.prog 6 #[.int .u64 (a : Int), .int .u64 (b : Int), .slice ad len cap] w fun e w' => e = .returned (.bool true) ∧ Below w.heap.size w w' := by
  obtain ⟨A, hA⟩ : ∃ n : Nat, n = a % 2305843009213693951 := ⟨_, rfl⟩
  obtain ⟨B, hB⟩ : ∃ n : Nat, n = b % 2305843009213693951 := ⟨_, rfl⟩
  have hof1 := of_nat a
  have hof2 := of_nat b
  rw [← hA] at hof1
  rw [← hB] at hof2
  have lA : A < 2305843009213693951 := by omega
  have lB : B < 2305843009213693951 := by omega
  have eA : A % 2305843009213693951 = A := by omega
  clear hA hB
  have hin := inverse_any A
  rw [eA] at hin
  have HB2 := box2 w (.int .u64 (A : Int)) (.int .u64 (B : Int)) 33
  by_cases h0 : A = 0
  · rw [if_pos h0, decide_eq_false (by simpa using h0)] at hin
    clear eA h0
    go_enter Try.func6, Try.ntmps6
    go_wp2_with fail
    refine (hof1 _ h1).mono ?_
    rintro e w' ⟨rfl, rfl⟩
    go_wp2_with fail
    refine (hof2 _ h2).mono ?_
    rintro e w' ⟨rfl, rfl⟩
    go_wp2_with fail
    refine (hin _ (by omega)).mono ?_
    rintro e w1 ⟨rfl, b1⟩
    go_wp2_with fail
    refine (lives_any _).mono ?_
    rintro e w2 ⟨rfl, b2⟩
    go_wp2_with fail
    go_ret
    have c1 := HB2.2.2.2.trans (b1.mono HB2.2.2.2.size)
    exact ⟨rfl, c1.trans (b2.mono c1.size)⟩
  · rw [if_neg h0, decide_eq_true h0] at hin
    have HH := Lib.hid (fun x => hash_back A B x 2305843009213693949 (by decide +kernel) (by rw [eA]; exact h0) lB)
    have l7 := powP_lt A 2305843009213693949
    generalize powP A 2305843009213693949 = I at hin HH l7
    clear eA h0
    by_cases hlen : len > 1000
    · have t1 : decide ((1000 : Int) < (len : Int)) = true := decide_eq_true (by omega)
      go_enter Try.func6, Try.ntmps6
      go_wp2_with fail
      refine (hof1 _ h1).mono ?_
      rintro e w' ⟨rfl, rfl⟩
      go_wp2_with fail
      refine (hof2 _ h2).mono ?_
      rintro e w' ⟨rfl, rfl⟩
      go_wp2_with fail
      refine (hin _ (by omega)).mono ?_
      rintro e w1 ⟨rfl, b1⟩
      go_wp2_with fail
      refine (lives_any _).mono ?_
      rintro e w2 ⟨rfl, b2⟩
      go_wp2_with fail
      go_ret
      have c1 := HB2.2.2.2.trans (b1.mono HB2.2.2.2.size)
      exact ⟨rfl, c1.trans (b2.mono c1.size)⟩
    · have t1 : decide ((1000 : Int) < (len : Int)) = false := decide_eq_false (by omega)
      go_enter Try.func6, Try.ntmps6
      go_wp2_with fail
      refine (hof1 _ h1).mono ?_
      rintro e w' ⟨rfl, rfl⟩
      go_wp2_with fail
      refine (hof2 _ h2).mono ?_
      rintro e w' ⟨rfl, rfl⟩
      go_wp2_with fail
      refine (hin _ (by omega)).mono ?_
      rintro e w1 ⟨rfl, b1⟩
      have HL1 := Lib.hid (show Later w w1 from ⟨Nat.lt_of_lt_of_le HB2.2.2.1 b1.size, HB2.2.2.2.trans (b1.mono HB2.2.2.2.size)⟩)
      have hc0 : w1.cell? ⟨w.heap.size, 0, none⟩ = some (.int .u64 (A : Int)) := by rw [b1.cell (p := ⟨w.heap.size, 0, none⟩) HB2.2.2.1]; exact HB2.1
      have hc1 : w1.cell? ⟨w.heap.size, 1, none⟩ = some (.int .u64 (B : Int)) := by rw [b1.cell (p := ⟨w.heap.size, 1, none⟩) HB2.2.2.1]; exact HB2.2.1
      have HS := Lib.hid (hl.below HL1.out.2)
      have HC := Lib.hid (And.intro hc0 hc1)
      clear HB2 b1 hc0 hc1
      go_wp2_with fail
      go_loopw [11, 12, 34] (fun _ _ i wr => ∃ k : Nat, k ≤ len ∧ i = .int .i64 (k : Int) ∧ Below w1.heap.size w1 wr) (fun _ _ i _ => len - (intOf i).toNat)
      case atStart => exact ⟨0, Nat.zero_le _, rfl, Below.refl _ _⟩
      case round =>
        obtain ⟨k, hk, rfl, hb⟩ := hrel
        by_cases hlt : k < len
        · have t2 : decide ((k : Int) < (len : Int)) = true := decide_eq_true (by omega)
          obtain ⟨p, rfl⟩ := HS.out.ptr (by omega)
          have hll : l.length = len := by have := HS.out.len.1; rwa [u64s_len] at this
          obtain ⟨c, hcl⟩ : ∃ c : UInt64, l[k]? = some c := ⟨l[k], by simp⟩
          have hcell : wr.cell? (p.add k) = some (.int .u64 (c.toNat : Int)) := by
            have h := HS.out.cell (j := k) (u := .int .u64 (c.toNat : Int)) (by simp [u64s, hcl])
            rw [hb.cell (World.block_lt_of_cell? w1 _ h)]; exact h
          have hx : c.toNat < 18446744073709551616 := c.toNat_lt
          have hd0 : wr.cell? ⟨w.heap.size, 0, none⟩ = some (.int .u64 (A : Int)) := by rw [hb.cell (p := ⟨w.heap.size, 0, none⟩) HL1.out.1]; exact HC.out.1
          have hd1 : wr.cell? ⟨w.heap.size, 1, none⟩ = some (.int .u64 (B : Int)) := by rw [hb.cell (p := ⟨w.heap.size, 1, none⟩) HL1.out.1]; exact HC.out.2
          have HX := HH.out c.toNat
          generalize c.toNat = x at hcell hx HX
          clear hcl hll
          have D1 := hash_any A B x
          have D2 := good_yes _ (hashP_lt A B x)
          have l8 := hashP_lt A B x
          generalize hashP A B x = h at D1 D2 HX l8
          have D3 := add_nat h (2305843009213693951 - B)
          have l9 := addP_lt h (2305843009213693951 - B)
          generalize addP h (2305843009213693951 - B) = g at D3 HX l9
          have D4 := mul_nat g I
          have D5 := of_nat x
          rw [HX] at D4
          clear HX
          go_wp2_with fail
          refine (D1 _ (by omega) (by omega) hx).mono ?_
          rintro e w2 ⟨rfl, b2⟩
          have hb2 := hb.trans (b2.mono hb.size)
          have hd2 : w2.cell? ⟨w.heap.size, 1, none⟩ = some (.int .u64 (B : Int)) := by rw [hb2.cell (p := ⟨w.heap.size, 1, none⟩) HL1.out.1]; exact HC.out.2
          have eB : (2305843009213693951 : Int) - (B : Int) = ((2305843009213693951 - B : Nat) : Int) := by omega
          have lB2 : 2305843009213693951 - B < 18446744073709551616 := by omega
          clear hd0 hd1 hcell D1
          go_wp2_with fail
          refine (D2 _).mono ?_
          rintro e w' ⟨rfl, rfl⟩
          clear D2
          go_wp2_with fail
          refine (D3 _ (by omega) lB2).mono ?_
          rintro e w' ⟨rfl, rfl⟩
          clear D3
          go_wp2_with fail
          refine (D4 _ (by omega) (by omega)).mono ?_
          rintro e w3 ⟨rfl, b3⟩
          clear D4
          go_wp2_with fail
          refine (D5 _ hx).mono ?_
          rintro e w' ⟨rfl, rfl⟩
          clear D5
          go_wp2_with fail
          go_roundw
          case rel => exact ⟨k + 1, by omega, by go_num, hb2.trans (b3.mono hb2.size)⟩
          case measure => simp [intOf]; omega
        · have t2 : decide ((k : Int) < (len : Int)) = false := decide_eq_false (by omega)
          go_wp2_with fail
          refine (lives_any _).mono ?_
          rintro e w2 ⟨rfl, b2⟩
          go_wp2_with fail
          go_ret
          have c1 := HL1.out.2.trans (hb.mono HL1.out.2.size)
          exact ⟨rfl, c1.trans (b2.mono c1.size)⟩
end Go.Proofs.Ytifngjpgbjjacaa
