/- The texts FieldE Divide WideQ Parse WideS WideJ VbText VbGuess VbParse VbBack, one behind the other; each one's own comment says what it holds. -/
import Derived.Test.YtfmhdnefcapjgaaGreatDoorPackF
import Derived.Test.YtfmhdnefcapjgaaGreatDoorPackE
import Derived.Test.YtfmhdnefcapjgaaGreatDoorPackC
import Derived.Test.YtfmhdnefcapjgaaGreatDoorPackD
/- Contracts of the reference's Times and Divide. Conditions: none (each a uint64). -/
set_option maxRecDepth 100000
namespace Go.Proofs.YtfmhdnefcapjgaaGreatDoor
open Go.RowKit

theorem times_split (x y : Nat) : x * y = (x / 4294967296) * (y / 4294967296) * 18446744073709551616 + ((x / 4294967296) * (y % 4294967296) + (x % 4294967296) * (y / 4294967296)) * 4294967296 + (x % 4294967296) * (y % 4294967296) := by
  conv => lhs; rw [kn_split x, kn_split y]
  rw [Nat.add_mul, Nat.mul_add, Nat.mul_add, Nat.mul_right_comm (x / 4294967296) 4294967296 (y / 4294967296 * 4294967296), ← Nat.mul_assoc (x / 4294967296) (y / 4294967296), Nat.mul_right_comm (x / 4294967296) 4294967296 (y % 4294967296), ← Nat.mul_assoc (x % 4294967296)]
  generalize x / 4294967296 * (y / 4294967296) = A
  generalize x / 4294967296 * (y % 4294967296) = B
  generalize x % 4294967296 * (y / 4294967296) = C
  generalize x % 4294967296 * (y % 4294967296) = D
  omega
theorem half_mul {a b : Nat} (ha : a < 4294967296) (hb : b < 4294967296) : a * b ≤ 18446744065119617025 := by
  have : a * b ≤ 4294967295 * 4294967295 := Nat.mul_le_mul (by omega) (by omega)
  omega

/-- one bit more -/
theorem bit_next (N hi lo m : Nat) (hN : N = hi * 18446744073709551616 + lo) (hm : m < 64) : N / 2 ^ m = 2 * (N / 2 ^ (m + 1)) + lo / 2 ^ m % 2 := by
  have e1 : N / 2 ^ (m + 1) = N / 2 ^ m / 2 := by rw [Nat.pow_succ, Nat.div_div_eq_div_mul]
  have e2 : N / 2 ^ m = lo / 2 ^ m + hi * 2 ^ (63 - m) * 2 := by
    have e3 : N = lo + hi * 2 ^ (63 - m) * 2 * 2 ^ m := by
      have : 2 ^ (63 - m) * (2 * 2 ^ m) = 18446744073709551616 := by
        rw [← Nat.pow_succ', ← Nat.pow_add, show 63 - m + (m + 1) = 64 by omega]
      rw [hN, Nat.mul_assoc (hi * _), Nat.mul_assoc hi, this, Nat.add_comm]
    rw [e3, Nat.add_mul_div_right _ _ (Nat.two_pow_pos m)]
  rw [e1, e2]
  generalize lo / 2 ^ m = A
  generalize hi * 2 ^ (63 - m) = B
  omega
theorem div_step (q r c b : Nat) (hr : r < c) (hb : b < 2) (M : Nat) (h1 : M / c = q) (h2 : M % c = r) :
    (c ≤ 2 * r + b → (2 * M + b) / c = 2 * q + 1 ∧ (2 * M + b) % c = 2 * r + b - c) ∧ (2 * r + b < c → (2 * M + b) / c = 2 * q ∧ (2 * M + b) % c = 2 * r + b) := by
  have h := Nat.div_add_mod M c
  rw [h1, h2] at h
  constructor
  · intro hc
    have e : 2 * M + b = (2 * r + b - c) + c * (2 * q + 1) := by
      rw [Nat.mul_add, Nat.mul_left_comm]
      generalize c * q = Z at h ⊢
      omega
    rw [e]
    exact ⟨by rw [Nat.add_mul_div_left _ _ (by omega), Nat.div_eq_of_lt (by omega), Nat.zero_add], by rw [Nat.add_mul_mod_self_left, Nat.mod_eq_of_lt (by omega)]⟩
  · intro hc
    have e : 2 * M + b = (2 * r + b) + c * (2 * q) := by
      rw [Nat.mul_left_comm]
      generalize c * q = Z at h ⊢
      omega
    rw [e]
    exact ⟨by rw [Nat.add_mul_div_left _ _ (by omega), Nat.div_eq_of_lt (by omega), Nat.zero_add], by rw [Nat.add_mul_mod_self_left, Nat.mod_eq_of_lt (by omega)]⟩
theorem div_small (N c m : Nat) (hN : N < c * 18446744073709551616) : N / 2 ^ (m + 1) / c < 9223372036854775808 := by
  have hc : 0 < c := by omega
  refine (Nat.div_lt_iff_lt_mul hc).2 ?_
  have : N / 2 ^ (m + 1) ≤ N / 2 := Nat.div_le_div_left (by rw [Nat.pow_succ]; have := Nat.two_pow_pos m; omega) (by omega)
  omega
end Go.Proofs.YtfmhdnefcapjgaaGreatDoor
/- Contract of the reference Divide (talusref03). Conditions: none (each a uint64). -/
set_option maxRecDepth 100000
namespace Go.Proofs.YtfmhdnefcapjgaaGreatDoor
open Go.RowKit

theorem ret_three {k : IntKind} {a b c d : Int} {e : Bool} (h : a = b) (h2 : c = d) : Ending.returned (.tuple #[.int k a, .int k c, .bool e]) = .returned (.tuple #[.int k b, .int k d, .bool e]) := by rw [h, h2]

end Go.Proofs.YtfmhdnefcapjgaaGreatDoor
/- Contracts of Print on both sides. Conditions: none. -/
set_option maxRecDepth 100000
namespace Go.Proofs.YtfmhdnefcapjgaaGreatDoor.Wide
open Go.RowKit

theorem str_app (a b : List UInt8) : (⟨a.toArray⟩ ++ ⟨b.toArray⟩ : ByteArray) = ⟨(a ++ b).toArray⟩ := by
  apply ByteArray.ext
  simp
theorem ret_str {a b : ByteArray} (h : a = b) : Ending.returned (.string a) = .returned (.string b) := by rw [h]
theorem len39 {n : Nat} (h : n < 340282366920938463463374607431768211456) : (digs n).length ≤ 39 := digs_len 38 n (Nat.lt_of_lt_of_le h (by decide))
theorem print_pos {N : Int} (h : 0 ≤ N) : printL N = digs N.natAbs := by unfold printL; rw [if_neg (by omega)]
theorem print_neg {N : Int} (h : N < 0) : printL N = 45 :: digs N.natAbs := by unfold printL; rw [if_pos h]
theorem c1_cells {w w' : World} {a0 a1 : Value} (hb : Below (w.heap.size + 1) (w.alloc (.cells #[a0, a1] 61)) w') :
    w'.cell? ⟨w.heap.size, 0, none⟩ = some a0 ∧ w'.cell? ⟨w.heap.size, 1, none⟩ = some a1 ∧ w'.frozen? ⟨w.heap.size, 0, none⟩ = false ∧ w'.frozen? ⟨w.heap.size, 1, none⟩ = false := by
  refine ⟨?_, ?_, ?_, ?_⟩
  · rw [hb.cell (p := ⟨w.heap.size, 0, none⟩) (by simp)]; go_simp
  · rw [hb.cell (p := ⟨w.heap.size, 1, none⟩) (by simp)]; go_simp
  · rw [hb.frozen (p := ⟨w.heap.size, 0, none⟩) (by simp)]; go_simp
  · rw [hb.frozen (p := ⟨w.heap.size, 1, none⟩) (by simp)]; go_simp
theorem o1_next {w w' w1 : World} {o : Obj} (hb : Below (w.heap.size + 1) (w.alloc o) w') (hk : Below w'.heap.size w' w1) : Below (w.heap.size + 1) (w.alloc o) w1 := by
  have hz := hb.size
  rw [World.size_alloc] at hz
  exact hb.trans (hk.mono hz)
theorem o1_done {w w' : World} {o : Obj} (hb : Below (w.heap.size + 1) (w.alloc o) w') : Below w.heap.size w w' := ((Below.refl _ _).alloc (Nat.le_refl _) _).trans (hb.mono (by omega))
set_option maxHeartbeats 800000 in
theorem print_any (h l : Int) (w : World) (h0 : -9223372036854775808 ≤ h) (h1 : h < 9223372036854775808) (l0 : 0 ≤ l) (l1 : l < 18446744073709551616) : Calls Tryz.prog 144 #[.agg #[.int .i64 h, .int .u64 l]] w fun e w' => e = .returned (.string ⟨(printL (h * 18446744073709551616 + l)).toArray⟩) ∧ Below w.heap.size w w' := by
  obtain ⟨N, hN⟩ : ∃ N, N = h * 18446744073709551616 + l := ⟨_, rfl⟩
  have K1 := fun w => sizeOf_any h l w h0 h1 l0 l1
  rw [← hN] at K1 ⊢
  have K3 := below_any h l
  obtain ⟨H, hH⟩ : ∃ H, H = N.natAbs / 18446744073709551616 := ⟨_, rfl⟩
  obtain ⟨L, hL⟩ : ∃ H, H = N.natAbs % 18446744073709551616 := ⟨_, rfl⟩
  have ha : absW N = (N.natAbs : Int) := by unfold absW; split <;> omega
  have K2 := fun w => digits_any H L w (by omega) (by omega)
  rw [show H * 18446744073709551616 + L = N.natAbs by omega] at K2
  unfold sv at K1
  rw [ha, (sv_nat _).1, (sv_nat _).2, ← hH, ← hL] at K1
  by_cases hn : N < 0
  · rw [print_neg hn]
    rw [decide_eq_true (by omega)] at K3
    have hd := len39 (n := N.natAbs) (by omega)
    clear hH hL ha hn hN
    generalize digs N.natAbs = d at K2 hd ⊢
    go_enter Tryz.func144, Tryz.ntmps144
    go_wp2_with fail
    refine (K1 _).mono ?_
    rintro e w1 ⟨rfl, b1⟩
    replace b1 := o1_next (Below.refl _ _) b1
    go_wp2_with fail
    refine (K2 _).mono ?_
    rintro e w2 ⟨rfl, b2⟩
    replace b2 := o1_next b1 b2
    have hc := c1_cells b2
    clear b1
    go_wp2_with fail
    refine (K3 _).mono ?_
    rintro e w3 ⟨rfl, b3⟩
    replace b3 := o1_next b2 b3
    clear b2 hc
    go_wp2_with fail
    go_ret
    exact ⟨ret_str (str_app [45] d), o1_done b3⟩
  · rw [print_pos (by omega)]
    rw [decide_eq_false (by omega)] at K3
    clear hH hL ha hn hN
    generalize digs N.natAbs = d at K2 ⊢
    go_enter Tryz.func144, Tryz.ntmps144
    go_wp2_with fail
    refine (K1 _).mono ?_
    rintro e w1 ⟨rfl, b1⟩
    replace b1 := o1_next (Below.refl _ _) b1
    go_wp2_with fail
    refine (K2 _).mono ?_
    rintro e w2 ⟨rfl, b2⟩
    replace b2 := o1_next b1 b2
    have hc := c1_cells b2
    clear b1
    go_wp2_with fail
    refine (K3 _).mono ?_
    rintro e w3 ⟨rfl, b3⟩
    replace b3 := o1_next b2 b3
    clear b2 hc
    go_wp2_with fail
    go_ret
    exact ⟨rfl, o1_done b3⟩
theorem set_first {w : World} {n : Nat} {x y : Value} (h : w.cell? ⟨n, 0, none⟩ = some x) (h' : w.cell? ⟨n, 1, none⟩ = some y) (u v : Value) : ((w.setCell ⟨n, 0, none⟩ u).setCell ⟨n, 1, none⟩ v).cell? ⟨n, 0, none⟩ = some u := by
  rw [World.cell?_setCell_other _ _ _ _ (by simp)]; exact (set_two h h' u v).1
theorem o1_set {w w' : World} (h : Below w.heap.size w w') (u v : Value) : Below w.heap.size w ((w'.setCell ⟨w.heap.size, 0, none⟩ u).setCell ⟨w.heap.size, 1, none⟩ v) := (h.setCell (by simp) _).setCell (by simp) _
theorem box_drewN (w : World) (o : Obj) (n : Nat) : Below w.heap.size w ((w.alloc o).drewN n) := by
  have h := (Below.refl w.heap.size w).alloc (Nat.le_refl _) o
  exact ⟨h.os, h.tape, h.output, h.size, h.block⟩
theorem div_facts (H L : Nat) (hH : H < 18446744073709551616) (hL : L < 18446744073709551616) : ∃ H1 H2 L2 D : Nat, H % 10 = H1 ∧ H / 10 = H2 ∧ H1 < 10 ∧ H2 < 18446744073709551616 ∧ L2 < 18446744073709551616 ∧ D < 10 ∧ (H * 18446744073709551616 + L) / 10 = H2 * 18446744073709551616 + L2 ∧ (H * 18446744073709551616 + L) % 10 = D ∧ (H1 * 18446744073709551616 + L) / 10 = L2 ∧ (H1 * 18446744073709551616 + L) % 10 = D :=
  ⟨H % 10, H / 10, _, _, rfl, rfl, Nat.mod_lt _ (by decide), Nat.lt_of_le_of_lt (Nat.div_le_self _ _) hH, Nat.div_lt_of_lt_mul (by omega), Nat.mod_lt _ (by decide), quo_gen H 18446744073709551616 L 10 (by decide), rem_gen H 18446744073709551616 L 10, rfl, rfl⟩
theorem one_byte (w : World) (D : Nat) (hD : D < 10) : (convert 33 9 (.slice (some ⟨w.heap.size, 0, none⟩) 1 1)).run Tryz.prog (w.alloc (.cells #[.int .u8 (48 + (D : Int))] 5)) = .ok (.string ⟨#[UInt8.ofNat (48 + D)]⟩) (w.alloc (.cells #[.int .u8 (48 + (D : Int))] 5)) := by
  have hv : ((UInt8.ofNat (48 + D)).toNat : Int) = 48 + (D : Int) := by rw [dig_nat hD]; omega
  exact toStr' (l := [UInt8.ofNat (48 + D)]) (Holds.of_heap (alloc1 _ _) (by rw [← hv]; rfl) 1 1 rfl (Nat.le_refl _))
end Go.Proofs.YtfmhdnefcapjgaaGreatDoor.Wide
/- What texts of numbers say: plain mathematics. Conditions: none. -/
set_option maxRecDepth 100000
namespace Go.Proofs.YtfmhdnefcapjgaaGreatDoor.Wide
open Go.RowKit

theorem digs_no45 (m : Nat) : (digs m).head? ≠ some 45 := by
  intro h
  cases hd : digs m with
  | nil => exact digs_ne m hd
  | cons c k =>
    rw [hd] at h
    have hc := digs_isD m c (by rw [hd]; simp)
    have e : c = 45 := by simpa using h
    have := hc.1
    rw [e] at this
    have h45 : (45 : UInt8).toNat = 45 := rfl
    omega
/-- a text with its sign taken off -/
def Cut (l k : List UInt8) (neg : Bool) : Prop := (neg = true ∧ l = 45 :: k) ∨ (neg = false ∧ l = k ∧ l.head? ≠ some 45)
theorem cut_of (l : List UInt8) : Cut l (Lib.trimPrefix l [45]) (Lib.hasPrefix l [45]) := by
  cases l with
  | nil => exact .inr ⟨rfl, rfl, by simp⟩
  | cons c k =>
    by_cases h : c = 45
    · subst h; exact .inl ⟨by simp [Lib.hasPrefix, List.isPrefixOf], by simp [Lib.trimPrefix, Lib.hasPrefix, List.isPrefixOf]⟩
    · have hb : (45 == c) = false := by rw [beq_eq_false_iff_ne]; exact fun e => h e.symm
      refine .inr ⟨by simp [Lib.hasPrefix, List.isPrefixOf, hb], by simp [Lib.trimPrefix, Lib.hasPrefix, List.isPrefixOf, hb], by simpa using h⟩
/-- no number is told so -/
def NoText (l : List UInt8) : Prop := ∀ M, fitW M = true → l ≠ printL M
theorem cut_no {l k : List UInt8} {neg : Bool} (hc : Cut l k neg) (h : ∀ m, m < 340282366920938463463374607431768211456 → k ≠ digs m) : NoText l := by
  intro M hf e
  have hf := fit_iff.1 hf
  rcases hc with ⟨_, hl⟩ | ⟨_, hl, hh⟩
  · rcases Int.lt_or_le M 0 with hm | hm
    · rw [print_neg hm, hl] at e
      exact h M.natAbs (by omega) (List.cons.inj e).2
    · rw [print_pos hm, hl] at e
      exact digs_no45 M.natAbs (by rw [← e]; rfl)
  · rcases Int.lt_or_le M 0 with hm | hm
    · rw [print_neg hm] at e
      exact hh (by rw [e]; rfl)
    · rw [print_pos hm, hl] at e
      exact h M.natAbs (by omega) e
theorem cut_yes {l k : List UInt8} {neg : Bool} {m : Nat} (hc : Cut l k neg) (hk : k = digs m) (h : sgnOk (m : Int) neg = true) : fitW (sgnW (m : Int) neg) = true ∧ l = printL (sgnW (m : Int) neg) := by
  unfold sgnW
  rw [h, if_pos rfl]
  rcases hc with ⟨rfl, hl⟩ | ⟨rfl, hl, _⟩
  · unfold sgnOk at h
    rw [if_pos rfl, decide_eq_true_iff] at h
    rw [if_pos rfl]
    exact ⟨fit_iff.2 (by omega), by rw [print_neg (by omega), hl, hk, show (-(m : Int)).natAbs = m by omega]⟩
  · unfold sgnOk at h
    rw [if_neg (by decide), decide_eq_true_iff] at h
    rw [if_neg (by decide)]
    exact ⟨fit_iff.2 (by omega), by rw [print_pos (by omega), hl, hk, show (m : Int).natAbs = m by omega]⟩
theorem cut_not {l k : List UInt8} {neg : Bool} {m : Nat} (hc : Cut l k neg) (hk : k = digs m) (h : sgnOk (m : Int) neg = false) : sgnW (m : Int) neg = 0 ∧ NoText l := by
  refine ⟨by unfold sgnW; rw [h, if_neg (by decide)], fun M hf e => ?_⟩
  have hf := fit_iff.1 hf
  rcases hc with ⟨rfl, hl⟩ | ⟨rfl, hl, hh⟩
  · unfold sgnOk at h
    rw [if_pos rfl, decide_eq_false_iff_not] at h
    rcases Int.lt_or_le M 0 with hm | hm
    · rw [print_neg hm, hl, hk] at e
      have := digs_inj (List.cons.inj e).2
      omega
    · rw [print_pos hm, hl] at e
      exact digs_no45 M.natAbs (by rw [← e]; rfl)
  · unfold sgnOk at h
    rw [if_neg (by decide), decide_eq_false_iff_not] at h
    rcases Int.lt_or_le M 0 with hm | hm
    · rw [print_neg hm] at e
      exact hh (by rw [e]; rfl)
    · rw [print_pos hm, hl, hk] at e
      have := digs_inj e
      omega
/-- what a parser answers -/
def ParseP (l : List UInt8) (w : World) (e : Ending) (w' : World) : Prop :=
  ∃ (N : Int) (b : Bool), e = .returned (.tuple #[wv N, .bool b]) ∧ Below w.heap.size w w' ∧ (b = true → fitW N = true ∧ l = printL N) ∧ (b = false → N = 0 ∧ NoText l)
theorem print_inj {A B : Int} (h : printL A = printL B) : A = B := by
  rcases Int.lt_or_le A 0 with ha | ha <;> rcases Int.lt_or_le B 0 with hb | hb
  · rw [print_neg ha, print_neg hb] at h
    have := digs_inj (List.cons.inj h).2
    omega
  · rw [print_neg ha, print_pos hb] at h
    exact absurd (by rw [← h]; rfl) (digs_no45 B.natAbs)
  · rw [print_pos ha, print_neg hb] at h
    exact absurd (by rw [h]; rfl) (digs_no45 A.natAbs)
  · rw [print_pos ha, print_pos hb] at h
    have := digs_inj h
    omega
/-- two parsers answer alike -/
theorem parse_alike {l : List UInt8} {N M : Int} {b c : Bool} (h1 : b = true → fitW N = true ∧ l = printL N) (h2 : b = false → N = 0 ∧ NoText l) (h3 : c = true → fitW M = true ∧ l = printL M) (h4 : c = false → M = 0 ∧ NoText l) : N = M ∧ b = c := by
  cases b <;> cases c
  · exact ⟨by rw [(h2 rfl).1, (h4 rfl).1], rfl⟩
  · exact absurd (h3 rfl).2 ((h2 rfl).2 M (h3 rfl).1)
  · exact absurd (h1 rfl).2 ((h4 rfl).2 N (h1 rfl).1)
  · exact ⟨print_inj ((h1 rfl).2.symm.trans (h3 rfl).2), rfl⟩
end Go.Proofs.YtfmhdnefcapjgaaGreatDoor.Wide
/- Contract of Parse. Conditions: the text is no longer than any string. -/
set_option maxRecDepth 100000
namespace Go.Proofs.YtfmhdnefcapjgaaGreatDoor.Wide
open Go.RowKit

theorem trim_len (l : List UInt8) : (Lib.trimPrefix l [45]).length ≤ l.length := by
  unfold Lib.trimPrefix
  split
  · rw [List.length_drop]; omega
  · exact Nat.le_refl _
theorem p1_res {w w' : World} {c0 c1 : Value} (hb : Below (w.heap.size + 1) (w.alloc (.cells #[c0, c1] 61)) w') : w'.cell? ⟨w.heap.size, 0, none⟩ = some c0 ∧ w'.cell? ⟨w.heap.size, 1, none⟩ = some c1 ∧ w'.frozen? ⟨w.heap.size, 0, none⟩ = false ∧ w'.frozen? ⟨w.heap.size, 1, none⟩ = false := c1_cells hb
theorem p1_alloc {w w' : World} {o : Obj} (hb : Below (w.heap.size + 1) (w.alloc o) w') (o' : Obj) : Below (w.heap.size + 1) (w.alloc o) (w'.alloc o') := by
  have hz := hb.size
  rw [World.size_alloc] at hz
  exact hb.alloc hz o'
set_option maxHeartbeats 1600000 in
theorem parse_any (s : ByteArray) (hsz : s.size < 9223372036854775807) (w : World) : Calls Tryz.prog 24 #[.string s] w (ParseP s.data.toList w) := by
  have KC := fun w => Tryz.strings_CutPrefix s ⟨#[45]⟩ w
  have hcut := cut_of s.data.toList
  have hlen := trim_len s.data.toList
  rw [← str_size] at hlen
  rw [show (⟨#[45]⟩ : ByteArray).data.toList = [45] from rfl] at KC
  generalize s.data.toList = l at hcut KC hlen ⊢
  generalize Lib.trimPrefix l [45] = k at hcut KC hlen
  generalize Lib.hasPrefix l [45] = neg at hcut KC
  have hks : (⟨k.toArray⟩ : ByteArray).size = k.length := by rw [str_size]
  have KR := fun w => read_any ⟨k.toArray⟩ (by omega) w
  rw [show (⟨k.toArray⟩ : ByteArray).data.toList = k from rfl] at KR
  have KS : ∀ (T S : Nat), T < 18446744073709551616 → S < 18446744073709551616 → ∀ w, Calls Tryz.prog 39 #[.agg #[.int .u64 (T : Int), .int .u64 (S : Int)], .bool neg] w fun e w' => e = .returned (.tuple #[wv (sgnW ((T * 18446744073709551616 + S : Nat) : Int) neg), .bool (sgnOk ((T * 18446744073709551616 + S : Nat) : Int) neg)]) ∧ Below w.heap.size w w' := fun T S hT hS w => by
    have e : ((T : Int) * 18446744073709551616 + (S : Int)) = ((T * 18446744073709551616 + S : Nat) : Int) := by omega
    cases neg
    · have K := signed_pos (T : Int) (S : Int) w (by omega) (by omega) (by omega) (by omega)
      rw [e] at K; exact K
    · have K := signed_neg (T : Int) (S : Int) w (by omega) (by omega) (by omega) (by omega)
      rw [e] at K; exact K
  have HC := Lib.hid hcut
  clear hcut hlen hks hsz
  go_enter Tryz.func24, Tryz.ntmps24
  go_wp2_with fail
  refine (KC _).mono ?_
  rintro e w' ⟨rfl, rfl⟩
  go_wp2_with fail
  refine (KR _).mono ?_
  rintro e w1 ⟨T, S, b, rfl, b1, hT, hS, hyes, hno⟩
  have d1 := o1_next (Below.refl _ _) b1
  cases b with
  | false =>
    have HNo := Lib.hid (cut_no HC.out (hno rfl))
    have d2 := p1_alloc d1 (.cells #[.int .u64 (T : Int), .int .u64 (S : Int)] 78)
    have hres := p1_res d2
    have hr1 := fun u => (set_two hres.1 hres.2.1 u u).1
    have hr2 := fun u v => (set_two hres.1 hres.2.1 u v).2
    clear b1 KS KR KC hyes hno
    go_wp2_with fail
    refine bodyPost_ret (v := .tuple #[.agg #[.int .i64 0, .int .u64 0], .bool false]) (by simp [results, Tryz.results24, go_sem, hr1, hr2]) rfl ⟨0, false, rfl, o1_set (o1_done d2) _ _, (fun h => by cases h), fun _ => ⟨rfl, HNo.out⟩⟩
  | true =>
    have hk := hyes rfl
    have K := KS T S hT hS
    have HA : ∀ b, sgnOk ((T * 18446744073709551616 + S : Nat) : Int) neg = b → (b = true → fitW (sgnW ((T * 18446744073709551616 + S : Nat) : Int) neg) = true ∧ l = printL (sgnW ((T * 18446744073709551616 + S : Nat) : Int) neg)) ∧ (b = false → sgnW ((T * 18446744073709551616 + S : Nat) : Int) neg = 0 ∧ NoText l) := fun b hb => ⟨fun h => cut_yes HC.out hk (hb.trans h), fun h => cut_not HC.out hk (hb.trans h)⟩
    generalize sgnW ((T * 18446744073709551616 + S : Nat) : Int) neg = N at K HA
    generalize sgnOk ((T * 18446744073709551616 + S : Nat) : Int) neg = ok at K HA
    have HF := Lib.hid (HA ok rfl)
    unfold wv at K
    obtain ⟨x, hx⟩ : ∃ x, hiW N = x := ⟨_, rfl⟩
    obtain ⟨y, hy⟩ : ∃ x, loW N = x := ⟨_, rfl⟩
    rw [hx, hy] at K
    have HX := Lib.hid (And.intro hx hy)
    clear HA hx hy KS KR KC hyes hno hk
    go_wp2_with fail
    refine (K _).mono ?_
    rintro e w2 ⟨rfl, b2⟩
    have d3 := o1_next (p1_alloc d1 (.cells #[.int .u64 (T : Int), .int .u64 (S : Int)] 78)) b2
    have hres := p1_res d3
    have hr1 := fun u => (set_two hres.1 hres.2.1 u u).1
    have hr2 := fun u v => (set_two hres.1 hres.2.1 u v).2
    have HB := Lib.hid (o1_set (o1_done d3))
    clear b1 b2 d1 d3 K
    go_wp2_with fail
    refine bodyPost_ret (v := .tuple #[.agg #[.int .i64 x, .int .u64 y], .bool ok]) (by simp [results, Tryz.results24, go_sem, hr1, hr2]) rfl ⟨N, ok, by rw [← HX.out.1, ← HX.out.2], HB.out _ _, HF.out.1, HF.out.2⟩
end Go.Proofs.YtfmhdnefcapjgaaGreatDoor.Wide
/- Contracts of Fits on both sides. Conditions: none. -/
set_option maxRecDepth 100000
namespace Go.Proofs.YtfmhdnefcapjgaaGreatDoor.Wide
open Go.RowKit

def fit64 (N : Int) : Bool := decide (-9223372036854775808 ≤ N ∧ N < 9223372036854775808)
def int64 (N : Int) : Int := if fit64 N then N else 0
theorem fit64_iff {N : Int} : fit64 N = true ↔ -9223372036854775808 ≤ N ∧ N < 9223372036854775808 := by unfold fit64; exact decide_eq_true_iff
theorem fit64_not {N : Int} : fit64 N = false ↔ N < -9223372036854775808 ∨ 9223372036854775808 ≤ N := by unfold fit64; rw [decide_eq_false_iff_not]; omega
theorem c1_all {w w' : World} {a0 a1 : Value} (hb : Below (w.heap.size + 1) (w.alloc (.cells #[a0, a1] 61)) w') :
    w'.cell? ⟨w.heap.size, 0, none⟩ = some a0 ∧ w'.cell? ⟨w.heap.size, 1, none⟩ = some a1 ∧ Below (w.heap.size + 1) (w.alloc (.cells #[a0, a1] 61)) w' := by
  refine ⟨?_, ?_, hb⟩
  · rw [hb.cell (p := ⟨w.heap.size, 0, none⟩) (by simp)]; go_simp
  · rw [hb.cell (p := ⟨w.heap.size, 1, none⟩) (by simp)]; go_simp
theorem c1_keep {w w' w1 : World} {a0 a1 : Value} (hk : Below w'.heap.size w' w1) (h : w'.cell? ⟨w.heap.size, 0, none⟩ = some a0 ∧ w'.cell? ⟨w.heap.size, 1, none⟩ = some a1 ∧ Below (w.heap.size + 1) (w.alloc (.cells #[a0, a1] 61)) w') :
    w1.cell? ⟨w.heap.size, 0, none⟩ = some a0 ∧ w1.cell? ⟨w.heap.size, 1, none⟩ = some a1 ∧ Below (w.heap.size + 1) (w.alloc (.cells #[a0, a1] 61)) w1 := by
  have hz := h.2.2.size
  rw [World.size_alloc] at hz
  exact c1_all (h.2.2.trans (hk.mono hz))
theorem c1_done {w w' : World} {a0 a1 : Value} (hb : Below (w.heap.size + 1) (w.alloc (.cells #[a0, a1] 61)) w') : Below w.heap.size w w' := ((Below.refl _ _).alloc (Nat.le_refl _) _).trans (hb.mono (by omega))
set_option maxHeartbeats 1600000 in
theorem fits_any (h l : Int) (w : World) (l0 : 0 ≤ l) (l1 : l < 18446744073709551616) : Calls Tryz.prog 25 #[.agg #[.int .i64 h, .int .u64 l]] w fun e w' => e = .returned (.tuple #[.int .i64 (int64 (h * 18446744073709551616 + l)), .bool (fit64 (h * 18446744073709551616 + l))]) ∧ Below w.heap.size w w' := by
  obtain ⟨N, hN⟩ : ∃ N, N = h * 18446744073709551616 + l := ⟨_, rfl⟩
  rw [← hN]
  obtain ⟨n, hn⟩ : ∃ n, IntKind.i64.wrap l = n := ⟨_, rfl⟩
  have hn' := hn
  rw [IntKind.wrap_i64] at hn'
  have K := fun w => of_any n w (by omega) (by omega)
  have hs := w_split n
  have hlo : loW n = l := by omega
  unfold wv at K
  rw [hlo] at K
  by_cases hf : fit64 N = true
  · have hb := fit64_iff.1 hf
    have hnN : n = N := by omega
    have hh : hiW n = h := by omega
    unfold int64
    rw [hf, if_pos rfl, ← hnN]
    rw [hh] at K
    have t0 : (h == h) = true := by simp
    have t1 : (l == l) = true := by simp
    clear hn' hs hlo hf hb hh hN hnN
    go_enter Tryz.func25, Tryz.ntmps25
    go_wp2_with fail
    have HS := c1_all (w := w) (a0 := .int .i64 h) (a1 := .int .u64 l) (Below.refl _ _).drew
    go_region_held3 (fun w' => w'.cell? ⟨w.heap.size, 0, none⟩ = some (.int .i64 h) ∧ w'.cell? ⟨w.heap.size, 1, none⟩ = some (.int .u64 l) ∧ Below (w.heap.size + 1) (w.alloc (.cells #[.int .i64 h, .int .u64 l] 61)) w')
      (first | exact HS | (refine c1_keep (by assumption) (by first | assumption | exact HS)))
      (first | (go_at_call 40; refine (K _).mono ?_; rintro e w1 ⟨rfl, hb1⟩))
    rename_i hHeld
    go_wp2_with fail
    go_ret2
    exact ⟨rfl, c1_done hHeld.2.2⟩
  · have hf := Bool.eq_false_iff.2 hf
    have hb := fit64_not.1 hf
    have hh : hiW n ≠ h := by omega
    unfold int64
    rw [hf, if_neg (by decide)]
    generalize hiW n = X at K hh
    have t0 : (X == h) = false := by simpa using hh
    clear hn' hs hlo hf hb hh hN
    go_enter Tryz.func25, Tryz.ntmps25
    go_wp2_with fail
    have HS := c1_all (w := w) (a0 := .int .i64 h) (a1 := .int .u64 l) (Below.refl _ _).drew
    go_region_held3 (fun w' => w'.cell? ⟨w.heap.size, 0, none⟩ = some (.int .i64 h) ∧ w'.cell? ⟨w.heap.size, 1, none⟩ = some (.int .u64 l) ∧ Below (w.heap.size + 1) (w.alloc (.cells #[.int .i64 h, .int .u64 l] 61)) w')
      (first | exact HS | (refine c1_keep (by assumption) (by first | assumption | exact HS)))
      (first | (go_at_call 40; refine (K _).mono ?_; rintro e w1 ⟨rfl, hb1⟩))
    rename_i hHeld
    go_wp2_with fail
    go_ret2
    exact ⟨rfl, c1_done hHeld.2.2⟩
end Go.Proofs.YtfmhdnefcapjgaaGreatDoor.Wide
/- Texts of values of any kind; what they are no text of. Conditions: the tables and error variables of the library as its text lays them; texts of at most 10^6 bytes. -/
set_option maxRecDepth 100000
namespace Go.Proofs.YtfmhdnefcapjgaaGreatDoor
open Go.RowKit Go.Maps Go.Sort Go.Lib

/-- what is read of the library's variables -/
def Lv (w : World) : Prop := Vars w ∧ MaxOk w
theorem Lv.below {w w' : World} (h : Lv w) (hb : Below w.heap.size w w') : Lv w' := ⟨h.1.below hb, h.2.below hb⟩
def textL (k n : Int) (s : ByteArray) : List UInt8 :=
  if k = 0 then [78, 85, 76, 76] else if k = 1 then printL n else if k = 2 then prW (wi n) else if k = 3 then 39 :: (dbl s.data.toList ++ [39]) else if k = 4 then (if n = 0 then [70, 65, 76, 83, 69] else [84, 82, 85, 69]) else []
theorem m_null_text (v : Value) (w : World) : (method 274 51 v "talus/value.text").run Tryz.prog w = .ok (131, v) w := by kernel_rfl
theorem m_int_text (v : Value) (w : World) : (method 274 55 v "talus/value.text").run Tryz.prog w = .ok (143, v) w := by kernel_rfl
theorem m_float_text (v : Value) (w : World) : (method 274 52 v "talus/value.text").run Tryz.prog w = .ok (134, v) w := by kernel_rfl
theorem m_bool_text (v : Value) (w : World) : (method 274 56 v "talus/value.text").run Tryz.prog w = .ok (152, v) w := by kernel_rfl
theorem nullText_any (w : World) : Calls Tryz.prog 131 #[.agg #[]] w fun e w' => e = .returned (.string ⟨([78, 85, 76, 76] : List UInt8).toArray⟩) ∧ Below w.heap.size w w' := by
  go_enter Tryz.func131, Tryz.ntmps131
  go_wp2_with fail
  go_ret
  exact ⟨rfl, (Below.refl _ _).alloc (Nat.le_refl _) _⟩
theorem boolText_any (n : Int) (w : World) : Calls Tryz.prog 152 #[.int .i64 n] w fun e w' => e = .returned (.string ⟨(if n = 0 then ([70, 65, 76, 83, 69] : List UInt8) else [84, 82, 85, 69]).toArray⟩) ∧ Below w.heap.size w w' := by
  by_cases h : n = 0
  · rw [if_pos h]
    subst h
    go_enter Tryz.func152, Tryz.ntmps152
    go_wp2_with fail
    go_ret
    exact ⟨rfl, Below.refl _ _⟩
  · rw [if_neg h]
    have e0 : (n == 0) = false := by rw [beq_eq_false_iff_ne]; exact h
    clear h
    go_enter Tryz.func152, Tryz.ntmps152
    go_wp2_with fail
    go_ret
    exact ⟨rfl, Below.refl _ _⟩
theorem intText_any (n : Int) (h0 : -9223372036854775808 ≤ n) (h1 : n < 9223372036854775808) (w : World) : Calls Tryz.prog 143 #[.int .i64 n] w fun e w' => e = .returned (.string ⟨(printL n).toArray⟩) ∧ Below w.heap.size w w' := by
  obtain ⟨e1, e2, e3⟩ := Wide.w_split n
  have hf : Wide.fitW n = true := Wide.fit_iff.2 (by omega)
  have e4 := Wide.fit_hi hf
  have KO := fun w => Wide.of_any n w h0 h1
  have KP := fun w => Wide.print_any (Wide.hiW n) (Wide.loW n) w e4.1 e4.2 e2 e3
  rw [e1] at KP
  unfold Wide.wv at KO
  generalize Wide.hiW n = H at *
  generalize Wide.loW n = L at *
  clear e1 e2 e3 e4 hf h0 h1
  go_enter Tryz.func143, Tryz.ntmps143
  go_wp2_with fail
  refine (KO _).mono ?_
  rintro e w1 ⟨rfl, hb1⟩
  go_wp2_with fail
  refine (KP _).mono ?_
  rintro e w2 ⟨rfl, hb2⟩
  have HB := hb1.trans (hb2.mono hb1.size)
  go_wp2_with fail
  go_ret
  exact ⟨rfl, HB⟩
theorem floatText_any (n : Int) (h0 : -9223372036854775808 ≤ n) (h1 : n < 9223372036854775808) {w : World} (hv : Tab w) : Calls Tryz.prog 134 #[.int .i64 n] w fun e w' => e = .returned (.string ⟨(prW (wi n)).toArray⟩) ∧ Below w.heap.size w w' := by
  have KP := print_any hv (wi n) (wi_lt n)
  rw [iw_wi n h0 h1] at KP
  clear h0 h1
  go_enter Tryz.func134, Tryz.ntmps134
  go_wp2_with fail
  refine KP.mono ?_
  rintro e w1 ⟨rfl, hb1⟩
  go_wp2_with fail
  go_ret
  exact ⟨rfl, hb1⟩
/-- the way from a value to its text -/
theorem text_way (k n : Int) (s : ByteArray) (l : List UInt8) (w : World) (hv : Lv w)
    (h : (k = 0 ∧ l = [78, 85, 76, 76]) ∨ (k = 1 ∧ l = printL n) ∨ (k = 2 ∧ l = prW (wi n)) ∨ (k = 4 ∧ l = if n = 0 then [70, 65, 76, 83, 69] else [84, 82, 85, 69])) (h0 : -9223372036854775808 ≤ n) (h1 : n < 9223372036854775808) :
    Calls Tryz.prog 7 #[vv k n s] w fun e w' => e = .returned (.string ⟨l.toArray⟩) ∧ Below w.heap.size w w' := by
  have mt0 := m_null_text
  have mt1 := m_int_text
  have mt2 := m_float_text
  have mt4 := m_bool_text
  rcases h with ⟨rfl, rfl⟩ | ⟨rfl, rfl⟩ | ⟨rfl, rfl⟩ | ⟨rfl, rfl⟩
  · have KC := content_null n s
    have KT := nullText_any
    clear h0 h1 hv
    go_enter Tryz.func7, Tryz.ntmps7
    go_wp2_with fail
    refine (KC _).mono ?_
    rintro e w1 ⟨rfl, hb⟩
    have HB := Lib.hid (((Below.refl w.heap.size w).alloc (Nat.le_refl _) _).trans (hb.mono (by simp)))
    clear hb KC
    go_wp2_with fail
    refine (KT _).mono ?_
    rintro e w2 ⟨rfl, hb⟩
    have HB2 := Lib.hid (HB.out.trans (hb.mono HB.out.size))
    clear hb
    go_wp2_with fail
    go_ret
    exact ⟨rfl, HB2.out⟩
  · have KC := content_int n s
    have KT := intText_any n h0 h1
    clear h0 h1 hv
    go_enter Tryz.func7, Tryz.ntmps7
    go_wp2_with fail
    refine (KC _).mono ?_
    rintro e w1 ⟨rfl, hb⟩
    have HB := Lib.hid (((Below.refl w.heap.size w).alloc (Nat.le_refl _) _).trans (hb.mono (by simp)))
    clear hb KC
    go_wp2_with fail
    refine (KT _).mono ?_
    rintro e w2 ⟨rfl, hb⟩
    have HB2 := Lib.hid (HB.out.trans (hb.mono HB.out.size))
    clear hb
    go_wp2_with fail
    go_ret
    exact ⟨rfl, HB2.out⟩
  · have KC := content_float n s
    have KT := fun (w : World) hv => floatText_any n h0 h1 (w := w) hv
    clear h0 h1
    go_enter Tryz.func7, Tryz.ntmps7
    go_wp2_with fail
    refine (KC _).mono ?_
    rintro e w1 ⟨rfl, hb⟩
    have HB := Lib.hid (((Below.refl w.heap.size w).alloc (Nat.le_refl _) _).trans (hb.mono (by simp)))
    have hT := (hv.1.below HB.out).tab
    clear hb KC
    go_wp2_with fail
    refine (KT _ hT).mono ?_
    rintro e w2 ⟨rfl, hb⟩
    have HB2 := Lib.hid (HB.out.trans (hb.mono HB.out.size))
    clear hb
    go_wp2_with fail
    go_ret
    exact ⟨rfl, HB2.out⟩
  · have KC := content_bool n s
    have KT := boolText_any n
    clear h0 h1 hv
    generalize (if n = 0 then ([70, 65, 76, 83, 69] : List UInt8) else [84, 82, 85, 69]) = X at *
    go_enter Tryz.func7, Tryz.ntmps7
    go_wp2_with fail
    refine (KC _).mono ?_
    rintro e w1 ⟨rfl, hb⟩
    have HB := Lib.hid (((Below.refl w.heap.size w).alloc (Nat.le_refl _) _).trans (hb.mono (by simp)))
    clear hb KC
    go_wp2_with fail
    refine (KT _).mono ?_
    rintro e w2 ⟨rfl, hb⟩
    have HB2 := Lib.hid (HB.out.trans (hb.mono HB.out.size))
    clear hb
    go_wp2_with fail
    go_ret
    exact ⟨rfl, HB2.out⟩
theorem vtext_any (k n : Int) (s : ByteArray) (hk : 0 ≤ k ∧ k ≤ 4) (hs : s.size ≤ 1000000) (h0 : -9223372036854775808 ≤ n) (h1 : n < 9223372036854775808) (w : World) (hv : Lv w) :
    Calls Tryz.prog 7 #[vv k n s] w fun e w' => e = .returned (.string ⟨(textL k n s).toArray⟩) ∧ Below w.heap.size w w' := by
  unfold textL
  by_cases c0 : k = 0
  · rw [if_pos c0]; exact text_way k n s _ w hv (.inl ⟨c0, rfl⟩) h0 h1
  by_cases c1 : k = 1
  · rw [if_neg c0, if_pos c1]; exact text_way k n s _ w hv (.inr (.inl ⟨c1, rfl⟩)) h0 h1
  by_cases c2 : k = 2
  · rw [if_neg c0, if_neg c1, if_pos c2]; exact text_way k n s _ w hv (.inr (.inr (.inl ⟨c2, rfl⟩))) h0 h1
  by_cases c3 : k = 3
  · rw [if_neg c0, if_neg c1, if_neg c2, if_pos c3, ← quoteB_eq]
    subst c3
    exact text_str n s hs w hv.2
  · have c4 : k = 4 := by omega
    rw [if_neg c0, if_neg c1, if_neg c2, if_neg c3, if_pos c4]
    exact text_way k n s _ w hv (.inr (.inr (.inr ⟨c4, rfl⟩))) h0 h1
end Go.Proofs.YtfmhdnefcapjgaaGreatDoor
/- What a text says: contracts of value.guess and value.Parse at the texts of good values. Conditions: as in XVbText. -/
set_option maxRecDepth 100000
namespace Go.Proofs.YtfmhdnefcapjgaaGreatDoor
open Go.RowKit Go.Maps Go.Sort Go.Lib

theorem print_chars (N : Int) : ∀ c ∈ printL N, c = 45 ∨ isD c := fun c hc => by
  unfold printL at hc
  split at hc
  · rcases List.mem_cons.1 hc with h | h
    · exact .inl h
    · exact .inr (digs_isD _ c h)
  · exact .inr (digs_isD _ c hc)
theorem not_print {l : List UInt8} {c : UInt8} (hc : c ∈ l) (h : ¬ (c = 45 ∨ isD c)) (N : Int) : l ≠ printL N := fun e => h (print_chars N c (e ▸ hc))
theorem no_float_print (N : Int) : NoFloat (printL N) := fun y _ e => by
  rcases pr_cases y with ⟨_, e2⟩ | ⟨_, e2⟩ | ⟨_, e2⟩ | ⟨_, _, _, e2⟩ <;> rw [e2] at e
  · exact not_print (c := 78) (by simp) (by unfold isD; decide) N e
  · exact not_print (c := 73) (by simp) (by unfold isD; decide) N e
  · exact not_print (c := 73) (by simp) (by unfold isD; decide) N e
  · exact not_print (c := 102) (by simp) (by unfold isD; decide) N e
/-- none of a float's beginnings -/
theorem no_float_head {c : UInt8} {r : List UInt8} (h : c ≠ 78 ∧ c ≠ 73 ∧ c ≠ 45 ∧ c ≠ 48) : NoFloat (c :: r) := fun y _ e => by
  rcases pr_cases y with ⟨_, e2⟩ | ⟨_, e2⟩ | ⟨_, e2⟩ | ⟨_, _, _, e2⟩ <;> rw [e2] at e
  · exact h.1 (List.cons.inj e).1.symm
  · exact h.2.1 (List.cons.inj e).1.symm
  · exact h.2.2.1 (List.cons.inj e).1.symm
  · exact h.2.2.2 (List.cons.inj e).1.symm
theorem no_float_null : NoFloat [78, 85, 76, 76] := fun y _ e => by
  rcases pr_cases y with ⟨_, e2⟩ | ⟨_, e2⟩ | ⟨_, e2⟩ | ⟨_, _, _, e2⟩ <;> rw [e2] at e <;> simp at e
theorem order_no {l : List UInt8} (h : NoFloat l) {x : Nat} {ok : Bool} (hp : ParseP l x ok) : ok = false ∧ x = 0 := by
  rcases hp.2 with ⟨_, e, _⟩ | ⟨h1, h2, _⟩
  · exact absurd e (h x hp.1)
  · exact ⟨h1, h2⟩
theorem order_yes {u : Nat} (hu : u < 18446744073709551616) (hc : canonW u = u) {x : Nat} {ok : Bool} (hp : ParseP (prW u) x ok) : ok = true ∧ x = u := by
  rcases hp.2 with ⟨h1, _, _, h3⟩ | ⟨_, _, h⟩
  · exact ⟨h1, (h3 u hu rfl).trans hc⟩
  · exact absurd rfl (h u hu)
/-- the order's answer at a text that no float has -/
theorem oparse_no {l : List UInt8} (hl : l.length ≤ 4000000) (hn : NoFloat l) {w : World} (hv : Lv w) : Calls Tryz.prog 23 #[.string ⟨l.toArray⟩] w fun e w' => e = .returned (.tuple #[.int .i64 0, .bool false]) ∧ Below w.heap.size w w' := by
  refine (parse_any ⟨l.toArray⟩ (by rw [Lib.size_eq]; show l.length ≤ _; omega) hv.1).mono ?_
  rintro e w' ⟨x, ok, rfl, hp, hb⟩
  obtain ⟨rfl, rfl⟩ := order_no hn hp
  exact ⟨rfl, hb⟩
theorem wparse_no {l : List UInt8} (hl : l.length ≤ 4000000) (hn : ∀ N, l ≠ printL N) (w : World) : Calls Tryz.prog 24 #[.string ⟨l.toArray⟩] w fun e w' => (∃ h q, e = .returned (.tuple #[.agg #[.int .i64 h, .int .u64 q], .bool false])) ∧ Below w.heap.size w w' := by
  refine (Wide.parse_any ⟨l.toArray⟩ (by rw [Lib.size_eq]; show l.length < _; omega) w).mono ?_
  rintro e w' ⟨N, b, rfl, hb, h1, h2⟩
  cases b
  · exact ⟨⟨_, _, rfl⟩, hb⟩
  · exact absurd (h1 rfl).2 (hn N)
theorem wparse_yes (n : Int) (h0 : -9223372036854775808 ≤ n) (h1 : n < 9223372036854775808) (hl : (printL n).length ≤ 4000000) (w : World) : Calls Tryz.prog 24 #[.string ⟨(printL n).toArray⟩] w fun e w' => e = .returned (.tuple #[Wide.wv n, .bool true]) ∧ Below w.heap.size w w' := by
  have hf : Wide.fitW n = true := Wide.fit_iff.2 (by omega)
  refine (Wide.parse_any ⟨(printL n).toArray⟩ (by rw [Lib.size_eq]; show (printL n).length < _; omega) w).mono ?_
  rintro e w' ⟨N, b, rfl, hb, h2, h3⟩
  cases b
  · exact absurd rfl ((h3 rfl).2 n hf)
  · have := Wide.print_inj (h2 rfl).2
    subst this
    exact ⟨rfl, hb⟩
theorem fits_int (n : Int) (h0 : -9223372036854775808 ≤ n) (h1 : n < 9223372036854775808) (w : World) : Calls Tryz.prog 25 #[Wide.wv n] w fun e w' => (∃ b, e = .returned (.tuple #[.int .i64 n, .bool b])) ∧ Below w.heap.size w w' := by
  obtain ⟨e1, e2, e3⟩ := Wide.w_split n
  refine (Wide.fits_any (Wide.hiW n) (Wide.loW n) w e2 e3).mono ?_
  rintro e w' ⟨rfl, hb⟩
  rw [e1]
  refine ⟨⟨Wide.fit64 n, ?_⟩, hb⟩
  have : Wide.int64 n = n := by
    unfold Wide.int64
    rw [Wide.fit64_iff.2 ⟨h0, h1⟩, if_pos rfl]
  rw [this]
/-- at a text that is neither a float's nor a number's -/
theorem guess_float (u : Nat) (hu : u < 18446744073709551616) (hc : canonW u = u) (hl : (prW u).length ≤ 4000000) {w : World} (hv : Lv w) :
    Calls Tryz.prog 16 #[.string ⟨(prW u).toArray⟩] w fun e w' => e = .returned (.iface 52 (.int .i64 (iw u))) ∧ Below w.heap.size w w' := by
  have KP : Calls Tryz.prog 23 #[.string ⟨(prW u).toArray⟩] w fun e w' => e = .returned (.tuple #[.int .i64 (iw u), .bool true]) ∧ Below w.heap.size w w' := by
    refine (parse_any ⟨(prW u).toArray⟩ (by rw [Lib.size_eq]; show (prW u).length ≤ _; omega) hv.1).mono ?_
    rintro e w' ⟨x, ok, rfl, hp, hb⟩
    obtain ⟨rfl, rfl⟩ := order_yes hu hc hp
    exact ⟨rfl, hb⟩
  generalize (⟨(prW u).toArray⟩ : ByteArray) = S at *
  generalize iw u = n at *
  clear hu hc hl hv
  go_enter Tryz.func16, Tryz.ntmps16
  go_wp2_with fail
  refine KP.mono ?_
  rintro e w1 ⟨rfl, hb⟩
  go_wp2_with fail
  go_ret
  exact ⟨rfl, hb⟩
theorem guess_int (n : Int) (h0 : -9223372036854775808 ≤ n) (h1 : n < 9223372036854775808) (hl : (printL n).length ≤ 4000000) {w : World} (hv : Lv w) :
    Calls Tryz.prog 16 #[.string ⟨(printL n).toArray⟩] w fun e w' => e = .returned (.iface 55 (.int .i64 n)) ∧ Below w.heap.size w w' := by
  have KP := oparse_no hl (no_float_print n) hv
  have KW := fun w => wparse_yes n h0 h1 hl w
  have KF := fun w => fits_int n h0 h1 w
  unfold Wide.wv at KW KF
  generalize (⟨(printL n).toArray⟩ : ByteArray) = S at *
  generalize Wide.hiW n = H at *
  generalize Wide.loW n = L at *
  clear h0 h1 hl hv
  go_enter Tryz.func16, Tryz.ntmps16
  go_wp2_with fail
  refine KP.mono ?_
  rintro e w1 ⟨rfl, hb1⟩
  go_wp2_with fail
  refine (KW _).mono ?_
  rintro e w2 ⟨rfl, hb2⟩
  have HB2 := Lib.hid (hb1.trans (hb2.mono hb1.size))
  clear hb1 hb2 KP KW
  go_wp2_with fail
  refine (KF _).mono ?_
  rintro e w3 ⟨⟨b, rfl⟩, hb3⟩
  have HB3 := Lib.hid ((HB2.out.alloc HB2.out.size (.cells #[.int .i64 H, .int .u64 L] 61)).trans (hb3.mono (by have := HB2.out.size; simp; omega)))
  clear hb3 KF
  go_wp2_with fail
  go_ret
  exact ⟨rfl, HB3.out⟩
theorem guess_str (s : ByteArray) (hs : s.size ≤ 1000000) {w : World} (hv : Lv w) :
    Calls Tryz.prog 16 #[.string ⟨(39 :: (dbl s.data.toList ++ [39])).toArray⟩] w fun e w' => e = .returned (.iface 53 (.string s)) ∧ Below w.heap.size w w' := by
  have hdl := dbl_len s.data.toList
  have hsl : s.data.toList.length = s.size := (Lib.size_eq s).symm
  have hl : (39 :: (dbl s.data.toList ++ [39])).length ≤ 4000000 := by simp only [List.length_cons, List.length_append, List.length_nil]; omega
  have KP := oparse_no hl (no_float_head (c := 39) (by decide)) hv
  have KW := fun w => wparse_no hl (fun N => not_print (c := 39) (by simp) (by unfold isD; decide) N) w
  have KC := fun w => Tryz.strings_CutPrefix ⟨(39 :: (dbl s.data.toList ++ [39])).toArray⟩ ⟨#[39]⟩ w
  have KT := fun w => Tryz.strings_TrimSuffix ⟨(dbl s.data.toList ++ [39]).toArray⟩ ⟨#[39]⟩ w (by rw [Lib.size_eq]; show (dbl s.data.toList ++ [39]).length ≤ _; simp only [List.length_append, List.length_cons, List.length_nil]; omega)
  obtain ⟨m, hm⟩ := hv.2
  have hq2 : (⟨#[39, 39]⟩ : ByteArray).size = 2 := rfl
  have hq1 : (⟨#[39]⟩ : ByteArray).size = 1 := rfl
  have hdz : (⟨(dbl s.data.toList).toArray⟩ : ByteArray).size ≤ 2000000 := by rw [Lib.size_eq]; show (dbl s.data.toList).length ≤ _; omega
  have hcn := Lib.countB_mul_le ⟨#[39, 39]⟩ (by decide) _ ⟨(dbl s.data.toList).toArray⟩ (Nat.le_refl _)
  rw [hq2] at hcn
  have KR := fun w hm => Tryz.strings_ReplaceAll ⟨(dbl s.data.toList).toArray⟩ ⟨#[39, 39]⟩ ⟨#[39]⟩ m w (by omega) hm (by decide) (by rw [hq1]; omega)
  have e1 : Lib.replaceAll (⟨(dbl s.data.toList).toArray⟩ : ByteArray).data.toList (⟨#[39, 39]⟩ : ByteArray).data.toList (⟨#[39]⟩ : ByteArray).data.toList = s.data.toList := quote_back s.data.toList
  have e2 : (⟨s.data.toList.toArray⟩ : ByteArray) = s := by rw [Array.toArray_toList]
  simp only [e1, e2] at KR
  clear e1 e2 hdz hcn hq1 hq2 hdl hsl hl hv
  generalize dbl s.data.toList = D at *
  have c1 : Lib.trimPrefix (⟨(39 :: (D ++ [39])).toArray⟩ : ByteArray).data.toList (⟨#[39]⟩ : ByteArray).data.toList = D ++ [39] := by simp [Lib.trimPrefix, Lib.hasPrefix, List.isPrefixOf]
  have c2 : Lib.hasPrefix (⟨(39 :: (D ++ [39])).toArray⟩ : ByteArray).data.toList (⟨#[39]⟩ : ByteArray).data.toList = true := by simp [Lib.hasPrefix, List.isPrefixOf]
  have c3 : Lib.trimSuffix (⟨(D ++ [39]).toArray⟩ : ByteArray).data.toList (⟨#[39]⟩ : ByteArray).data.toList = D := by simp [Lib.trimSuffix, Lib.hasSuffix]
  simp only [c1, c2] at KC
  simp only [c3] at KT
  clear c1 c2 c3 hs
  generalize (⟨(39 :: (D ++ [39])).toArray⟩ : ByteArray) = S at *
  generalize (⟨(D ++ [39]).toArray⟩ : ByteArray) = S2 at *
  generalize (⟨D.toArray⟩ : ByteArray) = S3 at *
  go_enter Tryz.func16, Tryz.ntmps16
  go_wp2_with fail
  refine KP.mono ?_
  rintro e w1 ⟨rfl, hb1⟩
  go_wp2_with fail
  refine (KW _).mono ?_
  rintro e w2 ⟨⟨h, q, rfl⟩, hb2⟩
  have hB2 := hb1.trans (hb2.mono hb1.size)
  have hB3 := hB2.alloc hB2.size (.cells #[.int .i64 h, .int .u64 q] 61)
  have hm3 : (w2.alloc (.cells #[.int .i64 h, .int .u64 q] 61)).cell? ⟨0, 0, none⟩ = some (.int .i64 m) := by rw [hB3.cell (World.block_lt_of_cell? _ _ hm)]; exact hm
  have HB3 := Lib.hid hB3
  clear hb1 hb2 KP KW hB2 hB3 hm
  go_wp2_with fail
  refine (KC _).mono ?_
  rintro e w3 ⟨rfl, rfl⟩
  go_wp2_with fail
  refine (KT _).mono ?_
  rintro e w3 ⟨rfl, rfl⟩
  go_wp2_with fail
  refine (KR _ hm3).mono ?_
  rintro e w3 ⟨rfl, hb3⟩
  have HB4 := Lib.hid (HB3.out.trans (hb3.mono HB3.out.size))
  clear hb3 KR KC KT hm3
  go_wp2_with fail
  go_ret
  exact ⟨rfl, HB4.out⟩
theorem guess_word (l : List UInt8) (c : Value) (hc : (l = [78, 85, 76, 76] ∧ c = .iface 51 (.agg #[])) ∨ (l = [84, 82, 85, 69] ∧ c = .iface 56 (.int .i64 1)) ∨ (l = [70, 65, 76, 83, 69] ∧ c = .iface 56 (.int .i64 0))) {w : World} (hv : Lv w) :
    Calls Tryz.prog 16 #[.string ⟨l.toArray⟩] w fun e w' => e = .returned c ∧ Below w.heap.size w w' := by
  have hl : l.length ≤ 4000000 := by rcases hc with ⟨rfl, _⟩ | ⟨rfl, _⟩ | ⟨rfl, _⟩ <;> decide
  have hf : NoFloat l := by
    rcases hc with ⟨rfl, _⟩ | ⟨rfl, _⟩ | ⟨rfl, _⟩
    · exact no_float_null
    · exact no_float_head (by decide)
    · exact no_float_head (by decide)
  have hp : ∀ N, l ≠ printL N := fun N => by
    rcases hc with ⟨rfl, _⟩ | ⟨rfl, _⟩ | ⟨rfl, _⟩
    · exact not_print (c := 78) (by simp) (by unfold isD; decide) N
    · exact not_print (c := 84) (by simp) (by unfold isD; decide) N
    · exact not_print (c := 70) (by simp) (by unfold isD; decide) N
  have KP := oparse_no hl hf hv
  have KW := fun w => wparse_no hl hp w
  have KC := fun w => Tryz.strings_CutPrefix ⟨l.toArray⟩ ⟨#[39]⟩ w
  have c2 : Lib.hasPrefix (⟨l.toArray⟩ : ByteArray).data.toList (⟨#[39]⟩ : ByteArray).data.toList = false := by
    rcases hc with ⟨rfl, _⟩ | ⟨rfl, _⟩ | ⟨rfl, _⟩ <;> decide
  simp only [c2] at KC
  rcases hc with ⟨e1, e2⟩ | ⟨e1, e2⟩ | ⟨e1, e2⟩
  · have d1 : ((⟨l.toArray⟩ : ByteArray).toList == [84, 82, 85, 69]) = false := by rw [Lib.toList_data, e1]; decide
    have d2 : ((⟨l.toArray⟩ : ByteArray).toList == [70, 65, 76, 83, 69]) = false := by rw [Lib.toList_data, e1]; decide
    subst e2
    clear e1 c2 hp hf hl
    generalize Lib.trimPrefix (⟨l.toArray⟩ : ByteArray).data.toList (⟨#[39]⟩ : ByteArray).data.toList = T at *
    generalize (⟨l.toArray⟩ : ByteArray) = S at *
    go_enter Tryz.func16, Tryz.ntmps16
    go_wp2_with fail
    refine KP.mono ?_
    rintro e w1 ⟨rfl, hb1⟩
    go_wp2_with fail
    refine (KW _).mono ?_
    rintro e w2 ⟨⟨h, q, rfl⟩, hb2⟩
    have hB2 := hb1.trans (hb2.mono hb1.size)
    have HB3 := Lib.hid (hB2.alloc hB2.size (.cells #[.int .i64 h, .int .u64 q] 61))
    clear hb1 hb2 KP KW hB2
    go_wp2_with fail
    refine (KC _).mono ?_
    rintro e w3 ⟨rfl, rfl⟩
    go_wp2_with fail
    go_ret
    exact ⟨rfl, HB3.out⟩
  · have d1 : ((⟨l.toArray⟩ : ByteArray).toList == [84, 82, 85, 69]) = true := by rw [Lib.toList_data, e1]; decide
    have d2 : ((⟨l.toArray⟩ : ByteArray).toList == [70, 65, 76, 83, 69]) = false := by rw [Lib.toList_data, e1]; decide
    subst e2
    clear e1 c2 hp hf hl
    generalize Lib.trimPrefix (⟨l.toArray⟩ : ByteArray).data.toList (⟨#[39]⟩ : ByteArray).data.toList = T at *
    generalize (⟨l.toArray⟩ : ByteArray) = S at *
    go_enter Tryz.func16, Tryz.ntmps16
    go_wp2_with fail
    refine KP.mono ?_
    rintro e w1 ⟨rfl, hb1⟩
    go_wp2_with fail
    refine (KW _).mono ?_
    rintro e w2 ⟨⟨h, q, rfl⟩, hb2⟩
    have hB2 := hb1.trans (hb2.mono hb1.size)
    have HB3 := Lib.hid (hB2.alloc hB2.size (.cells #[.int .i64 h, .int .u64 q] 61))
    clear hb1 hb2 KP KW hB2
    go_wp2_with fail
    refine (KC _).mono ?_
    rintro e w3 ⟨rfl, rfl⟩
    go_wp2_with fail
    go_ret
    exact ⟨rfl, HB3.out⟩
  · have d1 : ((⟨l.toArray⟩ : ByteArray).toList == [84, 82, 85, 69]) = false := by rw [Lib.toList_data, e1]; decide
    have d2 : ((⟨l.toArray⟩ : ByteArray).toList == [70, 65, 76, 83, 69]) = true := by rw [Lib.toList_data, e1]; decide
    subst e2
    clear e1 c2 hp hf hl
    generalize Lib.trimPrefix (⟨l.toArray⟩ : ByteArray).data.toList (⟨#[39]⟩ : ByteArray).data.toList = T at *
    generalize (⟨l.toArray⟩ : ByteArray) = S at *
    go_enter Tryz.func16, Tryz.ntmps16
    go_wp2_with fail
    refine KP.mono ?_
    rintro e w1 ⟨rfl, hb1⟩
    go_wp2_with fail
    refine (KW _).mono ?_
    rintro e w2 ⟨⟨h, q, rfl⟩, hb2⟩
    have hB2 := hb1.trans (hb2.mono hb1.size)
    have HB3 := Lib.hid (hB2.alloc hB2.size (.cells #[.int .i64 h, .int .u64 q] 61))
    clear hb1 hb2 KP KW hB2
    go_wp2_with fail
    refine (KC _).mono ?_
    rintro e w3 ⟨rfl, rfl⟩
    go_wp2_with fail
    go_ret
    exact ⟨rfl, HB3.out⟩
/-- what a good value's text says is that value -/
theorem guess_good {x : VV} (hg : x.good = true) (hi : x.inI) (hl : (textL x.k x.n x.s).length ≤ 4000000) {w : World} (hv : Lv w) :
    Calls Tryz.prog 16 #[.string ⟨(textL x.k x.n x.s).toArray⟩] w fun e w' => e = .returned (ctV x.k x.n x.s) ∧ Below w.heap.size w w' := by
  obtain ⟨k, n, s⟩ := x
  simp only at hl ⊢
  have hgv : goodV k n s = true := hg
  rcases good_cases hg with e | ⟨e1, e2⟩ | ⟨e1, e2⟩ | ⟨e1, e2, e3⟩ | ⟨e1, e2⟩
  · cases e
    exact guess_word _ _ (.inl ⟨rfl, rfl⟩) hv
  · simp only at e1 e2
    subst e1
    have et : textL 1 n s = printL n := by unfold textL; rw [if_neg (by decide), if_pos rfl]
    have ec : ctV 1 n s = .iface 55 (.int .i64 n) := by unfold ctV; rw [if_neg (by decide), if_pos rfl]
    rw [et] at hl ⊢
    rw [ec]
    exact guess_int n hi.1 hi.2 hl hv
  · simp only at e1 e2
    subst e1
    have et : textL 2 n s = prW (wi n) := by unfold textL; rw [if_neg (by decide), if_neg (by decide), if_pos rfl]
    have ec : ctV 2 n s = .iface 52 (.int .i64 n) := by unfold ctV; rw [if_neg (by decide), if_neg (by decide), if_pos rfl]
    have hw : goodW (wi n) = true := by
      unfold goodV at hgv
      rw [if_neg (by decide), if_neg (by decide), if_pos rfl, Bool.and_eq_true] at hgv
      exact hgv.1
    rw [et] at hl ⊢
    rw [ec]
    have := guess_float (wi n) (wi_lt n) (by unfold goodW at hw; exact of_decide_eq_true hw) hl hv
    rwa [iw_wi n hi.1 hi.2] at this
  · simp only at e1 e2 e3
    subst e1
    have et : textL 3 n s = 39 :: (dbl s.data.toList ++ [39]) := by unfold textL; rw [if_neg (by decide), if_neg (by decide), if_neg (by decide), if_pos rfl]
    have ec : ctV 3 n s = .iface 53 (.string s) := by unfold ctV; rw [if_neg (by decide), if_neg (by decide), if_neg (by decide), if_pos rfl]
    rw [et, ec]
    exact guess_str s (Nat.le_trans e3 (by decide)) hv
  · simp only at e1 e2
    subst e1
    have ec : ctV 4 n s = .iface 56 (.int .i64 n) := by unfold ctV; rw [if_neg (by decide), if_neg (by decide), if_neg (by decide), if_neg (by decide), if_pos rfl]
    have et : textL 4 n s = if n = 0 then [70, 65, 76, 83, 69] else [84, 82, 85, 69] := by unfold textL; rw [if_neg (by decide), if_neg (by decide), if_neg (by decide), if_neg (by decide), if_pos rfl]
    have hn : n = 0 ∨ n = 1 := by
      unfold goodV at hgv
      rw [if_neg (by decide), if_neg (by decide), if_neg (by decide), if_neg (by decide), if_pos rfl, Bool.and_eq_true, Bool.or_eq_true] at hgv
      rcases hgv.1 with h | h
      · exact .inl (eq_of_beq h)
      · exact .inr (eq_of_beq h)
    rw [et, ec]
    rcases hn with rfl | rfl
    · exact guess_word _ _ (.inr (.inr ⟨rfl, rfl⟩)) hv
    · exact guess_word _ _ (.inr (.inl ⟨rfl, rfl⟩)) hv
/-- a good value is what its content says -/
theorem of_content {x : VV} (hg : x.good = true) (w : World) : Calls Tryz.prog 15 #[ctV x.k x.n x.s] w fun e w' => e = .returned (vv x.k x.n x.s) ∧ Below w.heap.size w w' := by
  obtain ⟨k, n, s⟩ := x
  simp only
  rcases good_cases hg with e | ⟨e1, e2⟩ | ⟨e1, e2⟩ | ⟨e1, e2, e3⟩ | ⟨e1, e2⟩
  · cases e; exact of_null w
  · simp only at e1 e2; subst e1 e2
    have ec : ctV 1 n ⟨#[]⟩ = .iface 55 (.int .i64 n) := by unfold ctV; rw [if_neg (by decide), if_pos rfl]
    rw [ec]; exact of_int n w
  · simp only at e1 e2; subst e1 e2
    have ec : ctV 2 n ⟨#[]⟩ = .iface 52 (.int .i64 n) := by unfold ctV; rw [if_neg (by decide), if_neg (by decide), if_pos rfl]
    rw [ec]; exact of_float n w
  · simp only at e1 e2; subst e1 e2
    have ec : ctV 3 0 s = .iface 53 (.string s) := by unfold ctV; rw [if_neg (by decide), if_neg (by decide), if_neg (by decide), if_pos rfl]
    rw [ec]; exact of_str s w
  · simp only at e1 e2; subst e1 e2
    have ec : ctV 4 n ⟨#[]⟩ = .iface 56 (.int .i64 n) := by unfold ctV; rw [if_neg (by decide), if_neg (by decide), if_neg (by decide), if_neg (by decide), if_pos rfl]
    rw [ec]; exact of_truth n w
end Go.Proofs.YtfmhdnefcapjgaaGreatDoor
/- Parse undoes Text: contract of value.Parse at the text of a good value. Conditions: as in XVbText. -/
set_option maxRecDepth 100000
namespace Go.Proofs.YtfmhdnefcapjgaaGreatDoor
open Go.RowKit Go.Maps Go.Sort Go.Lib

theorem text_len {x : VV} (hg : x.good = true) (hl : (textL x.k x.n x.s).length ≤ 4000000) : x.s.size ≤ 1000000 := by
  rcases good_cases hg with rfl | ⟨_, e⟩ | ⟨_, e⟩ | ⟨_, _, e⟩ | ⟨_, e⟩
  · decide
  · rw [e]; decide
  · rw [e]; decide
  · omega
  · rw [e]; decide
set_option maxHeartbeats 1600000 in
theorem parse_good {x : VV} (hg : x.good = true) (hi : x.inI) (hl : (textL x.k x.n x.s).length ≤ 4000000) {w : World} (hv : Lv w) :
    Calls Tryz.prog 6 #[.string ⟨(textL x.k x.n x.s).toArray⟩] w fun e w' => e = .returned (.tuple #[vv x.k x.n x.s, .bool true]) ∧ Below w.heap.size w w' := by
  have hb1 := (Below.refl w.heap.size w).alloc (Nat.le_refl _) (.cells #[.int .i64 0, .int .i64 0, .string ⟨#[]⟩] 25)
  have KG := guess_good hg hi hl (hv.below hb1)
  have KO := fun w => of_content hg w
  have KV := fun w => vgood_any x.k x.n x.s hi.1 hi.2 w
  have hgv : goodV x.k x.n x.s = true := hg
  rw [hgv] at KV
  have KT := fun w hv => vtext_any x.k x.n x.s (goodV_kind hg) (text_len hg hl) hi.1 hi.2 w hv
  have hz : (w.alloc (.cells #[.int .i64 0, .int .i64 0, .string ⟨#[]⟩] 25)).heap.size = w.heap.size + 1 := by simp
  generalize (⟨(textL x.k x.n x.s).toArray⟩ : ByteArray) = S at *
  generalize ctV x.k x.n x.s = C at *
  obtain ⟨k, n, s⟩ := x
  simp only at *
  have HV := Lib.hid hv
  have hss : (S.toList == S.toList) = true := by simp
  clear hg hi hl hgv hv hb1
  go_enter Tryz.func6, Tryz.ntmps6
  go_wp2_with fail
  refine KG.mono ?_
  rintro e w2 ⟨rfl, hb2⟩
  rw [hz] at hb2
  have B2 := Lib.hid hb2
  clear hb2 KG
  go_wp2_with fail
  refine (KO _).mono ?_
  rintro e w3 ⟨rfl, hb3⟩
  have B3 := Lib.hid (good_next B2.out hb3)
  have hz3 : w.heap.size + 1 ≤ w3.heap.size := by have := B3.out.size; rw [hz] at this; exact this
  have B3' := Lib.hid (B3.out.alloc hz3 (.cells #[.int .i64 k, .int .i64 n, .string s] 25))
  clear hb3 KO B2
  go_wp2_with fail
  refine (KV _).mono ?_
  rintro e w4 ⟨rfl, hb4⟩
  have hv4 := C3.keep (C3.new w3 (.int .i64 k) (.int .i64 n) (.string s) 25) hb4 (by simp)
  have B4 := Lib.hid (good_next B3'.out hb4)
  have hl4 : w3.heap.size < w4.heap.size := World.block_lt_of_cell? _ _ hv4.1
  have HV4 := HV.out.below ((good_state B4.out).2)
  have HC4 := Lib.hid hv4
  obtain ⟨k1, k2, k3⟩ := hv4
  clear hb4 KV B3 B3'
  go_wp2_with fail
  refine (KT _ HV4).mono ?_
  rintro e w5 ⟨rfl, hb5⟩
  have B5 := Lib.hid (good_next B4.out hb5)
  have hv5 := HC4.out.keep hb5 hl4
  clear k1 k2 k3
  obtain ⟨k1, k2, k3⟩ := hv5
  have hR := (good_state B5.out).1
  have hRc : C3 w5 w.heap.size (.int .i64 0) (.int .i64 0) (.string ⟨#[]⟩) := hR
  obtain ⟨r1, r2, r3⟩ := hR
  obtain ⟨z1, z2, z3⟩ := frz3 B5.out (by omega)
  have hr1 := fun u => (hRc.set u u u).1
  have hr2 := fun u v => (hRc.set u v v).2.1
  have hr3 := fun u v t => (hRc.set u v t).2.2
  have HB := Lib.hid (below_set3 (good_state B5.out).2 (Nat.le_refl _))
  clear hb5 KT B4 B5 HV HV4 HC4 hRc
  go_wp2_with fail
  refine bodyPost_ret (v := .tuple #[vv k n s, .bool true]) ?_ rfl ⟨rfl, HB.out _ _ _⟩
  simp [results, Tryz.results6, go_sem, hr1, hr2, hr3]
end Go.Proofs.YtfmhdnefcapjgaaGreatDoor
/- The walk of ValueBack. Conditions: the tables and error variables of the library as its text lays them. -/
set_option maxRecDepth 100000
namespace Go.Proofs.YtfmhdnefcapjgaaGreatDoor
open Go.RowKit Go.Maps Go.Sort Go.Lib

theorem print_len {n : Int} (h0 : -9223372036854775808 ≤ n) (h1 : n < 9223372036854775808) : (printL n).length ≤ 21 := by
  have h := digs_len 19 n.natAbs (by have : (10 : Nat) ^ (19 + 1) = 100000000000000000000 := by decide
                                     omega)
  unfold printL
  split
  · rw [List.length_cons]; omega
  · omega
theorem pr_len (u : Nat) : (prW u).length ≤ 18 := by
  rcases pr_cases u with ⟨_, e⟩ | ⟨_, e⟩ | ⟨_, e⟩ | ⟨_, _, _, e⟩ <;> rw [e]
  · decide
  · decide
  · decide
  · rw [List.length_append, hexN_len]; decide
theorem textL_len {x : VV} (hg : x.good = true) (hi : x.inI) : (textL x.k x.n x.s).length ≤ 4000000 := by
  have h1 := print_len hi.1 hi.2
  have h2 := pr_len (wi x.n)
  have h3 := dbl_len x.s.data.toList
  have h4 : x.s.size ≤ 64 := by
    rcases good_cases hg with rfl | ⟨_, e⟩ | ⟨_, e⟩ | ⟨_, _, e⟩ | ⟨_, e⟩
    · decide
    · rw [e]; decide
    · rw [e]; decide
    · exact e
    · rw [e]; decide
  have h5 := Lib.size_eq x.s
  unfold textL
  split
  · decide
  · split
    · omega
    · split
      · omega
      · split
        · simp only [List.length_cons, List.length_append, List.length_nil]; omega
        · split
          · split <;> decide
          · decide
theorem bytesV_len {l : List VV} (h : ∀ x ∈ l, x.good = true ∧ x.inI) (hl : l.length ≤ 300) : (bytesV l).length ≤ 1000000 := by
  have h1 := flatV_len l (fun x hx => (h x hx).2)
  have h2 := dig_len10 (u := l.length) (by omega)
  unfold bytesV
  rw [List.length_append]; omega
theorem load_back {l : List VV} (h : ∀ x ∈ l, x.good = true ∧ x.inI) (hl : l.length ≤ 300) : loadV (bytesV l) = some l :=
  (load_iff (by have := bytesV_len h hl; omega)).2 ⟨h, by omega, rfl⟩
theorem le_next {a i : Nat} (h : a ≤ i) : a + 1 ≤ i + 1 := by omega
theorem le_keep {a i : Nat} (h : a ≤ i) : a ≤ i + 1 := by omega
theorem acc_le {a i n : Nat} (h : a ≤ i) (h2 : i < n) (h3 : n ≤ 300) : a ≤ 1000000000000 := by omega
set_option maxHeartbeats 3200000 in
theorem back_walk {w : World} {v0 : Value} {vs : List VV} (hV : HoldsV w v0 vs) (hi : ∀ x ∈ vs, x.inI) (hv : Lv w) :
    Calls Tryz.prog 3 #[v0] w fun e w' => e = .returned (.bool true) ∧ Below w.heap.size w w' := by
  have KL := fun w (h : Lv w) => lives_any w h.2
  obtain ⟨a, c, rfl, hc⟩ := hV.form
  by_cases hbig : 300 < vs.length
  · have t0 : decide ((300 : Int) < (vs.length : Int)) = true := decide_eq_true (by omega)
    generalize vs.length = n at *
    clear hbig hV hi hc
    go_enter Tryz.func3, Tryz.ntmps3
    go_wp2_with fail
    refine (KL _ hv).mono ?_
    rintro e w1 ⟨rfl, hb⟩
    go_wp2_with fail
    go_ret
    exact ⟨rfl, hb⟩
  have t0 : decide ((300 : Int) < (vs.length : Int)) = false := decide_eq_false (by omega)
  have H := Lib.hid hV
  have HI := Lib.hid hi
  obtain ⟨n, hn⟩ : ∃ n, n = vs.length := ⟨_, rfl⟩
  rw [← hn] at t0 hc hbig ⊢
  have HNL := Lib.hid hn
  have HL := Lib.hid (Nat.le_of_not_lt hbig)
  have HV := Lib.hid hv
  have KN := neq_val
  have KU := guard_val
  clear hV hi hn hbig hv
  go_enter Tryz.func3, Tryz.ntmps3
  go_wp2_with fail
  go_loopw [3, 5, 6, 7, 16] (fun s3 _ _ _ s16 wr => ∃ (i : Nat) (v : Value) (acc : List VV), s16 = .int .i64 i ∧ i ≤ n ∧ v = s3 ∧ acc.length ≤ i ∧ Hid (OutV w wr v acc) ∧ Hid (∀ x ∈ acc, x.good = true ∧ x.inI)) (fun _ _ _ _ k _ => n - (RowKit.intOf k).toNat)
  case atStart => exact ⟨0, _, [], rfl, Nat.zero_le _, rfl, Nat.le_refl _, Lib.hid (OutV.nil w), Lib.hid (fun x hx => absurd hx (by simp))⟩
  case round =>
    clear t0
    obtain ⟨i, v, acc, rfl, hin, rfl, hal, HO, HG⟩ := hrel
    by_cases hlt : i < n
    · obtain ⟨x, hx⟩ : ∃ x, vs[i]? = some x := ⟨vs[i]'(HNL.out ▸ hlt), List.getElem?_eq_getElem _⟩
      obtain ⟨ad, rfl, hc0⟩ := H.out.at_ hx
      have hxi : x.inI := HI.out x (List.mem_of_getElem? hx)
      have HCW : ∀ w', Below w.heap.size w w' → w'.cell? (ad.add (i * 3)) = some (.int .i64 x.k) ∧ w'.cell? ⟨(ad.add (i * 3)).block, (ad.add (i * 3)).off + 1, none⟩ = some (.int .i64 x.n) ∧ w'.cell? ⟨(ad.add (i * 3)).block, (ad.add (i * 3)).off + 2, none⟩ = some (.string x.s) := fun w' hb =>
        ⟨by rw [hb.cell (World.block_lt_of_cell? _ _ hc0.1)]; exact hc0.1, by rw [hb.cell (World.block_lt_of_cell? _ _ hc0.2.1)]; exact hc0.2.1, by rw [hb.cell (World.block_lt_of_cell? _ _ hc0.2.2)]; exact hc0.2.2⟩
      obtain ⟨d0, d1, d2⟩ := HCW wr HO.out.2
      have b0 : (0 : Int) ≤ (i : Int) := Int.natCast_nonneg i
      have b1 : (i : Int) < (n : Int) := Int.ofNat_lt.2 hlt
      have hw64 := wi_next hlt (Nat.le_trans HL.out (by decide))
      have KG := vgood_any x.k x.n x.s hxi.1 hxi.2
      have hlx := le_next hal
      have hlk := le_keep hal
      have hla := acc_le hal hlt HL.out
      clear HCW hc0 hx
      cases hgx : goodV x.k x.n x.s
      · obtain ⟨xk, xn, xs⟩ := x
        simp only at d0 d1 d2 KG hgx
        rw [hgx] at KG
        clear hgx hxi hla hlx
        go_wp2_with fail
        refine (KG _).mono ?_
        rintro e w3 ⟨rfl, hb3⟩
        have hbz : Below wr.heap.size wr w3 := ((Below.refl _ _).alloc (Nat.le_refl _) _).trans (hb3.mono (show wr.heap.size ≤ _ by simp))
        have HO3 := Lib.hid (HO.out.next hbz)
        clear hb3 hbz KG d0 d1 d2 HO
        go_wp2_with fail
        go_roundw
        case rel => exact ⟨i + 1, _, _, by go_num, hlt, rfl, hlk, HO3, HG⟩
        case measure => simp [RowKit.intOf]; omega
      · have hgd : x.good = true := hgx
        have htl := textL_len hgd hxi
        have KT := Lib.hid (fun (w : World) (h : Lv w) => vtext_any x.k x.n x.s (goodV_kind hgd) (text_len hgd htl) hxi.1 hxi.2 w h)
        have KP := Lib.hid (fun (w : World) (h : Lv w) => parse_good hgd hxi htl h)
        have HG2 : Hid (∀ y ∈ acc ++ [x], y.good = true ∧ y.inI) := Lib.hid (fun y hy => by
          rcases List.mem_append.1 hy with hy | hy
          · exact HG.out y hy
          · simp at hy; subst hy; exact ⟨hgd, hxi⟩)
        have HAP := Lib.hid (fun w0 v0 (ho : OutV w w0 v0 acc) => ho.app x hla)
        have HLX : Hid ((acc ++ [x]).length ≤ i + 1) := Lib.hid (by rw [List.length_append]; exact hlx)
        generalize (⟨(textL x.k x.n x.s).toArray⟩ : ByteArray) = S at *
        generalize acc ++ [x] = acc2 at *
        rw [hgx] at KG
        clear hgd hgx htl hxi hla hlx
        obtain ⟨xk, xn, xs⟩ := x
        simp only at d0 d1 d2 KG KT KP HAP
        go_wp2_with fail
        refine (KG _).mono ?_
        rintro e w3 ⟨rfl, hb3⟩
        have hbz : Below wr.heap.size wr w3 := ((Below.refl _ _).alloc (Nat.le_refl _) _).trans (hb3.mono (show wr.heap.size ≤ _ by simp))
        have HC3 := Lib.hid ((C3.new wr (.int .i64 xk) (.int .i64 xn) (.string xs) 25).keep hb3 (by simp))
        have HO3 := Lib.hid (HO.out.next hbz)
        obtain ⟨k1, k2, k3⟩ := HC3.out
        have KT3 := KT.out w3 (HV.out.below HO3.out.2)
        clear hb3 hbz KG d0 d1 d2 HO KT
        go_wp2_with fail
        refine KT3.mono ?_
        rintro e w4 ⟨rfl, hb4⟩
        have HC4 := Lib.hid (HC3.out.keep hb4 (World.block_lt_of_cell? _ _ k1))
        have HO4 := Lib.hid (HO3.out.next hb4)
        have KP4 := KP.out w4 (HV.out.below HO4.out.2)
        clear k1 k2 k3 hb4 KT3 HC3 HO3 KP
        obtain ⟨k1, k2, k3⟩ := HC4.out
        go_wp2_with fail
        refine KP4.mono ?_
        rintro e w5 ⟨rfl, hb5⟩
        have HC5 := HC4.out.keep hb5 (World.block_lt_of_cell? _ _ k1)
        have HO5 := HO4.out.next hb5
        have hl5 := World.block_lt_of_cell? _ _ HC5.1
        have HO6 := HO5.next ((Below.refl _ _).alloc (Nat.le_refl _) (.cells #[.int .i64 xk, .int .i64 xn, .string xs] 25))
        have HC6 := HC5.keep ((Below.refl w5.heap.size w5).alloc (Nat.le_refl _) (.cells #[.int .i64 xk, .int .i64 xn, .string xs] 25)) hl5
        obtain ⟨v7, w7, r7, O7⟩ := HAP.out _ _ HO6
        have hz : (w5.alloc (.cells #[.int .i64 xk, .int .i64 xn, .string xs] 25)).heap.size = w5.heap.size + 1 := by simp
        rw [hz] at r7
        have R7 := Lib.hid r7
        have HO7 := Lib.hid O7
        clear k1 k2 k3
        obtain ⟨k1, k2, k3⟩ := HC6
        obtain ⟨j1, j2, j3⟩ := HC5
        clear hb5 HC4 HO4 KP4 HO5 HO6 r7 O7 hz HAP
        go_wp2_with (at_builtin; refine wpList_append_run rfl _ _ 22 rfl rfl rfl (R7.out _) ?_)
        go_roundw
        case rel => exact ⟨i + 1, _, _, by go_num, hlt, rfl, HLX.out, HO7, HG2⟩
        case measure => simp [RowKit.intOf]; omega
    · have hei : i = n := end_eq hin hlt
      have ha3 : acc.length ≤ 300 := Nat.le_trans hal (hei ▸ HL.out)
      have hlb := load_back HG.out ha3
      have KB := vbytes_any (holdsV_of_owns HO.out.1) (Nat.le_trans ha3 (by decide)) (fun x hx => (HG.out x hx).2)
      have hbl := bytesV_len HG.out ha3
      have HLD := Lib.hid (fun (w0 : World) (v0 : Value) (h0 : Holds w0 v0 (u8s (bytesV acc))) => vload_any h0 hbl)
      have HA3 := Lib.hid (Nat.le_trans ha3 (by decide : 300 ≤ 1000000))
      have HOV := Lib.hid (holdsV_of_owns HO.out.1)
      generalize bytesV acc = Bs at *
      clear hei ha3 hbl hal hin HG H HI
      go_wp2_with fail
      refine KB.mono ?_
      rintro e w2 ⟨v2, rfl, ho, hb2⟩
      have KD := HLD.out w2 v2 (Holds.of_row (by rw [u8s_len]; exact ho))
      have HB2 := Lib.hid (HO.out.2.trans (hb2.mono HO.out.2.size))
      have HOV2 := Lib.hid (HOV.out.below hb2)
      clear ho hb2 KB HLD HOV
      go_wp2_with fail
      refine KD.mono ?_
      rintro e w3 ⟨⟨x1, hx1⟩, hb3⟩
      obtain ⟨rfl, hvx⟩ : e = .returned (.tuple #[x1, .int .i64 0]) ∧ HoldsV w3 x1 acc := by
        rcases hx1 with ⟨ws, e1, e2, e3⟩ | ⟨e1, _, _⟩
        · rw [hlb] at e1
          cases e1
          exact ⟨e3, e2⟩
        · rw [hlb] at e1; cases e1
      have HB3 := Lib.hid (HB2.out.trans (hb3.mono HB2.out.size))
      have KS := same_vals hvx (HOV2.out.below hb3) HA3.out
      clear hx1 hb3 KD HB2 HOV2 hvx hlb
      go_wp2_with fail
      refine KS.mono ?_
      rintro e w4 ⟨rfl, hb4⟩
      have HB4 := Lib.hid (HB3.out.trans (hb4.mono HB3.out.size))
      clear hb4 KS HB3
      go_wp2_with fail
      refine (KL _ (HV.out.below HB4.out)).mono ?_
      rintro e w5 ⟨rfl, hb5⟩
      have HB5 := Lib.hid (HB4.out.trans (hb5.mono HB4.out.size))
      clear hb5
      go_wp2_with fail
      go_ret
      exact ⟨rfl, HB5.out⟩
end Go.Proofs.YtfmhdnefcapjgaaGreatDoor
