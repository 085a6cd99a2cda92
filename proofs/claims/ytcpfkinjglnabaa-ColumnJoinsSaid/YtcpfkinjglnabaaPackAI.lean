/- The texts CodecSteps Bits PackPlain, one behind the other; each one's own comment says what it holds. -/
import Derived.Test.YtcpfkinjglnabaaPackAH
import Derived.Test.YtcpfkinjglnabaaPackAB
import Derived.Outline
import Derived.Test.YtcpfkinjglnabaaPackAA
import Derived.Laws.BitsLemmas
import Derived.Laws.Bits64
/- Contracts of codec.steps and its iterator: where each byte's bits begin. Conditions: small numbers. -/
set_option maxRecDepth 100000
namespace Go.Proofs.Ytcpfkinjglnabaa
open Go.RowKit Go.Maps Go.Sort
attribute [local go_sem] Oper.semAt_some

def stepsL (f w d : Nat) : List (Nat × Nat) := if h : d < w then (d, f + d) :: stepsL f w (d + (8 - (f + d) % 8)) else []
termination_by w - d
decreasing_by omega
theorem steps_in {f w d : Nat} (h : d < w) : stepsL f w d = (d, f + d) :: stepsL f w (d + (8 - (f + d) % 8)) := by rw [stepsL, dif_pos h]
theorem steps_out {f w d : Nat} (h : ¬ d < w) : stepsL f w d = [] := by rw [stepsL, dif_neg h]
def stepE (p : Nat × Nat) : Array Value := #[.int .i64 (p.1 : Int), .int .i64 (p.2 : Int)]
def stepsE (f w : Nat) : List (Array Value) := (stepsL f w 0).map stepE
theorem stepsE_at {f w d k : Nat} (h : (stepsL f w 0).drop k = stepsL f w d) (hd : d < w) : ∃ hk : k < (stepsE f w).length, (stepsE f w)[k] = #[.int .i64 (d : Int), .int .i64 ((f + d : Nat) : Int)] ∧ (stepsL f w 0).drop (k + 1) = stepsL f w (d + (8 - (f + d) % 8)) := by
  rw [steps_in hd] at h
  have hk : k < (stepsL f w 0).length := by
    rcases Nat.lt_or_ge k (stepsL f w 0).length with g | g
    · exact g
    · rw [List.drop_eq_nil_of_le g] at h; cases h
  rw [List.drop_eq_getElem_cons hk] at h
  injection h with h1 h2
  exact ⟨by simpa [stepsE] using hk, by simp [stepsE, h1, stepE], h2⟩

def stepsR (bw bf w f : Nat) (W : World) : Prop := W.cell? ⟨bw, 0, none⟩ = some (.int .i64 (w : Int)) ∧ W.cell? ⟨bf, 0, none⟩ = some (.int .i64 (f : Int))

set_option maxHeartbeats 800000 in
theorem steps_seq (bw bf w f : Nat) (hw : w ≤ 64) (hf : f ≤ 1000000000000) : SeqIs Try.prog 118 #[.pointer (some ⟨bw, 0, none⟩), .pointer (some ⟨bf, 0, none⟩)] (stepsE f w) (stepsR bw bf w f) := by
  intro l J W hR _ hY h0
  have HR := Lib.hid hR
  have HY := Lib.hid hY
  have H0 := Lib.hid h0
  clear hR hY h0
  refine callsIn_of_wp Try.func118 rfl trivial ?_ rfl
  simp only [Try.ntmps118, List.size_toArray, List.length_cons, List.length_nil, Nat.reduceAdd, Nat.reduceSub, Array.replicate_succ, Array.replicate_zero, List.push_toArray, List.append_toArray, List.nil_append, List.cons_append]
  gi_wp2
  gi_loopw [4] (fun d wr => ∃ k dn : Nat, d = .int .i64 (dn : Int) ∧ dn ≤ w + 8 ∧ k ≤ (stepsE f w).length ∧ Hid ((stepsL f w 0).drop k = stepsL f w dn ∧ J k wr)) (fun d _ => w - (intOf d).toNat)
  case atStart => exact ⟨0, 0, rfl, by omega, by omega, rfl, H0.out⟩
  case round =>
    obtain ⟨k, dn, rfl, hdn, hkl, HK⟩ := hrel
    obtain ⟨c1, c2⟩ := HR.out k _ HK.out.2
    by_cases hlt : dn < w
    · obtain ⟨hk, e1, e2⟩ := stepsE_at HK.out.1 hlt
      obtain ⟨fn, tmps, assign, body, hy, hRd⟩ := HY.out k hk wr HK.out.2
      rw [e1, show ((f + dn : Nat) : Int) = (f : Int) + (dn : Int) by omega] at hy
      have E2 := Lib.hid e2
      clear e1 e2
      gi_wp2
      refine ⟨rfl, hRd.mono ?_⟩
      rintro e W3 ⟨rfl, hJ⟩
      have HJ := Lib.hid hJ
      clear hJ c1 c2 hy hRd
      gi_wp2
      go_roundw
      case rel => exact ⟨k + 1, dn + (8 - (f + dn) % 8), by go_num, by omega, by omega, E2.out, HJ.out⟩
      case measure => simp [intOf]; omega
    · have e := HK.out.1
      rw [steps_out hlt, List.drop_eq_nil_iff] at e
      have e2 : k = (stepsE f w).length := by
        have h2 : (stepsE f w).length = (stepsL f w 0).length := by simp [stepsE]
        omega
      have HJ := Lib.hid HK.out.2
      rw [e2] at HJ
      clear e e2 hkl
      gi_wp2
      go_end0
      exact ⟨⟨_, rfl⟩, HJ.out⟩

set_option maxHeartbeats 400000 in
/-- steps: two boxes, and the iterator over them -/
theorem steps_any (f w : Int) (W : World) : Calls Try.prog 92 #[.int .i64 f, .int .i64 w] W fun e W' =>
    e = .returned (.func (.func 118) #[] #[.pointer (some ⟨W.heap.size + 1, 0, none⟩), .pointer (some ⟨W.heap.size, 0, none⟩)]) ∧ W' = (W.alloc (.cells #[.int .i64 f] 3)).alloc (.cells #[.int .i64 w] 3) := by
  go_enter Try.func92, Try.ntmps92
  go_wp2
  go_ret
  exact ⟨rfl, rfl⟩

set_option maxHeartbeats 400000 in
theorem packedBytes_any (w n : Nat) (hw : w ≤ 64) (hn : n ≤ 100000000000) (W : World) : Calls Try.prog 91 #[.int .i64 (w : Int), .int .i64 (n : Int)] W fun e W' => e = .returned (.int .i64 (((w * n + 7) / 8 : Nat) : Int)) ∧ W = W' := by
  have h1 : w * n ≤ 64 * 100000000000 := Nat.mul_le_mul hw hn
  have e : (w : Int) * (n : Int) = ((w * n : Nat) : Int) := by simp
  generalize w * n = m at *
  go_enter Try.func91, Try.ntmps91
  go_wp2
  go_ret
  exact ⟨ret_int (by omega), rfl⟩
end Go.Proofs.Ytcpfkinjglnabaa
/- Bitwise operations on unsigned numbers as natural numbers. Conditions: none. -/
set_option maxRecDepth 100000
namespace Go.Proofs.Ytcpfkinjglnabaa

theorem wu64 (n : Int) (h₀ : 0 ≤ n) (h₁ : n < 2 ^ 64) : IntKind.u64.wrap n = n := by rw [IntKind.wrap_u64]; omega
theorem wu32 (n : Int) (h₀ : 0 ≤ n) (h₁ : n < 2 ^ 32) : IntKind.u32.wrap n = n := by rw [IntKind.wrap_u32]; omega
theorem or_u64 (a b : Nat) (ha : a < 18446744073709551616) (hb : b < 18446744073709551616) : bits .or .u64 (a : Int) (b : Int) = ((a ||| b : Nat) : Int) := (bits_nat .u64 64 (Nat.le_refl _) wu64 a b ha hb).2
theorem and_u64 (a b : Nat) (ha : a < 18446744073709551616) (hb : b < 18446744073709551616) : bits .and .u64 (a : Int) (b : Int) = ((a &&& b : Nat) : Int) := (bits_nat .u64 64 (Nat.le_refl _) wu64 a b ha hb).1
theorem or_u32 (a b : Nat) (ha : a < 4294967296) (hb : b < 4294967296) : bits .or .u32 (a : Int) (b : Int) = ((a ||| b : Nat) : Int) := (bits_nat .u32 32 (Nat.le_refl _) wu32 a b ha hb).2
theorem and_u32 (a b : Nat) (ha : a < 4294967296) (hb : b < 4294967296) : bits .and .u32 (a : Int) (b : Int) = ((a &&& b : Nat) : Int) := (bits_nat .u32 32 (Nat.le_refl _) wu32 a b ha hb).1
theorem or_u8 (a b : Nat) (ha : a < 256) (hb : b < 256) : bits .or .u8 (a : Int) (b : Int) = ((a ||| b : Nat) : Int) := (bits_nat .u8 8 (Nat.le_refl _) wraps_u8 a b ha hb).2
theorem and_u8 (a b : Nat) (ha : a < 256) (hb : b < 256) : bits .and .u8 (a : Int) (b : Int) = ((a &&& b : Nat) : Int) := (bits_nat .u8 8 (Nat.le_refl _) wraps_u8 a b ha hb).1
theorem xor_u32 (a b : Nat) (ha : a < 4294967296) (hb : b < 4294967296) : bits .xor .u32 (a : Int) (b : Int) = ((a ^^^ b : Nat) : Int) := by
  have hx : a ^^^ b < 2 ^ 32 := Nat.xor_lt_two_pow (by omega) (by omega)
  have h1 : (BitVec.ofInt 32 (a : Int)).toNat = a := by
    rw [BitVec.ofInt_natCast, BitVec.toNat_ofNat]; exact Nat.mod_eq_of_lt (by omega)
  have h2 : (BitVec.ofInt 32 (b : Int)).toNat = b := by
    rw [BitVec.ofInt_natCast, BitVec.toNat_ofNat]; exact Nat.mod_eq_of_lt (by omega)
  show IntKind.u32.wrap ((BitVec.ofInt 32 (a : Int) ^^^ BitVec.ofInt 32 (b : Int)).toNat : Int) = _
  rw [BitVec.toNat_xor, h1, h2, IntKind.wrap_u32]
  omega
theorem or128 : ∀ x : Nat, x < 256 → x ||| 128 = x % 128 + 128 := by decide
theorem mask_u8 (j : Nat) (hj : j ≤ 8) (x : Nat) (hx : x < 256) : bits .and .u8 (x : Int) (2 ^ j - 1) = ((x % 2 ^ j : Nat) : Int) := by
  rw [bits_mask .u8 8 (Nat.le_refl _) wraps_u8 j hj (x : Int) (by omega) (by omega)]; simp
theorem and127 (x : Nat) (hx : x < 256) : bits .and .u8 (x : Int) 127 = ((x % 128 : Nat) : Int) := mask_u8 7 (by omega) x hx
theorem low_or128 (k : Nat) : bits .or .u8 ((k : Int) % 256) 128 = ((UInt8.ofNat (k % 128 + 128)).toNat : Int) := by
  have h := or_u8 (k % 256) 128 (Nat.mod_lt _ (by omega)) (by omega)
  have e : (((k % 256 : Nat)) : Int) = (k : Int) % 256 := by omega
  rw [e] at h
  rw [show (128 : Int) = ((128 : Nat) : Int) from rfl, h, or128 _ (Nat.mod_lt _ (by omega))]
  simp
  omega
theorem ofInt_nat64 (a : Nat) (ha : a < 18446744073709551616) : (BitVec.ofInt 64 (a : Int)).toNat = a := by
  rw [BitVec.ofInt_natCast, BitVec.toNat_ofNat]; exact Nat.mod_eq_of_lt (by omega)
theorem ofInt_nat32 (a : Nat) (ha : a < 4294967296) : (BitVec.ofInt 32 (a : Int)).toNat = a := by
  rw [BitVec.ofInt_natCast, BitVec.toNat_ofNat]; exact Nat.mod_eq_of_lt (by omega)
theorem not_u64 (a : Nat) (ha : a < 18446744073709551616) : bits .xor .u64 IntKind.u64.max (a : Int) = 18446744073709551615 - (a : Int) := by
  have e : BitVec.ofInt 64 IntKind.u64.max = BitVec.allOnes 64 := by decide
  show IntKind.u64.wrap ((BitVec.ofInt 64 IntKind.u64.max ^^^ BitVec.ofInt 64 (a : Int)).toNat : Int) = _
  rw [e, BitVec.allOnes_xor, BitVec.toNat_not, ofInt_nat64 a ha, IntKind.wrap_u64]
  omega
theorem not_u32 (a : Nat) (ha : a < 4294967296) : bits .xor .u32 IntKind.u32.max (a : Int) = 4294967295 - (a : Int) := by
  have e : BitVec.ofInt 32 IntKind.u32.max = BitVec.allOnes 32 := by decide
  show IntKind.u32.wrap ((BitVec.ofInt 32 IntKind.u32.max ^^^ BitVec.ofInt 32 (a : Int)).toNat : Int) = _
  rw [e, BitVec.allOnes_xor, BitVec.toNat_not, ofInt_nat32 a ha, IntKind.wrap_u32]
  omega
theorem not_i64 (a : Nat) (ha : a < 9223372036854775808) : bits .xor .i64 (-1) (a : Int) = -(a : Int) - 1 := by
  have e : BitVec.ofInt 64 (-1) = BitVec.allOnes 64 := by decide
  show IntKind.i64.wrap ((BitVec.ofInt 64 (-1) ^^^ BitVec.ofInt 64 (a : Int)).toNat : Int) = _
  rw [e, BitVec.allOnes_xor, BitVec.toNat_not, ofInt_nat64 a (by omega), IntKind.wrap_i64]
  omega
theorem and1_u64 (u : Nat) (h : u < 18446744073709551616) : bits .and .u64 (u : Int) 1 = ((u % 2 : Nat) : Int) := by
  have := and_u64 u 1 h (by omega)
  rw [Nat.and_one_is_mod] at this
  exact this
end Go.Proofs.Ytcpfkinjglnabaa
/- Plain mathematics of packed numbers: the bytes of a great number, and what one more piece does to them. Conditions: none. -/
set_option maxRecDepth 100000
namespace Go.Proofs.Ytcpfkinjglnabaa

/-- the lowest m bytes of N, the lowest first -/
def bytesN (m N : Nat) : List UInt8 := (List.range m).map fun j => UInt8.ofNat (N / 256 ^ j)
theorem bytesN_len (m N : Nat) : (bytesN m N).length = m := by simp [bytesN]
theorem bytesN_at (m N j : Nat) (h : j < m) : (bytesN m N)[j]'(by rw [bytesN_len]; exact h) = UInt8.ofNat (N / 256 ^ j) := by simp [bytesN]
theorem bytesN_zero (m : Nat) : bytesN m 0 = List.replicate m 0 := by
  apply List.ext_getElem
  · simp [bytesN]
  · intro j h1 h2; simp [bytesN]
theorem pow256 (j : Nat) : 256 ^ j = 2 ^ (8 * j) := by rw [show (256 : Nat) = 2 ^ 8 from rfl, ← Nat.pow_mul]
theorem ofNat_mod (a b : Nat) (h : a % 256 = b % 256) : UInt8.ofNat a = UInt8.ofNat b := by
  apply UInt8.toNat_inj.1; simp; exact h

theorem low_lt (N at' : Nat) (hN : N < 2 ^ at') : N / 256 ^ (at' / 8) < 2 ^ (at' % 8) := by
  rw [pow256, Nat.div_lt_iff_lt_mul (Nat.two_pow_pos _), ← Nat.pow_add]
  rwa [show at' % 8 + 8 * (at' / 8) = at' by omega]

theorem bytes_or (m N at' c : Nat) (hN : N < 2 ^ at') (hc : c < 2 ^ (8 - at' % 8)) :
    (bytesN m N).set (at' / 8) (UInt8.ofNat (N / 256 ^ (at' / 8) + c * 2 ^ (at' % 8))) = bytesN m (N + c * 2 ^ at') := by
  apply List.ext_getElem
  · simp [bytesN]
  · intro j h1 h2
    have hj : j < m := by simpa [bytesN] using h2
    rw [List.getElem_set]
    by_cases h : at' / 8 = j
    · rw [if_pos h]
      subst h
      rw [bytesN_at _ _ _ hj]
      congr 1
      rw [pow256]
      have e : c * 2 ^ at' = (c * 2 ^ (at' % 8)) * 2 ^ (8 * (at' / 8)) := by
        rw [Nat.mul_assoc, ← Nat.pow_add, show at' % 8 + 8 * (at' / 8) = at' by omega]
      rw [e, Nat.add_mul_div_right _ _ (Nat.two_pow_pos _)]
    · rw [if_neg h, bytesN_at _ _ _ hj, bytesN_at _ _ _ hj]
      by_cases hlt : j < at' / 8
      · apply ofNat_mod
        rw [pow256]
        have e : c * 2 ^ at' = (c * 2 ^ (at' - 8 * j - 8) * 256) * 2 ^ (8 * j) := by
          rw [Nat.mul_assoc, Nat.mul_assoc, show (256 : Nat) = 2 ^ 8 from rfl, ← Nat.pow_add, ← Nat.pow_add, show at' - 8 * j - 8 + (8 + 8 * j) = at' by omega]
        rw [e, Nat.add_mul_div_right _ _ (Nat.two_pow_pos _)]
        omega
      · have hp : at' + (8 - at' % 8) ≤ 8 * j := by omega
        have h3 : N + c * 2 ^ at' < 2 ^ (8 * j) := by
          have h4 : (c + 1) * 2 ^ at' ≤ 2 ^ (8 - at' % 8) * 2 ^ at' := Nat.mul_le_mul_right _ hc
          rw [← Nat.pow_add, Nat.add_mul, Nat.one_mul] at h4
          have h5 : 2 ^ (8 - at' % 8 + at') ≤ 2 ^ (8 * j) := Nat.pow_le_pow_right (by omega) (by omega)
          omega
        rw [pow256, Nat.div_eq_of_lt h3, Nat.div_eq_of_lt (by omega)]

/-- numbers of w bits each, one behind the other -/
def bigN (w : Nat) : List Nat → Nat
  | [] => 0
  | u :: r => u + 2 ^ w * bigN w r
theorem bigN_snoc (w : Nat) (l : List Nat) (u : Nat) : bigN w (l ++ [u]) = bigN w l + u * 2 ^ (w * l.length) := by
  induction l with
  | nil => simp [bigN]
  | cons x r ih =>
    rw [List.cons_append, bigN, ih, bigN, List.length_cons, Nat.mul_succ, Nat.pow_add, Nat.mul_add]
    rw [Nat.add_assoc]
    congr 2
    rw [Nat.mul_comm (2 ^ w), Nat.mul_assoc]
theorem bigN_lt (w : Nat) (l : List Nat) (h : ∀ u ∈ l, u < 2 ^ w) : bigN w l < 2 ^ (w * l.length) := by
  induction l with
  | nil => simp [bigN]
  | cons x r ih =>
    rw [bigN, List.length_cons, Nat.mul_succ, Nat.pow_add, Nat.mul_comm (2 ^ (w * r.length))]
    have h1 := h x List.mem_cons_self
    have h2 := ih (fun u hu => h u (List.mem_cons_of_mem _ hu))
    have h3 : 2 ^ w * (bigN w r + 1) ≤ 2 ^ w * 2 ^ (w * r.length) := Nat.mul_le_mul_left _ h2
    rw [Nat.mul_add, Nat.mul_one] at h3
    omega

theorem steps_get (f w : Nat) : ∀ (k d0 d at' : Nat), (stepsL f w d0)[k]? = some (d, at') → at' = f + d ∧ d < w ∧ (stepsL f w d0)[k + 1]? = (if d + (8 - (f + d) % 8) < w then some (d + (8 - (f + d) % 8), f + (d + (8 - (f + d) % 8))) else none) := by
  intro k
  induction k with
  | zero =>
    intro d0 d at' h
    by_cases hd : d0 < w
    · rw [steps_in hd] at h ⊢
      simp at h
      obtain ⟨rfl, rfl⟩ := h
      refine ⟨rfl, hd, ?_⟩
      simp only [Nat.zero_add, List.getElem?_cons_succ]
      split
      · rename_i h2; rw [steps_in h2]; rfl
      · rename_i h2; rw [steps_out h2]; rfl
    · rw [steps_out hd] at h; cases h
  | succ k ih =>
    intro d0 d at' h
    by_cases hd : d0 < w
    · rw [steps_in hd] at h ⊢
      simp only [List.getElem?_cons_succ] at h ⊢
      exact ih _ _ _ h
    · rw [steps_out hd] at h; cases h

/-- how many bits are done ahead of step k -/
def doneAt (f w k : Nat) : Nat := (((stepsL f w 0)[k]?).map (·.1)).getD 64
theorem doneAt_zero (f w u : Nat) (hu : u < 2 ^ w) : u % 2 ^ (doneAt f w 0) = 0 ∨ (w = 0 ∧ u = 0) := by
  unfold doneAt
  by_cases h : 0 < w
  · rw [steps_in h]; exact .inl (by simp; omega)
  · exact .inr ⟨by omega, by rw [show w = 0 by omega] at hu; simpa using hu⟩
theorem doneAt_end (f w k : Nat) (h : (stepsL f w 0).length ≤ k) : doneAt f w k = 64 := by
  unfold doneAt; rw [List.getElem?_eq_none h]; rfl
theorem doneAt_step (f w u k d at' : Nat) (hw : w ≤ 64) (hu : u < 2 ^ w) (h : (stepsL f w 0)[k]? = some (d, at')) : doneAt f w k = d ∧ at' = f + d ∧ d < w ∧ u % 2 ^ (doneAt f w (k + 1)) = u % 2 ^ (d + (8 - at' % 8)) := by
  obtain ⟨rfl, h2, h3⟩ := steps_get f w k 0 d at' h
  refine ⟨by unfold doneAt; rw [h]; rfl, rfl, h2, ?_⟩
  unfold doneAt
  rw [h3]
  split
  · rfl
  · rename_i hge
    have h1 : u < 2 ^ (d + (8 - (f + d) % 8)) := Nat.lt_of_lt_of_le hu (Nat.pow_le_pow_right (by omega) (by omega))
    have h2 : u < 2 ^ 64 := Nat.lt_of_lt_of_le hu (Nat.pow_le_pow_right (by omega) hw)
    simp only [Option.map_none, Option.getD_none]
    rw [Nat.mod_eq_of_lt h1, Nat.mod_eq_of_lt h2]

theorem mod_split (u d e : Nat) : u % 2 ^ (d + e) = u % 2 ^ d + (u / 2 ^ d % 2 ^ e) * 2 ^ d := by
  rw [Nat.pow_add, Nat.mod_mul, Nat.mul_comm (2 ^ d)]

/-- one step: what is there, the byte that is stored, and what is there then -/
theorem pack_step (m P f u d : Nat) (hP : P < 2 ^ f) (old : Nat) (hold : old = (P + u % 2 ^ d * 2 ^ f) / 256 ^ ((f + d) / 8)) :
    old < 2 ^ ((f + d) % 8) ∧ (bytesN m (P + u % 2 ^ d * 2 ^ f)).set ((f + d) / 8) (UInt8.ofNat (old + (u / 2 ^ d % 2 ^ (8 - (f + d) % 8)) * 2 ^ ((f + d) % 8))) = bytesN m (P + u % 2 ^ (d + (8 - (f + d) % 8)) * 2 ^ f) := by
  have hN : P + u % 2 ^ d * 2 ^ f < 2 ^ (f + d) := by
    have h1 : u % 2 ^ d < 2 ^ d := Nat.mod_lt _ (Nat.two_pow_pos _)
    have h2 : (u % 2 ^ d + 1) * 2 ^ f ≤ 2 ^ d * 2 ^ f := Nat.mul_le_mul_right _ h1
    rw [Nat.add_mul, Nat.one_mul, ← Nat.pow_add, Nat.add_comm d f] at h2
    omega
  refine ⟨by rw [hold]; exact low_lt _ _ hN, ?_⟩
  rw [hold, bytes_or m _ _ _ hN (Nat.mod_lt _ (Nat.two_pow_pos _)), mod_split u d, Nat.add_mul, Nat.mul_assoc, ← Nat.pow_add, Nat.add_comm d f, Nat.add_assoc]
/-- the byte that a step stores -/
theorem pack_or (x old r : Nat) (hr : r < 8) (hold : old < 2 ^ r) : IntKind.u8.wrap (((x % 256 : Nat) : Int) * 2 ^ r) = ((x % 2 ^ (8 - r) * 2 ^ r : Nat) : Int) ∧
    bits .or .u8 (old : Int) ((x % 2 ^ (8 - r) * 2 ^ r : Nat) : Int) = ((UInt8.ofNat (old + x % 2 ^ (8 - r) * 2 ^ r)).toNat : Int) := by
  have h8 : 2 ^ (8 - r) * 2 ^ r = 256 := by rw [← Nat.pow_add, show 8 - r + r = 8 by omega]
  have h1 : x % 2 ^ (8 - r) * 2 ^ r = x * 2 ^ r % 256 := by rw [← h8, Nat.mul_mod_mul_right]
  have h2 : x % 2 ^ (8 - r) * 2 ^ r + 2 ^ r ≤ 256 := by
    have := Nat.mul_le_mul_right (2 ^ r) (show x % 2 ^ (8 - r) + 1 ≤ 2 ^ (8 - r) from Nat.mod_lt _ (Nat.two_pow_pos _))
    rw [h8, Nat.add_mul, Nat.one_mul] at this
    exact this
  constructor
  · have e : x % 256 * 2 ^ r % 256 = x % 2 ^ (8 - r) * 2 ^ r := by rw [h1, Nat.mod_mul_mod]
    have : ((x % 256 : Nat) : Int) * 2 ^ r = ((x % 256 * 2 ^ r : Nat) : Int) := by simp
    rw [IntKind.wrap_u8, this, ← e]
    omega
  · have hp := Nat.two_pow_pos r
    rw [or_u8 _ _ (by omega) (by omega)]
    have e : old ||| x % 2 ^ (8 - r) * 2 ^ r = old + x % 2 ^ (8 - r) * 2 ^ r := by
      rw [Nat.or_comm, Nat.mul_comm, ← Nat.two_pow_add_eq_or_of_lt hold, Nat.add_comm]
    rw [e]
    generalize x % 2 ^ (8 - r) * 2 ^ r = z at *
    simp
    omega
end Go.Proofs.Ytcpfkinjglnabaa
