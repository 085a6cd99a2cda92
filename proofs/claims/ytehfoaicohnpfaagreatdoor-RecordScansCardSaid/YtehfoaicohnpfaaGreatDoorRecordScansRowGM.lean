/- The texts RfSumP RfSum RfFour RfFrame RfBegin RfUnframe RfScan RecScansW, one behind the other; each one's own comment says what it holds. -/
import Derived.Test.YtehfoaicohnpfaaGreatDoorCodecSum
import Derived.Test.YtehfoaicohnpfaaGreatDoorReadFrame
import Derived.Test.YtehfoaicohnpfaaGreatDoorRecordScansRowGG
import Derived.Laws.OwnMore
import Derived.Test.YtehfoaicohnpfaaGreatDoorRecordScansRowGE
import Derived.Test.YtehfoaicohnpfaaGreatDoorRecordScansRowGF
import Derived.Test.YtehfoaicohnpfaaGreatDoorSched2
import Derived.BigQuiet
import Derived.Test.YtehfoaicohnpfaaGreatDoorRecordScansRowGL
/- The document's sum of 32 bits, plain: bit by bit it is what the table's steps give. Conditions: none. -/
set_option maxRecDepth 100000
namespace Go.Proofs.YtehfoaicohnpfaaGreatDoor

def polyN : Nat := 3988292384
/-- one bit -/
def bitStep (s : Nat) : Nat := if s % 2 = 1 then s / 2 ^^^ polyN else s / 2
def bitsN : Nat → Nat → Nat
  | 0, s => s
  | k + 1, s => bitStep (bitsN k s)
theorem bitStep_lt {s : Nat} (h : s < 4294967296) : bitStep s < 4294967296 := by
  unfold bitStep
  split
  · exact Nat.xor_lt_two_pow (n := 32) (by omega) (by decide)
  · omega
theorem bitsN_lt {s : Nat} (h : s < 4294967296) : ∀ k, bitsN k s < 4294967296
  | 0 => h
  | k + 1 => bitStep_lt (bitsN_lt h k)
theorem xor_div2 (x y : Nat) : (x ^^^ y) / 2 = x / 2 ^^^ y / 2 := by
  have := Nat.shiftRight_xor_distrib (a := x) (b := y) (i := 1)
  simp only [Nat.shiftRight_eq_div_pow, Nat.pow_one] at this
  exact this
theorem xor_mod2 (x y : Nat) : (x ^^^ y) % 2 = (x % 2 + y % 2) % 2 := by
  have h := Nat.testBit_xor x y 0
  simp only [Nat.testBit_zero] at h
  have hx : x % 2 = 0 ∨ x % 2 = 1 := by omega
  have hy : y % 2 = 0 ∨ y % 2 = 1 := by omega
  have hz : (x ^^^ y) % 2 = 0 ∨ (x ^^^ y) % 2 = 1 := by omega
  rcases hx with a | a <;> rcases hy with b | b <;> rcases hz with c | c <;> simp [a, b, c] at h ⊢
theorem bitStep_xor (x y : Nat) : bitStep (x ^^^ y) = bitStep x ^^^ bitStep y := by
  have h := xor_mod2 x y
  have hd := xor_div2 x y
  unfold bitStep
  have hx : x % 2 = 0 ∨ x % 2 = 1 := by omega
  have hy : y % 2 = 0 ∨ y % 2 = 1 := by omega
  rcases hx with a | a <;> rcases hy with b | b
  · rw [if_neg (by omega), if_neg (by omega), if_neg (by omega), hd]
  · rw [if_pos (by omega), if_neg (by omega), if_pos (by omega), hd, Nat.xor_assoc]
  · rw [if_pos (by omega), if_pos (by omega), if_neg (by omega), hd, Nat.xor_assoc, Nat.xor_assoc, Nat.xor_comm polyN]
  · rw [if_neg (by omega), if_pos (by omega), if_pos (by omega), hd]
    rw [Nat.xor_assoc, Nat.xor_comm polyN, Nat.xor_assoc, Nat.xor_self, Nat.xor_zero]
theorem bitsN_xor : ∀ (k x y : Nat), bitsN k (x ^^^ y) = bitsN k x ^^^ bitsN k y
  | 0, _, _ => rfl
  | k + 1, x, y => by unfold bitsN; rw [bitsN_xor k x y, bitStep_xor]
theorem bits4_high (a : Nat) : bitsN 4 (16 * a) = a := by
  have e : ∀ n, bitStep (2 * n) = n := fun n => by unfold bitStep; rw [if_neg (by omega)]; omega
  show bitStep (bitStep (bitStep (bitStep (16 * a)))) = a
  rw [show 16 * a = 2 * (2 * (2 * (2 * a))) by omega, e, e, e, e]
theorem bits4_low : ∀ r, r < 16 → bitsN 4 r = quad r := by decide
theorem split16 (s : Nat) : 16 * (s / 16) ^^^ s % 16 = s := by
  apply Nat.eq_of_testBit_eq
  intro i
  rw [Nat.testBit_xor]
  have h3 : (16 * (s / 16)).testBit i = (decide (4 ≤ i) && s.testBit i) := by
    have := Nat.testBit_two_pow_mul (i := 4) (a := s / 16) (j := i)
    rw [show (2 : Nat) ^ 4 = 16 from rfl] at this
    rw [this]
    by_cases hi : 4 ≤ i
    · have hd := Nat.testBit_div_two_pow s (i := i - 4) (n := 4)
      rw [show (2 : Nat) ^ 4 = 16 from rfl] at hd
      rw [hd, show i - 4 + 4 = i by omega]
    · simp [hi]
  have h4 : (s % 16).testBit i = (decide (i < 4) && s.testBit i) := by
    have := Nat.testBit_mod_two_pow s 4 i
    rw [show (2 : Nat) ^ 4 = 16 from rfl] at this
    exact this
  rw [h3, h4]
  by_cases hi : 4 ≤ i
  · simp [hi, show ¬ i < 4 by omega]
  · simp [hi, show i < 4 by omega]
theorem sumStep_bits (s : Nat) : sumStep s = bitsN 4 s := by
  conv => rhs; rw [← split16 s]
  rw [bitsN_xor, bits4_high, bits4_low _ (by omega)]
  rfl
theorem bitsN_add (j : Nat) : ∀ (k s : Nat), bitsN (k + j) s = bitsN k (bitsN j s)
  | 0, s => by rw [Nat.zero_add]; rfl
  | k + 1, s => by rw [Nat.add_right_comm]; unfold bitsN; rw [bitsN_add j k s]
theorem sumByte_bits (s : Nat) (c : UInt8) : sumByte s c = bitsN 8 (s ^^^ c.toNat) := by
  unfold sumByte
  rw [sumStep_bits, sumStep_bits, ← bitsN_add]
/-- the document's: the byte's bits one after another -/
def refBit (x c k : Nat) : Nat := if (c ^^^ x / 2 ^ k) % 2 = 1 then c / 2 ^^^ polyN else c / 2
def refBits (x c : Nat) : Nat → Nat
  | 0 => c
  | k + 1 => refBit x (refBits x c k) k
theorem refBits_eq (x c : Nat) : ∀ k, refBits x c k ^^^ x / 2 ^ k = bitsN k (c ^^^ x)
  | 0 => by show c ^^^ x / 2 ^ 0 = c ^^^ x; rw [Nat.pow_zero, Nat.div_one]
  | k + 1 => by
    have ih := refBits_eq x c k
    show refBit x (refBits x c k) k ^^^ x / 2 ^ (k + 1) = bitStep (bitsN k (c ^^^ x))
    rw [← ih]
    have e : x / 2 ^ (k + 1) = x / 2 ^ k / 2 := by rw [Nat.pow_succ, Nat.div_div_eq_div_mul]
    rw [e]
    unfold refBit bitStep
    rw [xor_div2]
    split
    · rw [Nat.xor_assoc, Nat.xor_comm polyN, ← Nat.xor_assoc]
    · rfl
theorem refBits_byte (x : UInt8) (c : Nat) : refBits x.toNat c 8 = sumByte c x := by
  have h := refBits_eq x.toNat c 8
  have hx := x.toNat_lt
  rw [show x.toNat / 2 ^ 8 = 0 by omega, Nat.xor_zero] at h
  rw [h, sumByte_bits]
theorem refBit_lt {x c : Nat} (hc : c < 4294967296) (k : Nat) : refBit x c k < 4294967296 := by
  unfold refBit
  split
  · exact Nat.xor_lt_two_pow (n := 32) (by omega) (by decide)
  · omega
end Go.Proofs.YtehfoaicohnpfaaGreatDoor
/- Contract of the document's Sum: it is the program's. Conditions: at most 2^44 bytes. -/
set_option maxRecDepth 100000
namespace Go.Proofs.YtehfoaicohnpfaaGreatDoor
open Go.RowKit Go.Maps Go.Sort

theorem xor_ones (S : Nat) (h : S < 4294967296) : S ^^^ 4294967295 = 4294967295 - S := by
  apply Nat.eq_of_testBit_eq
  intro i
  have h1 := Nat.testBit_two_pow_sub_succ (n := 32) (x := S) (show S < 2 ^ 32 by omega) i
  rw [show (2 : Nat) ^ 32 - (S + 1) = 4294967295 - S by omega] at h1
  rw [Nat.testBit_xor, h1, show (4294967295 : Nat) = 2 ^ 32 - 1 from rfl, Nat.testBit_two_pow_sub_one]
  by_cases hi : i < 32
  · simp [hi]
  · have : S.testBit i = false := Nat.testBit_lt_two_pow (Nat.lt_of_lt_of_le (show S < 2 ^ 32 by omega) (Nat.pow_le_pow_right (by decide) (by omega)))
    simp [hi, this]
theorem bit_eq {T x : Nat} (q : Nat) (hT : T < 4294967296) (hx : x < 256) : bits .and .u32 (bits .xor .u32 (T : Int) ((x : Int) / 2 ^ q % 4294967296)) 1 = (((T ^^^ x / 2 ^ q) % 2 : Nat) : Int) := by
  have hle : x / 2 ^ q ≤ x := Nat.div_le_self _ _
  have e : (x : Int) / 2 ^ q % 4294967296 = ((x / 2 ^ q : Nat) : Int) := by
    have : (x : Int) / 2 ^ q = ((x / 2 ^ q : Nat) : Int) := by simp
    rw [this]
    generalize x / 2 ^ q = y at *
    omega
  rw [e, xor_u32 T (x / 2 ^ q) hT (by omega)]
  have hlt : T ^^^ x / 2 ^ q < 4294967296 := Nat.xor_lt_two_pow (n := 32) hT (by omega)
  rw [show (1 : Int) = 2 ^ 1 - 1 from rfl, bits_mask .u32 32 (Nat.le_refl _) wu32 1 (by decide) _ (by omega) (by omega)]
  simp
set_option maxHeartbeats 1600000 in
theorem rfsum_any {w : World} {v : Value} {l : List UInt8} (h : Holds w v (u8s l)) (hl : l.length ≤ 17592186044416) :
    Calls Tryz.prog 28 #[v] w fun e w' => e = .returned (.int .u32 (sumN l : Int)) ∧ w = w' := by
  obtain ⟨a, c, hv, hc⟩ := h.form
  rw [u8s_len] at hv hc
  subst hv
  have H := Lib.hid h
  generalize hn : l.length = n at *
  have HN := Lib.hid hn
  clear h hn
  go_enter Tryz.func28, Tryz.ntmps28
  go_wp2_with fail
  go_loop [3, 10] (fun s i => ∃ (k S : Nat), k ≤ n ∧ i = .int .i64 k ∧ s = .int .u32 S ∧ S < 4294967296 ∧ Hid ((l.drop k).foldl sumByte S = l.foldl sumByte 4294967295)) (fun _ i => n - (intOf i).toNat)
  case atStart => exact ⟨0, 4294967295, by omega, rfl, rfl, by omega, rfl⟩
  case round =>
    obtain ⟨k, S, hk, rfl, rfl, hS, HR⟩ := hrel
    by_cases hlt : k < n
    · have hkl : k < l.length := by rw [HN.out]; exact hlt
      obtain ⟨ad, rfl⟩ := H.out.ptr (by omega)
      have hc : w.cell? (ad.add k) = some (.int .u8 (l[k].toNat : Int)) := H.out.cell (by simp [u8s, hkl])
      have hx := l[k].toNat_lt
      have HE := Lib.hid HR.out
      rw [List.drop_eq_getElem_cons hkl, List.foldl_cons] at HE
      have hby := refBits_byte l[k] S
      rw [← hby] at HE
      clear hby
      generalize l[k].toNat = x at *
      go_wp2_with fail
      go_loop [3, 6] (fun s j => ∃ (q T : Nat), q ≤ 8 ∧ j = .int .i64 q ∧ s = .int .u32 T ∧ T < 4294967296 ∧ Hid (T = refBits x S q)) (fun _ j => 8 - (intOf j).toNat)
      case atStart => exact ⟨0, S, by omega, rfl, rfl, hS, Lib.hid rfl⟩
      case round =>
        obtain ⟨q, T, hq, rfl, rfl, hT, HT⟩ := hrel
        by_cases hq8 : q < 8
        · have t0 : (q : Int) < 8 := by omega
          have hb := bit_eq q hT hx
          have hw := xor_u32 (T / 2) polyN (by omega) (by decide)
          rw [show ((T / 2 : Nat) : Int) = (T : Int) / 2 by omega, show ((polyN : Nat) : Int) = 3988292384 from rfl] at hw
          have hwb : T / 2 ^^^ polyN < 4294967296 := Nat.xor_lt_two_pow (n := 32) (by omega) (by decide)
          have HR1 : Hid (refBits x S (q + 1) = if (T ^^^ x / 2 ^ q) % 2 = 1 then T / 2 ^^^ polyN else T / 2) := Lib.hid (by show refBit x (refBits x S q) q = _; rw [← HT.out]; rfl)
          by_cases h1 : (T ^^^ x / 2 ^ q) % 2 = 1
          · have t1 : (bits .and .u32 (bits .xor .u32 (T : Int) ((x : Int) / 2 ^ q % 4294967296)) 1 == 1) = true := by rw [hb, h1]; rfl
            rw [if_pos h1] at HR1
            clear hb h1
            generalize T / 2 ^^^ polyN = Z at *
            go_wp2_with fail
            go_round
            case rel => exact ⟨q + 1, Z, by omega, by go_num, rfl, hwb, Lib.hid HR1.out.symm⟩
            case measure => simp [intOf]; omega
          · have t1 : (bits .and .u32 (bits .xor .u32 (T : Int) ((x : Int) / 2 ^ q % 4294967296)) 1 == 1) = false := by rw [hb, show (T ^^^ x / 2 ^ q) % 2 = 0 by omega]; rfl
            rw [if_neg h1] at HR1
            clear hb h1 hw hwb
            go_wp2_with fail
            go_round
            case rel => exact ⟨q + 1, T / 2, by omega, by go_num, by simp, by omega, Lib.hid HR1.out.symm⟩
            case measure => simp [intOf]; omega
        · have hq8' : q = 8 := by omega
          subst hq8'
          have hT' := HT.out
          rw [← hT'] at HE
          go_wp2_with fail
          go_round
          case rel => exact ⟨k + 1, T, by omega, by go_num, rfl, hT, HE.out⟩
          case measure => simp [intOf]; omega
    · have e := Lib.hid HR.out
      have hkn : k = n := by omega
      subst hkn
      have hd : l.drop k = [] := List.drop_eq_nil_of_le (by rw [HN.out]; omega)
      rw [hd] at e
      have hS2 : S = l.foldl sumByte 4294967295 := e.out
      have hx := xor_u32 S 4294967295 hS (by decide)
      have hs : ((S ^^^ 4294967295 : Nat) : Int) = ((sumN l : Nat) : Int) := by
        unfold sumN
        rw [← hS2, xor_ones S hS]
      rw [hs, show ((4294967295 : Nat) : Int) = 4294967295 from rfl] at hx
      clear hS2 hs hd
      go_wp2_with fail
      go_ret
      exact ⟨rfl, rfl⟩
end Go.Proofs.YtehfoaicohnpfaaGreatDoor
/- Contracts of the document's Four and Fourth. Conditions: none. -/
set_option maxRecDepth 100000
namespace Go.Proofs.YtehfoaicohnpfaaGreatDoor
open Go.RowKit Go.Maps Go.Sort

theorem bytes4 (n : Nat) : u8s (bytesN 4 n) = [.int .u8 ((n : Int) % 256), .int .u8 ((n : Int) / 256 % 256), .int .u8 ((n : Int) / 65536 % 256), .int .u8 ((n : Int) / 16777216 % 256)] := by
  simp [u8s, bytesN, List.range_succ]
theorem rffour_any {w : World} (n : Nat) :
    Calls Tryz.prog 37 #[.int .u32 (n : Int)] w fun e w' => e = .returned (.slice (some ⟨w.heap.size, 0, none⟩) 4 4) ∧ w' = w.alloc (.cells (u8s (bytesN 4 n)).toArray 5) := by
  rw [bytes4]
  go_enter Tryz.func37, Tryz.ntmps37
  go_wp2_with fail
  go_ret
  exact ⟨rfl, rfl⟩
theorem four_parts {a b c d : Nat} (ha : a < 256) (hb : b < 256) (hc : c < 256) (hd : d < 256) :
    bits .or .u32 (bits .or .u32 (bits .or .u32 (a : Int) ((b : Int) * 256)) ((c : Int) * 65536)) ((d : Int) * 16777216) = ((a + b * 256 + c * 65536 + d * 16777216 : Nat) : Int) := by
  have e1 : a ||| b * 256 = a + b * 256 := by
    have := Nat.two_pow_add_eq_or_of_lt (i := 8) (b := a) (by omega) b
    rw [Nat.or_comm, Nat.mul_comm b 256, Nat.add_comm]; exact this.symm
  have e2 : (a + b * 256) ||| c * 65536 = a + b * 256 + c * 65536 := by
    have := Nat.two_pow_add_eq_or_of_lt (i := 16) (b := a + b * 256) (by omega) c
    rw [Nat.or_comm, Nat.mul_comm c 65536, Nat.add_comm (a + b * 256)]; exact this.symm
  have e3 : (a + b * 256 + c * 65536) ||| d * 16777216 = a + b * 256 + c * 65536 + d * 16777216 := by
    have := Nat.two_pow_add_eq_or_of_lt (i := 24) (b := a + b * 256 + c * 65536) (by omega) d
    rw [Nat.or_comm, Nat.mul_comm d 16777216, Nat.add_comm (a + b * 256 + c * 65536)]; exact this.symm
  have o1 := or_u32 a (b * 256) (by omega) (by omega)
  have o2 := or_u32 (a + b * 256) (c * 65536) (by omega) (by omega)
  have o3 := or_u32 (a + b * 256 + c * 65536) (d * 16777216) (by omega) (by omega)
  rw [e1] at o1
  rw [e2] at o2
  rw [e3] at o3
  rw [show (b : Int) * 256 = ((b * 256 : Nat) : Int) by omega, o1, show (c : Int) * 65536 = ((c * 65536 : Nat) : Int) by omega, o2, show (d : Int) * 16777216 = ((d * 16777216 : Nat) : Int) by omega, o3]
set_option maxHeartbeats 800000 in
theorem rffourth_any {w : World} {a : Option Addr} {n cap : Nat} {l : List UInt8} (h : Holds w (.slice a n cap) (u8s l)) (h4 : 4 ≤ l.length) :
    Calls Tryz.prog 27 #[.slice a n cap] w fun e w' => e = .returned (.int .u32 (numB (l.take 4) : Int)) ∧ w' = w.drewN 1 := by
  obtain ⟨b0, b1, b2, b3, r, rfl⟩ : ∃ b0 b1 b2 b3 r, l = b0 :: b1 :: b2 :: b3 :: r := by
    match l, h4 with
    | b0 :: b1 :: b2 :: b3 :: r, _ => exact ⟨b0, b1, b2, b3, r, rfl⟩
  have hn := h.len.1
  rw [u8s_len] at hn
  simp only [List.length_cons] at hn
  obtain ⟨ad, rfl⟩ := h.ptr (by omega)
  have c0 : w.cell? (ad.add 0) = some (.int .u8 (b0.toNat : Int)) := h.cell (by simp [u8s])
  have c1 : w.cell? (ad.add 1) = some (.int .u8 (b1.toNat : Int)) := h.cell (by simp [u8s])
  have c2 : w.cell? (ad.add 2) = some (.int .u8 (b2.toNat : Int)) := h.cell (by simp [u8s])
  have c3 : w.cell? (ad.add 3) = some (.int .u8 (b3.toNat : Int)) := h.cell (by simp [u8s])
  have p := four_parts b0.toNat_lt b1.toNat_lt b2.toNat_lt b3.toNat_lt
  have e : numB ((b0 :: b1 :: b2 :: b3 :: r).take 4) = b0.toNat + b1.toNat * 256 + b2.toNat * 65536 + b3.toNat * 16777216 := by
    simp [numB]; omega
  rw [e]
  have g0 := b0.toNat_lt
  have g1 := b1.toNat_lt
  have g2 := b2.toNat_lt
  have g3 := b3.toNat_lt
  generalize b0.toNat = x0 at *
  generalize b1.toNat = x1 at *
  generalize b2.toNat = x2 at *
  generalize b3.toNat = x3 at *
  have n0 : (0 : Int) < (n : Int) := by omega
  have n1 : (1 : Int) < (n : Int) := by omega
  have n2 : (2 : Int) < (n : Int) := by omega
  have n3 : (3 : Int) < (n : Int) := by omega
  clear h e h4 hn
  go_enter Tryz.func27, Tryz.ntmps27
  go_wp2_with fail
  have d0 : w.drew.cell? ad = some (.int .u8 (x0 : Int)) := c0
  have d1 : w.drew.cell? ⟨ad.block, ad.off + 1, none⟩ = some (.int .u8 (x1 : Int)) := c1
  have d2 : w.drew.cell? ⟨ad.block, ad.off + 2, none⟩ = some (.int .u8 (x2 : Int)) := c2
  have d3 : w.drew.cell? ⟨ad.block, ad.off + 3, none⟩ = some (.int .u8 (x3 : Int)) := c3
  go_region
  go_wp2_with fail
  go_ret
  exact ⟨rfl, rfl⟩
end Go.Proofs.YtehfoaicohnpfaaGreatDoor
/- Contract of the document's Frame: at most 262144 bytes. Conditions: none but that. -/
set_option maxRecDepth 100000
namespace Go.Proofs.YtehfoaicohnpfaaGreatDoor
open Go.RowKit Go.Maps Go.Sort Go.Lib

theorem four_row (w : World) (n : Nat) : (w.alloc (.cells (u8s (bytesN 4 n)).toArray 5)).ownsRow w.heap.size 5 1 (.slice (some ⟨w.heap.size, 0, none⟩) 4 4) (bytesN 4 n).length (u8s (bytesN 4 n)) := by
  have h := World.ownsRow_lit w (base := w.heap.size) (e := 5) (size := 1) (u8s (bytesN 4 n)).toArray 4 (Nat.le_refl _) (by unfold maxLen; omega) (by simp [u8s, bytesN])
  rw [bytesN_len]
  simpa using h
set_option maxHeartbeats 1600000 in
theorem rfframe_any {w : World} {a : Option Addr} {n cap : Nat} {l : List UInt8} (h : Holds w (.slice a n cap) (u8s l)) (hl : l.length ≤ 262144) :
    Calls Tryz.prog 18 #[.slice a n cap] w fun e w' => ∃ a' c', e = .returned (.slice a' (frameL l).length c') ∧ w'.ownsRow w.heap.size 5 1 (.slice a' (frameL l).length c') (frameL l).length (u8s (frameL l)) ∧ Below w.heap.size w w' := by
  have hn : n = l.length := by have := h.len.1; rw [u8s_len] at this; exact this.symm
  have t0 : decide ((262144 : Int) < (n : Int)) = false := decide_eq_false (by omega)
  have hw : (n : Int) % 4294967296 = (n : Int) := by omega
  have b1 := below_o w (.cells (u8s (bytesN 4 n)).toArray 5)
  obtain ⟨v2, w2, r2, o2, b2⟩ := more_at (four_row w n) b1 (h.below b1) (by rw [bytesN_len]; omega) (by omega)
  obtain ⟨a2, c2, rfl, _⟩ := ownsRow_form o2
  obtain ⟨M, hM⟩ : ∃ M, (bytesN 4 n ++ l).length = M := ⟨_, rfl⟩
  have hM4 : M ≤ 262148 := by rw [← hM, List.length_append, bytesN_len]; omega
  have KS := rfsum_any (Holds.of_row (by rw [u8s_len]; exact o2) : Holds w2 (.slice a2 (bytesN 4 n ++ l).length c2) (u8s (bytesN 4 n ++ l))) (by omega)
  have b3 := below_o w2 (.cells (u8s (bytesN 4 (sumN (bytesN 4 n ++ l)))).toArray 5)
  have b3' : Below w.heap.size w (w2.alloc (.cells (u8s (bytesN 4 (sumN (bytesN 4 n ++ l)))).toArray 5)) := b2.trans (b3.mono b2.size)
  have H4 : Holds (w2.alloc (.cells (u8s (bytesN 4 (sumN (bytesN 4 n ++ l)))).toArray 5)) (.slice (some ⟨w2.heap.size, 0, none⟩) 4 4) (u8s (bytesN 4 (sumN (bytesN 4 n ++ l)))) := Holds.of_row (by have := four_row w2 (sumN (bytesN 4 n ++ l)); rw [u8s_len]; exact this)
  obtain ⟨v5, w5, r5, o5, b5⟩ := more_at (ownsRow_below o2 b3) b3' H4 (by omega) (by rw [bytesN_len]; omega)
  have hfr : bytesN 4 n ++ l ++ bytesN 4 (sumN (bytesN 4 n ++ l)) = frameL l := by unfold frameL; rw [← hn]
  rw [hfr] at o5
  obtain ⟨a5, c5, rfl, _⟩ := ownsRow_form o5
  have FIN := Lib.hid (And.intro o5 b5)
  have R2 := r2
  have R5 := r5
  have K4 := rffour_any (w := w) n
  have K4b := rffour_any (w := w2) (sumN (bytesN 4 n ++ l))
  rw [hM] at R2 R5 KS
  obtain ⟨Z, hZ⟩ : ∃ Z, sumN (bytesN 4 n ++ l) = Z := ⟨_, rfl⟩
  rw [hZ] at KS K4b R5
  obtain ⟨F, hF⟩ : ∃ F, (frameL l).length = F := ⟨_, rfl⟩
  rw [hF] at FIN R5 ⊢
  obtain ⟨W1, hW1⟩ : ∃ W1, w.alloc (.cells (u8s (bytesN 4 n)).toArray 5) = W1 := ⟨_, rfl⟩
  rw [hW1] at R2 K4
  obtain ⟨W3, hW3⟩ : ∃ W3, w2.alloc (.cells (u8s (bytesN 4 Z)).toArray 5) = W3 := ⟨_, rfl⟩
  rw [hW3] at R5 K4b
  clear h hl hn b1 r2 o2 b2 hM hM4 b3 b3' H4 r5 o5 b5 hfr hZ hF hW1 hW3
  go_enter Tryz.func18, Tryz.ntmps18
  go_wp2_with fail
  refine K4.mono ?_
  rintro e w1 ⟨rfl, rfl⟩
  clear K4
  go_wp2_with (at_builtin; refine wpList_append_run rfl (.tmp 10) (.tmp 11) 22 rfl rfl rfl (R2.out _) ?_)
  refine KS.mono ?_
  rintro e w3 ⟨rfl, rfl⟩
  clear KS R2
  go_wp2_with fail
  refine K4b.mono ?_
  rintro e w4 ⟨rfl, rfl⟩
  clear K4b
  go_wp2_with (at_builtin; refine wpList_append_run rfl (.tmp 13) (.tmp 16) 22 rfl rfl rfl (R5.out _) ?_)
  go_ret
  exact ⟨_, _, rfl, FIN.out.1, FIN.out.2⟩
end Go.Proofs.YtehfoaicohnpfaaGreatDoor
/- Contract of the document's Begin. Conditions: none. -/
set_option maxRecDepth 100000
namespace Go.Proofs.YtehfoaicohnpfaaGreatDoor
open Go.RowKit Go.Maps Go.Sort Go.Lib

theorem rfbegin_any {w : World} (id : Nat) (hid : id < 18446744073709551616) : Calls Tryz.prog 9 #[.int .u64 (id : Int)] w (OwnP w (headL id)) := by
  have hH : Holds (w.alloc (.cells #[.int .u8 0] 5)) (.slice (some ⟨w.heap.size, 0, none⟩) 1 1) (u8s [0]) := holds_one8 w 0 0 (by simp)
  have KP := refPut_any hH id hid (by simp)
  have hd := dig_len10 hid
  have hb0 := below_o w (.cells #[.int .u8 0] 5)
  have HB0 := Lib.hid hb0
  have HDL : Hid ((0 :: dig id).length ≤ 262144) := Lib.hid (by rw [List.length_cons]; omega)
  rw [List.cons_append, List.nil_append] at KP
  have hl : headL id = frameL (0 :: dig id) := rfl
  rw [hl]
  generalize (0 :: dig id) = D at *
  clear hH hid hd hl hb0
  go_enter Tryz.func9, Tryz.ntmps9
  go_wp2_with fail
  refine KP.mono ?_
  rintro e w1 ⟨v1, rfl, ho, hb⟩
  have hb1 := HB0.out.trans (hb.mono HB0.out.size)
  have hO : Holds w1 v1 (u8s D) := Holds.of_row (by rw [u8s_len]; exact ho)
  obtain ⟨a, c, hv, _⟩ := hO.form
  rw [u8s_len] at hv
  subst hv
  have KF := rfframe_any hO HDL.out
  have HB1 := Lib.hid hb1
  generalize D.length = m at *
  clear ho hb hb1 hO KP
  go_wp2_with fail
  refine KF.mono ?_
  rintro e w2 ⟨a2, c2, rfl, ho2, hb2⟩
  have FO : Hid (w2.ownsRow w.heap.size 5 1 (.slice a2 (frameL D).length c2) (frameL D).length (u8s (frameL D)) ∧ Below w.heap.size w w2) := Lib.hid ⟨ownsRow_rebase ho2 (fun g hg => Nat.le_trans HB1.out.size (ho2.lt g hg).1), HB1.out.trans (hb2.mono HB1.out.size)⟩
  clear ho2 hb2 KF
  go_wp2_with fail
  go_ret
  exact ⟨_, rfl, FO.out⟩
end Go.Proofs.YtehfoaicohnpfaaGreatDoor
/- Contract of the document's Unframe at any bytes. Conditions: at most 1000000 bytes. -/
set_option maxRecDepth 100000
namespace Go.Proofs.YtehfoaicohnpfaaGreatDoor
open Go.RowKit Go.Maps Go.Sort Go.Lib

set_option maxHeartbeats 3200000 in
theorem rfunf_short {w : World} {a : Option Addr} {n cap : Nat} {l : List UInt8} (h : Holds w (.slice a n cap) (u8s l)) (hm : l.length ≤ 1000000) (hs : l.length < 4 ∨ 262144 < numB (l.take 4) ∨ l.length < numB (l.take 4) + 8) :
    Calls Tryz.prog 14 #[.slice a n cap] w (UnfP w l) := by
  have hn : n = l.length := by have := h.len.1; rw [u8s_len] at this; exact this.symm
  obtain ⟨P, hP⟩ : ∃ P, UnfP w l = P := ⟨_, rfl⟩
  rw [hP]
  have FN := Lib.hid (fun (c : Int) (W' : World) (hb : Below w.heap.size w W') (hu : unfL l = none) (hc : c ≠ 0) => (by rw [← hP]; exact ⟨hb, .inr ⟨c, hu, hc, rfl⟩⟩ : P (.returned (.tuple #[.slice none 0 0, .int .i64 0, .int .i64 c])) W'))
  by_cases h4 : l.length < 4
  · have t0 : decide ((n : Int) < 4) = true := decide_eq_true (by omega)
    have F := FN.out 10 w (Below.refl _ _) (by unfold unfL; rw [if_pos h4]) (by decide)
    clear h hP
    go_enter Tryz.func14, Tryz.ntmps14
    go_wp2_with fail
    refine bodyPost_ret (v := .tuple #[.slice none 0 0, .int .i64 0, .int .i64 10]) ?_ rfl F
    simp [results, Tryz.results14, go_sem]
  have t0 : decide ((n : Int) < 4) = false := decide_eq_false (by omega)
  have KW := rffourth_any h (by omega)
  have hcb := numB_lt (l.take 4)
  rw [List.length_take, Nat.min_eq_left (by omega), show (256 : Nat) ^ 4 = 4294967296 from rfl] at hcb
  obtain ⟨c, hc'⟩ : ∃ c, c = numB (l.take 4) := ⟨_, rfl⟩
  rw [← hc'] at KW hcb
  have hb1 := below_drewN w 1
  obtain ⟨W1, hW1⟩ : ∃ W1, w.drewN 1 = W1 := ⟨_, rfl⟩
  rw [hW1] at KW hb1
  have hc64 : IntKind.i64.wrap (c : Int) = (c : Int) := by rw [IntKind.wrap_i64]; omega
  by_cases h1 : 262144 < c
  · have t1 : decide ((262144 : Int) < (c : Int)) = true := decide_eq_true (by omega)
    have F := FN.out 6 _ hb1 (by unfold unfL; rw [if_neg h4, if_pos (by rw [← hc']; exact h1)]) (by decide)
    clear h hP hc' hW1 FN hb1 hn hm h4 hs
    go_enter Tryz.func14, Tryz.ntmps14
    go_wp2_with fail
    refine KW.mono ?_
    rintro e w1 ⟨rfl, rfl⟩
    go_wp2_with fail
    refine bodyPost_ret (v := .tuple #[.slice none 0 0, .int .i64 0, .int .i64 6]) ?_ rfl F
    simp [results, Tryz.results14, go_sem]
  have t1 : decide ((262144 : Int) < (c : Int)) = false := decide_eq_false (by omega)
  by_cases h2 : l.length < c + 8
  · have t2 : decide ((n : Int) < (c : Int) + 8) = true := decide_eq_true (by omega)
    have F := FN.out 10 _ hb1 (by unfold unfL; rw [if_neg h4, if_neg (by rw [← hc']; exact h1), if_pos (by rw [← hc']; exact h2)]) (by decide)
    clear h hP hc' hW1 FN hb1 hn hm h4 hs
    go_enter Tryz.func14, Tryz.ntmps14
    go_wp2_with fail
    refine KW.mono ?_
    rintro e w1 ⟨rfl, rfl⟩
    go_wp2_with fail
    refine bodyPost_ret (v := .tuple #[.slice none 0 0, .int .i64 0, .int .i64 10]) ?_ rfl F
    simp [results, Tryz.results14, go_sem]
  omega
set_option maxHeartbeats 3200000 in
theorem rfunf_sum {w : World} {a : Option Addr} {n cap : Nat} {l : List UInt8} (h : Holds w (.slice a n cap) (u8s l)) (hm : l.length ≤ 1000000) (h4 : 4 ≤ l.length) (hc : numB (l.take 4) ≤ 262144) (hlen : numB (l.take 4) + 8 ≤ l.length) :
    Calls Tryz.prog 14 #[.slice a n cap] w (UnfP w l) := by
  have hn : n = l.length := by have := h.len.1; rw [u8s_len] at this; exact this.symm
  obtain ⟨ad, rfl⟩ := h.ptr (by omega)
  obtain ⟨hcap, _⟩ := h.len
  have hcl := h.len.2
  have KW := rffourth_any h (by omega)
  obtain ⟨c, hc'⟩ : ∃ c, c = numB (l.take 4) := ⟨_, rfl⟩
  have hub : unfL l = if numB ((l.drop (c + 4)).take 4) = sumN (l.take (c + 4)) then some ((l.drop 4).take c) else none := by
    unfold unfL
    rw [if_neg (by omega), if_neg (by omega), if_neg (by omega), ← hc']
  rw [← hc'] at hc hlen KW
  obtain ⟨P, hP⟩ : ∃ P, UnfP w l = P := ⟨_, rfl⟩
  rw [hP]
  have b1 := below_drewN w 1
  have hdrop := (hold_take (hold_drop (h.below b1) (c + 4) (by omega)) 4 (by omega))
  have htake := hold_take (h.below b1) (c + 4) (by omega)
  have hw2 := fun q => (rffourth_any (hdrop.drewN q) (by simp; omega)).mono fun _ _ ⟨e1, e2⟩ => (⟨e1, 1, e2⟩ : _ ∧ ∃ m, _ = ((w.drewN 1).drewN q).drewN m)
  rw [List.take_take, Nat.min_self] at hw2
  have hs2 := fun q => (rfsum_any (htake.drewN q) (by simp; omega)).mono fun _ _ ⟨e1, e2⟩ => (⟨e1, e2.symm⟩ : _ ∧ _ = (w.drewN 1).drewN q)
  have hmid : Holds (w.drewN 1) (.slice (some (ad.add 4)) c (cap - 4)) (u8s ((l.drop 4).take c)) := by
    have h5 := hold_drop (hold_take (h.below b1) (c + 4) (by omega)) 4 (by omega)
    rw [List.drop_take] at h5
    simpa using h5
  have hml : ((l.drop 4).take c).length = c := by simp; omega
  have happ := fun q => copy_more (hmid.drewN q) (by simp; omega)
  rw [hml] at happ
  have HGO : Hid (∀ (v : Value) (q : Nat) (w' : World), numB ((l.drop (c + 4)).take 4) = sumN (l.take (c + 4)) → w'.ownsRow ((w.drewN 1).drewN q).heap.size 5 1 v c (u8s ((l.drop 4).take c)) → Below ((w.drewN 1).drewN q).heap.size ((w.drewN 1).drewN q) w' → P (.returned (.tuple #[v, .int .i64 ((c : Int) + 8), .int .i64 0])) w') := Lib.hid fun v q w' hg ho hb => by
    rw [← hP]
    exact ⟨(below_dN b1 q).trans (hb.mono (Nat.le_refl _)), .inl ⟨_, v, by rw [hub, if_pos hg], by rw [hml], by rw [hml]; exact ho⟩⟩
  have HNO : Hid (∀ (q : Nat), numB ((l.drop (c + 4)).take 4) ≠ sumN (l.take (c + 4)) → P (.returned (.tuple #[.slice none 0 0, .int .i64 0, .int .i64 8])) ((w.drewN 1).drewN q)) := Lib.hid fun q hg => by
    rw [← hP]
    exact ⟨below_dN b1 q, .inr ⟨8, by rw [hub, if_neg hg], by decide, rfl⟩⟩
  have hm9 : n ≤ 1000000 := by omega
  have t0 : decide ((n : Int) < 4) = false := decide_eq_false (by omega)
  have t1 : decide ((262144 : Int) < (c : Int)) = false := decide_eq_false (by omega)
  have hc64 : IntKind.i64.wrap (c : Int) = (c : Int) := by rw [IntKind.wrap_i64]; omega
  obtain ⟨W1, hW1⟩ : ∃ W1, w.drewN 1 = W1 := ⟨_, rfl⟩
  rw [hW1] at KW hw2 hs2 happ HGO HNO
  generalize numB ((l.drop (c + 4)).take 4) = s1 at *
  generalize sumN (l.take (c + 4)) = s2 at *
  have e4 : (c : Int) + 4 = ((c + 4 : Nat) : Int) := by omega
  have e8 : (c : Int) + 8 = ((c + 4 : Nat) : Int) + 4 := by omega
  have e9 : c + 4 - 4 = c := by omega
  generalize he : c + 4 = e at *
  have t3 : decide ((n : Int) < (e : Int) + 4) = false := decide_eq_false (by omega)
  have g1 : (e : Int) ≤ (n : Int) := by omega
  have g2 : (e : Int) ≤ (cap : Int) := by omega
  have g3 : ¬ cap = e := by omega
  have g4 : (e : Int) + 4 ≤ (n : Int) := by omega
  have g5 : (e : Int) + 4 ≤ (cap : Int) := by omega
  have g6 : (4 : Int) ≤ (e : Int) := by omega
  have g7 : ¬ cap = 4 := by omega
  rw [e8] at HGO
  have HW2 := Lib.hid hw2
  have HS2 := Lib.hid hs2
  have HA := Lib.hid happ
  clear h hn hc' hw2 hs2 hlen hdrop htake hmid happ hml hub hP b1 h4 hm hW1 hcl he hc
  go_enter Tryz.func14, Tryz.ntmps14
  go_wp2_with fail
  refine KW.mono ?_
  rintro e w1 ⟨rfl, rfl⟩
  go_wp2_with fail
  refine wp_region_quiet_lit (by kernel_rfl) (by kernel_rfl) ?_
  repeat (go_big_quiet_step (fail))
  repeat (go_big_quiet_step (first | exact Calls.quiet_of (HW2.out _) | exact Calls.quiet_of_same (HS2.out _)))
  refine wpQuiet_nil ?_
  intro _ hw'
  obtain ⟨nq, hw''⟩ := hw'
  subst hw''
  by_cases hg : s1 = s2
  · subst hg
    obtain ⟨v2, w2, r2, o2, g2⟩ := HA.out nq
    have F2 := Lib.hid (HGO.out v2 nq w2 rfl o2 g2)
    have R2 := r2
    clear r2 o2 g2
    go_wp2_with (at_builtin; refine wpList_append_run rfl _ _ 22 rfl rfl rfl (R2.out _) ?_)
    go_ret3
    exact F2.out
  · have t4 : ((s2 : Int) != (s1 : Int)) = true := by rw [bne_iff_ne]; omega
    have F2 := Lib.hid (HNO.out nq hg)
    go_wp2_with fail
    refine bodyPost_ret (v := .tuple #[.slice none 0 0, .int .i64 0, .int .i64 8]) ?_ rfl F2.out
    simp [results, Tryz.results14, go_sem]
theorem rfunframe_any {w : World} {a : Option Addr} {n cap : Nat} {l : List UInt8} (h : Holds w (.slice a n cap) (u8s l)) (hm : l.length ≤ 1000000) :
    Calls Tryz.prog 14 #[.slice a n cap] w (UnfP w l) := by
  by_cases hs : l.length < 4 ∨ 262144 < numB (l.take 4) ∨ l.length < numB (l.take 4) + 8
  · exact rfunf_short h hm hs
  · exact rfunf_sum h hm (by omega) (by omega) (by omega)
end Go.Proofs.YtehfoaicohnpfaaGreatDoor
/- Contract of the document's Scan: it tells what the program's tells. Conditions: at most 1000000 bytes. -/
set_option maxRecDepth 100000
namespace Go.Proofs.YtehfoaicohnpfaaGreatDoor
open Go.RowKit Go.Maps Go.Sort Go.Lib

/-- records of the call's own -/
structure RecsOkD (B : Nat) (qs : List RQ) (v : Value) (w : World) : Prop where
  row : w.ownsRow B 44 9 v qs.length (fl9 qs)
  all : ∀ q ∈ qs, ROk B q w
theorem RecOk.frameD {B : Nat} {x : RV} {a b c d : Value} {w w' : World} (h : RecOk B x a b c d w) (hk : ∀ (k : Nat) (cs : Array Value) (t : TypeId), w.heap[k]? = some (.cells cs t (0, 0)) → t ≠ 44 → w'.heap[k]? = w.heap[k]?) : RecOk B x a b c d w' := by
  have hr : ∀ {e : TypeId} {k : Nat} {v : Value} {n : Nat} {xs : List Value}, e ≠ 44 → w.ownsRow B e k v n xs → w'.ownsRow B e k v n xs := fun he ho => ownsRow_of_block ho fun g hg => by
    obtain ⟨cur, hc⟩ := row_typ ho g hg
    exact hk g cur _ hc he
  obtain ⟨vs, hv, hw⟩ := h.ws
  exact ⟨hr (by decide) h.tc, hr (by decide) h.rd, hr (by decide) h.rm, vs, hr (by decide) hv, hw.of_block fun g cur hg _ => hk g cur _ hg (by decide)⟩
theorem RecsOkD.next {B : Nat} {qs : List RQ} {v : Value} {w w' : World} (h : RecsOkD B qs v w) (hb : Below w.heap.size w w') : RecsOkD B qs v w' :=
  ⟨ownsRow_below h.row hb, fun q hq => RecOk.next (h.all q hq) hb⟩
theorem info_recD : (Tryz.prog.info? 44).map (fun i => (i.zero, i.size, i.bytes)) = some (some (.agg #[.int .i64 0, .string ⟨#[]⟩, .slice none 0 0, .string ⟨#[]⟩, .string ⟨#[]⟩, .slice none 0 0, .slice none 0 0, .string ⟨#[]⟩, .slice none 0 0]), 9, 168) := by kernel_rfl
/-- a record more -/
theorem RecsOkD.push {B : Nat} {qs : List RQ} {v : Value} {w : World} (h : RecsOkD B qs v w) (hB : B ≤ w.heap.size) {x : RV} {a1 b1 c1 d1 : Option Addr} {an ac bn bc cn cc dn dc : Nat} (hx : RecOk B x (.slice a1 an ac) (.slice b1 bn bc) (.slice c1 cn cc) (.slice d1 dn dc) w) (hl : qs.length ≤ 1000000) :
    ∃ v' X, (∀ ty, (Builtin.append_ #[28, 28] ty #[v, .slice (some ⟨w.heap.size, 0, none⟩) 1 1]).run Tryz.prog (w.alloc (.cells #[.int .i64 x.k, .string x.tn, .slice a1 an ac, .string x.rn, .string x.rt, .slice b1 bn bc, .slice c1 cn cc, .string x.nm, .slice d1 dn dc] 44)) = .ok v' X) ∧ w.heap.size ≤ X.heap.size ∧ Below B w X ∧ RecsOkD B (qs ++ [(x, .slice a1 an ac, .slice b1 bn bc, .slice c1 cn cc, .slice d1 dn dc)]) v' X := by
  obtain ⟨v', X, hr, ho, hg, _⟩ := push_row (P := Tryz.prog) (t := 28) Tryz.underlying28 info_recD rfl (by omega) h.row hB [.int .i64 x.k, .string x.tn, .slice a1 an ac, .string x.rn, .string x.rt, .slice b1 bn bc, .slice c1 cn cc, .string x.nm, .slice d1 dn dc] rfl (fun u hu => by simp at hu; rcases hu with rfl | rfl | rfl | rfl | rfl | rfl | rfl | rfl | rfl <;> rfl) (by omega) (by omega)
  have keep : ∀ (k : Nat) (cs : Array Value) (t : TypeId), w.heap[k]? = some (.cells cs t (0, 0)) → t ≠ 44 → X.heap[k]? = w.heap[k]? := fun k cs t hk ht => hg.block k (lt_of_heap hk) (fun e => row_ne h.row hk ht k e.symm rfl)
  refine ⟨v', X, hr, hg.size, below_grown hg hB (ownsRow_ge h.row), ⟨?_, fun q hq => ?_⟩⟩
  · rw [List.length_append, fl9_snoc]
    exact ho
  · rcases List.mem_append.1 hq with hq | hq
    · exact RecOk.frameD (h.all q hq) keep
    · rw [List.mem_singleton] at hq
      subst hq
      exact RecOk.frameD hx keep
/-- what the document's Scan answers -/
def ScanPD (w : World) (l : List UInt8) (id : Nat) (e : Ending) (w' : World) : Prop := Below w.heap.size w w' ∧
  (((headL id).isPrefixOf l = true ∧ ∃ qs v, qs.map (·.1) = (scanL (l.drop (headL id).length)).1 ∧ e = .returned (.tuple #[v, .int .i64 (((headL id).length + (scanL (l.drop (headL id).length)).2 : Nat) : Int), .bool true]) ∧ RecsOkD w.heap.size qs v w') ∨
    ((headL id).isPrefixOf l = false ∧ e = .returned (.tuple #[.slice none 0 0, .int .i64 0, .bool false])))
theorem pre_take {H l : List UInt8} : H.isPrefixOf l = decide (l.take H.length = H) := by
  rw [Bool.eq_iff_iff, List.isPrefixOf_iff_prefix, List.prefix_iff_eq_take, decide_eq_true_iff]
  exact ⟨fun e => e.symm, fun e => e.symm⟩
theorem pre_short {H l : List UInt8} (h : l.length < H.length) : H.isPrefixOf l = false := by
  rw [Bool.eq_false_iff]
  intro e
  have := (List.isPrefixOf_iff_prefix.1 e).length_le
  omega
theorem first_none1 {l : List UInt8} (h : unfL l = none) : firstR l = none := by unfold firstR; rw [h]; rfl
theorem first_none2 {l c : List UInt8} (h : unfL l = some c) (h2 : loadR c = none) : firstR l = none := by unfold firstR; rw [h]; show (loadR c).bind _ = none; rw [h2]; rfl
theorem first_some {l c : List UInt8} {x : RV} (h : unfL l = some c) (h2 : loadR c = some x) : firstR l = some (x, c.length + 8) := by unfold firstR; rw [h]; show (loadR c).bind _ = _; rw [h2]; rfl
set_option maxHeartbeats 6400000 in
theorem rfscan_any {w : World} {p0 : Option Addr} {n k0 : Nat} {l : List UInt8} (h : Holds w (.slice p0 n k0) (u8s l)) (hl : l.length ≤ 1000000) (id : Nat) (hid : id < 18446744073709551616) :
    Calls Tryz.prog 6 #[.slice p0 n k0, .int .u64 (id : Int)] w (ScanPD w l id) := by
  have KB := rfbegin_any (w := w) id hid
  have hn := h.len
  rw [u8s_len] at hn
  obtain ⟨rfl, hk0⟩ := hn
  have HH := Lib.hid (fun (W : World) (hb : Below w.heap.size w W) => h.below hb)
  obtain ⟨H, hH⟩ : ∃ H, headL id = H := ⟨_, rfl⟩
  have hhl := head_len hid
  rw [hH] at KB hhl
  obtain ⟨P, hP⟩ : ∃ P, ScanPD w l id = P := ⟨_, rfl⟩
  have hPe := hP
  unfold ScanPD at hPe
  rw [hH] at hPe
  rw [hP]
  have FNO := Lib.hid (fun (w' : World) (hb : Below w.heap.size w w') (hpre : H.isPrefixOf l = false) => (by rw [← hPe]; exact ⟨hb, .inr ⟨hpre, rfl⟩⟩ : P (.returned (.tuple #[.slice none 0 0, .int .i64 0, .bool false])) w'))
  by_cases hsh : l.length < H.length
  · have hpre := pre_short hsh
    have t0 : decide ((l.length : Int) < (H.length : Int)) = true := decide_eq_true (by omega)
    have FN1 := Lib.hid (fun (w' : World) (hb : Below w.heap.size w w') => FNO.out w' hb hpre)
    clear hpre FNO
    generalize l.length = m at *
    obtain ⟨hn, hhn⟩ : ∃ hn, hn = H.length := ⟨_, rfl⟩
    have h0 : m < hn := by omega
    rw [← hhn] at t0
    have t0n : decide (m < hn) = true := decide_eq_true h0
    clear hP hPe hhl hl h hH hid hsh HH hk0
    go_enter Tryz.func6, Tryz.ntmps6
    go_wp2_with fail
    refine KB.mono ?_
    rintro e w1 ⟨v1, rfl, ho, hb⟩
    obtain ⟨va, vc, hv, _⟩ := ownsRow_form ho
    rw [← hhn] at hv
    subst hv
    have FI := FN1.out _ (below_drewR hb)
    clear ho hb KB FN1 hhn
    go_wp2_with fail
    refine wp_region_mix (fun _ => True) 15 [(true, 0), (true, 2), (true, 1), (true, 3), (true, 4), (true, 5), (true, 6), (true, 7), (true, 8), (true, 9), (true, 10), (true, 11), (true, 12), (true, 13), (true, 14)] (by kernel_rfl) (by decide +kernel) rfl (by decide +kernel) trivial ?_
    iterate 6
      refine wpMix_take (v := ?_) rfl rfl ?_ ?_
      rotate_left
      · (intro W hW; (try dsimp only at hW); go_simp) <;> with_reducible rfl
      simp only [Act.put, List.setIfInBounds_toArray, List.set_cons_zero, List.set_cons_succ]
    iterate 8
      refine wpMix_skip rfl rfl ?_
      simp only [Act.put, List.setIfInBounds_toArray, List.set_cons_zero, List.set_cons_succ]
    iterate 1
      refine wpMix_take (v := ?_) rfl rfl ?_ ?_
      rotate_left
      · (intro W hW; (try dsimp only at hW); go_simp) <;> with_reducible rfl
      simp only [Act.put, List.setIfInBounds_toArray, List.set_cons_zero, List.set_cons_succ]
    refine wpMix_nil ?_
    go_wp2_with fail
    refine bodyPost_ret (v := .tuple #[.slice none 0 0, .int .i64 0, .bool false]) ?_ rfl FI
    simp [results, Tryz.results6, go_sem]
  have hle : H.length ≤ l.length := by omega
  have hpt := pre_take (H := H) (l := l)
  obtain ⟨ad, rfl⟩ := h.ptr (by omega)
  have HLD := Lib.hid (fun (W : World) (hb : Below w.heap.size w W) => toStr (hold_take (h.below hb) H.length hle))
  obtain ⟨SA, hSA⟩ : ∃ SA, (⟨(l.take H.length).toArray⟩ : ByteArray) = SA := ⟨_, rfl⟩
  obtain ⟨SB, hSB⟩ : ∃ SB, (⟨H.toArray⟩ : ByteArray) = SB := ⟨_, rfl⟩
  have hse := str_eq (l.take H.length) H
  rw [← hpt] at hse
  rw [hSA] at HLD hse
  rw [hSB] at hse
  obtain ⟨bq, hbq⟩ : ∃ bq, H.isPrefixOf l = bq := ⟨_, rfl⟩
  rw [hbq] at hse
  have HBQ := Lib.hid hbq
  have FIN := Lib.hid (fun (w' : World) (qs : List RQ) (v : Value) (TN : Nat) (hb : Below w.heap.size w w') (hq : bq = true) (hTN : H.length + (scanL (l.drop H.length)).2 = TN) (h1 : qs.map (·.1) = (scanL (l.drop H.length)).1) (h2 : RecsOkD w.heap.size qs v w') => (by rw [← hPe]; exact ⟨hb, .inl ⟨hbq.trans hq, qs, v, h1, by rw [hTN], h2⟩⟩ : P (.returned (.tuple #[v, .int .i64 (TN : Int), .bool true])) w'))
  have HSB := Lib.hid hSB
  obtain ⟨TR, hTR⟩ : ∃ TR, (scanL (l.drop H.length)).1 = TR := ⟨_, rfl⟩
  obtain ⟨TN, hTN⟩ : ∃ TN, H.length + (scanL (l.drop H.length)).2 = TN := ⟨_, rfl⟩
  have HR0 : Hid (ScanRel l TR TN [] H.length) := Lib.hid ⟨by simpa using hTR, hTN, by simp⟩
  have HTN := Lib.hid hTN
  rw [hTR] at FIN
  have HP := Lib.hid hle
  have HL := Lib.hid hl
  obtain ⟨m, hm⟩ : ∃ m, m = l.length := ⟨_, rfl⟩
  rw [← hm] at HH hk0 HP HL ⊢
  have HM := Lib.hid hm
  have p2 : (m : Int) ≤ (k0 : Int) := Int.ofNat_le.2 hk0
  obtain ⟨hn, hhn⟩ : ∃ hn, hn = H.length := ⟨_, rfl⟩
  have HHN := Lib.hid hhn
  rw [← hhn] at HP HLD HR0
  have t0 : decide ((m : Int) < (hn : Int)) = false := decide_eq_false (by omega)
  have t0' : hn ≤ m := by omega
  have t0n : decide (m < hn) = false := decide_eq_false (by omega)
  have t1 : (hn : Int) ≤ (k0 : Int) := by omega
  have t2 : (hn : Int) ≤ (m : Int) := by omega
  clear hP hPe hhl hl h hH hid hle hTR hTN hm hk0 hpt hbq hsh hSA hSB
  go_enter Tryz.func6, Tryz.ntmps6
  go_wp2_with fail
  refine KB.mono ?_
  rintro e w1 ⟨v1, rfl, ho, hb⟩
  have HOS := Lib.hid (fun (W : World) (hbW : Below w1.heap.size w1 W) => (by have := toStr (Holds.of_row (by rw [u8s_len]; exact ownsRow_below ho hbW) : Holds W v1 (u8s H)); rwa [HSB.out] at this : (convert 22 9 v1).run Tryz.prog W = .ok (.string SB) W))
  obtain ⟨va, vc, hv, _⟩ := ownsRow_form ho
  rw [← hhn] at hv
  subst hv
  have HB1 := Lib.hid hb
  have hbd := below_drewR (Below.refl w1.heap.size w1)
  have HB1d := Lib.hid (hb.trans (hbd.mono hb.size))
  have S1 : (convert 22 9 (.slice (some ad) hn k0)).run Tryz.prog w1.drew = .ok (.string SA) w1.drew ∧ (convert 22 9 (.slice va hn vc)).run Tryz.prog w1.drew = .ok (.string SB) w1.drew := ⟨HLD.out _ HB1d.out, HOS.out _ hbd⟩
  clear ho hb KB hhn HLD HOS hbd HSB
  go_wp2_with fail
  refine wp_region_mix (fun W => (convert 22 9 (.slice (some ad) hn k0)).run Tryz.prog W = .ok (.string SA) W ∧ (convert 22 9 (.slice va hn vc)).run Tryz.prog W = .ok (.string SB) W) 15 [(true, 0), (true, 2), (true, 1), (true, 3), (true, 4), (true, 5), (true, 6), (true, 7), (true, 11), (true, 8), (true, 9), (true, 10), (true, 12), (true, 13), (true, 14)] (by kernel_rfl) (by decide +kernel) rfl (by decide +kernel) S1 ?_
  iterate 15
    refine wpMix_take (v := ?_) rfl rfl ?_ ?_
    rotate_left
    · (intro W hW; (try dsimp only at hW); go_simp) <;> with_reducible rfl
    simp only [Act.put, List.setIfInBounds_toArray, List.set_cons_zero, List.set_cons_succ]
  refine wpMix_nil ?_
  cases bq
  · have FI := FNO.out _ HB1d.out HBQ.out
    clear FIN FNO HR0 HP HB1d
    go_wp2_with fail
    refine bodyPost_ret (v := .tuple #[.slice none 0 0, .int .i64 0, .bool false]) ?_ rfl FI
    simp [results, Tryz.results6, go_sem]
  clear FNO S1 hse
  go_wp2_with fail
  go_loopw [8, 9] (fun s8 s9 wr => ∃ (qs : List RQ) (lv : Value) (dn : Nat), lv = s9 ∧ s8 = .int .i64 dn ∧ dn ≤ m ∧ Hid (RecsOkD w.heap.size qs lv wr ∧ Below w.heap.size w wr) ∧ Hid (ScanRel l TR TN qs dn)) (fun k _ _ => m - (RowKit.intOf k).toNat)
  case atStart => exact ⟨[], _, hn, rfl, rfl, HP.out, Lib.hid ⟨⟨World.ownsRow_nil _ _ _ _, fun q hq => by cases hq⟩, HB1d.out⟩, HR0⟩
  case round =>
    clear HR0 HB1 HB1d
    obtain ⟨qs, lv, dn, rfl, rfl, hdm, HS, HR⟩ := hrel
    have b0 : (0 : Int) ≤ (dn : Int) := Int.natCast_nonneg dn
    have b1 : (dn : Int) ≤ (m : Int) := Int.ofNat_le.2 hdm
    obtain ⟨A, if1, if1', hH1⟩ := cut_ahead (HH.out wr HS.out.2) hdm
    have KF := rfunframe_any hH1 (by rw [List.length_drop]; have := HL.out; have := HM.out; omega)
    have HDM := Lib.hid hdm
    clear hH1 hdm
    go_wp2_with fail
    refine KF.mono ?_
    rintro e w3 ⟨hB3, ⟨cb, cv, hu, rfl, hro⟩ | ⟨z, hu, hz, rfl⟩⟩
    rotate_left
    · obtain ⟨e1, e2, _⟩ := HR.out
      rw [scan_stop (first_none1 hu)] at e1 e2
      rw [List.append_nil] at e1
      have e2 : dn = TN := e2
      subst e2
      have FI := FIN.out _ qs lv dn (HS.out.2.trans (hB3.mono HS.out.2.size)) trivial HTN.out e1 (HS.out.1.next hB3)
      have t0 := int_ne0 hz
      clear HS HR FIN hu hz hB3 KF e1
      go_wp2_with fail
      go_ret3
      exact FI
    obtain ⟨ca, cc0, hcv, _⟩ := ownsRow_form hro
    subst hcv
    have hul := unf_len hu
    have KD := refrload_any (Holds.of_row (by rw [u8s_len]; exact hro) : Holds w3 (.slice ca cb.length cc0) (u8s cb)) (by omega)
    have HU := Lib.hid hu
    have HUL := Lib.hid hul
    obtain ⟨cn, hcn⟩ : ∃ cn, cb.length = cn := ⟨_, rfl⟩
    have HCN := Lib.hid hcn
    rw [hcn] at KD ⊢
    have HB3 := Lib.hid (HS.out.2.trans (hB3.mono HS.out.2.size))
    have HS3 := Lib.hid (HS.out.1.next hB3)
    clear hu hul hcn hro KF HS hB3
    go_wp2_with fail
    refine KD.mono ?_
    rintro e w4 ⟨hB4, ⟨x, a, b, c, d, hf, rfl, hro⟩ | ⟨hf, rfl⟩⟩
    rotate_left
    · rw [loadF_eq (by have := HUL.out; omega), qLoad_eq (by have := HUL.out; omega)] at hf
      obtain ⟨e1, e2, _⟩ := HR.out
      rw [scan_stop (first_none2 HU.out hf)] at e1 e2
      rw [List.append_nil] at e1
      have e2 : dn = TN := e2
      subst e2
      have FI := FIN.out _ qs lv dn (below_boxR w (.cells #[.int .i64 0, .string ⟨#[]⟩, .slice none 0 0, .string ⟨#[]⟩, .string ⟨#[]⟩, .slice none 0 0, .slice none 0 0, .string ⟨#[]⟩, .slice none 0 0] 44) (HB3.out.trans (hB4.mono HB3.out.size))) trivial HTN.out e1 ((HS3.out.next hB4).next (below_o _ _))
      clear HS3 HR FIN hf hB4 KD e1
      go_wp2_with fail
      go_ret3
      exact FI
    rw [loadF_eq (by have := HUL.out; omega), qLoad_eq (by have := HUL.out; omega)] at hf
    have hfs := first_some HU.out hf
    obtain ⟨a1, ac, b1', bc, c1, cc, d1, dc, rfl, rfl, rfl, rfl⟩ := hro.holds.form
    have hfl := firstR_len hfs
    rw [List.length_drop, ← HM.out] at hfl
    obtain ⟨n, hnn⟩ : ∃ n, cb.length + 8 = n := ⟨_, rfl⟩
    rw [hnn] at hfs hfl
    have hn8 : (cn : Int) + 8 = (n : Int) := by have := HCN.out; omega
    obtain ⟨an, bn, cn', dnn, ea, eb, ec, ed⟩ : ∃ an bn cn dn, x.tc.length = an ∧ x.rd.length = bn ∧ x.rm.length = cn ∧ x.ws.length = dn := ⟨_, _, _, _, rfl, rfl, rfl, rfl⟩
    unfold recV
    rw [ea, eb, ec, ed] at hro ⊢
    have hBw := HB3.out.trans (hB4.mono HB3.out.size)
    have hb4 := below_o w4 (.cells #[.int .i64 x.k, .string x.tn, .slice a1 an ac, .string x.rn, .string x.rt, .slice b1' bn bc, .slice c1 cn' cc, .string x.nm, .slice d1 dnn dc] 44)
    have S4 := (HS3.out.next hB4).next hb4
    have hro4 := ((hro.rebase HB3.out.size).next hb4)
    obtain ⟨v', X, hr, _, hbX, SX⟩ := S4.push (Nat.le_trans hBw.size hb4.size) hro4 (by have := HR.out.len; have := HDM.out; have := HL.out; omega)
    have hz : (w4.alloc (.cells #[.int .i64 x.k, .string x.tn, .slice a1 an ac, .string x.rn, .string x.rt, .slice b1' bn bc, .slice c1 cn' cc, .string x.nm, .slice d1 dnn dc] 44)).heap.size = w4.heap.size + 1 := by simp
    rw [hz] at hr
    obtain ⟨e1, e2, e3⟩ := HR.out
    have es := scan_step hfs
    rw [List.drop_drop] at es
    rw [es] at e1 e2
    have HR2 : Hid (ScanRel l TR TN (qs ++ [(x, .slice a1 an ac, .slice b1' bn bc, .slice c1 cn' cc, .slice d1 dnn dc)]) (dn + n)) := Lib.hid ⟨by rw [← e1]; simp, by rw [← e2]; simp only; omega, by rw [List.length_append]; simp; omega⟩
    have HS2 : Hid (RecsOkD w.heap.size (qs ++ [(x, .slice a1 an ac, .slice b1' bn bc, .slice c1 cn' cc, .slice d1 dnn dc)]) v' X ∧ Below w.heap.size w X) := Lib.hid ⟨SX, (hBw.trans (hb4.mono hBw.size)).trans hbX⟩
    have hws := sum_wrap (a := dn) (b := n) (n := m) (by omega) (Nat.le_trans HL.out (by decide))
    have hdn : dn + n ≤ m := by have := HDM.out; omega
    have hmz : m - (dn + n) < m - dn := by omega
    have R1 := Lib.hid hr
    have HMZ := Lib.hid hmz
    clear HS3 HR hf hro hfl ea eb ec ed hBw hb4 S4 hro4 hr hbX SX hz e1 e2 e3 es hB4 KD FIN hmz hfs hnn HU HUL HCN HB3
    go_wp2_with (at_builtin; refine wpList_append_run rfl _ _ 28 rfl rfl rfl (R1.out _) ?_)
    go_roundw
    case rel => exact ⟨_, v', dn + n, rfl, by go_num, hdn, HS2, HR2⟩
    case measure => have := HMZ.out; simp [RowKit.intOf]; omega
end Go.Proofs.YtehfoaicohnpfaaGreatDoor
/- The walk of RecordScans. Conditions: the table of Sum; slices as long as may be. -/
set_option maxRecDepth 100000
namespace Go.Proofs.YtehfoaicohnpfaaGreatDoor
open Go.ChangeShapes Go.WideShapes Go.RowKit Go.Maps Go.Sort Go.Lib

theorem rec_at_row {W : World} {B e : Nat} {a : Option Addr} {n c : Nat} {qs : List RQ} (h : W.ownsRow B e 9 (.slice a n c) qs.length (fl9 qs)) {i : Nat} {q : RQ} (hq : qs[i]? = some q) :
    ∃ ad : Addr, a = some ad ∧ ∀ j u, (rcells q)[j]? = some u → W.cell? (ad.add (i * 9 + j)) = some u := by
  rcases h.2 with ⟨e, hn⟩ | ⟨g, cap, cur, e, _⟩
  · have : qs = [] := List.eq_nil_of_length_eq_zero hn
    subst this
    simp at hq
  · cases e
    exact ⟨_, rfl, fun j u hu => h.cells (g := g) rfl _ _ (fl9_at qs i q hq j u hu)⟩
theorem scanF_good : ∀ (f : Nat) (l : List UInt8), ∀ x ∈ (scanF f l).1, goodR x = true ∧ x.inI ∧ (bytR x).length ≤ 262144
  | 0, l, x, hx => by simp [scanF] at hx
  | f + 1, l, x, hx => by
    unfold scanF at hx
    cases e : firstR l with
    | none => rw [e] at hx; simp at hx
    | some q =>
      rw [e] at hx
      rcases List.mem_cons.1 hx with rfl | hx
      · unfold firstR at e
        obtain ⟨c, h1, h2⟩ := bind_some' e
        obtain ⟨y, h3, h4⟩ := bind_some' h2
        simp only [Option.some.injEq] at h4
        obtain ⟨rfl⟩ := h4
        have hl := unf_len h1
        obtain ⟨hg, hi, hn, _⟩ := (loadR_iff (by omega)).1 h3
        exact ⟨hg, hi, hn⟩
      · exact scanF_good f _ x hx
theorem rec_cellsB {w : World} {ad : Addr} {i : Nat} {x : RV} {a b c d : Value} (h : ∀ j u, (rcells (x, a, b, c, d))[j]? = some u → w.cell? (ad.add (i * 9 + j)) = some u) :
    w.cell? (ad.add (i * 9)) = some (.int .i64 x.k) ∧ w.cell? ⟨(ad.add (i * 9)).block, (ad.add (i * 9)).off + 1, none⟩ = some (.string x.tn) ∧ w.cell? ⟨(ad.add (i * 9)).block, (ad.add (i * 9)).off + 2, none⟩ = some a ∧
    w.cell? ⟨(ad.add (i * 9)).block, (ad.add (i * 9)).off + 3, none⟩ = some (.string x.rn) ∧ w.cell? ⟨(ad.add (i * 9)).block, (ad.add (i * 9)).off + 4, none⟩ = some (.string x.rt) ∧ w.cell? ⟨(ad.add (i * 9)).block, (ad.add (i * 9)).off + 5, none⟩ = some b ∧
    w.cell? ⟨(ad.add (i * 9)).block, (ad.add (i * 9)).off + 6, none⟩ = some c ∧ w.cell? ⟨(ad.add (i * 9)).block, (ad.add (i * 9)).off + 7, none⟩ = some (.string x.nm) ∧ w.cell? ⟨(ad.add (i * 9)).block, (ad.add (i * 9)).off + 8, none⟩ = some d :=
  ⟨by simpa using h 0 _ rfl, cell_off (by omega) (h 1 _ rfl), cell_off (by omega) (h 2 _ rfl), cell_off (by omega) (h 3 _ rfl), cell_off (by omega) (h 4 _ rfl), cell_off (by omega) (h 5 _ rfl), cell_off (by omega) (h 6 _ rfl), cell_off (by omega) (h 7 _ rfl), cell_off (by omega) (h 8 _ rfl)⟩
def trS (l : List UInt8) (id : Nat) : List RV := if (headL id).isPrefixOf l = true then (scanL (l.drop (headL id).length)).1 else []
def tnS (l : List UInt8) (id : Nat) : Nat := if (headL id).isPrefixOf l = true then (headL id).length + (scanL (l.drop (headL id).length)).2 else 0
theorem trS_good {l : List UInt8} {id : Nat} : ∀ x ∈ trS l id, goodR x = true ∧ x.inI ∧ (bytR x).length ≤ 262144 := fun x hx => by
  unfold trS at hx
  split at hx
  · exact scanF_good _ _ x hx
  · cases hx
/-- what both sides' Scan leaves, in one form -/
def OneS (e9 : Nat) (w w' : World) (l : List UInt8) (id : Nat) (qs : List RQ) (a : Option Addr) (n c : Nat) : Prop :=
  w'.ownsRow w.heap.size e9 9 (.slice a n c) qs.length (fl9 qs) ∧ (∀ q ∈ qs, ROk w.heap.size q w') ∧ qs.map (·.1) = trS l id ∧ n = (trS l id).length ∧ Below w.heap.size w w'
theorem scan_one {w w' : World} {l : List UInt8} {id : Nat} {e : Ending} (h : ScanP w l id e w') :
    ∃ qs a n c, e = .returned (.tuple #[.slice a n c, .int .i64 (tnS l id : Int), .bool ((headL id).isPrefixOf l)]) ∧ OneS 43 w w' l id qs a n c := by
  obtain ⟨hb, ⟨hp, qs, v, h1, rfl, h2⟩ | ⟨hp, rfl⟩⟩ := h
  · obtain ⟨a, c, rfl, _⟩ := ownsRow_form h2.row
    refine ⟨qs, a, qs.length, c, by unfold tnS; rw [if_pos hp, hp], h2.row, h2.all, by unfold trS; rw [if_pos hp]; exact h1, ?_, hb⟩
    unfold trS
    rw [if_pos hp, ← h1, List.length_map]
  · exact ⟨[], none, 0, 0, by unfold tnS; rw [if_neg (by rw [hp]; simp), hp]; rfl, World.ownsRow_nil _ _ _ _, (fun q hq => (by cases hq)), by unfold trS; rw [if_neg (by rw [hp]; simp)]; rfl, by unfold trS; rw [if_neg (by rw [hp]; simp)]; rfl, hb⟩
theorem scan_oneD {w w' : World} {l : List UInt8} {id : Nat} {e : Ending} (h : ScanPD w l id e w') :
    ∃ qs a n c, e = .returned (.tuple #[.slice a n c, .int .i64 (tnS l id : Int), .bool ((headL id).isPrefixOf l)]) ∧ OneS 44 w w' l id qs a n c := by
  obtain ⟨hb, ⟨hp, qs, v, h1, rfl, h2⟩ | ⟨hp, rfl⟩⟩ := h
  · obtain ⟨a, c, rfl, _⟩ := ownsRow_form h2.row
    refine ⟨qs, a, qs.length, c, by unfold tnS; rw [if_pos hp, hp], h2.row, h2.all, by unfold trS; rw [if_pos hp]; exact h1, ?_, hb⟩
    unfold trS
    rw [if_pos hp, ← h1, List.length_map]
  · exact ⟨[], none, 0, 0, by unfold tnS; rw [if_neg (by rw [hp]; simp), hp]; rfl, World.ownsRow_nil _ _ _ _, (fun q hq => (by cases hq)), by unfold trS; rw [if_neg (by rw [hp]; simp)]; rfl, by unfold trS; rw [if_neg (by rw [hp]; simp)]; rfl, hb⟩
theorem OneS.next {e9 : Nat} {w w' W : World} {l : List UInt8} {id : Nat} {qs : List RQ} {a : Option Addr} {n c : Nat} (h : OneS e9 w w' l id qs a n c) (hb : Below w'.heap.size w' W) : OneS e9 w W l id qs a n c :=
  ⟨ownsRow_below h.1 hb, fun q hq => RecOk.next (h.2.1 q hq) hb, h.2.2.1, h.2.2.2.1, h.2.2.2.2.trans (hb.mono h.2.2.2.2.size)⟩
theorem OneS.at_ {e9 : Nat} {w W : World} {l : List UInt8} {id : Nat} {qs : List RQ} {a : Option Addr} {n c q : Nat} (h : OneS e9 w W l id qs a n c) (hq : q < n) :
    ∃ x p, (trS l id)[q]? = some x ∧ p.1 = x ∧ ROk w.heap.size p W ∧ ∃ ad : Addr, a = some ad ∧ ∀ j u, (rcells p)[j]? = some u → W.cell? (ad.add (q * 9 + j)) = some u := by
  have hlen : qs.length = n := by rw [h.2.2.2.1, ← h.2.2.1, List.length_map]
  obtain ⟨p, hp⟩ : ∃ p, qs[q]? = some p := ⟨_, List.getElem?_eq_getElem (by omega)⟩
  refine ⟨p.1, p, ?_, rfl, h.2.1 p (List.mem_of_getElem? hp), rec_at_row h.1 hp⟩
  rw [← h.2.2.1, List.getElem?_map, hp]
  rfl
set_option maxHeartbeats 12800000 in
theorem scans13 {w : World} (hqd : Quads w) {p0 : Option Addr} {n0 k0 : Nat} {l : List UInt8} (hl : Holds w (.slice p0 n0 k0) (u8s l)) (id : Nat) (hid : id < 18446744073709551616) :
    Calls Tryz.prog 3 #[.slice p0 n0 k0, .int .u64 (id : Int)] w fun e w' => e = .returned (.bool true) ∧ Below w.heap.size w w' := by
  have hnl := hl.len.1
  rw [u8s_len] at hnl
  have HQ := Lib.hid (fun (W : World) (hb : Below w.heap.size w W) => hqd.below hb hqd.1)
  have KL := Lib.hid (fun (V : World) (hb : Below w.heap.size w V) => rlives_any (hqd.below hb hqd.1))
  by_cases hbig : 20000 < n0
  · have t0 : decide ((20000 : Int) < (n0 : Int)) = true := decide_eq_true (by omega)
    have KL1 := KL.out _ (Below.refl _ _)
    clear hbig hl hnl HQ KL hqd hid
    go_enter Tryz.func3, Tryz.ntmps3
    go_wp2_with fail
    refine KL1.mono ?_
    rintro e w9 ⟨rfl, hb9⟩
    go_wp2_with fail
    go_ret
    exact ⟨rfl, hb9⟩
  have t0 : decide ((20000 : Int) < (n0 : Int)) = false := decide_eq_false (by omega)
  have hll : l.length ≤ 1000000 := by omega
  have HLL := Lib.hid (show n0 ≤ 20000 by omega)
  have KS := scan_any hqd hl hll id hid
  have KD := Lib.hid (fun (W : World) (hb : Below w.heap.size w W) => rfscan_any (hl.below hb) hll id hid)
  have KBe := Lib.hid (fun (W : World) (hb : Below w.heap.size w W) => begin_any (hqd.below hb hqd.1) id hid)
  have KBf := Lib.hid (fun (W : World) => rfbegin_any (w := W) id hid)
  obtain ⟨HD, hHD⟩ : ∃ H, headL id = H := ⟨_, rfl⟩
  rw [hHD] at KBe KBf
  clear hbig hl hnl hqd hid hll hHD
  go_enter Tryz.func3, Tryz.ntmps3
  go_wp2_with fail
  refine KS.mono ?_
  intro e w1 he
  obtain ⟨qs, a1, n1, c1, rfl, h1⟩ := scan_one he
  have hb1 := h1.2.2.2.2
  have H1 := Lib.hid h1
  have KD1 := KD.out w1 hb1
  have HB1 := Lib.hid hb1
  have HN1 := Lib.hid h1.2.2.2.1
  obtain ⟨TN, hTN⟩ : ∃ TN, tnS l id = TN := ⟨_, rfl⟩
  obtain ⟨bq, hbq⟩ : ∃ bq, (headL id).isPrefixOf l = bq := ⟨_, rfl⟩
  rw [hTN, hbq]
  have HTN := Lib.hid hTN
  have HBQ := Lib.hid hbq
  clear hTN hbq he h1 hb1 KS KD
  go_wp2_with fail
  refine KD1.mono ?_
  intro e w2 he
  obtain ⟨ps, a2, n2, c2, rfl, h2⟩ := scan_oneD he
  rw [HTN.out, HBQ.out]
  have hn2 : n2 = n1 := h2.2.2.2.1.trans HN1.out.symm
  subst hn2
  have H2 := Lib.hid h2
  have hb2 := h2.2.2.2.2
  have HB2 := Lib.hid (HB1.out.trans (hb2.mono HB1.out.size))
  have H12 := Lib.hid (H1.out.next hb2)
  have HNB : Hid (n2 ≤ 9223372036854775807) := Lib.hid (by rw [h2.2.2.2.1, ← h2.2.2.1, List.length_map]; obtain ⟨_, _, _, h3, h4⟩ := ownsRow_form h2.1; unfold maxLen at h4; omega)
  have KB1 := KBe.out _ HB2.out
  clear he h2 hb2 KD1 H1
  cases bq
  · go_wp2_with fail
    refine KB1.mono ?_
    rintro e w3 ⟨v3, rfl, ho3, hb3⟩
    have HO3 := Lib.hid (Holds.of_row (by rw [u8s_len]; exact ho3) : Holds w3 v3 (u8s HD))
    have HB3 := Lib.hid hb3
    clear ho3 hb3 KB1
    go_wp2_with fail
    refine (KBf.out _).mono ?_
    rintro e w4 ⟨v4, rfl, ho4, hb4⟩
    have KSa := Same_any (HO3.out.below hb4) (Holds.of_row (by rw [u8s_len]; exact ho4) : Holds w4 v4 (u8s HD))
    rw [decide_eq_true rfl] at KSa
    have HB4 := Lib.hid (HB3.out.trans (hb4.mono HB3.out.size))
    clear ho4 hb4 KBf HO3
    go_wp2_with fail
    refine KSa.mono ?_
    rintro e w5 ⟨rfl, rfl⟩
    clear KSa
    have HHP := Lib.hid (fun (V : World) (hV : Below w4.heap.size w4 V) => And.intro (H12.out.next (HB4.out.trans (hV.mono HB4.out.size))) (H2.out.next (HB4.out.trans (hV.mono HB4.out.size))))
    have HBW := Lib.hid (HB2.out.trans (HB4.out.mono HB2.out.size))
    clear HB3 H12 H2 KBe
    go_wp2_with fail
    go_loopw [55] (fun s' W => ∃ q : Nat, s' = .int .i64 q ∧ q ≤ n2 ∧ Hid (Below w4.heap.size w4 W)) (fun s' _ => n2 - (RowKit.intOf s').toNat)
    case atStart => exact ⟨0, rfl, by omega, Lib.hid (Below.refl _ _)⟩
    case round =>
      obtain ⟨q, rfl, hqj, hbq⟩ := hrel
      by_cases hlq : q < n2
      · obtain ⟨hPW, hSW⟩ := HHP.out wr hbq.out
        obtain ⟨x, ⟨x1, va1, va2, va3, va4⟩, hx1, hx2, hR1, ad1, rfl, hc1⟩ := hPW.at_ hlq
        obtain ⟨y, ⟨y1, vb1, vb2, vb3, vb4⟩, hy1, hy2, hR2, ad2, rfl, hc2⟩ := hSW.at_ hlq
        simp only at hx2 hy2
        subst hx2 hy2
        rw [hx1] at hy1
        obtain rfl := Option.some.inj hy1
        obtain ⟨hg, hi, hn⟩ := trS_good _ (List.mem_of_getElem? hx1)
        have hlens := hR1.lens
        have hR1 := hR1.holds
        have hR2 := hR2.holds
        simp only at hR1 hR2 hlens
        obtain ⟨p1, pc1, q1, qc1, r1, rc1, s1, sc1, rfl, rfl, rfl, rfl⟩ := hR1.form
        obtain ⟨p2, pc2, q2, qc2, r2, rc2, s2, sc2, rfl, rfl, rfl, rfl⟩ := hR2.form
        have KSm := fun (V : World) (hV : Below wr.heap.size wr V) => same_good (hR1.below hV) (hR2.below hV) hi hg hn hlens
        have SC1 := fun (V : World) (hV : Below wr.heap.size wr V) => And.intro (rec_cellsB fun j u hu => kept_below hV _ _ (hc1 j u hu)) (rec_cellsB fun j u hu => kept_below hV _ _ (hc2 j u hu))
        obtain ⟨x, hxx⟩ : ∃ x, x = x1 := ⟨_, rfl⟩
        rw [← hxx] at KSm SC1
        unfold recV at KSm
        obtain ⟨an, bn, cn, dn, e1, e2, e3, e4⟩ : ∃ an bn cn dn, x.tc.length = an ∧ x.rd.length = bn ∧ x.rm.length = cn ∧ x.ws.length = dn := ⟨_, _, _, _, rfl, rfl, rfl, rfl⟩
        rw [e1, e2, e3, e4] at KSm SC1
        have KSM := Lib.hid KSm
        have SC := Lib.hid SC1
        have l1 : (q : Int) < (n2 : Int) := Int.ofNat_lt.2 hlq
        have l0 : (0 : Int) ≤ (q : Int) := Int.natCast_nonneg q
        have hwq : IntKind.i64.wrap ((q : Int) + 1) = (q : Int) + 1 := wrap_next hlq HNB.out
        have HLQ := Lib.hid hlq
        clear hx1 hy1 hR1 hR2 hc1 hc2 KSm SC1 e1 e2 e3 e4 hlq hPW hSW hqj hg hi hn hlens hxx
        go_wp2_with fail
        have hbr : Below wr.heap.size wr (wr.drewN 1) := below_dN (Below.refl _ _) 1
        refine wp_region_mix (fun W => (W.cell? (ad1.add (q * 9)) = some (.int .i64 x.k) ∧ W.cell? ⟨(ad1.add (q * 9)).block, (ad1.add (q * 9)).off + 1, none⟩ = some (.string x.tn) ∧ W.cell? ⟨(ad1.add (q * 9)).block, (ad1.add (q * 9)).off + 2, none⟩ = some (.slice p1 an pc1) ∧ W.cell? ⟨(ad1.add (q * 9)).block, (ad1.add (q * 9)).off + 3, none⟩ = some (.string x.rn) ∧ W.cell? ⟨(ad1.add (q * 9)).block, (ad1.add (q * 9)).off + 4, none⟩ = some (.string x.rt) ∧ W.cell? ⟨(ad1.add (q * 9)).block, (ad1.add (q * 9)).off + 5, none⟩ = some (.slice q1 bn qc1) ∧ W.cell? ⟨(ad1.add (q * 9)).block, (ad1.add (q * 9)).off + 6, none⟩ = some (.slice r1 cn rc1) ∧ W.cell? ⟨(ad1.add (q * 9)).block, (ad1.add (q * 9)).off + 7, none⟩ = some (.string x.nm) ∧ W.cell? ⟨(ad1.add (q * 9)).block, (ad1.add (q * 9)).off + 8, none⟩ = some (.slice s1 dn sc1)) ∧ (W.cell? (ad2.add (q * 9)) = some (.int .i64 x.k) ∧ W.cell? ⟨(ad2.add (q * 9)).block, (ad2.add (q * 9)).off + 1, none⟩ = some (.string x.tn) ∧ W.cell? ⟨(ad2.add (q * 9)).block, (ad2.add (q * 9)).off + 2, none⟩ = some (.slice p2 an pc2) ∧ W.cell? ⟨(ad2.add (q * 9)).block, (ad2.add (q * 9)).off + 3, none⟩ = some (.string x.rn) ∧ W.cell? ⟨(ad2.add (q * 9)).block, (ad2.add (q * 9)).off + 4, none⟩ = some (.string x.rt) ∧ W.cell? ⟨(ad2.add (q * 9)).block, (ad2.add (q * 9)).off + 5, none⟩ = some (.slice q2 bn qc2) ∧ W.cell? ⟨(ad2.add (q * 9)).block, (ad2.add (q * 9)).off + 6, none⟩ = some (.slice r2 cn rc2) ∧ W.cell? ⟨(ad2.add (q * 9)).block, (ad2.add (q * 9)).off + 7, none⟩ = some (.string x.nm) ∧ W.cell? ⟨(ad2.add (q * 9)).block, (ad2.add (q * 9)).off + 8, none⟩ = some (.slice s2 dn sc2))) 10 [(true, 0), (true, 1), (true, 4), (true, 5), (true, 2), (true, 6), (true, 3), (true, 7), (false, 8), (true, 9)] (by kernel_rfl) (by decide +kernel) rfl (by decide +kernel) (SC.out _ hbr) ?_
        iterate 8
          refine wpMix_take (v := ?_) rfl rfl ?_ ?_
          rotate_left
          · (intro W hW; (try dsimp only at hW); go_simp) <;> with_reducible rfl
          simp only [Act.put, List.setIfInBounds_toArray, List.set_cons_zero, List.set_cons_succ]
        refine wpMix_run rfl ?_
        intro K hK
        go_wp2_with fail
        refine (KSM.out _ hbr).mono ?_
        rintro e w7 ⟨rfl, hb7⟩
        have hb7w : Below wr.heap.size wr w7 := hbr.trans (hb7.mono hbr.size)
        clear hb7
        go_wp2_with fail
        refine hK.out _ _ (fun _ => SC.out _ hb7w) ?_
        clear hK K
        iterate 1
          refine wpMix_take (v := ?_) rfl rfl ?_ ?_
          rotate_left
          · (intro W hW; (try dsimp only at hW); go_simp) <;> with_reducible rfl
          simp only [Act.put, List.setIfInBounds_toArray, List.set_cons_zero, List.set_cons_succ]
        refine wpMix_nil ?_
        have HB7 := Lib.hid (hbq.out.trans (hb7w.mono hbq.out.size))
        clear SC KSM hb7w hbr hbq
        go_wp2_with fail
        go_roundw
        case rel => exact ⟨q + 1, by go_num, by have := HLQ.out; omega, HB7⟩
        case measure => have := HLQ.out; simp [RowKit.intOf]; omega
      · have KLq := rlives_any (HQ.out wr (HBW.out.trans (hbq.out.mono HBW.out.size)))
        have hlq' : ¬ ((q : Int) < (n2 : Int)) := by omega
        clear hlq hqj
        go_wp2_with fail
        refine KLq.mono ?_
        rintro e w6 ⟨rfl, hb6⟩
        go_wp2_with fail
        go_ret
        have hf := HBW.out.trans (hbq.out.mono HBW.out.size)
        exact ⟨rfl, hf.trans (hb6.mono hf.size)⟩
  · go_wp2_with fail
    refine KB1.mono ?_
    rintro e w3 ⟨v3, rfl, ho3, hb3⟩
    have HO3 := Lib.hid (Holds.of_row (by rw [u8s_len]; exact ho3) : Holds w3 v3 (u8s HD))
    have HB3 := Lib.hid hb3
    clear ho3 hb3 KB1
    go_wp2_with fail
    refine (KBf.out _).mono ?_
    rintro e w4 ⟨v4, rfl, ho4, hb4⟩
    have KSa := Same_any (HO3.out.below hb4) (Holds.of_row (by rw [u8s_len]; exact ho4) : Holds w4 v4 (u8s HD))
    rw [decide_eq_true rfl] at KSa
    have HB4 := Lib.hid (HB3.out.trans (hb4.mono HB3.out.size))
    clear ho4 hb4 KBf HO3
    go_wp2_with fail
    refine KSa.mono ?_
    rintro e w5 ⟨rfl, rfl⟩
    clear KSa
    have HHP := Lib.hid (fun (V : World) (hV : Below w4.heap.size w4 V) => And.intro (H12.out.next (HB4.out.trans (hV.mono HB4.out.size))) (H2.out.next (HB4.out.trans (hV.mono HB4.out.size))))
    have HBW := Lib.hid (HB2.out.trans (HB4.out.mono HB2.out.size))
    clear HB3 H12 H2 KBe
    go_wp2_with fail
    go_loopw [55] (fun s' W => ∃ q : Nat, s' = .int .i64 q ∧ q ≤ n2 ∧ Hid (Below w4.heap.size w4 W)) (fun s' _ => n2 - (RowKit.intOf s').toNat)
    case atStart => exact ⟨0, rfl, by omega, Lib.hid (Below.refl _ _)⟩
    case round =>
      obtain ⟨q, rfl, hqj, hbq⟩ := hrel
      by_cases hlq : q < n2
      · obtain ⟨hPW, hSW⟩ := HHP.out wr hbq.out
        obtain ⟨x, ⟨x1, va1, va2, va3, va4⟩, hx1, hx2, hR1, ad1, rfl, hc1⟩ := hPW.at_ hlq
        obtain ⟨y, ⟨y1, vb1, vb2, vb3, vb4⟩, hy1, hy2, hR2, ad2, rfl, hc2⟩ := hSW.at_ hlq
        simp only at hx2 hy2
        subst hx2 hy2
        rw [hx1] at hy1
        obtain rfl := Option.some.inj hy1
        obtain ⟨hg, hi, hn⟩ := trS_good _ (List.mem_of_getElem? hx1)
        have hlens := hR1.lens
        have hR1 := hR1.holds
        have hR2 := hR2.holds
        simp only at hR1 hR2 hlens
        obtain ⟨p1, pc1, q1, qc1, r1, rc1, s1, sc1, rfl, rfl, rfl, rfl⟩ := hR1.form
        obtain ⟨p2, pc2, q2, qc2, r2, rc2, s2, sc2, rfl, rfl, rfl, rfl⟩ := hR2.form
        have KSm := fun (V : World) (hV : Below wr.heap.size wr V) => same_good (hR1.below hV) (hR2.below hV) hi hg hn hlens
        have SC1 := fun (V : World) (hV : Below wr.heap.size wr V) => And.intro (rec_cellsB fun j u hu => kept_below hV _ _ (hc1 j u hu)) (rec_cellsB fun j u hu => kept_below hV _ _ (hc2 j u hu))
        obtain ⟨x, hxx⟩ : ∃ x, x = x1 := ⟨_, rfl⟩
        rw [← hxx] at KSm SC1
        unfold recV at KSm
        obtain ⟨an, bn, cn, dn, e1, e2, e3, e4⟩ : ∃ an bn cn dn, x.tc.length = an ∧ x.rd.length = bn ∧ x.rm.length = cn ∧ x.ws.length = dn := ⟨_, _, _, _, rfl, rfl, rfl, rfl⟩
        rw [e1, e2, e3, e4] at KSm SC1
        have KSM := Lib.hid KSm
        have SC := Lib.hid SC1
        have l1 : (q : Int) < (n2 : Int) := Int.ofNat_lt.2 hlq
        have l0 : (0 : Int) ≤ (q : Int) := Int.natCast_nonneg q
        have hwq : IntKind.i64.wrap ((q : Int) + 1) = (q : Int) + 1 := wrap_next hlq HNB.out
        have HLQ := Lib.hid hlq
        clear hx1 hy1 hR1 hR2 hc1 hc2 KSm SC1 e1 e2 e3 e4 hlq hPW hSW hqj hg hi hn hlens hxx
        go_wp2_with fail
        have hbr : Below wr.heap.size wr (wr.drewN 1) := below_dN (Below.refl _ _) 1
        refine wp_region_mix (fun W => (W.cell? (ad1.add (q * 9)) = some (.int .i64 x.k) ∧ W.cell? ⟨(ad1.add (q * 9)).block, (ad1.add (q * 9)).off + 1, none⟩ = some (.string x.tn) ∧ W.cell? ⟨(ad1.add (q * 9)).block, (ad1.add (q * 9)).off + 2, none⟩ = some (.slice p1 an pc1) ∧ W.cell? ⟨(ad1.add (q * 9)).block, (ad1.add (q * 9)).off + 3, none⟩ = some (.string x.rn) ∧ W.cell? ⟨(ad1.add (q * 9)).block, (ad1.add (q * 9)).off + 4, none⟩ = some (.string x.rt) ∧ W.cell? ⟨(ad1.add (q * 9)).block, (ad1.add (q * 9)).off + 5, none⟩ = some (.slice q1 bn qc1) ∧ W.cell? ⟨(ad1.add (q * 9)).block, (ad1.add (q * 9)).off + 6, none⟩ = some (.slice r1 cn rc1) ∧ W.cell? ⟨(ad1.add (q * 9)).block, (ad1.add (q * 9)).off + 7, none⟩ = some (.string x.nm) ∧ W.cell? ⟨(ad1.add (q * 9)).block, (ad1.add (q * 9)).off + 8, none⟩ = some (.slice s1 dn sc1)) ∧ (W.cell? (ad2.add (q * 9)) = some (.int .i64 x.k) ∧ W.cell? ⟨(ad2.add (q * 9)).block, (ad2.add (q * 9)).off + 1, none⟩ = some (.string x.tn) ∧ W.cell? ⟨(ad2.add (q * 9)).block, (ad2.add (q * 9)).off + 2, none⟩ = some (.slice p2 an pc2) ∧ W.cell? ⟨(ad2.add (q * 9)).block, (ad2.add (q * 9)).off + 3, none⟩ = some (.string x.rn) ∧ W.cell? ⟨(ad2.add (q * 9)).block, (ad2.add (q * 9)).off + 4, none⟩ = some (.string x.rt) ∧ W.cell? ⟨(ad2.add (q * 9)).block, (ad2.add (q * 9)).off + 5, none⟩ = some (.slice q2 bn qc2) ∧ W.cell? ⟨(ad2.add (q * 9)).block, (ad2.add (q * 9)).off + 6, none⟩ = some (.slice r2 cn rc2) ∧ W.cell? ⟨(ad2.add (q * 9)).block, (ad2.add (q * 9)).off + 7, none⟩ = some (.string x.nm) ∧ W.cell? ⟨(ad2.add (q * 9)).block, (ad2.add (q * 9)).off + 8, none⟩ = some (.slice s2 dn sc2))) 10 [(true, 0), (true, 1), (true, 4), (true, 5), (true, 2), (true, 6), (true, 3), (true, 7), (false, 8), (true, 9)] (by kernel_rfl) (by decide +kernel) rfl (by decide +kernel) (SC.out _ hbr) ?_
        iterate 8
          refine wpMix_take (v := ?_) rfl rfl ?_ ?_
          rotate_left
          · (intro W hW; (try dsimp only at hW); go_simp) <;> with_reducible rfl
          simp only [Act.put, List.setIfInBounds_toArray, List.set_cons_zero, List.set_cons_succ]
        refine wpMix_run rfl ?_
        intro K hK
        go_wp2_with fail
        refine (KSM.out _ hbr).mono ?_
        rintro e w7 ⟨rfl, hb7⟩
        have hb7w : Below wr.heap.size wr w7 := hbr.trans (hb7.mono hbr.size)
        clear hb7
        go_wp2_with fail
        refine hK.out _ _ (fun _ => SC.out _ hb7w) ?_
        clear hK K
        iterate 1
          refine wpMix_take (v := ?_) rfl rfl ?_ ?_
          rotate_left
          · (intro W hW; (try dsimp only at hW); go_simp) <;> with_reducible rfl
          simp only [Act.put, List.setIfInBounds_toArray, List.set_cons_zero, List.set_cons_succ]
        refine wpMix_nil ?_
        have HB7 := Lib.hid (hbq.out.trans (hb7w.mono hbq.out.size))
        clear SC KSM hb7w hbr hbq
        go_wp2_with fail
        go_roundw
        case rel => exact ⟨q + 1, by go_num, by have := HLQ.out; omega, HB7⟩
        case measure => have := HLQ.out; simp [RowKit.intOf]; omega
      · have KLq := rlives_any (HQ.out wr (HBW.out.trans (hbq.out.mono HBW.out.size)))
        have hlq' : ¬ ((q : Int) < (n2 : Int)) := by omega
        clear hlq hqj
        go_wp2_with fail
        refine KLq.mono ?_
        rintro e w6 ⟨rfl, hb6⟩
        go_wp2_with fail
        go_ret
        have hf := HBW.out.trans (hbq.out.mono HBW.out.size)
        exact ⟨rfl, hf.trans (hb6.mono hf.size)⟩
end Go.Proofs.YtehfoaicohnpfaaGreatDoor
