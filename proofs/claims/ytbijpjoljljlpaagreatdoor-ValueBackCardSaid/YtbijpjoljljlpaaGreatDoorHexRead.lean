/- The number of sixteen digits of base 16, byte by byte, plain. Conditions: none. -/
import Derived.Test.YtbijpjoljljlpaaGreatDoorHex
set_option maxRecDepth 100000
namespace Go.Proofs.YtbijpjoljljlpaaGreatDoor

theorem hexd_val : ∀ v < 16, (48 ≤ (hexd v).toNat ∧ (hexd v).toNat ≤ 57 ∧ v = (hexd v).toNat - 48) ∨ (97 ≤ (hexd v).toNat ∧ (hexd v).toNat ≤ 102 ∧ v = (hexd v).toNat - 87 ∧ ((hexd v).toNat ||| 32) = (hexd v).toNat ∧ ¬ (hexd v).toNat ≤ 57) := by decide
/-- what is known of the number so far: if the bytes are a word's digits, it is their beginning's -/
def SoHex (bs : List UInt8) (k : Nat) (a : Nat) : Prop := ∀ c < 18446744073709551616, bs = hexN 16 c → k ≤ 16 ∧ a = c / 16 ^ (16 - k)
theorem soHex_start (bs : List UInt8) : SoHex bs 0 0 := fun c hc _ => ⟨by omega, by rw [Nat.div_eq_of_lt]; exact Nat.lt_of_lt_of_le hc (by decide)⟩
/-- what a word's digits say of the byte at k -/
theorem hex_byte {bs : List UInt8} {k a : Nat} (h : SoHex bs k a) (hk : k < bs.length) {c : Nat} (hc : c < 18446744073709551616) (e : bs = hexN 16 c) :
    k < 16 ∧ a < 1152921504606846976 ∧ ∃ v < 16, bs[k] = hexd v ∧ 16 * a + v = c / 16 ^ (16 - (k + 1)) := by
  obtain ⟨_, h2⟩ := h c hc e
  have hk2 : k < 16 := by rw [e, hexN_len] at hk; exact hk
  have hb : bs[k]? = some (hexd (c / 16 ^ (15 - k) % 16)) := by rw [e]; exact hexN_at 16 c k hk2
  rw [List.getElem?_eq_getElem hk] at hb
  have hs : 16 ^ (16 - k) = 16 ^ (15 - k) * 16 := by rw [← Nat.pow_succ]; congr 1; omega
  have ha : a = c / 16 ^ (15 - k) / 16 := by rw [h2, hs, Nat.div_div_eq_div_mul]
  refine ⟨hk2, ?_, _, Nat.mod_lt _ (by decide), Option.some.inj hb, ?_⟩
  · have := Nat.div_le_self c (16 ^ (15 - k)); omega
  · rw [show 16 - (k + 1) = 15 - k by omega]; omega
theorem soHex_next {bs : List UInt8} {k a d : Nat} (h : SoHex bs k a) (hk : k < bs.length) (hd : ∀ v < 16, bs[k] = hexd v → v = d) : SoHex bs (k + 1) (16 * a + d) := by
  intro c hc e
  obtain ⟨h1, _, v, hv, h3, h4⟩ := hex_byte h hk hc e
  exact ⟨by omega, by rw [← hd v hv h3]; exact h4⟩
theorem soHex_end {bs : List UInt8} {a : Nat} (h : SoHex bs bs.length a) {c : Nat} (hc : c < 18446744073709551616) (e : bs = hexN 16 c) : a = c := by
  obtain ⟨_, h2⟩ := h c hc e
  rw [e, hexN_len, Nat.sub_self, Nat.pow_zero, Nat.div_one] at h2
  exact h2
/-- bytes that are no word's digits -/
def NoHex (bs : List UInt8) : Prop := ∀ c < 18446744073709551616, bs ≠ hexN 16 c
theorem noHex_big {bs : List UInt8} {k a : Nat} (h : SoHex bs k a) (hk : k < bs.length) (ha : 1152921504606846976 ≤ a) : NoHex bs := fun c hc e => by
  have := (hex_byte h hk hc e).2.1; omega
theorem noHex_byte {bs : List UInt8} {k a : Nat} (h : SoHex bs k a) (hk : k < bs.length) (hb : ∀ v < 16, bs[k] ≠ hexd v) : NoHex bs := fun c hc e => by
  obtain ⟨_, _, v, hv, h3, _⟩ := hex_byte h hk hc e
  exact hb v hv h3
theorem soHex_wrap {bs : List UInt8} {k a d : Nat} (h : SoHex bs k a) (hk : k < bs.length) (hd : ∀ v < 16, bs[k] = hexd v → v = d) : SoHex bs (k + 1) (16 * a % 18446744073709551616 + d) := by
  intro c hc e
  obtain ⟨_, h2, _⟩ := hex_byte h hk hc e
  rw [Nat.mod_eq_of_lt (by omega)]
  exact soHex_next h hk hd c hc e
theorem or_low (x d : Nat) (hd : d < 16) : 16 * x ||| d = 16 * x + d := (Nat.two_pow_add_eq_or_of_lt (i := 4) hd x).symm
theorem hexV_le (c : UInt8) : hexV c < 16 ∨ hexV c = 99 := by
  by_cases h : hexV c = 99
  · exact .inr h
  · exact .inl (hexd_V c h).1
theorem hexd_eq (k : Nat) (hk : k < 16) (c : UInt8) : hexd k = c ↔ k = hexV c := by
  constructor
  · intro e; rw [← e, hexV_d k hk]
  · intro e
    rw [e]
    refine (hexd_V c ?_).2
    omega
end Go.Proofs.YtbijpjoljljlpaaGreatDoor
