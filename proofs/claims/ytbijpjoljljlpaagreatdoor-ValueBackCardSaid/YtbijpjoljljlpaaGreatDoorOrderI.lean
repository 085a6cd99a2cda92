/- Contract of strconv's inner ParseUint at base 16 and 64 bits. Conditions: none. -/
import Derived.Test.YtbijpjoljljlpaaGreatDoorOrderC
import Derived.Test.YtbijpjoljljlpaaGreatDoorShelf
import Derived.Test.YtbijpjoljljlpaaGreatDoorHexRead
import Derived.Lib.ConvBytes
import Derived.Lib.SmallJoins
import Derived.Laws.Strings3
import Derived.Laws.Closers25
import Derived.Laws.Closers25b
import Derived.BigCall
import Derived.BigGuard
import Derived.Lib.AtoiErrMem
set_option maxRecDepth 100000
namespace Go.Proofs.YtbijpjoljljlpaaGreatDoor
open Go.RowKit

/-- a number, or an error -/
def Read (bs : List UInt8) (x : Int) (ev : Value) : Prop :=
  0 ≤ x ∧ x < 18446744073709551616 ∧ ((ev = .nilIface ∧ ∀ c < 18446744073709551616, bs = hexN 16 c → x = (c : Int)) ∨ ((ev = .iface 120 (.int .i64 2) ∨ ev = .iface 120 (.int .i64 1)) ∧ NoHex bs))
set_option maxHeartbeats 3200000 in
theorem parseUint_in (t : ByteArray) (hne : t.size ≠ 0) (hmax : t.size ≤ 9223372036854775806) (w : World) :
    Calls Tryz.prog 66 #[.string t, .int .i64 16, .int .i64 64] w fun e w' => ∃ x ev, e = .returned (.tuple #[.int .u64 x, ev]) ∧ Read t.data.toList x ev ∧ Below w.heap.size w w' := by
  have hemp : t.toList.isEmpty = false := by
    rw [← decide_eq_emptyBytes]
    exact decide_eq_false (fun h => hne (by rw [h]; rfl))
  have hcv := Lib.run_convert_string_bytes (P := Tryz.prog) w 9 33 5 t (u := .string) Tryz.underlying9 Tryz.underlying33 Tryz.underlying5
  have hB : ∀ j, j < t.size → (Lib.bytesWorld w 5 t).cell? ⟨w.heap.size, j, none⟩ = some (.int .u8 (t.data.toList.getD j 0).toNat) := fun j hj => Lib.bytesWorld_cell w 5 t j hj
  have HW := Lib.hid (Lib.bytesWorld_below w 5 t)
  obtain ⟨W1, hW1⟩ : ∃ W1, W1 = Lib.bytesWorld w 5 t := ⟨_, rfl⟩
  rw [← hW1] at hcv hB HW
  clear hW1
  obtain ⟨bs, hL⟩ : ∃ bs, bs = t.data.toList := ⟨_, rfl⟩
  have hLn : bs.length = t.size := by rw [hL, Lib.size_eq]
  rw [← hL] at hB ⊢
  clear hL
  have hmv : IntKind.u64.wrap (IntKind.u64.wrap 18446744073709551616 - 1) = 18446744073709551615 := by
    rw [IntKind.wrap_u64, IntKind.wrap_u64]
    decide
  go_enter Tryz.func66, Tryz.ntmps66
  go_wp2_with fail
  go_loop [12, 13, 101] (fun vu vn vi => ∃ (k A : Nat) (a : Int), vu = .bool false ∧ vn = .int .u64 a ∧ vi = .int .i64 k ∧ k ≤ t.size ∧ Hid (a = (A : Int) ∧ A < 18446744073709551616 ∧ SoHex bs k A))
    (fun _ _ vi => t.size - (intOf vi).toNat)
  case atStart => exact ⟨0, 0, 0, rfl, rfl, rfl, by omega, rfl, by omega, soHex_start bs⟩
  case round =>
    obtain ⟨k, A, a, rfl, rfl, rfl, hk, hh⟩ := hrel
    obtain ⟨ha, hacc, hdec⟩ := hh.out
    clear hh
    have a0 : 0 ≤ a := by omega
    have a1 : a < 18446744073709551616 := by omega
    by_cases hkn : k < t.size
    · have hc := hB k hkn
      have hkl : k < bs.length := by omega
      have hget : bs.getD k 0 = bs[k]'hkl := by simp [List.getD, List.getElem?_eq_getElem hkl]
      rw [hget] at hc
      have hbig := noHex_big hdec hkl
      have hno := noHex_byte hdec hkl
      have hnx := fun d => soHex_next (d := d) hdec hkl
      generalize bs[k]'hkl = c at hc hno hnx
      have hc256 : c.toNat < 256 := c.toNat_lt
      clear hB hget hdec
      by_cases hdig : 48 ≤ c.toNat ∧ c.toNat ≤ 57
      · obtain ⟨hd0, hd1⟩ := hdig
        by_cases hcut : 1152921504606846976 ≤ A
        · have HN := Lib.hid (hbig hcut)
          have icut : 1152921504606846976 ≤ a := by omega
          clear hcut hacc ha hbig hno hnx
          go_wp2_with fail
          go_ret2
          exact ⟨18446744073709551615, _, rfl, ⟨by omega, by omega, .inr ⟨.inr rfl, HN.out⟩⟩, HW.out⟩
        · have HN : Hid (a * 16 + ((c.toNat : Int) - 48) = ((16 * A + (c.toNat - 48) : Nat) : Int) ∧ 16 * A + (c.toNat - 48) < 18446744073709551616 ∧ SoHex bs (k + 1) (16 * A + (c.toNat - 48))) := Lib.hid ⟨by omega, by omega, hnx _ (fun v hv e => by
            rcases hexd_val v hv with ⟨h1, h2, h3⟩ | ⟨h1, h2, h3, h4, h5⟩
            · rw [h3, e]
            · rw [e] at hd1; omega)⟩
          have icut : a < 1152921504606846976 := by omega
          have iov : a * 16 + ((c.toNat : Int) - 48) < 18446744073709551616 := by omega
          clear hcut hacc ha hbig hno hnx
          go_wp2_with fail
          refine ⟨⟨k + 1, 16 * A + (c.toNat - 48), a * 16 + ((c.toNat : Int) - 48), rfl, (by first | rfl | (congr 1; omega)), (by first | rfl | (congr 1; omega)), by omega, HN⟩, by simp [intOf]; omega⟩
      · obtain ⟨L, hL⟩ : ∃ L, L = c.toNat ||| 32 := ⟨_, rfl⟩
        have hor := or_u8 c.toNat 32 hc256 (by omega)
        rw [← hL] at hor
        have hL256 : L < 256 := by rw [hL]; exact Nat.or_lt_two_pow (n := 8) hc256 (by decide)
        have K := fun w => Tryz.internal_strconv_lower (c.toNat : Int) w
        have hor' : bits .or .u8 (c.toNat : Int) 32 = (L : Int) := hor
        rw [hor'] at K
        have hb : (decide ((48 : Int) ≤ (c.toNat : Int)) = false) ∨ (decide ((48 : Int) ≤ (c.toNat : Int)) = true ∧ decide ((c.toNat : Int) ≤ 57) = false) := by
          simp only [decide_eq_true_eq, decide_eq_false_iff_not]; omega
        obtain ⟨b95, h95⟩ : ∃ b, ((c.toNat : Int) == 95) = b := ⟨_, rfl⟩
        by_cases hlet : 97 ≤ L ∧ L ≤ 102
        · obtain ⟨hl0, hl1⟩ := hlet
          by_cases hcut : 1152921504606846976 ≤ A
          · have HN := Lib.hid (hbig hcut)
            have icut : 1152921504606846976 ≤ a := by omega
            clear hcut hacc ha hbig hno hnx hdig hor hor' hL
            rcases hb with t48 | ⟨t48, t57⟩
            all_goals
              go_wp2_with (go_at_call 82; refine (K _).mono ?_; rintro e w' ⟨rfl, rfl⟩)
              all_goals
                go_ret2
                exact ⟨18446744073709551615, _, rfl, ⟨by omega, by omega, .inr ⟨.inr rfl, HN.out⟩⟩, HW.out⟩
          · have HN : Hid (a * 16 + ((L : Int) - 97 + 10) = ((16 * A + (L - 87) : Nat) : Int) ∧ 16 * A + (L - 87) < 18446744073709551616 ∧ SoHex bs (k + 1) (16 * A + (L - 87))) := Lib.hid ⟨by omega, by omega, hnx _ (fun v hv e => by
              rcases hexd_val v hv with ⟨h1, h2, h3⟩ | ⟨h1, h2, h3, h4, h5⟩
              · rw [← e] at h1 h2; exact absurd ⟨h1, h2⟩ hdig
              · rw [h3, hL, e, h4])⟩
            have icut : a < 1152921504606846976 := by omega
            have iov : a * 16 + ((L : Int) - 97 + 10) < 18446744073709551616 := by omega
            clear hcut hacc ha hbig hno hnx hdig hor hor' hL
            rcases hb with t48 | ⟨t48, t57⟩
            all_goals
              go_wp2_with (go_at_call 82; refine (K _).mono ?_; rintro e w' ⟨rfl, rfl⟩)
              all_goals
                refine ⟨⟨k + 1, 16 * A + (L - 87), a * 16 + ((L : Int) - 97 + 10), rfl, (by first | rfl | (congr 1; omega)), (by first | rfl | (congr 1; omega)), by omega, HN⟩, by simp [intOf]; omega⟩
        · have HN := Lib.hid (hno (fun v hv e => by
            rcases hexd_val v hv with ⟨h1, h2, h3⟩ | ⟨h1, h2, h3, h4, h5⟩
            · rw [← e] at h1 h2; exact hdig ⟨h1, h2⟩
            · rw [← e] at h1 h2 h4; rw [h4] at hL; exact hlet ⟨by omega, by omega⟩))
          clear hacc ha hbig hno hnx hdig hor hor' hL
          rcases hb with t48 | ⟨t48, t57⟩
          all_goals
            go_wp2_with (go_at_call 82; refine (K _).mono ?_; rintro e w' ⟨rfl, rfl⟩)
            all_goals
              go_ret2
              exact ⟨0, _, rfl, ⟨by omega, by omega, .inr ⟨.inl rfl, HN.out⟩⟩, HW.out⟩
    · have hkk : k = t.size := by omega
      subst hkk
      have HN : Hid (∀ c < 18446744073709551616, bs = hexN 16 c → a = (c : Int)) := Lib.hid (fun c hc e => by have h := soHex_end (a := A) (by rw [hLn]; exact hdec) hc e; omega)
      clear hacc ha hdec
      go_wp2_with fail
      go_ret2
      exact ⟨a, _, rfl, ⟨a0, a1, .inl ⟨rfl, HN.out⟩⟩, HW.out⟩
end Go.Proofs.YtbijpjoljljlpaaGreatDoor
