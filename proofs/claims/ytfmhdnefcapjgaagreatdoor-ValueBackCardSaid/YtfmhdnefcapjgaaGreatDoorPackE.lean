/- The texts OrderI OrderD OrderPr OrderJ OrderE OrderF OrderK Ors WideA WideB WideC WideL, one behind the other; each one's own comment says what it holds. -/
import Derived.Test.YtfmhdnefcapjgaaGreatDoorPackB
import Derived.Test.YtfmhdnefcapjgaaGreatDoorShelf
import Derived.Test.YtfmhdnefcapjgaaGreatDoorPackD
import Derived.Lib.ConvBytes
import Derived.Lib.SmallJoins
import Derived.Laws.Strings3
import Derived.Laws.Closers25
import Derived.Laws.Closers25b
import Derived.BigCall
import Derived.BigGuard
import Derived.Lib.AtoiErrMem
import Derived.Test.YtfmhdnefcapjgaaGreatDoorPackA
import Derived.Outline
import Derived.Deep.RegionHeld3
import Derived.BigQuiet
import Derived.Shelf.Spec.BitsCarry
/- Contract of strconv's inner ParseUint at base 16 and 64 bits. Conditions: none. -/
set_option maxRecDepth 100000
namespace Go.Proofs.YtfmhdnefcapjgaaGreatDoor
open Go.RowKit

/-- a number, or an error -/
def Read (bs : List UInt8) (x : Int) (ev : Value) : Prop :=
  0 ≤ x ∧ x < 18446744073709551616 ∧ ((ev = .nilIface ∧ ∀ c < 18446744073709551616, bs = hexN 16 c → x = (c : Int)) ∨ ((ev = .iface 120 (.int .i64 2) ∨ ev = .iface 120 (.int .i64 1)) ∧ NoHex bs))
set_option maxHeartbeats 3200000 in
theorem parseUint_in (t : ByteArray) (hne : t.size ≠ 0) (hmax : t.size ≤ 9223372036854775806) (w : World) :
    Calls Tryz.prog 66 #[.string t, .int .i64 16, .int .i64 64] w fun e w' => ∃ x ev, e = .returned (.tuple #[.int .u64 x, ev]) ∧ Read t.data.toList x ev ∧ Below w.heap.size w w' := by
  have hemp : t.toList.isEmpty = false := by
    rw [← decide_eq_emptyBytes]
    exact decide_eq_false (fun h => hne (by rw [h]; rfl))
  have hcv := Lib.run_convert_string_bytes (P := Tryz.prog) w 9 33 5 t (u := .string) Tryz.underlying9 Tryz.underlying33 Tryz.underlying5
  have hB : ∀ j, j < t.size → (Lib.bytesWorld w 5 t).cell? ⟨w.heap.size, j, none⟩ = some (.int .u8 (t.data.toList.getD j 0).toNat) := fun j hj => Lib.bytesWorld_cell w 5 t j hj
  have HW := Lib.hid (Lib.bytesWorld_below w 5 t)
  obtain ⟨W1, hW1⟩ : ∃ W1, W1 = Lib.bytesWorld w 5 t := ⟨_, rfl⟩
  rw [← hW1] at hcv hB HW
  clear hW1
  obtain ⟨bs, hL⟩ : ∃ bs, bs = t.data.toList := ⟨_, rfl⟩
  have hLn : bs.length = t.size := by rw [hL, Lib.size_eq]
  rw [← hL] at hB ⊢
  clear hL
  have hmv : IntKind.u64.wrap (IntKind.u64.wrap 18446744073709551616 - 1) = 18446744073709551615 := by
    rw [IntKind.wrap_u64, IntKind.wrap_u64]
    decide
  go_enter Tryz.func66, Tryz.ntmps66
  go_wp2_with fail
  go_loop [12, 13, 101] (fun vu vn vi => ∃ (k A : Nat) (a : Int), vu = .bool false ∧ vn = .int .u64 a ∧ vi = .int .i64 k ∧ k ≤ t.size ∧ Hid (a = (A : Int) ∧ A < 18446744073709551616 ∧ SoHex bs k A))
    (fun _ _ vi => t.size - (intOf vi).toNat)
  case atStart => exact ⟨0, 0, 0, rfl, rfl, rfl, by omega, rfl, by omega, soHex_start bs⟩
  case round =>
    obtain ⟨k, A, a, rfl, rfl, rfl, hk, hh⟩ := hrel
    obtain ⟨ha, hacc, hdec⟩ := hh.out
    clear hh
    have a0 : 0 ≤ a := by omega
    have a1 : a < 18446744073709551616 := by omega
    by_cases hkn : k < t.size
    · have hc := hB k hkn
      have hkl : k < bs.length := by omega
      have hget : bs.getD k 0 = bs[k]'hkl := by simp [List.getD, List.getElem?_eq_getElem hkl]
      rw [hget] at hc
      have hbig := noHex_big hdec hkl
      have hno := noHex_byte hdec hkl
      have hnx := fun d => soHex_next (d := d) hdec hkl
      generalize bs[k]'hkl = c at hc hno hnx
      have hc256 : c.toNat < 256 := c.toNat_lt
      clear hB hget hdec
      by_cases hdig : 48 ≤ c.toNat ∧ c.toNat ≤ 57
      · obtain ⟨hd0, hd1⟩ := hdig
        by_cases hcut : 1152921504606846976 ≤ A
        · have HN := Lib.hid (hbig hcut)
          have icut : 1152921504606846976 ≤ a := by omega
          clear hcut hacc ha hbig hno hnx
          go_wp2_with fail
          go_ret2
          exact ⟨18446744073709551615, _, rfl, ⟨by omega, by omega, .inr ⟨.inr rfl, HN.out⟩⟩, HW.out⟩
        · have HN : Hid (a * 16 + ((c.toNat : Int) - 48) = ((16 * A + (c.toNat - 48) : Nat) : Int) ∧ 16 * A + (c.toNat - 48) < 18446744073709551616 ∧ SoHex bs (k + 1) (16 * A + (c.toNat - 48))) := Lib.hid ⟨by omega, by omega, hnx _ (fun v hv e => by
            rcases hexd_val v hv with ⟨h1, h2, h3⟩ | ⟨h1, h2, h3, h4, h5⟩
            · rw [h3, e]
            · rw [e] at hd1; omega)⟩
          have icut : a < 1152921504606846976 := by omega
          have iov : a * 16 + ((c.toNat : Int) - 48) < 18446744073709551616 := by omega
          clear hcut hacc ha hbig hno hnx
          go_wp2_with fail
          refine ⟨⟨k + 1, 16 * A + (c.toNat - 48), a * 16 + ((c.toNat : Int) - 48), rfl, (by first | rfl | (congr 1; omega)), (by first | rfl | (congr 1; omega)), by omega, HN⟩, by simp [intOf]; omega⟩
      · obtain ⟨L, hL⟩ : ∃ L, L = c.toNat ||| 32 := ⟨_, rfl⟩
        have hor := or_u8 c.toNat 32 hc256 (by omega)
        rw [← hL] at hor
        have hL256 : L < 256 := by rw [hL]; exact Nat.or_lt_two_pow (n := 8) hc256 (by decide)
        have K := fun w => Tryz.internal_strconv_lower (c.toNat : Int) w
        have hor' : bits .or .u8 (c.toNat : Int) 32 = (L : Int) := hor
        rw [hor'] at K
        have hb : (decide ((48 : Int) ≤ (c.toNat : Int)) = false) ∨ (decide ((48 : Int) ≤ (c.toNat : Int)) = true ∧ decide ((c.toNat : Int) ≤ 57) = false) := by
          simp only [decide_eq_true_eq, decide_eq_false_iff_not]; omega
        obtain ⟨b95, h95⟩ : ∃ b, ((c.toNat : Int) == 95) = b := ⟨_, rfl⟩
        by_cases hlet : 97 ≤ L ∧ L ≤ 102
        · obtain ⟨hl0, hl1⟩ := hlet
          by_cases hcut : 1152921504606846976 ≤ A
          · have HN := Lib.hid (hbig hcut)
            have icut : 1152921504606846976 ≤ a := by omega
            clear hcut hacc ha hbig hno hnx hdig hor hor' hL
            rcases hb with t48 | ⟨t48, t57⟩
            all_goals
              go_wp2_with (go_at_call 82; refine (K _).mono ?_; rintro e w' ⟨rfl, rfl⟩)
              all_goals
                go_ret2
                exact ⟨18446744073709551615, _, rfl, ⟨by omega, by omega, .inr ⟨.inr rfl, HN.out⟩⟩, HW.out⟩
          · have HN : Hid (a * 16 + ((L : Int) - 97 + 10) = ((16 * A + (L - 87) : Nat) : Int) ∧ 16 * A + (L - 87) < 18446744073709551616 ∧ SoHex bs (k + 1) (16 * A + (L - 87))) := Lib.hid ⟨by omega, by omega, hnx _ (fun v hv e => by
              rcases hexd_val v hv with ⟨h1, h2, h3⟩ | ⟨h1, h2, h3, h4, h5⟩
              · rw [← e] at h1 h2; exact absurd ⟨h1, h2⟩ hdig
              · rw [h3, hL, e, h4])⟩
            have icut : a < 1152921504606846976 := by omega
            have iov : a * 16 + ((L : Int) - 97 + 10) < 18446744073709551616 := by omega
            clear hcut hacc ha hbig hno hnx hdig hor hor' hL
            rcases hb with t48 | ⟨t48, t57⟩
            all_goals
              go_wp2_with (go_at_call 82; refine (K _).mono ?_; rintro e w' ⟨rfl, rfl⟩)
              all_goals
                refine ⟨⟨k + 1, 16 * A + (L - 87), a * 16 + ((L : Int) - 97 + 10), rfl, (by first | rfl | (congr 1; omega)), (by first | rfl | (congr 1; omega)), by omega, HN⟩, by simp [intOf]; omega⟩
        · have HN := Lib.hid (hno (fun v hv e => by
            rcases hexd_val v hv with ⟨h1, h2, h3⟩ | ⟨h1, h2, h3, h4, h5⟩
            · rw [← e] at h1 h2; exact hdig ⟨h1, h2⟩
            · rw [← e] at h1 h2 h4; rw [h4] at hL; exact hlet ⟨by omega, by omega⟩))
          clear hacc ha hbig hno hnx hdig hor hor' hL
          rcases hb with t48 | ⟨t48, t57⟩
          all_goals
            go_wp2_with (go_at_call 82; refine (K _).mono ?_; rintro e w' ⟨rfl, rfl⟩)
            all_goals
              go_ret2
              exact ⟨0, _, rfl, ⟨by omega, by omega, .inr ⟨.inl rfl, HN.out⟩⟩, HW.out⟩
    · have hkk : k = t.size := by omega
      subst hkk
      have HN : Hid (∀ c < 18446744073709551616, bs = hexN 16 c → a = (c : Int)) := Lib.hid (fun c hc e => by have h := soHex_end (a := A) (by rw [hLn]; exact hdec) hc e; omega)
      clear hacc ha hdec
      go_wp2_with fail
      go_ret2
      exact ⟨a, _, rfl, ⟨a0, a1, .inl ⟨rfl, HN.out⟩⟩, HW.out⟩
end Go.Proofs.YtfmhdnefcapjgaaGreatDoor
/- What the calls read of the program's tables; TrailingZeros at 16. Conditions: the tables as the program's text lays them. -/
set_option maxRecDepth 100000
namespace Go.Proofs.YtfmhdnefcapjgaaGreatDoor
open Go.RowKit

/-- an error's variable -/
def IsErr (v : Value) : Prop := v = .nilIface ∨ ∃ te pe, v = .iface te pe
/-- what is read of the table of bits -/
def Tab (w : World) : Prop := w.cell? ⟨8, 15, none⟩ = some (.int .u8 4)
theorem Tab.below {w w' : World} (h : Tab w) (hb : Below w.heap.size w w') : Tab w' := by
  unfold Tab at h ⊢
  rw [hb.cell (World.block_lt_of_cell? w _ h)]; exact h
/-- what is read of the program's variables -/
def Vars (w : World) : Prop := Tab w ∧ (∃ v, w.cell? ⟨4, 0, none⟩ = some v ∧ IsErr v) ∧ ∃ v, w.cell? ⟨5, 0, none⟩ = some v ∧ IsErr v
theorem Vars.tab {w : World} (h : Vars w) : Tab w := h.1
theorem Vars.below {w w' : World} (h : Vars w) (hb : Below w.heap.size w w') : Vars w' := by
  obtain ⟨h1, ⟨v, h2, h3⟩, u, h4, h5⟩ := h
  exact ⟨h1.below hb, ⟨v, by rw [hb.cell (World.block_lt_of_cell? w _ h2)]; exact h2, h3⟩, u, by rw [hb.cell (World.block_lt_of_cell? w _ h4)]; exact h4, h5⟩
theorem tz64_16 {w : World} (hv : Tab w) : Calls Tryz.prog 111 #[.int .u64 16] w fun e w' => e = .returned (.int .i64 4) ∧ w = w' := by
  have hc : w.cell? ⟨8, 15, none⟩ = some (.int .u8 4) := hv
  have h1 : bits .and .u64 16 (IntKind.u64.wrap (-16)) = 16 := by decide
  have h2 : IntKind.u64.wrap 4573923408821661840 = 4573923408821661840 := by decide
  clear hv
  go_enter Tryz.func111, Tryz.ntmps111
  go_wp2_with fail
  go_ret
  exact ⟨rfl, rfl⟩
theorem tz_16 {w : World} (hv : Tab w) : Calls Tryz.prog 106 #[.int .u64 16] w fun e w' => e = .returned (.int .i64 4) ∧ w = w' := by
  have K := tz64_16 hv
  clear hv
  go_enter Tryz.func106, Tryz.ntmps106
  go_wp2_with fail
  refine K.mono ?_; rintro e w' ⟨rfl, rfl⟩; go_wp2_with fail
  go_ret
  exact ⟨rfl, rfl⟩
theorem pow2_16 (w : World) : Calls Tryz.prog 105 #[.int .i64 16] w fun e w' => e = .returned (.bool true) ∧ w = w' := by
  have h1 : bits .and .i64 16 15 = 0 := by decide
  go_enter Tryz.func105, Tryz.ntmps105
  go_wp2_with fail
  go_ret
  exact ⟨rfl, rfl⟩
end Go.Proofs.YtfmhdnefcapjgaaGreatDoor
/- A float's text, plain: it tells the good float. Conditions: words below 2^64. -/
set_option maxRecDepth 100000
namespace Go.Proofs.YtfmhdnefcapjgaaGreatDoor

/-- a float's text -/
def prW (u : Nat) : List UInt8 := if nanW u then [78, 65, 78] else if u = 9218868437227405312 then [73, 78, 70] else if u = 18442240474082181120 then [45, 73, 78, 70] else [48, 102] ++ hexN 16 (canonW u)
theorem pr_nan {u : Nat} (h : nanW u = true) : prW u = [78, 65, 78] := by unfold prW; rw [h]; rfl
theorem pr_num {u : Nat} (h0 : nanW u = false) (h1 : u ≠ 9218868437227405312) (h2 : u ≠ 18442240474082181120) : prW u = [48, 102] ++ hexN 16 (canonW u) := by unfold prW; rw [h0, if_neg (by decide), if_neg h1, if_neg h2]
theorem pr_inf : prW 9218868437227405312 = [73, 78, 70] := by decide +kernel
theorem pr_minf : prW 18442240474082181120 = [45, 73, 78, 70] := by decide +kernel
/-- which of the four -/
theorem pr_cases (u : Nat) : (nanW u = true ∧ prW u = [78, 65, 78]) ∨ (u = 9218868437227405312 ∧ prW u = [73, 78, 70]) ∨ (u = 18442240474082181120 ∧ prW u = [45, 73, 78, 70]) ∨ (nanW u = false ∧ u ≠ 9218868437227405312 ∧ u ≠ 18442240474082181120 ∧ prW u = [48, 102] ++ hexN 16 (canonW u)) := by
  cases h0 : nanW u
  · by_cases h1 : u = 9218868437227405312
    · subst h1; exact .inr (.inl ⟨rfl, pr_inf⟩)
    · by_cases h2 : u = 18442240474082181120
      · subst h2; exact .inr (.inr (.inl ⟨rfl, pr_minf⟩))
      · exact .inr (.inr (.inr ⟨rfl, h1, h2, pr_num h0 h1 h2⟩))
  · exact .inl ⟨rfl, pr_nan h0⟩
theorem canon_infs {u : Nat} (h : nanW u = false) (k : Nat) (hk : k = 9218868437227405312 ∨ k = 18442240474082181120) : (canonW u = k) ↔ u = k := by
  rw [canon_not h]
  split <;> omega
theorem pr_canon (u : Nat) : prW (canonW u) = prW u := by
  rcases pr_cases u with ⟨h, e⟩ | ⟨h, e⟩ | ⟨h, e⟩ | ⟨h0, h1, h2, e⟩
  · rw [e, canon_nan h]; exact pr_nan (by decide)
  · subst h; rfl
  · subst h; rfl
  · rw [e, pr_num (by rw [nan_canon]; exact h0) (fun c => h1 ((canon_infs h0 _ (.inl rfl)).1 c)) (fun c => h2 ((canon_infs h0 _ (.inr rfl)).1 c)), canon_idem]
/-- the word that read tells if it tells one: of a text of a float that one -/
def ReadsAs (l : List UInt8) (n : Nat) : Prop := ∀ y < 18446744073709551616, prW y = l → n = canonW y
def NoFloat (l : List UInt8) : Prop := ∀ y < 18446744073709551616, prW y ≠ l
theorem reads_nan : ReadsAs [78, 65, 78] 9221120237041090560 := fun y _ e => by
  rcases pr_cases y with ⟨h, e2⟩ | ⟨h, e2⟩ | ⟨h, e2⟩ | ⟨h0, h1, h2, e2⟩
  · rw [canon_nan h]
  all_goals (rw [e2] at e; exact absurd e (by simp))
theorem reads_inf : ReadsAs [73, 78, 70] 9218868437227405312 := fun y _ e => by
  rcases pr_cases y with ⟨h, e2⟩ | ⟨h, e2⟩ | ⟨h, e2⟩ | ⟨h0, h1, h2, e2⟩
  · rw [e2] at e; exact absurd e (by simp)
  · rw [h]; rfl
  all_goals (rw [e2] at e; exact absurd e (by simp))
theorem reads_minf : ReadsAs [45, 73, 78, 70] 18442240474082181120 := fun y _ e => by
  rcases pr_cases y with ⟨h, e2⟩ | ⟨h, e2⟩ | ⟨h, e2⟩ | ⟨h0, h1, h2, e2⟩
  · rw [e2] at e; exact absurd e (by simp)
  · rw [e2] at e; exact absurd e (by simp)
  · rw [h]; rfl
  · rw [e2] at e; exact absurd e (by simp)
/-- a text that is none of the three is that of digits -/
theorem pr_other {l : List UInt8} (n1 : l ≠ [78, 65, 78]) (n2 : l ≠ [73, 78, 70]) (n3 : l ≠ [45, 73, 78, 70]) {y : Nat} (e : prW y = l) : l = [48, 102] ++ hexN 16 (canonW y) := by
  rcases pr_cases y with ⟨h, e2⟩ | ⟨h, e2⟩ | ⟨h, e2⟩ | ⟨h0, h1, h2, e2⟩
  · exact absurd (e.symm.trans e2) n1
  · exact absurd (e.symm.trans e2) n2
  · exact absurd (e.symm.trans e2) n3
  · exact e.symm.trans e2
theorem reads_hex {l hex : List UInt8} {n : Nat} (n1 : l ≠ [78, 65, 78]) (n2 : l ≠ [73, 78, 70]) (n3 : l ≠ [45, 73, 78, 70]) (hl : l = [48, 102] ++ hex) (h : ∀ c < 18446744073709551616, hex = hexN 16 c → n = c) : ReadsAs l n := fun y hy e => by
  have h1 := pr_other n1 n2 n3 e
  rw [hl] at h1
  exact h _ (canon_lt y hy) (List.append_cancel_left h1)
theorem no_hex {l hex : List UInt8} (n1 : l ≠ [78, 65, 78]) (n2 : l ≠ [73, 78, 70]) (n3 : l ≠ [45, 73, 78, 70]) (hl : l = [48, 102] ++ hex) (h : ∀ c < 18446744073709551616, hex ≠ hexN 16 c) : NoFloat l := fun y hy e => by
  have h1 := pr_other n1 n2 n3 e
  rw [hl] at h1
  exact h _ (canon_lt y hy) (List.append_cancel_left h1)
theorem no_prefix {l : List UInt8} (n1 : l ≠ [78, 65, 78]) (n2 : l ≠ [73, 78, 70]) (n3 : l ≠ [45, 73, 78, 70]) (hl : ∀ hex, l ≠ [48, 102] ++ hex) : NoFloat l := fun _ _ e => hl _ (pr_other n1 n2 n3 e)
theorem reads_drop {l : List UInt8} {n : Nat} (n1 : l ≠ [78, 65, 78]) (n2 : l ≠ [73, 78, 70]) (n3 : l ≠ [45, 73, 78, 70]) (h : ∀ c < 18446744073709551616, l.drop 2 = hexN 16 c → n = c) : ReadsAs l n := fun y hy e => by
  have h1 := pr_other n1 n2 n3 e
  exact h _ (canon_lt y hy) (by rw [h1]; rfl)
theorem no_drop {l : List UInt8} (n1 : l ≠ [78, 65, 78]) (n2 : l ≠ [73, 78, 70]) (n3 : l ≠ [45, 73, 78, 70]) (h : ∀ c < 18446744073709551616, l.drop 2 ≠ hexN 16 c) : NoFloat l := fun y hy e => by
  have h1 := pr_other n1 n2 n3 e
  exact h _ (canon_lt y hy) (by rw [h1]; rfl)
theorem no_len {l : List UInt8} (n1 : l ≠ [78, 65, 78]) (n2 : l ≠ [73, 78, 70]) (n3 : l ≠ [45, 73, 78, 70]) (h : l.length ≠ 18) : NoFloat l := fun y _ e => by
  have h1 := pr_other n1 n2 n3 e
  exact h (by rw [h1, List.length_append, hexN_len]; rfl)
/-- what Parse answers -/
def ParseP (l : List UInt8) (x : Nat) (ok : Bool) : Prop := x < 18446744073709551616 ∧ ((ok = true ∧ prW x = l ∧ canonW x = x ∧ ReadsAs l x) ∨ (ok = false ∧ x = 0 ∧ NoFloat l))
theorem parseP_yes {l : List UInt8} {n : Nat} (hn : n < 18446744073709551616) (h : ReadsAs l n) (e : prW n = l) : ParseP l n true := ⟨hn, .inl ⟨rfl, e, (h n hn e).symm, h⟩⟩
theorem noFloat_of {l : List UInt8} {n : Nat} (h : ReadsAs l n) (e : prW n ≠ l) : NoFloat l := fun y hy e2 => by
  have := h y hy e2
  exact e (by rw [this, pr_canon]; exact e2)
theorem parseP_no {l : List UInt8} (h : NoFloat l) : ParseP l 0 false := ⟨by omega, .inr ⟨rfl, rfl, h⟩⟩
theorem parseP_same {l : List UInt8} {x y : Nat} {a b : Bool} (h : ParseP l x a) (k : ParseP l y b) : x = y ∧ a = b := by
  obtain ⟨hx, ⟨rfl, h1, h2, h3⟩ | ⟨rfl, rfl, h1⟩⟩ := h
  · obtain ⟨hy, ⟨rfl, k1, k2, k3⟩ | ⟨rfl, rfl, k1⟩⟩ := k
    · exact ⟨by rw [h3 y hy k1, k2], rfl⟩
    · exact absurd h1 (k1 x hx)
  · obtain ⟨hy, ⟨rfl, k1, k2, k3⟩ | ⟨rfl, rfl, k1⟩⟩ := k
    · exact absurd k1 (h1 y hy)
    · exact ⟨rfl, rfl⟩
/-- a float's text is read as the good float -/
theorem parseP_pr {u x : Nat} {ok : Bool} (hu : u < 18446744073709551616) (h : ParseP (prW u) x ok) : x = canonW u ∧ ok = true := by
  obtain ⟨hx, ⟨rfl, h1, h2, h3⟩ | ⟨rfl, rfl, h1⟩⟩ := h
  · exact ⟨h3 u hu rfl, rfl⟩
  · exact absurd rfl (h1 u hu)
end Go.Proofs.YtfmhdnefcapjgaaGreatDoor
/- Contracts of strconv.ParseUint at base 16 and 64 bits and of order's read. Conditions: fewer than 2^48 bytes; the error variables are errors. -/
set_option maxRecDepth 100000
namespace Go.Proofs.YtfmhdnefcapjgaaGreatDoor
open Go.RowKit

theorem str_list (s : ByteArray) : s.toList = s.data.toList := by obtain ⟨⟨l⟩⟩ := s; simp
theorem parseUint_empty (w : World) : Calls Tryz.prog 66 #[.string ⟨#[]⟩, .int .i64 16, .int .i64 64] w fun e w' => e = .returned (.tuple #[.int .u64 0, .iface 120 (.int .i64 2)]) ∧ w = w' := by
  go_enter Tryz.func66, Tryz.ntmps66
  go_wp2_with fail
  go_ret2
  exact ⟨rfl, rfl⟩
theorem parseUint_any (t : ByteArray) (hmax : t.size ≤ 9223372036854775806) (w : World) :
    Calls Tryz.prog 66 #[.string t, .int .i64 16, .int .i64 64] w fun e w' => ∃ x ev, e = .returned (.tuple #[.int .u64 x, ev]) ∧ Read t.data.toList x ev ∧ Below w.heap.size w w' := by
  by_cases h0 : t.size = 0
  · have ht : t = ⟨#[]⟩ := by
      obtain ⟨⟨l⟩⟩ := t
      cases l with
      | nil => rfl
      | cons _ _ => simp [ByteArray.size] at h0
    subst ht
    refine (parseUint_empty w).mono fun e w' ⟨he, hw⟩ => ⟨0, _, he, ⟨by omega, by omega, .inr ⟨.inl rfl, fun c _ e => ?_⟩⟩, by subst hw; exact Below.refl _ _⟩
    have := congrArg List.length e
    rw [hexN_len] at this
    simp at this
  · exact parseUint_in t h0 hmax w
/-- what strconv.ParseUint answers -/
def ReadE (bs : List UInt8) (x : Int) (ev : Value) : Prop :=
  0 ≤ x ∧ x < 18446744073709551616 ∧ ((ev = .nilIface ∧ ∀ c < 18446744073709551616, bs = hexN 16 c → x = (c : Int)) ∨ ((∃ te pe, ev = .iface te pe) ∧ NoHex bs))
theorem parseUintE_any (t : ByteArray) (hmax : t.size ≤ 281474976710656) {w : World} (hv : Vars w) :
    Calls Tryz.prog 50 #[.string t, .int .i64 16, .int .i64 64] w fun e w' => ∃ x ev, e = .returned (.tuple #[.int .u64 x, ev]) ∧ ReadE t.data.toList x ev ∧ Below w.heap.size w w' := by
  have K := parseUint_any t (by omega) w
  have HV := Lib.hid hv
  have HM := Lib.hid hmax
  clear hv hmax
  go_enter Tryz.func50, Tryz.ntmps50
  go_wp2_with fail
  refine K.mono ?_
  rintro e w1 ⟨x, ev, rfl, hr, b1⟩
  have HV1 := Lib.hid (HV.out.below b1)
  have HB := Lib.hid b1
  have HX := Lib.hid (And.intro hr.1 hr.2.1)
  obtain ⟨_, _, ⟨rfl, h⟩ | ⟨h, hno⟩⟩ := hr
  · have HC := Lib.hid h
    clear h b1 K
    go_wp2_with fail
    go_ret2
    exact ⟨x, _, rfl, ⟨HX.out.1, HX.out.2, .inl ⟨rfl, HC.out⟩⟩, HB.out⟩
  · have HN := Lib.hid hno
    clear hno b1 K
    rcases h with rfl | rfl
    · obtain ⟨_, ⟨v, hv1, hv2⟩, _⟩ := HV1.out
      have K2 := Tryz.strconv_toError_syntax ⟨#[80, 97, 114, 115, 101, 85, 105, 110, 116]⟩ t 16 64 v w1 HM.out hv1 hv2
      clear hv1 hv2
      go_wp2_with fail
      refine K2.mono ?_
      rintro e w2 ⟨N, rfl, _, _, b2⟩
      have HB2 := Lib.hid (HB.out.trans (b2.mono HB.out.size))
      clear b2 K2
      go_wp2_with fail
      go_ret2
      exact ⟨x, _, rfl, ⟨HX.out.1, HX.out.2, .inr ⟨⟨_, _, rfl⟩, HN.out⟩⟩, HB2.out⟩
    · obtain ⟨_, _, ⟨v, hv1, hv2⟩⟩ := HV1.out
      have K2 := Tryz.strconv_toError_range ⟨#[80, 97, 114, 115, 101, 85, 105, 110, 116]⟩ t 16 64 v w1 HM.out hv1 hv2
      clear hv1 hv2
      go_wp2_with fail
      refine K2.mono ?_
      rintro e w2 ⟨N, rfl, _, _, b2⟩
      have HB2 := Lib.hid (HB.out.trans (b2.mono HB.out.size))
      clear b2 K2
      go_wp2_with fail
      go_ret2
      exact ⟨x, _, rfl, ⟨HX.out.1, HX.out.2, .inr ⟨⟨_, _, rfl⟩, HN.out⟩⟩, HB2.out⟩
end Go.Proofs.YtfmhdnefcapjgaaGreatDoor
/- Contract of strconv.FormatUint at base 16. Conditions: the tables as the program's text lays them. -/
set_option maxRecDepth 100000
namespace Go.Proofs.YtfmhdnefcapjgaaGreatDoor
open Go.RowKit

/-- a text of 65 bytes in a new block -/
def FS (w wr : World) (xs : List UInt8) : Prop :=
  wr.heap[w.heap.size]? = some (.cells (u8s xs).toArray 146 (0, 0)) ∧ Below w.heap.size w wr
theorem FS.text {w wr : World} {xs : List UInt8} (h : FS w wr xs) {j : Nat} (hj : j < xs.length) : wr.cell? ⟨w.heap.size, j, none⟩ = some (.int .u8 (xs[j].toNat : Int)) ∧ wr.frozen? ⟨w.heap.size, j, none⟩ = false :=
  ⟨by rw [cell_of_row _ _ _ _ _ _ h.1]; simp [u8s, hj], free_of_row h.1 j⟩
theorem FS.put {w wr : World} {xs : List UInt8} (h : FS w wr xs) (j : Nat) (c : UInt8) : FS w (wr.setCell ⟨w.heap.size, j, none⟩ (.int .u8 (c.toNat : Int))) (xs.set j c) := by
  refine ⟨?_, h.2.setCell (by simp) _⟩
  rw [heap_set h.1]
  congr 2
  apply Array.toList_inj.1
  simp [u8s, List.map_set]
theorem FS.holds {w wr : World} {xs : List UInt8} (h : FS w wr xs) (j : Nat) (hj : j ≤ xs.length) : Holds wr (.slice (some ⟨w.heap.size, j, none⟩) (xs.length - j) (xs.length - j)) (u8s (xs.drop j)) := by
  have h0 : Holds wr (.slice (some ⟨w.heap.size, 0, none⟩) xs.length xs.length) (u8s xs) := Holds.of_heap h.1 rfl _ _ (u8s_len xs).symm (Nat.le_refl _)
  have h1 := h0.drop j hj
  rw [Addr.add_at, Nat.zero_add] at h1
  have e : (u8s xs).drop j = u8s (xs.drop j) := by simp [u8s, List.map_drop]
  rw [e] at h1
  exact h1
theorem zero65 : Tryz.zeroCells146 = (u8s (List.replicate 65 0)).toArray := by kernel_rfl
theorem FS.new (w : World) : FS w (w.alloc (.cells Tryz.zeroCells146 146)) (List.replicate 65 0) := by
  rw [zero65]; exact ⟨alloc1 _ _, (Below.refl _ _).alloc (Nat.le_refl _) _⟩
theorem drop_set_here {xs : List UInt8} {j : Nat} (hj : j < xs.length) (c : UInt8) : (xs.set j c).drop j = c :: xs.drop (j + 1) := by
  rw [List.drop_eq_getElem_cons (by simpa using hj), List.drop_set, if_pos (by omega)]
  simp
theorem toStr' {w : World} {v : Value} {l : List UInt8} (h : Holds w v (u8s l)) : (convert 33 9 v).run Tryz.prog w = .ok (.string ⟨l.toArray⟩) w :=
  str_of_holds Tryz.underlying33 Tryz.underlying5 Tryz.underlying9 h
theorem slice65 (b j : Nat) (hj : j ≤ 64) (w : World) : (Instr.sliceAt 146 (.pointer (some ⟨b, 0, none⟩)) (some (.int .i64 (j : Int))) none none).run Tryz.prog w = .ok (.slice (some ⟨b, j, none⟩) (65 - j) (65 - j)) w := by
  have hl : Tryz.prog.arrayLen 146 = 65 := by kernel_rfl
  have he : Tryz.prog.elem 146 = 5 := by kernel_rfl
  rw [run_sliceAt_array_l w 146 ⟨b, 0, none⟩ (by kernel_rfl) .i64 (j : Int) (by omega) (by rw [hl]; omega), he, Tryz.sizeOf5, hl]
  simp only [Result.andThen, slicedAt, Int.toNat_natCast, Nat.mul_one, Addr.add_at, Nat.zero_add]
  rw [if_neg (by omega)]
theorem and15 (u : Nat) (h : u < 18446744073709551616) : bits .and .u64 (u : Int) 15 = ((u % 16 : Nat) : Int) := by
  have e := and_u64 u 15 h (by omega)
  have h2 : u &&& 15 = u % 16 := Nat.and_two_pow_sub_one_eq_mod u 4
  rw [h2] at e
  exact e
theorem digit_run : ∀ d < 16, ∀ w, (Instr.index 9 (.string ⟨#[48, 49, 50, 51, 52, 53, 54, 55, 56, 57, 97, 98, 99, 100, 101, 102, 103, 104, 105, 106, 107, 108, 109, 110, 111, 112, 113, 114, 115, 116, 117, 118, 119, 120, 121, 122]⟩) (.int .u64 ((d : Nat) : Int))).run Tryz.prog w = .ok (.int .u8 ((hexd d).toNat : Int)) w := by
  intro d hd w
  rw [run_index_string w 9 _ .u64 _ Tryz.underlying9, dif_pos ⟨by omega, by show ((d : Nat) : Int) < 36; omega⟩]
  have key : ∀ d < 16, ((⟨#[48, 49, 50, 51, 52, 53, 54, 55, 56, 57, 97, 98, 99, 100, 101, 102, 103, 104, 105, 106, 107, 108, 109, 110, 111, 112, 113, 114, 115, 116, 117, 118, 119, 120, 121, 122]⟩ : ByteArray).data[d]? = some (hexd d)) := by decide
  have h := key d hd
  rw [Array.getElem?_eq_getElem (by show d < 36; omega)] at h
  have h2 := Option.some.inj h
  congr 3
  exact congrArg UInt8.toNat h2
set_option maxHeartbeats 1600000 in
theorem formatBits_any {w : World} (hv : Tab w) (U : Nat) (hU : U < 18446744073709551616) : Calls Tryz.prog 91 #[.slice none 0 0, .int .u64 (U : Int), .int .i64 16, .bool false, .bool false] w fun e w' => ∃ k, 1 ≤ k ∧ k ≤ 16 ∧ U < 16 ^ k ∧ e = .returned (.tuple #[.slice none 0 0, .string ⟨(hexN k U).toArray⟩]) ∧ Below w.heap.size w w' := by
  have hn := Lib.hid (FS.new w)
  have HU := Lib.hid hU
  have K1 := fun w => pow2_16 w
  have K2 := tz_16 (hv.below ((Below.refl _ _).alloc (Nat.le_refl _) (.cells Tryz.zeroCells146 146)))
  clear hU hv
  go_enter Tryz.func91, Tryz.ntmps91
  go_wp2_with fail
  refine (K1 _).mono ?_; rintro e w' ⟨rfl, rfl⟩
  go_wp2_with fail
  refine K2.mono ?_; rintro e w' ⟨rfl, rfl⟩
  go_wp2_with fail
  clear K1 K2
  go_loopw [1, 13] (fun u i wr => ∃ (j : Nat) (xs : List UInt8), 49 ≤ j ∧ j ≤ 64 ∧ u = .int .u64 ((U / 16 ^ (64 - j) : Nat) : Int) ∧ i = .int .i64 ((j : Int) + 1) ∧ Hid (FS w wr xs ∧ xs.length = 65 ∧ xs.drop (j + 1) = hexN (64 - j) U)) (fun u _ _ => (intOf u).toNat)
  case atStart => exact ⟨64, List.replicate 65 0, by omega, by omega, by rw [Nat.sub_self, Nat.pow_zero, Nat.div_one], rfl, Lib.hid ⟨hn.out, rfl, rfl⟩⟩
  case round =>
    clear hn
    obtain ⟨j, xs, hj1, hj2, rfl, rfl, HR⟩ := hrel
    obtain ⟨V, hV⟩ : ∃ V, U / 16 ^ (64 - j) = V := ⟨_, rfl⟩
    rw [hV]
    have hVb : V < 18446744073709551616 := by have := HU.out; have := Nat.div_le_self U (16 ^ (64 - j)); omega
    have ka := and15 V hVb
    obtain ⟨d, hd⟩ : ∃ d, V % 16 = d := ⟨_, rfl⟩
    rw [hd] at ka
    have kd := digit_run d (by omega)
    have hf := HR.out.1.put j (hexd d)
    have ht := HR.out.1.text (j := j) (by rw [HR.out.2.1]; omega)
    have HV := Lib.hid (And.intro hV hd)
    clear hV hd
    by_cases h16 : 16 ≤ V
    · have t0 : decide (16 ≤ V) = true := decide_eq_true h16
      have hj3 : 50 ≤ j := by
        have h1 := HU.out
        have h2 := HV.out.1
        rcases Nat.lt_or_ge j 50 with h3 | h3
        · have : j = 49 := by omega
          subst this
          have : V < 16 := by rw [← h2]; exact Nat.div_lt_of_lt_mul (by omega)
          omega
        · exact h3
      have HS := Lib.hid (And.intro hf (And.intro (show (xs.set j (hexd d)).length = 65 by rw [List.length_set]; exact HR.out.2.1) (show (xs.set j (hexd d)).drop j = hexN (65 - j) U by
        rw [drop_set_here (by rw [HR.out.2.1]; omega), HR.out.2.2, show 65 - j = 64 - j + 1 by omega, hexN_succ, HV.out.1, HV.out.2])))
      clear hf
      go_wp2_with fail
      refine ⟨⟨j - 1, xs.set j (hexd d), by omega, by omega, ?_, ?_, ?_⟩, ?_⟩
      · have e1 : U / 16 ^ (64 - (j - 1)) = V / 16 := by
          rw [← HV.out.1, show 64 - (j - 1) = 64 - j + 1 by omega, Nat.pow_succ, Nat.div_div_eq_div_mul]
        rw [e1]; go_num
      · rw [show (j : Int) = ((j - 1 : Nat) : Int) + 1 by omega]
      · rw [show j - 1 + 1 = j by omega, show 64 - (j - 1) = 65 - j by omega]; exact HS
      · simp only [intOf]; omega
    · have t0 : decide (16 ≤ V) = false := decide_eq_false h16
      obtain rfl : V = d := by have := HV.out.2; omega
      have h9 : (xs.set j (hexd V)).drop j = hexN (65 - j) U := by
        rw [drop_set_here (by rw [HR.out.2.1]; omega), HR.out.2.2, show 65 - j = 64 - j + 1 by omega, hexN_succ, HV.out.1, HV.out.2]
      have k3 := toStr' (hf.holds j (by rw [List.length_set, HR.out.2.1]; omega))
      rw [List.length_set, HR.out.2.1, h9] at k3
      have ks := fun w' => slice65 w.heap.size j hj2 w'
      have HB := Lib.hid hf.2
      have hlt : U < 16 ^ (65 - j) := by
        have h1 := HV.out.1
        rw [show 65 - j = 64 - j + 1 by omega, Nat.pow_succ]
        have h2 : U / 16 ^ (64 - j) < 16 := by omega
        have h3 := (Nat.div_lt_iff_lt_mul (Nat.pow_pos (n := 64 - j) (show 0 < 16 by decide))).1 h2
        rw [Nat.mul_comm]; exact h3
      have HL := Lib.hid hlt
      clear hf h9 hlt
      go_wp2_with fail
      go_ret2
      exact ⟨65 - j, by omega, by omega, HL.out, rfl, HB.out⟩
theorem formatUint_any {w : World} (hv : Tab w) (U : Nat) (hU : U < 18446744073709551616) : Calls Tryz.prog 53 #[.int .u64 (U : Int), .int .i64 16] w fun e w' => ∃ k, 1 ≤ k ∧ k ≤ 16 ∧ U < 16 ^ k ∧ e = .returned (.string ⟨(hexN k U).toArray⟩) ∧ Below w.heap.size w w' := by
  have K : Calls Tryz.prog 69 #[.int .u64 (U : Int), .int .i64 16] w fun e w' => ∃ k, 1 ≤ k ∧ k ≤ 16 ∧ U < 16 ^ k ∧ e = .returned (.string ⟨(hexN k U).toArray⟩) ∧ Below w.heap.size w w' := by
    have K := formatBits_any hv U hU
    clear hv hU
    go_enter Tryz.func69, Tryz.ntmps69
    go_wp2_with fail
    refine K.mono ?_
    rintro e w' ⟨k, h1, h2, h3, rfl, h4⟩
    have H := Lib.hid (And.intro h1 (And.intro h2 (And.intro h3 h4)))
    clear h1 h2 h3 h4
    go_wp2_with fail
    go_ret
    exact ⟨k, H.out.1, H.out.2.1, H.out.2.2.1, rfl, H.out.2.2.2⟩
  clear hv hU
  go_enter Tryz.func53, Tryz.ntmps53
  go_wp2_with fail
  refine K.mono ?_
  rintro e w' ⟨k, h1, h2, h3, rfl, h4⟩
  have H := Lib.hid (And.intro h1 (And.intro h2 (And.intro h3 h4)))
  clear h1 h2 h3 h4
  go_wp2_with fail
  go_ret
  exact ⟨k, H.out.1, H.out.2.1, H.out.2.2.1, rfl, H.out.2.2.2⟩
end Go.Proofs.YtfmhdnefcapjgaaGreatDoor
/- Contract of order.Print. Conditions: the tables as the program's text lays them. -/
set_option maxRecDepth 100000
namespace Go.Proofs.YtfmhdnefcapjgaaGreatDoor
open Go.RowKit

theorem str_app (a b : List UInt8) : (⟨a.toArray⟩ ++ ⟨b.toArray⟩ : ByteArray) = ⟨(a ++ b).toArray⟩ := by
  apply ByteArray.ext
  simp
theorem ret_str {a b : ByteArray} (h : a = b) : Ending.returned (.string a) = .returned (.string b) := by rw [h]
theorem rep48 (n : Nat) : Lib.repeatL [48] n = List.replicate n (48 : UInt8) := by
  induction n with
  | zero => rfl
  | succ n ih => first | (rw [List.replicate_succ, ← ih]; rfl) | (simp [Lib.repeatL, ih])
theorem repeat_any (k : Nat) (hk : k ≤ 16) (w : World) : Calls Tryz.prog 54 #[.string ⟨#[48]⟩, .int .i64 (16 - (k : Int))] w fun e w' => e = .returned (.string ⟨(List.replicate (16 - k) (48 : UInt8)).toArray⟩) ∧ Below w.heap.size w w' := by
  have h := Tryz.strings_Repeat ⟨#[48]⟩ (16 - k) w (by omega) (by show 1 * (16 - k) ≤ _; omega)
  rw [show ((16 - k : Nat) : Int) = 16 - (k : Int) by omega] at h
  rw [← rep48]
  exact h
set_option maxHeartbeats 800000 in
theorem print_any {w : World} (hv : Tab w) (u : Nat) (hu : u < 18446744073709551616) : Calls Tryz.prog 37 #[.int .i64 (iw u)] w fun e w' => e = .returned (.string ⟨(prW u).toArray⟩) ∧ Below w.heap.size w w' := by
  have K1 := fun w => canon_any u hu w
  have hc := canon_lt u hu
  have hn := nan_canon u
  obtain ⟨P, hP⟩ : ∃ P, P = prW u := ⟨_, rfl⟩
  rw [← hP]
  unfold prW at hP
  have ci := @canon_infs u
  obtain ⟨c, hcc⟩ : ∃ c, c = canonW u := ⟨_, rfl⟩
  rw [← hcc] at K1 hc hn hP ci
  clear hcc
  have K2 := fun w => float_any c hc w
  have K3 := fun w => isNaN_any c hc w
  rw [hn] at K3
  cases h : nanW u
  · rw [h] at hn K3 hP
    have ci := ci h
    have K4 := fun w => inf1_any c hc hn w
    have K5 := fun w => infm_any c hc hn w
    rw [if_neg (by decide)] at hP
    clear h hn
    by_cases h1 : u = 9218868437227405312
    · rw [if_pos h1] at hP
      rw [decide_eq_true ((ci _ (.inl rfl)).2 h1)] at K4
      subst hP
      clear ci hv hc h1 K5
      go_enter Tryz.func37, Tryz.ntmps37
      go_wp2_with fail
      refine (K1 _).mono ?_; rintro e w' ⟨rfl, rfl⟩; go_wp2_with fail
      refine (K2 _).mono ?_; rintro e w' ⟨rfl, rfl⟩; go_wp2_with fail
      refine (K3 _).mono ?_; rintro e w' ⟨rfl, rfl⟩; go_wp2_with fail
      refine (K4 _).mono ?_; rintro e w' ⟨rfl, rfl⟩; go_wp2_with fail
      go_ret
      exact ⟨rfl, Below.refl _ _⟩
    · rw [if_neg h1] at hP
      rw [decide_eq_false (fun h => h1 ((ci _ (.inl rfl)).1 h))] at K4
      by_cases h2 : u = 18442240474082181120
      · rw [if_pos h2] at hP
        rw [decide_eq_true ((ci _ (.inr rfl)).2 h2)] at K5
        subst hP
        clear ci hv hc h1 h2
        go_enter Tryz.func37, Tryz.ntmps37
        go_wp2_with fail
        refine (K1 _).mono ?_; rintro e w' ⟨rfl, rfl⟩; go_wp2_with fail
        refine (K2 _).mono ?_; rintro e w' ⟨rfl, rfl⟩; go_wp2_with fail
        refine (K3 _).mono ?_; rintro e w' ⟨rfl, rfl⟩; go_wp2_with fail
        refine (K4 _).mono ?_; rintro e w' ⟨rfl, rfl⟩; go_wp2_with fail
        refine (K5 _).mono ?_; rintro e w' ⟨rfl, rfl⟩; go_wp2_with fail
        go_ret
        exact ⟨rfl, Below.refl _ _⟩
      · rw [if_neg h2] at hP
        rw [decide_eq_false (fun h => h2 ((ci _ (.inr rfl)).1 h))] at K5
        have K6 := formatUint_any hv c hc
        have hb := bits_run c
        have HP := Lib.hid hP
        clear ci hv hc h1 h2 hP
        go_enter Tryz.func37, Tryz.ntmps37
        go_wp2_with fail
        refine (K1 _).mono ?_; rintro e w' ⟨rfl, rfl⟩; go_wp2_with fail
        refine (K2 _).mono ?_; rintro e w' ⟨rfl, rfl⟩; go_wp2_with fail
        refine (K3 _).mono ?_; rintro e w' ⟨rfl, rfl⟩; go_wp2_with fail
        refine (K4 _).mono ?_; rintro e w' ⟨rfl, rfl⟩; go_wp2_with fail
        refine (K5 _).mono ?_; rintro e w' ⟨rfl, rfl⟩; go_wp2_with fail
        refine K6.mono ?_
        rintro e w1 ⟨k, k1, k2, k3, rfl, b1⟩
        have hsz : (⟨(hexN k c).toArray⟩ : ByteArray).size = k := by show (hexN k c).toArray.size = k; rw [List.size_toArray, hexN_len]
        obtain ⟨S, hS⟩ : ∃ S : ByteArray, S = ⟨(hexN k c).toArray⟩ := ⟨_, rfl⟩
        rw [← hS] at hsz ⊢
        have K7 := fun w => repeat_any k k2 w
        obtain ⟨R, hR⟩ : ∃ R : ByteArray, R = ⟨(List.replicate (16 - k) (48 : UInt8)).toArray⟩ := ⟨_, rfl⟩
        rw [← hR] at K7
        have hRz : R.size = 16 - k := by rw [hR]; show (List.replicate (16 - k) (48 : UInt8)).toArray.size = _; rw [List.size_toArray, List.length_replicate]
        have hQz : ((⟨#[48, 102]⟩ : ByteArray) ++ R).size = 18 - k := by
          rw [ByteArray.size_append, hRz]; show 2 + (16 - k) = _; omega
        have HE : Hid ((⟨#[48, 102]⟩ : ByteArray) ++ R ++ S = ⟨P.toArray⟩) := Lib.hid (by
          rw [hR, hS, show (⟨#[48, 102]⟩ : ByteArray) = ⟨([48, 102] : List UInt8).toArray⟩ from rfl, str_app, str_app, HP.out, List.append_assoc, ← hexN_pad c k (16 - k) k3, show k + (16 - k) = 16 by omega])
        have B1 := Lib.hid b1
        clear hS hR HP k3 k1 b1 K1 K2 K3 K4 K5 K6 hb
        go_wp2_with fail
        refine (K7 _).mono ?_
        rintro e w2 ⟨rfl, b2⟩
        have B2 := Lib.hid (B1.out.trans (b2.mono B1.out.size))
        clear b2
        go_wp2_with fail
        go_ret
        exact ⟨ret_str HE.out, B2.out⟩
  · rw [h] at K3 hP
    rw [if_pos rfl] at hP
    subst hP
    clear hv hc ci h hn
    go_enter Tryz.func37, Tryz.ntmps37
    go_wp2_with fail
    refine (K1 _).mono ?_; rintro e w' ⟨rfl, rfl⟩; go_wp2_with fail
    refine (K2 _).mono ?_; rintro e w' ⟨rfl, rfl⟩; go_wp2_with fail
    refine (K3 _).mono ?_; rintro e w' ⟨rfl, rfl⟩; go_wp2_with fail
    go_ret
    exact ⟨rfl, Below.refl _ _⟩
end Go.Proofs.YtfmhdnefcapjgaaGreatDoor
/- Contracts of order's read and Parse. Conditions: fewer than 2^48 bytes; the tables and error variables as the program's text lays them. -/
set_option maxRecDepth 100000
namespace Go.Proofs.YtfmhdnefcapjgaaGreatDoor
open Go.RowKit

/-- what read answers -/
def ReadP (l : List UInt8) (n : Nat) (ok : Bool) : Prop := n < 18446744073709551616 ∧ ((ok = true ∧ ReadsAs l n) ∨ (ok = false ∧ NoFloat l))
def ReadPost (l : List UInt8) (w : World) (e : Ending) (w' : World) : Prop := ∃ n ok, e = .returned (.tuple #[.int .i64 (iw n), .bool ok]) ∧ ReadP l n ok ∧ Below w.heap.size w w'
theorem eq_false {l m : List UInt8} (h : l ≠ m) : (l == m) = false := by rw [beq_eq_false_iff_ne]; exact h
theorem drew_below {w w1 : World} (h : Below w.heap.size w w1) (n : Nat) : Below w.heap.size w (w1.drewN n) := ⟨h.os, h.tape, h.output, h.size, h.block⟩
set_option maxHeartbeats 800000 in
theorem read_any (s : ByteArray) (hmax : s.size ≤ 281474976710656) {w : World} (hv : Vars w) :
    Calls Tryz.prog 36 #[.string s] w (ReadPost s.data.toList w) := by
  have hl := str_list s
  obtain ⟨l, hl2⟩ : ∃ l, s.data.toList = l := ⟨_, rfl⟩
  have K1 := fun w => Tryz.strings_CutPrefix s ⟨#[48, 102]⟩ w
  have hlen : l.length ≤ 281474976710656 := by rw [← hl2, ← Lib.size_eq]; exact hmax
  rw [hl2] at hl K1 ⊢
  clear hl2 hmax
  by_cases n1 : l = [78, 65, 78]
  · have t1 : (l == [78, 65, 78]) = true := by rw [n1]; rfl
    have HR : Hid (ReadP l 9221120237041090560 true) := Lib.hid ⟨by decide, .inl ⟨rfl, by rw [n1]; exact reads_nan⟩⟩
    clear K1 hv hlen n1
    go_enter Tryz.func36, Tryz.ntmps36
    go_wp2_with fail
    go_ret2
    exact ⟨9221120237041090560, true, rfl, HR.out, Below.refl _ _⟩
  · have t1 := eq_false n1
    by_cases n2 : l = [73, 78, 70]
    · have t2 : (l == [73, 78, 70]) = true := by rw [n2]; rfl
      have HR : Hid (ReadP l 9218868437227405312 true) := Lib.hid ⟨by decide, .inl ⟨rfl, by rw [n2]; exact reads_inf⟩⟩
      have hb : ∀ w, (callFunc 48 #[.float .f64 9218868437227405312]).run Tryz.prog w = .ok (.value (.int .u64 9218868437227405312)) w := fun w => bits_run 9218868437227405312 w
      clear K1 hv hlen n1 n2
      go_enter Tryz.func36, Tryz.ntmps36
      go_wp2_with fail
      refine (inf1_word _).mono ?_; rintro e w' ⟨rfl, rfl⟩; go_wp2_with fail
      go_ret2
      exact ⟨9218868437227405312, true, rfl, HR.out, Below.refl _ _⟩
    · have t2 := eq_false n2
      by_cases n3 : l = [45, 73, 78, 70]
      · have t3 : (l == [45, 73, 78, 70]) = true := by rw [n3]; rfl
        have HR : Hid (ReadP l 18442240474082181120 true) := Lib.hid ⟨by decide, .inl ⟨rfl, by rw [n3]; exact reads_minf⟩⟩
        have hb : ∀ w, (callFunc 48 #[.float .f64 18442240474082181120]).run Tryz.prog w = .ok (.value (.int .u64 18442240474082181120)) w := fun w => bits_run 18442240474082181120 w
        have hw : IntKind.i64.wrap 18442240474082181120 = iw 18442240474082181120 := iw_i64 18442240474082181120 (by decide)
        clear K1 hv hlen n1 n2 n3
        go_enter Tryz.func36, Tryz.ntmps36
        go_wp2_with fail
        refine (infm_word _).mono ?_; rintro e w' ⟨rfl, rfl⟩; go_wp2_with fail
        go_ret2
        exact ⟨18442240474082181120, true, rfl, HR.out, Below.refl _ _⟩
      · have t3 := eq_false n3
        obtain ⟨p, hp⟩ : ∃ p, Lib.hasPrefix l [48, 102] = p := ⟨_, rfl⟩
        obtain ⟨hex, hx⟩ : ∃ hex, Lib.trimPrefix l [48, 102] = hex := ⟨_, rfl⟩
        have hhx : hex.length ≤ 281474976710656 := by rw [← hx]; exact Nat.le_trans (Lib.trimPrefix_le l _) hlen
        have hpre : (p = true ∧ l = [48, 102] ++ hex) ∨ (p = false ∧ ∀ hex, l ≠ [48, 102] ++ hex) := by
          cases p with
          | true =>
            refine .inl ⟨rfl, ?_⟩
            rw [← hx]
            unfold Lib.trimPrefix
            rw [hp, if_pos rfl]
            obtain ⟨r, hr⟩ := List.isPrefixOf_iff_prefix.1 (show List.isPrefixOf [48, 102] l = true from hp)
            rw [← hr]; rfl
          | false =>
            refine .inr ⟨rfl, fun hex e => ?_⟩
            have : List.isPrefixOf [48, 102] l = true := List.isPrefixOf_iff_prefix.2 ⟨hex, e.symm⟩
            rw [show List.isPrefixOf [48, 102] l = false from hp] at this
            cases this
        have K1 : ∀ w, Calls Tryz.prog 26 #[.string s, .string ⟨#[48, 102]⟩] w fun e w' => e = .returned (.tuple #[.string ⟨hex.toArray⟩, .bool p]) ∧ w' = w := by rw [← hx, ← hp]; exact K1
        have K2 := parseUintE_any ⟨hex.toArray⟩ (by show hex.toArray.size ≤ _; rw [List.size_toArray]; exact hhx) hv
        have N1 := Lib.hid (And.intro n1 (And.intro n2 n3))
        have HP := Lib.hid hpre
        clear hv hlen n1 n2 n3 hp hx hhx hpre
        go_enter Tryz.func36, Tryz.ntmps36
        go_wp2_with fail
        refine (K1 _).mono ?_; rintro e w' ⟨rfl, rfl⟩; go_wp2_with fail
        refine K2.mono ?_
        rintro e w1 ⟨x, ev, rfl, hr, b1⟩
        have HB := Lib.hid b1
        obtain ⟨x0, x1, hr⟩ := hr
        obtain ⟨n, rfl⟩ : ∃ n : Nat, x = n := ⟨x.toNat, by omega⟩
        have hn : n < 18446744073709551616 := by omega
        have hw := iw_i64 n hn
        have HN := Lib.hid hn
        clear b1 K1 K2 x0 x1 hn
        have hcase : (p = true ∧ ev = .nilIface ∧ ReadP l n true) ∨ (p = true ∧ (∃ te pe, ev = .iface te pe) ∧ ReadP l n false) ∨ (p = false ∧ ReadP l n false) := by
          rcases HP.out with ⟨h1, h2⟩ | ⟨h1, h2⟩
          · rcases hr with ⟨h3, h4⟩ | ⟨h3, h4⟩
            · exact .inl ⟨h1, h3, HN.out, .inl ⟨rfl, reads_hex N1.out.1 N1.out.2.1 N1.out.2.2 h2 (fun c hc e => by have := h4 c hc e; omega)⟩⟩
            · exact .inr (.inl ⟨h1, h3, HN.out, .inr ⟨rfl, no_hex N1.out.1 N1.out.2.1 N1.out.2.2 h2 h4⟩⟩)
          · exact .inr (.inr ⟨h1, HN.out, .inr ⟨rfl, no_prefix N1.out.1 N1.out.2.1 N1.out.2.2 h2⟩⟩)
        clear hr HP HN N1
        rcases hcase with ⟨rfl, rfl, h⟩ | ⟨rfl, ⟨te, pe, rfl⟩, h⟩ | ⟨rfl, h⟩
        · have HR := Lib.hid h
          clear h
          go_wp2_with fail
          go_quiet (fail)
          go_wp2_with fail
          go_ret2
          exact ⟨n, true, rfl, HR.out, drew_below HB.out _⟩
        · have HR := Lib.hid h
          clear h
          go_wp2_with fail
          go_quiet (fail)
          go_wp2_with fail
          go_ret2
          exact ⟨n, false, rfl, HR.out, drew_below HB.out _⟩
        · have HR := Lib.hid h
          clear h
          go_wp2_with fail
          go_quiet (fail)
          go_wp2_with fail
          go_ret2
          exact ⟨n, false, rfl, HR.out, drew_below HB.out _⟩
def ParsePost (l : List UInt8) (w : World) (e : Ending) (w' : World) : Prop := ∃ x ok, e = .returned (.tuple #[.int .i64 (iw x), .bool ok]) ∧ ParseP l x ok ∧ Below w.heap.size w w'
theorem toList_mk (l : List UInt8) : (⟨l.toArray⟩ : ByteArray).toList = l := by rw [str_list]
theorem parse_any (s : ByteArray) (hmax : s.size ≤ 281474976710656) {w : World} (hv : Vars w) :
    Calls Tryz.prog 23 #[.string s] w (ParsePost s.data.toList w) := by
  have hl := str_list s
  have K := read_any s hmax hv
  have HV := Lib.hid hv
  obtain ⟨l, hl2⟩ : ∃ l, s.data.toList = l := ⟨_, rfl⟩
  rw [hl2] at hl K ⊢
  clear hl2 hmax hv
  go_enter Tryz.func23, Tryz.ntmps23
  go_wp2_with fail
  refine K.mono ?_
  rintro e w1 ⟨n, ok, rfl, ⟨hn, hr⟩, b1⟩
  have HB := Lib.hid b1
  rcases hr with ⟨rfl, h⟩ | ⟨rfl, h⟩
  · have K2 := print_any (HV.out.below b1).tab n hn
    have ht := toList_mk (prW n)
    by_cases e2 : prW n = l
    · have t1 : (prW n == l) = true := by rw [e2]; simp
      have t2 : (prW n != l) = false := by rw [e2]; simp
      have HR := Lib.hid (parseP_yes hn h e2)
      generalize prW n = P at K2 ht t1 t2
      clear b1 K hn h e2
      go_wp2_with fail
      refine K2.mono ?_
      rintro e w2 ⟨rfl, b2⟩
      have HB2 := Lib.hid (HB.out.trans (b2.mono HB.out.size))
      clear b2 K2
      go_wp2_with fail
      go_ret2
      exact ⟨n, true, rfl, HR.out, HB2.out⟩
    · have t1 : (prW n == l) = false := eq_false e2
      have t2 : (prW n != l) = true := by rw [bne_iff_ne]; exact e2
      have HR := Lib.hid (parseP_no (noFloat_of h e2))
      generalize prW n = P at K2 ht t1 t2
      clear b1 K hn h e2
      go_wp2_with fail
      refine K2.mono ?_
      rintro e w2 ⟨rfl, b2⟩
      have HB2 := Lib.hid (HB.out.trans (b2.mono HB.out.size))
      clear b2 K2
      go_wp2_with fail
      go_ret2
      exact ⟨0, false, rfl, HR.out, HB2.out⟩
  · have HR := Lib.hid (parseP_no h)
    clear b1 K hn h
    go_wp2_with fail
    go_ret2
    exact ⟨0, false, rfl, HR.out, HB.out⟩
end Go.Proofs.YtfmhdnefcapjgaaGreatDoor
/- Or of two numbers that share no bit is their sum; masks and shifts. Conditions: none. -/
set_option maxRecDepth 100000
namespace Go.Proofs.YtfmhdnefcapjgaaGreatDoor

theorem or_add_u64 (i : Nat) (c a b : Int) (hc : c = 2 ^ i) (ha : 0 ≤ a) (hm : a % c = 0) (hb : 0 ≤ b) (hb2 : b < c) (hs : a + b < 18446744073709551616) : bits .or .u64 a b = a + b := by
  obtain ⟨m, rfl⟩ : ∃ m : Nat, a = (m : Int) := ⟨a.toNat, by omega⟩
  obtain ⟨n, rfl⟩ : ∃ n : Nat, b = (n : Int) := ⟨b.toNat, by omega⟩
  rw [or_u64 m n (by omega) (by omega)]
  have e : c = ((2 ^ i : Nat) : Int) := by rw [hc]; simp
  rw [e] at hm hb2
  have hm' : m % 2 ^ i = 0 := by omega
  have hn : n < 2 ^ i := by omega
  have := Nat.two_pow_add_eq_or_of_lt hn (m / 2 ^ i)
  have hd : 2 ^ i * (m / 2 ^ i) = m := Nat.mul_div_cancel' (Nat.dvd_of_mod_eq_zero hm')
  rw [hd] at this
  omega
theorem mask_u64 (i : Nat) (c d x : Int) (hi : i ≤ 64) (hc : c = 2 ^ i) (hd : d = c - 1) (h0 : 0 ≤ x) (h1 : x < 18446744073709551616) : bits .and .u64 x d = x % c := by
  have := bits_mask .u64 64 (Nat.le_refl _) wu64 i hi x h0 (by omega)
  rw [hd, hc, this]
end Go.Proofs.YtfmhdnefcapjgaaGreatDoor
/- Numbers of 128 bits as two words; contracts of below, Of, least, turned, on both sides. Conditions: none. -/
set_option maxRecDepth 100000
namespace Go.Proofs.YtfmhdnefcapjgaaGreatDoor.Wide
open Go.RowKit

def hiW (N : Int) : Int := N / 18446744073709551616
def loW (N : Int) : Int := N % 18446744073709551616
theorem w_split (N : Int) : hiW N * 18446744073709551616 + loW N = N ∧ 0 ≤ loW N ∧ loW N < 18446744073709551616 := by
  unfold hiW loW; omega
theorem w_of {N h l : Int} (e : h * 18446744073709551616 + l = N) (h0 : 0 ≤ l) (h1 : l < 18446744073709551616) : hiW N = h ∧ loW N = l := by
  unfold hiW loW; omega
abbrev wv (N : Int) : Value := .agg #[.int .i64 (hiW N), .int .u64 (loW N)]
abbrev sv (N : Int) : Value := .agg #[.int .u64 (hiW N), .int .u64 (loW N)]
def fitW (N : Int) : Bool := decide (-170141183460469231731687303715884105728 ≤ N ∧ N < 170141183460469231731687303715884105728)
def ansW (N : Int) : Int := if fitW N then N else 0
theorem fit_iff {N : Int} : fitW N = true ↔ -170141183460469231731687303715884105728 ≤ N ∧ N < 170141183460469231731687303715884105728 := by unfold fitW; exact decide_eq_true_iff
theorem fit_not {N : Int} : fitW N = false ↔ N < -170141183460469231731687303715884105728 ∨ 170141183460469231731687303715884105728 ≤ N := by unfold fitW; rw [decide_eq_false_iff_not]; omega
theorem fit_hi {N : Int} (h : fitW N = true) : -9223372036854775808 ≤ hiW N ∧ hiW N < 9223372036854775808 := by
  have := fit_iff.1 h; unfold hiW; omega
theorem fit_of {h l N : Int} (e : h * 18446744073709551616 + l = N) (h0 : 0 ≤ l) (h1 : l < 18446744073709551616) (h2 : -9223372036854775808 ≤ h) (h3 : h < 9223372036854775808) : fitW N = true := fit_iff.2 (by omega)

theorem below_any (h l : Int) (w : World) : Calls Tryz.prog 57 #[.agg #[.int .i64 h, .int .u64 l]] w fun e w' => e = .returned (.bool (decide (h < 0))) ∧ Below w.heap.size w w' := by
  go_enter Tryz.func57, Tryz.ntmps57
  go_wp2_with fail
  go_ret
  exact ⟨rfl, (Below.refl _ _).alloc (Nat.le_refl _) _⟩
theorem of_any (n : Int) (w : World) (h0 : -9223372036854775808 ≤ n) (h1 : n < 9223372036854775808) : Calls Tryz.prog 40 #[.int .i64 n] w fun e w' => e = .returned (wv n) ∧ Below w.heap.size w w' := by
  go_enter Tryz.func40, Tryz.ntmps40
  go_wp2_with fail
  refine bodyPost_ret (v := wv n) ?_ rfl ⟨rfl, (Below.refl _ _).alloc (Nat.le_refl _) _⟩
  simp [results, Tryz.results40, go_sem, hiW, loW, IntKind.wrap_u64]
  omega
theorem not_int (x : Int) (h0 : 0 ≤ x) (h1 : x < 18446744073709551616) : bits .xor .u64 IntKind.u64.max x = 18446744073709551615 - x := by
  obtain ⟨n, rfl⟩ := Int.eq_ofNat_of_zero_le h0
  exact not_u64 n (by omega)
theorem two_new (w : World) (o o' : Obj) : Below w.heap.size w ((w.alloc o).alloc o') := ((Below.refl _ _).alloc (Nat.le_refl _) _).alloc (by simp) _
end Go.Proofs.YtfmhdnefcapjgaaGreatDoor.Wide
/- Contracts of Add on both sides. Conditions: none. -/
set_option maxRecDepth 100000
namespace Go.Proofs.YtfmhdnefcapjgaaGreatDoor.Wide
open Go.RowKit

theorem add64_run {x y c s d : Int} (hx : 0 ≤ x) (hy : 0 ≤ y) (hc : c = 0 ∨ c = 1) (e : x + y + c = d * 18446744073709551616 + s) (s0 : 0 ≤ s) (s1 : s < 18446744073709551616) (w : World) :
    (callFunc 74 #[.int .u64 x, .int .u64 y, .int .u64 c]).run Tryz.prog w = .ok (.value (.tuple #[.int .u64 s, .int .u64 d])) w := by
  obtain ⟨x, rfl⟩ := Int.eq_ofNat_of_zero_le hx
  obtain ⟨y, rfl⟩ := Int.eq_ofNat_of_zero_le hy
  obtain ⟨c, rfl⟩ : ∃ k : Nat, c = (k : Int) := ⟨c.toNat, by omega⟩
  rw [run_callFunc_extern Tryz.func74 (by kernel_rfl) (by kernel_rfl) (by kernel_rfl) (e := add64Entry) (by kernel_rfl), run_add64 x y c (by omega) (by omega) (by omega) (by omega)]
  simp only [Result.andThen]
  rw [show ((x : Int) + y + c) % 18446744073709551616 = s by omega, show ((x : Int) + y + c) / 18446744073709551616 = d by omega]
theorem sub64_run {x y b s d : Int} (hx : 0 ≤ x) (hx1 : x < 18446744073709551616) (hy : 0 ≤ y) (hy1 : y < 18446744073709551616) (hb : b = 0 ∨ b = 1) (e : x - y - b = s - d * 18446744073709551616) (s0 : 0 ≤ s) (s1 : s < 18446744073709551616) (w : World) :
    (callFunc 75 #[.int .u64 x, .int .u64 y, .int .u64 b]).run Tryz.prog w = .ok (.value (.tuple #[.int .u64 s, .int .u64 d])) w := by
  obtain ⟨x, rfl⟩ := Int.eq_ofNat_of_zero_le hx
  obtain ⟨y, rfl⟩ := Int.eq_ofNat_of_zero_le hy
  obtain ⟨b, rfl⟩ : ∃ k : Nat, b = (k : Int) := ⟨b.toNat, by omega⟩
  have e1 : (((x + 18446744073709551616 - y - b) % 18446744073709551616 : Nat) : Int) = s := by omega
  have e2 : ((if x < y + b then 1 else 0 : Nat) : Int) = d := by split <;> omega
  rw [run_callFunc_extern Tryz.func75 (by kernel_rfl) (by kernel_rfl) (by kernel_rfl) (e := sub64Entry) (by kernel_rfl), run_sub64 x y b (by omega)]
  simp only [Result.andThen]
  rw [e1, e2]

theorem bne_fact {b b' : Bool} (h : b ≠ b') : (!b == b') = true ∧ (!b' == b) = true ∧ (b == b') = false := by
  cases b <;> cases b' <;> simp_all
/-- four new boxes -/
def w4 (w : World) (a0 a1 b0 b1 c0 c1 d0 d1 : Value) : World := (((w.alloc (.cells #[a0, a1] 61)).alloc (.cells #[b0, b1] 61)).alloc (.cells #[c0, c1] 61)).alloc (.cells #[d0, d1] 61)
theorem w4_size (w : World) (a0 a1 b0 b1 c0 c1 d0 d1 : Value) : (w4 w a0 a1 b0 b1 c0 c1 d0 d1).heap.size = w.heap.size + 4 := by unfold w4; simp
theorem w4_below (w : World) (a0 a1 b0 b1 c0 c1 d0 d1 : Value) : Below w.heap.size w (w4 w a0 a1 b0 b1 c0 c1 d0 d1) :=
  ((((Below.refl _ _).alloc (Nat.le_refl _) _).alloc (by simp) _).alloc (by simp; omega) _).alloc (by simp; omega) _
theorem w4_all {w w' : World} {a0 a1 b0 b1 c0 c1 d0 d1 : Value} (hb : Below (w.heap.size + 4) (w4 w a0 a1 b0 b1 c0 c1 d0 d1) w') :
    w'.cell? ⟨w.heap.size, 0, none⟩ = some a0 ∧ w'.cell? ⟨w.heap.size, 1, none⟩ = some a1 ∧ w'.cell? ⟨w.heap.size + 1, 0, none⟩ = some b0 ∧ w'.cell? ⟨w.heap.size + 1, 1, none⟩ = some b1 ∧ w'.cell? ⟨w.heap.size + 1 + 1 + 1, 0, none⟩ = some d0 ∧ w'.cell? ⟨w.heap.size + 1 + 1 + 1, 1, none⟩ = some d1 ∧ Below (w.heap.size + 4) (w4 w a0 a1 b0 b1 c0 c1 d0 d1) w' := by
  refine ⟨?_, ?_, ?_, ?_, ?_, ?_, hb⟩
  · rw [hb.cell (p := ⟨w.heap.size, 0, none⟩) (by simp)]; unfold w4; go_simp
  · rw [hb.cell (p := ⟨w.heap.size, 1, none⟩) (by simp)]; unfold w4; go_simp
  · rw [hb.cell (p := ⟨w.heap.size + 1, 0, none⟩) (by simp)]; unfold w4; go_simp
  · rw [hb.cell (p := ⟨w.heap.size + 1, 1, none⟩) (by simp)]; unfold w4; go_simp
  · rw [hb.cell (p := ⟨w.heap.size + 1 + 1 + 1, 0, none⟩) (by simp)]; unfold w4; go_simp
  · rw [hb.cell (p := ⟨w.heap.size + 1 + 1 + 1, 1, none⟩) (by simp)]; unfold w4; go_simp
theorem w4_res {w w' : World} {a0 a1 b0 b1 c0 c1 d0 d1 : Value} (hb : Below (w.heap.size + 4) (w4 w a0 a1 b0 b1 c0 c1 d0 d1) w') :
    w'.cell? ⟨w.heap.size + 1 + 1, 0, none⟩ = some c0 ∧ w'.cell? ⟨w.heap.size + 1 + 1, 1, none⟩ = some c1 ∧ w'.frozen? ⟨w.heap.size + 1 + 1, 0, none⟩ = false ∧ w'.frozen? ⟨w.heap.size + 1 + 1, 1, none⟩ = false := by
  refine ⟨?_, ?_, ?_, ?_⟩
  · rw [hb.cell (p := ⟨w.heap.size + 1 + 1, 0, none⟩) (by simp)]; unfold w4; go_simp
  · rw [hb.cell (p := ⟨w.heap.size + 1 + 1, 1, none⟩) (by simp)]; unfold w4; go_simp
  · rw [hb.frozen (p := ⟨w.heap.size + 1 + 1, 0, none⟩) (by simp)]; unfold w4; go_simp
  · rw [hb.frozen (p := ⟨w.heap.size + 1 + 1, 1, none⟩) (by simp)]; unfold w4; go_simp
theorem w4_start (w : World) (a0 a1 b0 b1 c0 c1 d0 d1 : Value) : Below (w.heap.size + 4) (w4 w a0 a1 b0 b1 c0 c1 d0 d1) (w4 w a0 a1 b0 b1 c0 c1 d0 d1).drew := (Below.refl _ _).drew
theorem w4_keep {w w' w1 : World} {a0 a1 b0 b1 c0 c1 d0 d1 : Value} (hk : Below w'.heap.size w' w1)
    (h : w'.cell? ⟨w.heap.size, 0, none⟩ = some a0 ∧ w'.cell? ⟨w.heap.size, 1, none⟩ = some a1 ∧ w'.cell? ⟨w.heap.size + 1, 0, none⟩ = some b0 ∧ w'.cell? ⟨w.heap.size + 1, 1, none⟩ = some b1 ∧ w'.cell? ⟨w.heap.size + 1 + 1 + 1, 0, none⟩ = some d0 ∧ w'.cell? ⟨w.heap.size + 1 + 1 + 1, 1, none⟩ = some d1 ∧ Below (w.heap.size + 4) (w4 w a0 a1 b0 b1 c0 c1 d0 d1) w') :
    w1.cell? ⟨w.heap.size, 0, none⟩ = some a0 ∧ w1.cell? ⟨w.heap.size, 1, none⟩ = some a1 ∧ w1.cell? ⟨w.heap.size + 1, 0, none⟩ = some b0 ∧ w1.cell? ⟨w.heap.size + 1, 1, none⟩ = some b1 ∧ w1.cell? ⟨w.heap.size + 1 + 1 + 1, 0, none⟩ = some d0 ∧ w1.cell? ⟨w.heap.size + 1 + 1 + 1, 1, none⟩ = some d1 ∧ Below (w.heap.size + 4) (w4 w a0 a1 b0 b1 c0 c1 d0 d1) w1 := by
  have hb := h.2.2.2.2.2.2
  have hz := hb.size
  rw [w4_size] at hz
  exact w4_all (hb.trans (hk.mono hz))

--WALKS
theorem set_two {w : World} {n : Nat} {x y : Value} (h : w.cell? ⟨n, 0, none⟩ = some x) (h' : w.cell? ⟨n, 1, none⟩ = some y) (u v : Value) : (w.setCell ⟨n, 0, none⟩ u).cell? ⟨n, 0, none⟩ = some u ∧ ((w.setCell ⟨n, 0, none⟩ u).setCell ⟨n, 1, none⟩ v).cell? ⟨n, 1, none⟩ = some v :=
  ⟨World.cell?_setCell_same _ _ _ h, World.cell?_setCell_same _ _ _ (u := y) (by rw [World.cell?_setCell_other _ _ _ _ (by simp)]; exact h')⟩
theorem w4_done {w w' : World} {a0 a1 b0 b1 c0 c1 d0 d1 : Value} (hb : Below (w.heap.size + 4) (w4 w a0 a1 b0 b1 c0 c1 d0 d1) w') (u v : Value) : Below w.heap.size w ((w'.setCell ⟨w.heap.size + 1 + 1, 0, none⟩ u).setCell ⟨w.heap.size + 1 + 1, 1, none⟩ v) :=
  (((w4_below w a0 a1 b0 b1 c0 c1 d0 d1).trans (hb.mono (by omega))).setCell (by simp; omega) _).setCell (by simp; omega) _
end Go.Proofs.YtfmhdnefcapjgaaGreatDoor.Wide
/- What sums and differences of two words say, and Add on the reference's side. Conditions: none. -/
set_option maxRecDepth 100000
namespace Go.Proofs.YtfmhdnefcapjgaaGreatDoor.Wide
open Go.RowKit

theorem add_math {h l h' l' u u' S C T D G N : Int} (h0 : -9223372036854775808 ≤ h) (h1 : h < 9223372036854775808) (k0 : -9223372036854775808 ≤ h') (k1 : h' < 9223372036854775808)
    (hU : h % 18446744073709551616 = u) (hU' : h' % 18446744073709551616 = u') (e1 : l + l' = C * 18446744073709551616 + S) (s0 : 0 ≤ S) (s1 : S < 18446744073709551616) (hc : C = 0 ∨ C = 1)
    (e2 : u + u' + C = D * 18446744073709551616 + T) (t0 : 0 ≤ T) (t1 : T < 18446744073709551616) (hG : (T + 9223372036854775808) % 18446744073709551616 - 9223372036854775808 = G)
    (hN : N = h * 18446744073709551616 + l + (h' * 18446744073709551616 + l')) :
    ((h < 0 ↔ h' < 0) ∧ ¬(G < 0 ↔ h < 0) → fitW N = false) ∧ (¬((h < 0 ↔ h' < 0) ∧ ¬(G < 0 ↔ h < 0)) → fitW N = true ∧ hiW N = G ∧ loW N = S) := by
  constructor
  · intro hx
    rw [fit_not]
    omega
  · intro hx
    have e : G * 18446744073709551616 + S = N := by omega
    have hg0 : -9223372036854775808 ≤ G := by omega
    have hg1 : G < 9223372036854775808 := by omega
    exact ⟨fit_of e s0 s1 hg0 hg1, w_of e s0 s1⟩
theorem sub_math {h l h' l' u u' S C T D G N : Int} (h0 : -9223372036854775808 ≤ h) (h1 : h < 9223372036854775808) (k0 : -9223372036854775808 ≤ h') (k1 : h' < 9223372036854775808)
    (hU : h % 18446744073709551616 = u) (hU' : h' % 18446744073709551616 = u') (e1 : l - l' = S - C * 18446744073709551616) (s0 : 0 ≤ S) (s1 : S < 18446744073709551616) (hc : C = 0 ∨ C = 1)
    (e2 : u - u' - C = T - D * 18446744073709551616) (t0 : 0 ≤ T) (t1 : T < 18446744073709551616) (hG : (T + 9223372036854775808) % 18446744073709551616 - 9223372036854775808 = G)
    (hN : N = h * 18446744073709551616 + l - (h' * 18446744073709551616 + l')) :
    (¬(h < 0 ↔ h' < 0) ∧ ¬(G < 0 ↔ h < 0) → fitW N = false) ∧ (¬(¬(h < 0 ↔ h' < 0) ∧ ¬(G < 0 ↔ h < 0)) → fitW N = true ∧ hiW N = G ∧ loW N = S) := by
  constructor
  · intro hx
    rw [fit_not]
    omega
  · intro hx
    have e : G * 18446744073709551616 + S = N := by omega
    have hg0 : -9223372036854775808 ≤ G := by omega
    have hg1 : G < 9223372036854775808 := by omega
    exact ⟨fit_of e s0 s1 hg0 hg1, w_of e s0 s1⟩
theorem tuple_yes {N g s : Int} (h : fitW N = true ∧ hiW N = g ∧ loW N = s) : Value.tuple #[.agg #[.int .i64 g, .int .u64 s], .bool true] = .tuple #[wv (ansW N), .bool (fitW N)] := by
  unfold ansW; rw [h.1, if_pos rfl]; unfold wv; rw [h.2.1, h.2.2]
theorem tuple_no {N : Int} (h : fitW N = false) : Value.tuple #[.agg #[.int .i64 0, .int .u64 0], .bool false] = .tuple #[wv (ansW N), .bool (fitW N)] := by
  unfold ansW; rw [h, if_neg (by decide)]; rfl

theorem three_new (w : World) (o o' o'' : Obj) : Below w.heap.size w (((w.alloc o).alloc o').alloc o'') := (((Below.refl _ _).alloc (Nat.le_refl _) _).alloc (by simp) _).alloc (by simp; omega) _
theorem iff_of_dec {p q : Prop} [Decidable p] [Decidable q] : (decide p == decide q) = true ↔ (p ↔ q) := by
  rw [beq_iff_eq, decide_eq_decide]
end Go.Proofs.YtfmhdnefcapjgaaGreatDoor.Wide
/- Contracts of the methods of a size: turned, sizeOf, signed. Conditions: none. -/
set_option maxRecDepth 100000
namespace Go.Proofs.YtfmhdnefcapjgaaGreatDoor.Wide
open Go.RowKit

def negS (m : Int) : Int := if m = 0 then 0 else 340282366920938463463374607431768211456 - m
def absW (N : Int) : Int := if N < 0 then -N else N
def sgnOk (m : Int) (neg : Bool) : Bool := if neg then decide (0 < m ∧ m ≤ 170141183460469231731687303715884105728) else decide (m < 170141183460469231731687303715884105728)
def sgnW (m : Int) (neg : Bool) : Int := if sgnOk m neg then (if neg then -m else m) else 0

theorem m2_new {w w' : World} {o o' : Obj} (hb : Below (w.heap.size + 2) ((w.alloc o).alloc o') w') : Below w.heap.size w w' := (two_new w o o').trans (hb.mono (by omega))
theorem sturned_any (h l : Int) (w : World) (h0 : 0 ≤ h) (h1 : h < 18446744073709551616) (l0 : 0 ≤ l) (l1 : l < 18446744073709551616) : Calls Tryz.prog 56 #[.agg #[.int .u64 h, .int .u64 l]] w fun e w' => e = .returned (sv (negS (h * 18446744073709551616 + l))) ∧ Below w.heap.size w w' := by
  obtain ⟨S, hS⟩ : ∃ S, S = (0 - l) % 18446744073709551616 := ⟨_, rfl⟩
  obtain ⟨C, hC⟩ : ∃ C, C * 18446744073709551616 = S - (0 - l) := ⟨(S - (0 - l)) / 18446744073709551616, by omega⟩
  obtain ⟨T, hT⟩ : ∃ S, S = (0 - h - C) % 18446744073709551616 := ⟨_, rfl⟩
  obtain ⟨D, hD⟩ : ∃ D, D * 18446744073709551616 = T - (0 - h - C) := ⟨(T - (0 - h - C)) / 18446744073709551616, by omega⟩
  have c1 := fun w => sub64_run (x := 0) (y := l) (b := 0) (s := S) (d := C) (by decide) (by decide) l0 l1 (.inl rfl) (by omega) (by omega) (by omega) w
  have c2 := fun w => sub64_run (x := 0) (y := h) (b := C) (s := T) (d := D) (by decide) (by decide) h0 h1 (by omega) (by omega) (by omega) (by omega) w
  have e : T * 18446744073709551616 + S = negS (h * 18446744073709551616 + l) := by unfold negS; split <;> omega
  have hw := w_of e (by omega) (by omega)
  unfold sv
  rw [hw.1, hw.2]
  clear hw e hS hC hT hD
  go_enter Tryz.func56, Tryz.ntmps56
  go_wp2_with fail
  refine bodyPost_ret (v := .agg #[.int .u64 T, .int .u64 S]) (by simp [results, Tryz.results56, go_sem]) rfl ⟨rfl, two_new _ _ _⟩
/-- three new boxes of two words -/
def v3 (w : World) (a0 a1 b0 b1 d0 d1 : Value) : World := ((w.alloc (.cells #[a0, a1] 61)).alloc (.cells #[b0, b1] 78)).alloc (.cells #[d0, d1] 78)
theorem v3_res {w w' : World} {a0 a1 b0 b1 c0 c1 : Value} (hb : Below (w.heap.size + 3) (v3 w a0 a1 b0 b1 c0 c1) w') :
    w'.cell? ⟨w.heap.size + 1, 0, none⟩ = some b0 ∧ w'.cell? ⟨w.heap.size + 1, 1, none⟩ = some b1 ∧ w'.frozen? ⟨w.heap.size + 1, 0, none⟩ = false ∧ w'.frozen? ⟨w.heap.size + 1, 1, none⟩ = false ∧ w'.cell? ⟨w.heap.size + 1 + 1, 0, none⟩ = some c0 ∧ w'.cell? ⟨w.heap.size + 1 + 1, 1, none⟩ = some c1 := by
  refine ⟨?_, ?_, ?_, ?_, ?_, ?_⟩
  · rw [hb.cell (p := ⟨w.heap.size + 1, 0, none⟩) (by simp)]; unfold v3; go_simp
  · rw [hb.cell (p := ⟨w.heap.size + 1, 1, none⟩) (by simp)]; unfold v3; go_simp
  · rw [hb.frozen (p := ⟨w.heap.size + 1, 0, none⟩) (by simp)]; unfold v3; go_simp
  · rw [hb.frozen (p := ⟨w.heap.size + 1, 1, none⟩) (by simp)]; unfold v3; go_simp
  · rw [hb.cell (p := ⟨w.heap.size + 1 + 1, 0, none⟩) (by simp)]; unfold v3; go_simp
  · rw [hb.cell (p := ⟨w.heap.size + 1 + 1, 1, none⟩) (by simp)]; unfold v3; go_simp
theorem v3_next {w w' w1 : World} {a0 a1 b0 b1 c0 c1 : Value} (h : Below (w.heap.size + 3) (v3 w a0 a1 b0 b1 c0 c1) w') (hk : Below w'.heap.size w' w1) : Below (w.heap.size + 3) (v3 w a0 a1 b0 b1 c0 c1) w1 := by
  have hz := h.size
  unfold v3 at hz
  simp only [World.size_alloc] at hz
  exact h.trans (hk.mono hz)
theorem v3_done {w w' : World} {a0 a1 b0 b1 c0 c1 : Value} (hb : Below (w.heap.size + 3) (v3 w a0 a1 b0 b1 c0 c1) w') (u v : Value) : Below w.heap.size w ((w'.setCell ⟨w.heap.size + 1, 0, none⟩ u).setCell ⟨w.heap.size + 1, 1, none⟩ v) :=
  (((three_new _ _ _ _).trans (hb.mono (by omega))).setCell (by simp) _).setCell (by simp) _
set_option maxHeartbeats 800000 in
theorem sizeOf_any (h l : Int) (w : World) (h0 : -9223372036854775808 ≤ h) (h1 : h < 9223372036854775808) (l0 : 0 ≤ l) (l1 : l < 18446744073709551616) : Calls Tryz.prog 145 #[.agg #[.int .i64 h, .int .u64 l]] w fun e w' => e = .returned (sv (absW (h * 18446744073709551616 + l))) ∧ Below w.heap.size w w' := by
  obtain ⟨u, hu⟩ : ∃ u, IntKind.u64.wrap h = u := ⟨_, rfl⟩
  have hu' := hu
  rw [IntKind.wrap_u64] at hu'
  have K := below_any h l
  by_cases hn : h < 0
  · rw [decide_eq_true hn] at K
    have T := fun w => sturned_any u l w (by omega) (by omega) l0 l1
    rw [show negS (u * 18446744073709551616 + l) = absW (h * 18446744073709551616 + l) by unfold negS absW; rw [if_neg (by omega), if_pos (by omega)]; omega] at T
    unfold sv at T ⊢
    generalize hiW (absW (h * 18446744073709551616 + l)) = P at T ⊢
    generalize loW (absW (h * 18446744073709551616 + l)) = Q at T ⊢
    clear hn hu'
    go_enter Tryz.func145, Tryz.ntmps145
    go_wp2_with fail
    refine (K _).mono ?_
    rintro e w1 ⟨rfl, b1⟩
    have hA := v3_next (w := w) (a0 := .int .i64 h) (a1 := .int .u64 l) (b0 := .int .u64 0) (b1 := .int .u64 0) (c0 := .int .u64 u) (c1 := .int .u64 l) (Below.refl _ _) b1
    have hR := v3_res hA
    clear b1 K
    go_wp2_with fail
    refine (T _).mono ?_
    rintro e w2 ⟨rfl, b2⟩
    replace hA := v3_next hA b2
    clear hR
    have hR := v3_res hA
    have hr1 := fun u => (set_two hR.1 hR.2.1 u u).1
    have hr2 := fun u v => (set_two hR.1 hR.2.1 u v).2
    have HB := Lib.hid (v3_done hA)
    clear b2 T
    go_wp2_with fail
    refine bodyPost_ret (v := .agg #[.int .u64 P, .int .u64 Q]) (by simp [results, Tryz.results145, go_sem, hr1, hr2]) rfl ⟨rfl, HB.out _ _⟩
  · rw [decide_eq_false hn] at K
    have e : u * 18446744073709551616 + l = absW (h * 18446744073709551616 + l) := by unfold absW; rw [if_neg (by omega)]; omega
    have hw := w_of e l0 l1
    unfold sv
    rw [hw.1, hw.2]
    clear hn hu' hw e
    go_enter Tryz.func145, Tryz.ntmps145
    go_wp2_with fail
    refine (K _).mono ?_
    rintro e w1 ⟨rfl, b1⟩
    have hA := v3_next (w := w) (a0 := .int .i64 h) (a1 := .int .u64 l) (b0 := .int .u64 0) (b1 := .int .u64 0) (c0 := .int .u64 u) (c1 := .int .u64 l) (Below.refl _ _) b1
    have hR := v3_res hA
    have hr1 := fun u => (set_two hR.1 hR.2.1 u u).1
    have hr2 := fun u v => (set_two hR.1 hR.2.1 u v).2
    have HB := Lib.hid (v3_done hA)
    clear b1 K
    go_wp2_with fail
    refine bodyPost_ret (v := .agg #[.int .u64 u, .int .u64 l]) (by simp [results, Tryz.results145, go_sem, hr1, hr2]) rfl ⟨rfl, HB.out _ _⟩
end Go.Proofs.YtfmhdnefcapjgaaGreatDoor.Wide
