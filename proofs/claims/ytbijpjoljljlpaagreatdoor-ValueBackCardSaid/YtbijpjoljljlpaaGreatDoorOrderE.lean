/- Contract of strconv.FormatUint at base 16. Conditions: the tables as the program's text lays them. -/
import Derived.Test.YtbijpjoljljlpaaGreatDoorOrderD
import Derived.Test.YtbijpjoljljlpaaGreatDoorHex
set_option maxRecDepth 100000
namespace Go.Proofs.YtbijpjoljljlpaaGreatDoor
open Go.RowKit

/-- a text of 65 bytes in a new block -/
def FS (w wr : World) (xs : List UInt8) : Prop :=
  wr.heap[w.heap.size]? = some (.cells (u8s xs).toArray 146 (0, 0)) ∧ Below w.heap.size w wr
theorem FS.text {w wr : World} {xs : List UInt8} (h : FS w wr xs) {j : Nat} (hj : j < xs.length) : wr.cell? ⟨w.heap.size, j, none⟩ = some (.int .u8 (xs[j].toNat : Int)) ∧ wr.frozen? ⟨w.heap.size, j, none⟩ = false :=
  ⟨by rw [cell_of_row _ _ _ _ _ _ h.1]; simp [u8s, hj], free_of_row h.1 j⟩
theorem FS.put {w wr : World} {xs : List UInt8} (h : FS w wr xs) (j : Nat) (c : UInt8) : FS w (wr.setCell ⟨w.heap.size, j, none⟩ (.int .u8 (c.toNat : Int))) (xs.set j c) := by
  refine ⟨?_, h.2.setCell (by simp) _⟩
  rw [heap_set h.1]
  congr 2
  apply Array.toList_inj.1
  simp [u8s, List.map_set]
theorem FS.holds {w wr : World} {xs : List UInt8} (h : FS w wr xs) (j : Nat) (hj : j ≤ xs.length) : Holds wr (.slice (some ⟨w.heap.size, j, none⟩) (xs.length - j) (xs.length - j)) (u8s (xs.drop j)) := by
  have h0 : Holds wr (.slice (some ⟨w.heap.size, 0, none⟩) xs.length xs.length) (u8s xs) := Holds.of_heap h.1 rfl _ _ (u8s_len xs).symm (Nat.le_refl _)
  have h1 := h0.drop j hj
  rw [Addr.add_at, Nat.zero_add] at h1
  have e : (u8s xs).drop j = u8s (xs.drop j) := by simp [u8s, List.map_drop]
  rw [e] at h1
  exact h1
theorem zero65 : Tryz.zeroCells146 = (u8s (List.replicate 65 0)).toArray := by kernel_rfl
theorem FS.new (w : World) : FS w (w.alloc (.cells Tryz.zeroCells146 146)) (List.replicate 65 0) := by
  rw [zero65]; exact ⟨alloc1 _ _, (Below.refl _ _).alloc (Nat.le_refl _) _⟩
theorem drop_set_here {xs : List UInt8} {j : Nat} (hj : j < xs.length) (c : UInt8) : (xs.set j c).drop j = c :: xs.drop (j + 1) := by
  rw [List.drop_eq_getElem_cons (by simpa using hj), List.drop_set, if_pos (by omega)]
  simp
theorem toStr' {w : World} {v : Value} {l : List UInt8} (h : Holds w v (u8s l)) : (convert 33 9 v).run Tryz.prog w = .ok (.string ⟨l.toArray⟩) w :=
  str_of_holds Tryz.underlying33 Tryz.underlying5 Tryz.underlying9 h
theorem slice65 (b j : Nat) (hj : j ≤ 64) (w : World) : (Instr.sliceAt 146 (.pointer (some ⟨b, 0, none⟩)) (some (.int .i64 (j : Int))) none none).run Tryz.prog w = .ok (.slice (some ⟨b, j, none⟩) (65 - j) (65 - j)) w := by
  have hl : Tryz.prog.arrayLen 146 = 65 := by kernel_rfl
  have he : Tryz.prog.elem 146 = 5 := by kernel_rfl
  rw [run_sliceAt_array_l w 146 ⟨b, 0, none⟩ (by kernel_rfl) .i64 (j : Int) (by omega) (by rw [hl]; omega), he, Tryz.sizeOf5, hl]
  simp only [Result.andThen, slicedAt, Int.toNat_natCast, Nat.mul_one, Addr.add_at, Nat.zero_add]
  rw [if_neg (by omega)]
theorem and15 (u : Nat) (h : u < 18446744073709551616) : bits .and .u64 (u : Int) 15 = ((u % 16 : Nat) : Int) := by
  have e := and_u64 u 15 h (by omega)
  have h2 : u &&& 15 = u % 16 := Nat.and_two_pow_sub_one_eq_mod u 4
  rw [h2] at e
  exact e
theorem digit_run : ∀ d < 16, ∀ w, (Instr.index 9 (.string ⟨#[48, 49, 50, 51, 52, 53, 54, 55, 56, 57, 97, 98, 99, 100, 101, 102, 103, 104, 105, 106, 107, 108, 109, 110, 111, 112, 113, 114, 115, 116, 117, 118, 119, 120, 121, 122]⟩) (.int .u64 ((d : Nat) : Int))).run Tryz.prog w = .ok (.int .u8 ((hexd d).toNat : Int)) w := by
  intro d hd w
  rw [run_index_string w 9 _ .u64 _ Tryz.underlying9, dif_pos ⟨by omega, by show ((d : Nat) : Int) < 36; omega⟩]
  have key : ∀ d < 16, ((⟨#[48, 49, 50, 51, 52, 53, 54, 55, 56, 57, 97, 98, 99, 100, 101, 102, 103, 104, 105, 106, 107, 108, 109, 110, 111, 112, 113, 114, 115, 116, 117, 118, 119, 120, 121, 122]⟩ : ByteArray).data[d]? = some (hexd d)) := by decide
  have h := key d hd
  rw [Array.getElem?_eq_getElem (by show d < 36; omega)] at h
  have h2 := Option.some.inj h
  congr 3
  exact congrArg UInt8.toNat h2
set_option maxHeartbeats 1600000 in
theorem formatBits_any {w : World} (hv : Tab w) (U : Nat) (hU : U < 18446744073709551616) : Calls Tryz.prog 91 #[.slice none 0 0, .int .u64 (U : Int), .int .i64 16, .bool false, .bool false] w fun e w' => ∃ k, 1 ≤ k ∧ k ≤ 16 ∧ U < 16 ^ k ∧ e = .returned (.tuple #[.slice none 0 0, .string ⟨(hexN k U).toArray⟩]) ∧ Below w.heap.size w w' := by
  have hn := Lib.hid (FS.new w)
  have HU := Lib.hid hU
  have K1 := fun w => pow2_16 w
  have K2 := tz_16 (hv.below ((Below.refl _ _).alloc (Nat.le_refl _) (.cells Tryz.zeroCells146 146)))
  clear hU hv
  go_enter Tryz.func91, Tryz.ntmps91
  go_wp2_with fail
  refine (K1 _).mono ?_; rintro e w' ⟨rfl, rfl⟩
  go_wp2_with fail
  refine K2.mono ?_; rintro e w' ⟨rfl, rfl⟩
  go_wp2_with fail
  clear K1 K2
  go_loopw [1, 13] (fun u i wr => ∃ (j : Nat) (xs : List UInt8), 49 ≤ j ∧ j ≤ 64 ∧ u = .int .u64 ((U / 16 ^ (64 - j) : Nat) : Int) ∧ i = .int .i64 ((j : Int) + 1) ∧ Hid (FS w wr xs ∧ xs.length = 65 ∧ xs.drop (j + 1) = hexN (64 - j) U)) (fun u _ _ => (intOf u).toNat)
  case atStart => exact ⟨64, List.replicate 65 0, by omega, by omega, by rw [Nat.sub_self, Nat.pow_zero, Nat.div_one], rfl, Lib.hid ⟨hn.out, rfl, rfl⟩⟩
  case round =>
    clear hn
    obtain ⟨j, xs, hj1, hj2, rfl, rfl, HR⟩ := hrel
    obtain ⟨V, hV⟩ : ∃ V, U / 16 ^ (64 - j) = V := ⟨_, rfl⟩
    rw [hV]
    have hVb : V < 18446744073709551616 := by have := HU.out; have := Nat.div_le_self U (16 ^ (64 - j)); omega
    have ka := and15 V hVb
    obtain ⟨d, hd⟩ : ∃ d, V % 16 = d := ⟨_, rfl⟩
    rw [hd] at ka
    have kd := digit_run d (by omega)
    have hf := HR.out.1.put j (hexd d)
    have ht := HR.out.1.text (j := j) (by rw [HR.out.2.1]; omega)
    have HV := Lib.hid (And.intro hV hd)
    clear hV hd
    by_cases h16 : 16 ≤ V
    · have t0 : decide (16 ≤ V) = true := decide_eq_true h16
      have hj3 : 50 ≤ j := by
        have h1 := HU.out
        have h2 := HV.out.1
        rcases Nat.lt_or_ge j 50 with h3 | h3
        · have : j = 49 := by omega
          subst this
          have : V < 16 := by rw [← h2]; exact Nat.div_lt_of_lt_mul (by omega)
          omega
        · exact h3
      have HS := Lib.hid (And.intro hf (And.intro (show (xs.set j (hexd d)).length = 65 by rw [List.length_set]; exact HR.out.2.1) (show (xs.set j (hexd d)).drop j = hexN (65 - j) U by
        rw [drop_set_here (by rw [HR.out.2.1]; omega), HR.out.2.2, show 65 - j = 64 - j + 1 by omega, hexN_succ, HV.out.1, HV.out.2])))
      clear hf
      go_wp2_with fail
      refine ⟨⟨j - 1, xs.set j (hexd d), by omega, by omega, ?_, ?_, ?_⟩, ?_⟩
      · have e1 : U / 16 ^ (64 - (j - 1)) = V / 16 := by
          rw [← HV.out.1, show 64 - (j - 1) = 64 - j + 1 by omega, Nat.pow_succ, Nat.div_div_eq_div_mul]
        rw [e1]; go_num
      · rw [show (j : Int) = ((j - 1 : Nat) : Int) + 1 by omega]
      · rw [show j - 1 + 1 = j by omega, show 64 - (j - 1) = 65 - j by omega]; exact HS
      · simp only [intOf]; omega
    · have t0 : decide (16 ≤ V) = false := decide_eq_false h16
      obtain rfl : V = d := by have := HV.out.2; omega
      have h9 : (xs.set j (hexd V)).drop j = hexN (65 - j) U := by
        rw [drop_set_here (by rw [HR.out.2.1]; omega), HR.out.2.2, show 65 - j = 64 - j + 1 by omega, hexN_succ, HV.out.1, HV.out.2]
      have k3 := toStr' (hf.holds j (by rw [List.length_set, HR.out.2.1]; omega))
      rw [List.length_set, HR.out.2.1, h9] at k3
      have ks := fun w' => slice65 w.heap.size j hj2 w'
      have HB := Lib.hid hf.2
      have hlt : U < 16 ^ (65 - j) := by
        have h1 := HV.out.1
        rw [show 65 - j = 64 - j + 1 by omega, Nat.pow_succ]
        have h2 : U / 16 ^ (64 - j) < 16 := by omega
        have h3 := (Nat.div_lt_iff_lt_mul (Nat.pow_pos (n := 64 - j) (show 0 < 16 by decide))).1 h2
        rw [Nat.mul_comm]; exact h3
      have HL := Lib.hid hlt
      clear hf h9 hlt
      go_wp2_with fail
      go_ret2
      exact ⟨65 - j, by omega, by omega, HL.out, rfl, HB.out⟩
theorem formatUint_any {w : World} (hv : Tab w) (U : Nat) (hU : U < 18446744073709551616) : Calls Tryz.prog 53 #[.int .u64 (U : Int), .int .i64 16] w fun e w' => ∃ k, 1 ≤ k ∧ k ≤ 16 ∧ U < 16 ^ k ∧ e = .returned (.string ⟨(hexN k U).toArray⟩) ∧ Below w.heap.size w w' := by
  have K : Calls Tryz.prog 69 #[.int .u64 (U : Int), .int .i64 16] w fun e w' => ∃ k, 1 ≤ k ∧ k ≤ 16 ∧ U < 16 ^ k ∧ e = .returned (.string ⟨(hexN k U).toArray⟩) ∧ Below w.heap.size w w' := by
    have K := formatBits_any hv U hU
    clear hv hU
    go_enter Tryz.func69, Tryz.ntmps69
    go_wp2_with fail
    refine K.mono ?_
    rintro e w' ⟨k, h1, h2, h3, rfl, h4⟩
    have H := Lib.hid (And.intro h1 (And.intro h2 (And.intro h3 h4)))
    clear h1 h2 h3 h4
    go_wp2_with fail
    go_ret
    exact ⟨k, H.out.1, H.out.2.1, H.out.2.2.1, rfl, H.out.2.2.2⟩
  clear hv hU
  go_enter Tryz.func53, Tryz.ntmps53
  go_wp2_with fail
  refine K.mono ?_
  rintro e w' ⟨k, h1, h2, h3, rfl, h4⟩
  have H := Lib.hid (And.intro h1 (And.intro h2 (And.intro h3 h4)))
  clear h1 h2 h3 h4
  go_wp2_with fail
  go_ret
  exact ⟨k, H.out.1, H.out.2.1, H.out.2.2.1, rfl, H.out.2.2.2⟩
end Go.Proofs.YtbijpjoljljlpaaGreatDoor
