/- The walk of CodecShort: a number has one byte for each seven bits; a longer one is never read. Conditions: the table of Sum reads as the program's text lays it. -/
import Derived.Test.YtpecajaoknnepaaDoorCodecLives
import Derived.Test.YtpecajaoknnepaaDoorCodecGet
set_option maxRecDepth 100000
namespace Go.Proofs.YtpecajaoknnepaaDoor
open Go.RowKit Go.Maps Go.Sort

theorem get_dig (r : List UInt8) (x : Nat) : ∀ (i U : Nat), i < 10 → x * 2 ^ (7 * i) < 18446744073709551616 → (0 < i → 0 < x) → getAt (dig x ++ r) i U = (U + x * 2 ^ (7 * i), i + (dig x).length) := by
  induction x using Nat.strongRecOn with
  | _ x ih =>
    intro i U hi hb h0
    have hp : 0 < 2 ^ (7 * i) := Nat.two_pow_pos _
    by_cases h : x < 128
    · rw [dig_lo h]
      have e : (UInt8.ofNat x).toNat = x := by simp; omega
      have h9 : ¬ (i = 9 ∧ 1 < (UInt8.ofNat x).toNat) := by
        rw [e]
        rintro ⟨rfl, h1⟩
        have := Nat.mul_le_mul_right (2 ^ (7 * 9)) (show 2 ≤ x by omega)
        omega
      rw [List.singleton_append, get_last _ _ _ _ hi (by rw [e]; omega) h9 (by rw [e]; exact h), e]
      rfl
    · have hi8 : i ≤ 8 := by
        rcases Nat.lt_or_ge i 9 with g | g
        · omega
        · obtain rfl : i = 9 := by omega
          have := Nat.mul_le_mul_right (2 ^ (7 * 9)) (show 128 ≤ x by omega)
          omega
      rw [dig_hi h, List.cons_append, get_more _ _ _ _ hi (by simp; omega)]
      have e : (UInt8.ofNat (x % 128 + 128)).toNat - 128 = x % 128 := by simp; omega
      have hpow : 2 ^ (7 * (i + 1)) = 128 * 2 ^ (7 * i) := by rw [show 7 * (i + 1) = 7 + 7 * i by omega, Nat.pow_add]
      have hsplit : x % 128 * 2 ^ (7 * i) + x / 128 * 2 ^ (7 * (i + 1)) = x * 2 ^ (7 * i) := by
        rw [hpow, ← Nat.mul_assoc, ← Nat.add_mul]
        congr 1
        omega
      rw [ih (x / 128) (by omega) (i + 1) _ (by omega) (by omega) (by omega), e]
      rw [Nat.add_assoc U, hsplit]
      simp
      omega
theorem get_dig0 (r : List UInt8) {u : Nat} (hu : u < 18446744073709551616) : getN (dig u ++ r) = (u, (dig u).length) := by
  unfold getN
  rw [get_dig r u 0 0 (by omega) (by simpa using hu) (by omega)]
  simp
/-- bytes that all go on, and a 0: no number -/
theorem get_pad (l : List UInt8) (h : ∀ c ∈ l, 128 ≤ c.toNat) : ∀ (i U : Nat), 0 < i + l.length → getAt (l ++ [0]) i U = (0, 0) := by
  induction l with
  | nil =>
    intro i U hi
    by_cases h10 : 10 ≤ i
    · rw [List.nil_append, getAt, if_pos h10]
    · exact get_zero _ _ _ _ (by simpa using hi) (by omega) rfl
  | cons c r ih =>
    intro i U _
    have hc := h c List.mem_cons_self
    by_cases h10 : 10 ≤ i
    · rw [List.cons_append, getAt, if_pos h10]
    · rw [List.cons_append, get_more _ _ _ _ (by omega) (by omega)]
      exact ih (fun d hd => h d (List.mem_cons_of_mem _ hd)) _ _ (by omega)
theorem dig_ge (u : Nat) : ∀ (j : Nat) (h : j + 1 < (dig u).length), 128 ≤ ((dig u)[j]'(by omega)).toNat := by
  induction u using Nat.strongRecOn with
  | _ u ih =>
    intro j h
    by_cases hlo : u < 128
    · simp only [dig_lo hlo, List.length_cons, List.length_nil] at h; omega
    · have e := dig_hi hlo
      have h2 : j + 1 < (UInt8.ofNat (u % 128 + 128) :: dig (u / 128)).length := by rw [← e]; exact h
      have e2 : (dig u)[j]'(by omega) = (UInt8.ofNat (u % 128 + 128) :: dig (u / 128))[j]'(by omega) := by simp only [e]
      rw [e2]
      cases j with
      | zero => simp; omega
      | succ j =>
        simp only [List.getElem_cons_succ]
        exact ih (u / 128) (by omega) j (by simpa using h2)
theorem dig_pos (u : Nat) : 0 < (dig u).length := by
  by_cases h : u < 128
  · rw [dig_lo h]; simp
  · rw [dig_hi h]; simp
theorem get_longer (u : Nat) (c : UInt8) (hc : 128 ≤ c.toNat) : getN ((dig u).set ((dig u).length - 1) c ++ [0]) = (0, 0) := by
  have hp := dig_pos u
  refine get_pad _ (fun d hd => ?_) 0 0 (by simp; omega)
  obtain ⟨j, hj, rfl⟩ := List.mem_iff_getElem.1 hd
  rw [List.getElem_set]
  rw [List.length_set] at hj
  split
  · exact hc
  · exact dig_ge u j (by omega)

/-- how many digits are still to count -/
def left7 (x : Nat) : Nat := if x = 0 then 0 else (dig x).length
theorem left7_step {x : Nat} (h : 0 < x) : left7 x = 1 + left7 (x / 128) := by
  unfold left7
  rw [if_neg (by omega)]
  by_cases h2 : x < 128
  · rw [dig_lo h2, if_pos (by omega)]; simp
  · rw [dig_hi h2, if_neg (by omega)]; simp; omega
theorem left7_first (u : Nat) : 1 + left7 (u / 128) = (dig u).length := by
  unfold left7
  by_cases h2 : u < 128
  · rw [dig_lo h2, if_pos (by omega)]; simp
  · rw [dig_hi h2, if_neg (by omega)]; simp; omega

theorem row_set {w : World} {B : Nat} {e : TypeId} {g j n cap : Nat} {xs : List Value} (h : w.ownsRow B e 1 (.slice (some ⟨g, 0, none⟩) n cap) n xs) (x : Value) :
    (w.setCell ⟨g, j, none⟩ x).ownsRow B e 1 (.slice (some ⟨g, 0, none⟩) n cap) n (xs.set j x) := by
  obtain ⟨h1, h2⟩ := h
  rcases h2 with ⟨h2, _⟩ | ⟨g', cap', cur, hv, hB, hh, hn, hcap, hsz, htake⟩
  · cases h2
  · simp only [Value.slice.injEq, Option.some.injEq, Addr.mk.injEq, and_true, true_and] at hv
    obtain ⟨rfl, rfl⟩ := hv
    refine ⟨by simpa using h1, .inr ⟨_, _, _, rfl, hB, heap_set hh x, hn, hcap, by simpa using hsz, ?_⟩⟩
    rw [Array.toList_setIfInBounds, ← htake, List.take_set]

theorem row_form1 {w : World} {base : Nat} {e : TypeId} {v : Value} {n : Nat} {xs : List Value} (h : w.ownsRow base e 1 v n xs) (hn : 0 < n) : ∃ g cap, v = .slice (some ⟨g, 0, none⟩) n cap ∧ base ≤ g := by
  rcases h.2 with ⟨_, h2⟩ | ⟨g, cap, cur, rfl, hb, _⟩
  · omega
  · exact ⟨g, cap, rfl, hb⟩
theorem set_or (b : Nat) (hb : b < 256) : bits .or .u8 (b : Int) 128 = ((UInt8.ofNat (b % 128 + 128)).toNat : Int) := by
  have h := or_u8 b 128 hb (by omega)
  rw [or128 b hb] at h
  rw [show (128 : Int) = ((128 : Nat) : Int) from rfl, h]
  simp
  omega

/-- a copy of bytes, and two more behind it -/
theorem copy_two {w : World} {v : Value} {l : List UInt8} (h : Holds w v (u8s l)) (hl : l.length ≤ 1000) :
    ∃ v2 w2 v3 w3, Hid (∀ ty, (Builtin.append_ #[22, 22] ty #[.slice (some ⟨w.heap.size, 0, none⟩) 0 0, v]).run Tryd.prog (w.alloc (.cells #[] 5)) = .ok v2 w2) ∧
      Hid (∀ ty, (Builtin.append_ #[22, 22] ty #[v2, .slice (some ⟨w2.heap.size, 0, none⟩) 2 2]).run Tryd.prog (w2.alloc (.cells #[.int .u8 255, .int .u8 1] 5)) = .ok v3 w3) ∧
      Hid (Holds w3 v3 (u8s (l ++ [255, 1]))) ∧ Hid (Below w.heap.size w w3) := by
  have hb1 := below1 w (.cells #[] 5)
  have hr1 := World.ownsRow_made w (base := w.heap.size) (e := 5) (size := 1) #[] 0 (Nat.le_refl _) (by unfold maxLen; omega) (by simp)
  obtain ⟨v2, w2, r, o, g, b⟩ := app8 (xs := []) hr1 hb1.size (h.below hb1) (by simp; omega)
  have hb2 : Below w.heap.size w w2 := hb1.trans (below_grown g hb1.size (fun k e => by simp [Value.ownBlock] at e; omega))
  rw [List.nil_append] at o
  have hb3 : Below w.heap.size w (w2.alloc (.cells #[.int .u8 255, .int .u8 1] 5)) := hb2.alloc hb2.size _
  obtain ⟨v3, w3, r3, o3, g3, b3⟩ := app8 (o.alloc (.cells #[.int .u8 255, .int .u8 1] 5)) hb3.size (new_holds w2 _ _ _ (u8s [255, 1]) 2 rfl rfl) (by simp; omega)
  exact ⟨v2, w2, v3, w3, r, r3, Holds.of_row (by rw [u8s_len]; exact o3), hb3.trans (below_grown g3 hb3.size (ownsRow_ge o))⟩

/-- a 0 behind a row one byte of which was turned -/
theorem set_app {w : World} {B g q cap : Nat} {l : List UInt8} (h : w.ownsRow B 5 1 (.slice (some ⟨g, 0, none⟩) (q + 1) cap) (q + 1) (u8s l)) (hl : l.length = q + 1) (hB : B ≤ w.heap.size) (hq : q ≤ 1000) (nb : UInt8) :
    ∃ a c w2, Hid (∀ ty, (Builtin.append_ #[22, 22] ty #[.slice (some ⟨g, 0, none⟩) (q + 1) cap, .slice (some ⟨w.heap.size, 0, none⟩) 1 1]).run Tryd.prog ((w.setCell ⟨g, q, none⟩ (.int .u8 (nb.toNat : Int))).alloc (.cells #[.int .u8 0] 5)) = .ok (.slice a (q + 1 + 1) c) w2) ∧
      Hid (Holds w2 (.slice a (q + 1 + 1) c) (u8s (l.set q nb ++ [0]))) ∧ Hid (Below B w w2) := by
  have hset := row_set (j := q) h (.int .u8 (nb.toNat : Int))
  have e : (u8s l).set q (.int .u8 (nb.toNat : Int)) = u8s (l.set q nb) := by simp [u8s, List.map_set]
  rw [e] at hset
  have hlen : (l.set q nb).length = q + 1 := by rw [List.length_set, hl]
  rw [← hlen] at hset
  have hsz : (w.setCell ⟨g, q, none⟩ (.int .u8 (nb.toNat : Int))).heap.size = w.heap.size := by simp [World.setCell]
  have hb1 : Below B w (w.setCell ⟨g, q, none⟩ (.int .u8 (nb.toNat : Int))) := (Below.refl _ _).setCell (p := ⟨g, q, none⟩) (by
    have := (h.lt g rfl).1; exact this) _
  have hb2 : Below B w ((w.setCell ⟨g, q, none⟩ (.int .u8 (nb.toNat : Int))).alloc (.cells #[.int .u8 0] 5)) := hb1.alloc (by rw [hsz]; exact hB) _
  obtain ⟨v2, w2, r, o, gr, b⟩ := app8 (hset.alloc (.cells #[.int .u8 0] 5)) (Nat.le_trans hB hb2.size) (holds_one8 (w.setCell ⟨g, q, none⟩ (.int .u8 (nb.toNat : Int))) 0 0 rfl) (by rw [hlen]; simp; omega)
  rw [hsz] at r
  have hlen2 : (l.set q nb ++ [0]).length = q + 1 + 1 := by simp [hl]
  rw [hlen2] at o
  obtain ⟨a, c, rfl, _⟩ := ownsRow_form o
  rw [hlen] at r gr
  refine ⟨a, c, w2, r, Holds.of_row (by rw [u8s_len, hlen2]; exact o), ?_⟩
  exact hb2.trans (below_grown gr (Nat.le_trans hB hb2.size) (fun k e => (by
    have := (h.lt g rfl).1
    simp [Value.ownBlock] at e
    omega)))

set_option maxHeartbeats 1600000 in
theorem short_walk {w : World} (hq : Quads w) (u : Nat) (hu : u < 18446744073709551616) : Calls Tryd.prog 8 #[.int .u64 (u : Int)] w fun e w' => e = .returned (.bool true) ∧ Below w.heap.size w w' := by
  have HQ := Lib.hid hq
  clear hq
  go_enter Tryd.func8, Tryd.ntmps8
  go_wp2_with fail
  refine (Put_any (xs := []) (Holds.nil _) u hu (by decide)).mono ?_
  rintro e w1 ⟨v1, rfl, o1, b1⟩
  rw [List.nil_append] at o1
  obtain ⟨q, hn⟩ : ∃ q, q + 1 = (dig u).length := ⟨(dig u).length - 1, by have := dig_pos u; omega⟩
  obtain ⟨n, hnq⟩ : ∃ n, n = q + 1 := ⟨_, rfl⟩
  rw [← hn] at o1
  have hn10 := dig_len10 hu
  rw [← hn] at hn10
  have hfirst := left7_first u
  rw [← hn, ← hnq] at hfirst
  obtain ⟨g, cap, rfl, hg⟩ := row_form1 o1 (by omega)
  have HN := Lib.hid hn
  have O1 := Lib.hid o1
  have B1 := Lib.hid b1
  have HF := Lib.hid hfirst
  clear hn o1 b1 hfirst
  go_wp2_with fail
  go_loop [4, 5] (fun m x => ∃ k y : Nat, m = .int .i64 k ∧ x = .int .u64 y ∧ y < 18446744073709551616 ∧ Hid (k + left7 y = n)) (fun _ x => (intOf x).toNat)
  case atStart => exact ⟨1, u / 128, rfl, by go_num, by omega, HF.out⟩
  case round =>
    obtain ⟨k, y, rfl, rfl, hy, HK⟩ := hrel
    by_cases hpos : 0 < y
    · have hk : k < n := by have := HK.out; have := left7_step hpos; omega
      have t1 : decide ((0 : Int) < (y : Int)) = true := decide_eq_true (by omega)
      go_wp2_with fail
      go_round
      case rel => exact ⟨k + 1, y / 128, by go_num, by go_num, by omega, Lib.hid (by have := HK.out; have := left7_step hpos; omega)⟩
      case measure => simp [intOf]; omega
    · have hk : k = q + 1 := by have := HK.out; have e : left7 y = 0 := by rw [show y = 0 by omega]; rfl
                                omega
      subst hk
      have t1 : decide ((0 : Int) < (y : Int)) = false := decide_eq_false (by omega)
      have hol : Holds w1 (.slice (some ⟨g, 0, none⟩) (q + 1) cap) (u8s (dig u)) := Holds.of_row (by rw [u8s_len, ← HN.out]; exact O1.out)
      obtain ⟨v2, w2, v3, w3, R2, R3, H3, B3⟩ := copy_two hol (by rw [← HN.out]; omega)
      have O3 := Lib.hid (ownsRow_below O1.out B3.out)
      have hlast := (dig u)[q]'(by have := HN.out; omega) |>.toNat_lt
      have hc3 : w3.cell? ⟨g, q, none⟩ = some (.int .u8 (((dig u)[q]'(by have := HN.out; omega)).toNat : Int)) := by
        have := (hol.below B3.out).cell (j := q) (u := .int .u8 (((dig u)[q]'(by have := HN.out; omega)).toNat : Int)) (by rw [u8s, List.getElem?_map, List.getElem?_eq_getElem]; rfl)
        simpa [Addr.add_at] using this
      have hf3 : w3.frozen? ⟨g, q, none⟩ = false := by
        rcases O3.out.2 with ⟨h, _⟩ | ⟨g', cap', cur, hv, _, hh, _⟩
        · cases h
        · simp only [Value.slice.injEq, Option.some.injEq, Addr.mk.injEq, and_true, true_and] at hv
          obtain ⟨rfl, rfl⟩ := hv
          exact free_of_row hh q
      have hor := set_or _ hlast
      obtain ⟨nb, hnb⟩ : ∃ nb, nb = UInt8.ofNat (((dig u)[q]'(by have := HN.out; omega)).toNat % 128 + 128) := ⟨_, rfl⟩
      rw [← hnb] at hor
      have hnb2 : 128 ≤ nb.toNat := by rw [hnb]; simp; omega
      generalize ((dig u)[q]'(by have := HN.out; omega)).toNat = last at *
      obtain ⟨a5, c5, w5, R5, H5, B5⟩ := set_app O3.out HN.out.symm (Nat.le_trans B1.out.size B3.out.size) (by omega) nb
      have hG := get_longer u nb hnb2
      rw [← HN.out, Nat.add_sub_cancel] at hG
      have G2 := Lib.hid hG
      have G1 := Lib.hid (get_dig0 [255, 1] hu)
      have HNB := Lib.hid hnb2
      have HQN := Lib.hid hnq
      clear hol hlast hnb hnb2 hG hnq HK
      go_wp2_with (first | (at_builtin; refine wpList_append_run rfl (.tmp 19) (.tmp 20) 22 rfl rfl rfl (R2.out _) ?_) | (at_builtin; refine wpList_append_run rfl (.tmp 21) (.tmp 22) 22 rfl rfl rfl (R3.out _) ?_))
      refine (Get_any H3.out (by have := HN.out; simp; omega)).mono ?_
      rintro e w3' ⟨rfl, rfl⟩
      rw [G1.out, ← HN.out]
      go_wp2_with (at_builtin; refine wpList_append_run rfl (.tmp 48) (.tmp 49) 22 rfl rfl rfl (R5.out _) ?_)
      refine (Get_any H5.out (by have := HN.out; simp; omega)).mono ?_
      rintro e w5' ⟨rfl, rfl⟩
      rw [G2.out]
      have B6 := Lib.hid ((B1.out.trans (B3.out.mono B1.out.size)).trans B5.out)
      go_wp2_with fail
      refine (lives_any (HQ.out.below B6.out HQ.out.1)).mono ?_
      rintro e w6 ⟨rfl, hb6⟩
      have B7 := Lib.hid (B6.out.trans (hb6.mono B6.out.size))
      clear hb6
      go_wp2_with fail
      go_ret
      exact ⟨rfl, B7.out⟩
end Go.Proofs.YtpecajaoknnepaaDoor
