/- The texts CodecSum CodecLives CodecShort, one behind the other; each one's own comment says what it holds. -/
import Derived.Test.YtcpfkinjglnabaaPackAJ
import Derived.Test.YtcpfkinjglnabaaPackAI
import Derived.Outline
import Derived.Test.YtcpfkinjglnabaaPackAM
import Derived.Test.YtcpfkinjglnabaaPackAP
import Derived.Test.YtcpfkinjglnabaaPackAQ
import Derived.Test.YtcpfkinjglnabaaPackAR
/- Contract of codec.Sum: a sum of 32 bits. Conditions: the table of 16 numbers reads as the program's text lays it. -/
set_option maxRecDepth 100000
namespace Go.Proofs.Ytcpfkinjglnabaa
open Go.RowKit Go.Maps Go.Sort

def quadL : List Nat := [0, 498536548, 997073096, 651767980, 1994146192, 1802195444, 1303535960, 1342533948, 3988292384, 4027552580, 3604390888, 3412177804, 2607071920, 2262029012, 2685067896, 3183342108]
def quad (i : Nat) : Nat := quadL.getD i 0
theorem quad_lt : ∀ i, i < 16 → quad i < 4294967296 := by decide

/-- the table lies where the program's text lays it -/
def Quads (w : World) : Prop := 0 < w.heap.size ∧ ∀ i, i < 16 → w.cell? ⟨0, i, none⟩ = some (.int .u32 (quad i : Int))
theorem Quads.below {w w' : World} {B : Nat} (h : Quads w) (hb : Below B w w') (hB : 0 < B) : Quads w' :=
  ⟨Nat.lt_of_lt_of_le h.1 hb.size, fun i hi => by rw [hb.cell (p := ⟨0, i, none⟩) hB]; exact h.2 i hi⟩

def sumStep (s : Nat) : Nat := s / 16 ^^^ quad (s % 16)
theorem sumStep_lt (s : Nat) (h : s < 4294967296) : sumStep s < 4294967296 := by
  unfold sumStep
  exact Nat.xor_lt_two_pow (n := 32) (by omega) (quad_lt _ (by omega))
def sumByte (s : Nat) (c : UInt8) : Nat := sumStep (sumStep (s ^^^ c.toNat))
theorem sumByte_lt (s : Nat) (c : UInt8) (h : s < 4294967296) : sumByte s c < 4294967296 := by
  have := c.toNat_lt
  exact sumStep_lt _ (sumStep_lt _ (Nat.xor_lt_two_pow (n := 32) (by omega) (by omega)))
def sumN (l : List UInt8) : Nat := 4294967295 - l.foldl sumByte 4294967295
theorem fold_lt (l : List UInt8) : ∀ s, s < 4294967296 → l.foldl sumByte s < 4294967296 := by
  induction l with
  | nil => exact fun s h => h
  | cons c r ih => exact fun s h => ih _ (sumByte_lt s c h)
theorem sum_example : sumN [49, 50, 51, 52, 53, 54, 55, 56, 57] = 3421780262 := by decide

theorem and15_u32 (s : Nat) (h : s < 4294967296) : bits .and .u32 (s : Int) 15 = ((s % 16 : Nat) : Int) := by
  rw [show (15 : Int) = 2 ^ 4 - 1 from rfl, bits_mask .u32 32 (Nat.le_refl _) wu32 4 (by decide) (s : Int) (by omega) (by omega)]
  simp
theorem step_walk (s : Nat) (h : s < 4294967296) : bits .xor .u32 ((s : Int) / 16) (quad (s % 16) : Int) = (sumStep s : Int) := by
  have := xor_u32 (s / 16) (quad (s % 16)) (by omega) (quad_lt _ (by omega))
  rw [show ((s / 16 : Nat) : Int) = (s : Int) / 16 by omega] at this
  exact this

end Go.Proofs.Ytcpfkinjglnabaa
/- The example of layer 2: as the document says it. Conditions: the table of Sum reads as the program's text lays it. -/
set_option maxRecDepth 100000
namespace Go.Proofs.Ytcpfkinjglnabaa
open Go.RowKit Go.Maps Go.Sort

theorem ex_pack : bytesN ((3 * 2 + 7) / 8) (bigN 3 (nats [5, 2])) = [21] := by decide
theorem ex_runs : runsB (runsOf [7, 7, 7, 1]) = [7, 3, 1, 1] := by
  have e : runsOf [7, 7, 7, 1] = [(7, 3), (1, 1)] := by decide
  rw [e]
  unfold runsB
  simp only [List.flatMap_cons, List.flatMap_nil]
  rw [dig_lo (show (7 : UInt64).toNat < 128 by decide), dig_lo (show 3 < 128 by decide), dig_lo (show (1 : UInt64).toNat < 128 by decide), dig_lo (show 1 < 128 by decide)]
  decide
theorem ex_delta : deltaL 0 [5, 3] = [10, 3] := by
  unfold deltaL deltaL deltaL
  have e1 : zigU (dlt 5 0) = 10 := by decide
  have e2 : zigU (dlt 3 5) = 3 := by decide
  rw [e1, e2, dig_lo (by decide), dig_lo (by decide)]
  decide
theorem bit5 : ∀ u ∈ ([5, 2] : List UInt64), Lib.bitLen u.toNat ≤ 3 := by decide
theorem lt5 : ∀ u ∈ ([5, 2] : List UInt64), u.toNat < 2 ^ 3 := by decide

theorem conv_new (w : World) (c : Array Value) (n m : Nat) : (convert 68 68 (.slice (some ⟨w.heap.size, 0, none⟩) n m)).run Try.prog (w.alloc (.cells c 5)) = .ok (.slice (some ⟨w.heap.size, 0, none⟩) n m) (w.alloc (.cells c 5 (c.size, c.size + 1))) := by
  have h := alloc1 w (.cells c 5)
  have hs : (w.alloc (.cells c 5)).shape? w.heap.size = some (5, c.size) := by unfold World.shape?; rw [h]
  simp [convert, run_underlying Try.underlying68, run_underlying Try.underlying5, markStringish, hs, freeze_new]

theorem new_holds (w : World) (c : Array Value) (t : TypeId) (fr : Nat × Nat) (l : List Value) (n : Nat) (hc : c.toList = l) (hn : n = l.length) : Holds (w.alloc (.cells c t fr)) (.slice (some ⟨w.heap.size, 0, none⟩) n n) l :=
  Holds.of_heap (alloc1 _ _) hc n n hn (Nat.le_refl _)
theorem below1 (w : World) (o : Obj) : Below w.heap.size w (w.alloc o) := (Below.refl _ _).alloc (Nat.le_refl _) _

/-- what holds the bytes l, made by the call that began in w -/
def Made (w : World) (w' : World) (v : Value) (l : List UInt8) : Prop := Holds w' v (u8s l) ∧ Below w.heap.size w w'

theorem same_lit {w : World} {v : Value} {l : List UInt8} (h : Holds w v (u8s l)) (c : Array Value) (n : Nat) (hc : c.toList = u8s l) (hn : n = l.length) :
    Calls Try.prog 22 #[v, .slice (some ⟨w.heap.size, 0, none⟩) n n] (w.alloc (.cells c 5)) fun r w' => r = .returned (.bool true) ∧ Hid (Below w.heap.size w w') :=
  (Same_any (h.below (below1 _ _)) (new_holds w c _ _ (u8s l) n hc (by rw [u8s_len]; exact hn))).mono fun _ _ ⟨h1, h2⟩ => ⟨by rw [h1, decide_eq_true rfl], h2 ▸ below1 _ _⟩
theorem pack_lit (w : World) : Calls Try.prog 74 #[.int .i64 3, .slice (some ⟨w.heap.size, 0, none⟩) 2 2] (w.alloc (.cells #[.int .u64 5, .int .u64 2] 116)) fun r w' => ∃ v, r = .returned (.tuple #[v, .int .i64 0]) ∧ Hid (Made w w' v [21]) :=
  (Pack_main (l := [5, 2]) (new_holds _ _ _ _ _ 2 rfl rfl) (by decide) 3 (by omega) bit5 lt5).mono fun _ _ ⟨v, h1, h2⟩ => ⟨v, h1, by
    have e1 := h2.out.1
    rw [show (3 * [(5 : UInt64), 2].length + 7) / 8 = (3 * 2 + 7) / 8 from rfl, ex_pack] at e1
    exact ⟨Holds.of_row (xs := u8s [21]) e1, (below1 w _).trans (h2.out.2.mono (by simp))⟩⟩
theorem runs_lit (w : World) : Calls Try.prog 97 #[.slice (some ⟨w.heap.size, 0, none⟩) 4 4] (w.alloc (.cells #[.int .u64 7, .int .u64 7, .int .u64 7, .int .u64 1] 116)) fun r w' => ∃ v, r = .returned v ∧ Hid (Made w w' v [7, 3, 1, 1]) :=
  (Runs_any (l := [7, 7, 7, 1]) (new_holds _ _ _ _ _ 4 rfl rfl) (by decide)).mono fun _ _ ⟨v, h1, h2⟩ => ⟨v, h1, by
    have e1 := h2.out.1
    rw [ex_runs] at e1
    exact ⟨Holds.of_row (xs := u8s [7, 3, 1, 1]) e1, (below1 w _).trans (h2.out.2.mono (by simp))⟩⟩
theorem delta_lit (w : World) : Calls Try.prog 99 #[.slice (some ⟨w.heap.size, 0, none⟩) 2 2] (w.alloc (.cells #[.int .i64 5, .int .i64 3] 3)) fun r w' => ∃ v, r = .returned v ∧ Hid (Made w w' v [10, 3]) :=
  (Deltas_any (l := [5, 3]) (new_holds _ _ _ _ _ 2 rfl rfl) (by decide)).mono fun _ _ ⟨v, h1, h2, h3⟩ => ⟨v, h1, by
    rw [ex_delta] at h2
    exact ⟨Holds.of_row (xs := u8s [10, 3]) h2, (below1 w _).trans (h3.mono (by simp))⟩⟩
theorem put_lit (w : World) : Calls Try.prog 49 #[.slice none 0 0, .int .u64 300] w fun r w' => ∃ v, r = .returned v ∧ Hid (Made w w' v [172, 2]) :=
  (Put_any (xs := []) (Holds.nil _) 300 (by omega) (by decide)).mono fun _ _ ⟨v, h1, h2, h3⟩ => ⟨v, h1, by
    rw [dig300] at h2
    exact ⟨Holds.of_row (xs := u8s [172, 2]) h2, h3⟩⟩
end Go.Proofs.Ytcpfkinjglnabaa
/- The walk of CodecShort: a number has one byte for each seven bits; a longer one is never read. Conditions: the table of Sum reads as the program's text lays it. -/
set_option maxRecDepth 100000
namespace Go.Proofs.Ytcpfkinjglnabaa
open Go.RowKit Go.Maps Go.Sort

theorem get_dig (r : List UInt8) (x : Nat) : ∀ (i U : Nat), i < 10 → x * 2 ^ (7 * i) < 18446744073709551616 → (0 < i → 0 < x) → getAt (dig x ++ r) i U = (U + x * 2 ^ (7 * i), i + (dig x).length) := by
  induction x using Nat.strongRecOn with
  | _ x ih =>
    intro i U hi hb h0
    have hp : 0 < 2 ^ (7 * i) := Nat.two_pow_pos _
    by_cases h : x < 128
    · rw [dig_lo h]
      have e : (UInt8.ofNat x).toNat = x := by simp; omega
      have h9 : ¬ (i = 9 ∧ 1 < (UInt8.ofNat x).toNat) := by
        rw [e]
        rintro ⟨rfl, h1⟩
        have := Nat.mul_le_mul_right (2 ^ (7 * 9)) (show 2 ≤ x by omega)
        omega
      rw [List.singleton_append, get_last _ _ _ _ hi (by rw [e]; omega) h9 (by rw [e]; exact h), e]
      rfl
    · have hi8 : i ≤ 8 := by
        rcases Nat.lt_or_ge i 9 with g | g
        · omega
        · obtain rfl : i = 9 := by omega
          have := Nat.mul_le_mul_right (2 ^ (7 * 9)) (show 128 ≤ x by omega)
          omega
      rw [dig_hi h, List.cons_append, get_more _ _ _ _ hi (by simp; omega)]
      have e : (UInt8.ofNat (x % 128 + 128)).toNat - 128 = x % 128 := by simp; omega
      have hpow : 2 ^ (7 * (i + 1)) = 128 * 2 ^ (7 * i) := by rw [show 7 * (i + 1) = 7 + 7 * i by omega, Nat.pow_add]
      have hsplit : x % 128 * 2 ^ (7 * i) + x / 128 * 2 ^ (7 * (i + 1)) = x * 2 ^ (7 * i) := by
        rw [hpow, ← Nat.mul_assoc, ← Nat.add_mul]
        congr 1
        omega
      rw [ih (x / 128) (by omega) (i + 1) _ (by omega) (by omega) (by omega), e]
      rw [Nat.add_assoc U, hsplit]
      simp
      omega
theorem get_dig0 (r : List UInt8) {u : Nat} (hu : u < 18446744073709551616) : getN (dig u ++ r) = (u, (dig u).length) := by
  unfold getN
  rw [get_dig r u 0 0 (by omega) (by simpa using hu) (by omega)]
  simp
/-- bytes that all go on, and a 0: no number -/
theorem get_pad (l : List UInt8) (h : ∀ c ∈ l, 128 ≤ c.toNat) : ∀ (i U : Nat), 0 < i + l.length → getAt (l ++ [0]) i U = (0, 0) := by
  induction l with
  | nil =>
    intro i U hi
    by_cases h10 : 10 ≤ i
    · rw [List.nil_append, getAt, if_pos h10]
    · exact get_zero _ _ _ _ (by simpa using hi) (by omega) rfl
  | cons c r ih =>
    intro i U _
    have hc := h c List.mem_cons_self
    by_cases h10 : 10 ≤ i
    · rw [List.cons_append, getAt, if_pos h10]
    · rw [List.cons_append, get_more _ _ _ _ (by omega) (by omega)]
      exact ih (fun d hd => h d (List.mem_cons_of_mem _ hd)) _ _ (by omega)
theorem dig_ge (u : Nat) : ∀ (j : Nat) (h : j + 1 < (dig u).length), 128 ≤ ((dig u)[j]'(by omega)).toNat := by
  induction u using Nat.strongRecOn with
  | _ u ih =>
    intro j h
    by_cases hlo : u < 128
    · simp only [dig_lo hlo, List.length_cons, List.length_nil] at h; omega
    · have e := dig_hi hlo
      have h2 : j + 1 < (UInt8.ofNat (u % 128 + 128) :: dig (u / 128)).length := by rw [← e]; exact h
      have e2 : (dig u)[j]'(by omega) = (UInt8.ofNat (u % 128 + 128) :: dig (u / 128))[j]'(by omega) := by simp only [e]
      rw [e2]
      cases j with
      | zero => simp; omega
      | succ j =>
        simp only [List.getElem_cons_succ]
        exact ih (u / 128) (by omega) j (by simpa using h2)
theorem dig_pos (u : Nat) : 0 < (dig u).length := by
  by_cases h : u < 128
  · rw [dig_lo h]; simp
  · rw [dig_hi h]; simp
theorem get_longer (u : Nat) (c : UInt8) (hc : 128 ≤ c.toNat) : getN ((dig u).set ((dig u).length - 1) c ++ [0]) = (0, 0) := by
  have hp := dig_pos u
  refine get_pad _ (fun d hd => ?_) 0 0 (by simp; omega)
  obtain ⟨j, hj, rfl⟩ := List.mem_iff_getElem.1 hd
  rw [List.getElem_set]
  rw [List.length_set] at hj
  split
  · exact hc
  · exact dig_ge u j (by omega)

/-- how many digits are still to count -/
def left7 (x : Nat) : Nat := if x = 0 then 0 else (dig x).length
theorem left7_step {x : Nat} (h : 0 < x) : left7 x = 1 + left7 (x / 128) := by
  unfold left7
  rw [if_neg (by omega)]
  by_cases h2 : x < 128
  · rw [dig_lo h2, if_pos (by omega)]; simp
  · rw [dig_hi h2, if_neg (by omega)]; simp; omega
theorem left7_first (u : Nat) : 1 + left7 (u / 128) = (dig u).length := by
  unfold left7
  by_cases h2 : u < 128
  · rw [dig_lo h2, if_pos (by omega)]; simp
  · rw [dig_hi h2, if_neg (by omega)]; simp; omega

theorem row_set {w : World} {B : Nat} {e : TypeId} {g j n cap : Nat} {xs : List Value} (h : w.ownsRow B e 1 (.slice (some ⟨g, 0, none⟩) n cap) n xs) (x : Value) :
    (w.setCell ⟨g, j, none⟩ x).ownsRow B e 1 (.slice (some ⟨g, 0, none⟩) n cap) n (xs.set j x) := by
  obtain ⟨h1, h2⟩ := h
  rcases h2 with ⟨h2, _⟩ | ⟨g', cap', cur, hv, hB, hh, hn, hcap, hsz, htake⟩
  · cases h2
  · simp only [Value.slice.injEq, Option.some.injEq, Addr.mk.injEq, and_true, true_and] at hv
    obtain ⟨rfl, rfl⟩ := hv
    refine ⟨by simpa using h1, .inr ⟨_, _, _, rfl, hB, heap_set hh x, hn, hcap, by simpa using hsz, ?_⟩⟩
    rw [Array.toList_setIfInBounds, ← htake, List.take_set]

theorem row_form1 {w : World} {base : Nat} {e : TypeId} {v : Value} {n : Nat} {xs : List Value} (h : w.ownsRow base e 1 v n xs) (hn : 0 < n) : ∃ g cap, v = .slice (some ⟨g, 0, none⟩) n cap ∧ base ≤ g := by
  rcases h.2 with ⟨_, h2⟩ | ⟨g, cap, cur, rfl, hb, _⟩
  · omega
  · exact ⟨g, cap, rfl, hb⟩
theorem set_or (b : Nat) (hb : b < 256) : bits .or .u8 (b : Int) 128 = ((UInt8.ofNat (b % 128 + 128)).toNat : Int) := by
  have h := or_u8 b 128 hb (by omega)
  rw [or128 b hb] at h
  rw [show (128 : Int) = ((128 : Nat) : Int) from rfl, h]
  simp
  omega

/-- a copy of bytes, and two more behind it -/
theorem copy_two {w : World} {v : Value} {l : List UInt8} (h : Holds w v (u8s l)) (hl : l.length ≤ 1000) :
    ∃ v2 w2 v3 w3, Hid (∀ ty, (Builtin.append_ #[68, 68] ty #[.slice (some ⟨w.heap.size, 0, none⟩) 0 0, v]).run Try.prog (w.alloc (.cells #[] 5)) = .ok v2 w2) ∧
      Hid (∀ ty, (Builtin.append_ #[68, 68] ty #[v2, .slice (some ⟨w2.heap.size, 0, none⟩) 2 2]).run Try.prog (w2.alloc (.cells #[.int .u8 255, .int .u8 1] 5)) = .ok v3 w3) ∧
      Hid (Holds w3 v3 (u8s (l ++ [255, 1]))) ∧ Hid (Below w.heap.size w w3) := by
  have hb1 := below1 w (.cells #[] 5)
  have hr1 := World.ownsRow_made w (base := w.heap.size) (e := 5) (size := 1) #[] 0 (Nat.le_refl _) (by unfold maxLen; omega) (by simp)
  obtain ⟨v2, w2, r, o, g, b⟩ := app8 (xs := []) hr1 hb1.size (h.below hb1) (by simp; omega)
  have hb2 : Below w.heap.size w w2 := hb1.trans (below_grown g hb1.size (fun k e => by simp [Value.ownBlock] at e; omega))
  rw [List.nil_append] at o
  have hb3 : Below w.heap.size w (w2.alloc (.cells #[.int .u8 255, .int .u8 1] 5)) := hb2.alloc hb2.size _
  obtain ⟨v3, w3, r3, o3, g3, b3⟩ := app8 (o.alloc (.cells #[.int .u8 255, .int .u8 1] 5)) hb3.size (new_holds w2 _ _ _ (u8s [255, 1]) 2 rfl rfl) (by simp; omega)
  exact ⟨v2, w2, v3, w3, r, r3, Holds.of_row (by rw [u8s_len]; exact o3), hb3.trans (below_grown g3 hb3.size (ownsRow_ge o))⟩

/-- a 0 behind a row one byte of which was turned -/
theorem set_app {w : World} {B g q cap : Nat} {l : List UInt8} (h : w.ownsRow B 5 1 (.slice (some ⟨g, 0, none⟩) (q + 1) cap) (q + 1) (u8s l)) (hl : l.length = q + 1) (hB : B ≤ w.heap.size) (hq : q ≤ 1000) (nb : UInt8) :
    ∃ a c w2, Hid (∀ ty, (Builtin.append_ #[68, 68] ty #[.slice (some ⟨g, 0, none⟩) (q + 1) cap, .slice (some ⟨w.heap.size, 0, none⟩) 1 1]).run Try.prog ((w.setCell ⟨g, q, none⟩ (.int .u8 (nb.toNat : Int))).alloc (.cells #[.int .u8 0] 5)) = .ok (.slice a (q + 1 + 1) c) w2) ∧
      Hid (Holds w2 (.slice a (q + 1 + 1) c) (u8s (l.set q nb ++ [0]))) ∧ Hid (Below B w w2) := by
  have hset := row_set (j := q) h (.int .u8 (nb.toNat : Int))
  have e : (u8s l).set q (.int .u8 (nb.toNat : Int)) = u8s (l.set q nb) := by simp [u8s, List.map_set]
  rw [e] at hset
  have hlen : (l.set q nb).length = q + 1 := by rw [List.length_set, hl]
  rw [← hlen] at hset
  have hsz : (w.setCell ⟨g, q, none⟩ (.int .u8 (nb.toNat : Int))).heap.size = w.heap.size := by simp [World.setCell]
  have hb1 : Below B w (w.setCell ⟨g, q, none⟩ (.int .u8 (nb.toNat : Int))) := (Below.refl _ _).setCell (p := ⟨g, q, none⟩) (by
    have := (h.lt g rfl).1; exact this) _
  have hb2 : Below B w ((w.setCell ⟨g, q, none⟩ (.int .u8 (nb.toNat : Int))).alloc (.cells #[.int .u8 0] 5)) := hb1.alloc (by rw [hsz]; exact hB) _
  obtain ⟨v2, w2, r, o, gr, b⟩ := app8 (hset.alloc (.cells #[.int .u8 0] 5)) (Nat.le_trans hB hb2.size) (holds_one8 (w.setCell ⟨g, q, none⟩ (.int .u8 (nb.toNat : Int))) 0 0 rfl) (by rw [hlen]; simp; omega)
  rw [hsz] at r
  have hlen2 : (l.set q nb ++ [0]).length = q + 1 + 1 := by simp [hl]
  rw [hlen2] at o
  obtain ⟨a, c, rfl, _⟩ := ownsRow_form o
  rw [hlen] at r gr
  refine ⟨a, c, w2, r, Holds.of_row (by rw [u8s_len, hlen2]; exact o), ?_⟩
  exact hb2.trans (below_grown gr (Nat.le_trans hB hb2.size) (fun k e => (by
    have := (h.lt g rfl).1
    simp [Value.ownBlock] at e
    omega)))

end Go.Proofs.Ytcpfkinjglnabaa
