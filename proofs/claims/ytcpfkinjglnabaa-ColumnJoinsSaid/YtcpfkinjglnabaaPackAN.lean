/- The texts PackRange Lend RefPack RefUnpack PacksAll, one behind the other; each one's own comment says what it holds. -/
import Derived.Test.YtcpfkinjglnabaaPackAM
import Derived.Test.YtcpfkinjglnabaaPackAB
import Derived.Test.YtcpfkinjglnabaaPackAK
import Derived.Test.YtcpfkinjglnabaaPackAL
/- codec.Pack gives up a number that is wider than the width. Conditions: small lists. -/
set_option maxRecDepth 100000
namespace Go.Proofs.Ytcpfkinjglnabaa
open Go.RowKit Go.Maps Go.Sort

theorem bit_lt (wd : Nat) : ∀ (x : Nat), x < 2 ^ 64 → Lib.bitLen x ≤ wd → x < 2 ^ wd := by
  induction wd with
  | zero =>
    intro x hx h
    rcases Nat.eq_zero_or_pos x with rfl | hp
    · simp
    · rw [Lib.bitLen_half x (by omega) hx] at h
      omega
  | succ n ih =>
    intro x hx h
    rcases Nat.eq_zero_or_pos x with rfl | hp
    · exact Nat.two_pow_pos _
    · rw [Lib.bitLen_half x (by omega) hx] at h
      have := ih (x / 2) (by omega) (by omega)
      rw [Nat.pow_succ]
      omega
theorem bit_ge (wd x : Nat) (hw : wd ≤ 64) (h : wd < Lib.bitLen x) : ¬ x < 2 ^ wd := fun hx => by
  have := Lib.bitLen_le x wd hw hx
  omega

set_option maxHeartbeats 400000 in
theorem Pack_range {w : World} {v : Value} {l : List UInt64} (h : Holds w v (u64s l)) (hl : l.length ≤ 1000000) (wd : Nat) (hw : wd ≤ 64) (hbad : ∃ u ∈ l, ¬ u.toNat < 2 ^ wd) :
    Calls Try.prog 74 #[.int .i64 (wd : Int), v] w fun e w' => e = .returned (.tuple #[.slice none 0 0, .int .i64 6]) ∧ Below w.heap.size w w' := by
  obtain ⟨a, c, hv, hc⟩ := h.form
  rw [u64s_len] at hv hc
  subst hv
  have H := Lib.hid h
  generalize hn : l.length = n at *
  have HN := Lib.hid hn
  have HF := Lib.hid hbad
  clear h hn hbad
  refine (callsIn_wide (n := 0)).1 ?_
  refine callsIn_of_wp_marks Try.func74 rfl trivial ?_ rfl
  simp only [Try.ntmps74, List.size_toArray, List.length_cons, List.length_nil, Nat.reduceAdd, Nat.reduceSub, Array.replicate_succ, Array.replicate_zero, List.push_toArray, List.append_toArray, List.nil_append, List.cons_append]
  have t1 : decide ((wd : Int) < 0) = false := decide_eq_false (by omega)
  have t2 : decide ((64 : Int) < (wd : Int)) = false := decide_eq_false (by omega)
  gi_wp2
  gi_loop [21] (fun i => ∃ k : Nat, i = .int .i64 k ∧ k ≤ n ∧ Hid (∀ u ∈ l.take k, u.toNat < 2 ^ wd)) (fun i => n - (intOf i).toNat)
  case atStart => exact ⟨0, rfl, by omega, Lib.hid (by simp)⟩
  case round =>
    obtain ⟨k, rfl, hk, HP⟩ := hrel
    by_cases hlt : k < n
    · have hkl : k < l.length := by rw [HN.out]; exact hlt
      obtain ⟨ad, rfl⟩ := H.out.ptr (by omega)
      have hc : w.cell? (ad.add k) = some (.int .u64 (l[k].toNat : Int)) := H.out.cell (by simp [u64s, hkl])
      have hx := l[k].toNat_lt
      have HS : Hid (l[k].toNat < 2 ^ wd → ∀ u ∈ l.take (k + 1), u.toNat < 2 ^ wd) := Lib.hid fun h u hu => by
        rw [List.take_succ_eq_append_getElem hkl, List.mem_append] at hu
        rcases hu with hu | hu
        · exact HP.out u hu
        · obtain rfl := List.mem_singleton.1 hu
          exact h
      generalize l[k].toNat = x at *
      gi_wp2_with fail
      refine ⟨trivial, rfl, (callsIn_wide.2 (Try.bits_Len64 (x : Int) _ (by omega) (by omega))).mono ?_⟩
      rintro e w' ⟨rfl, rfl⟩
      rw [Int.toNat_natCast]
      have HB := Lib.hid (bit_lt wd x (by omega))
      generalize Lib.bitLen x = bl at *
      by_cases hb : bl ≤ wd
      · have t3 : decide ((wd : Int) < (bl : Int)) = false := decide_eq_false (by omega)
        gi_wp2_with fail
        go_round
        case rel => exact ⟨k + 1, by go_num, by omega, Lib.hid (HS.out (HB.out hb))⟩
        case measure => simp [intOf]; omega
      · have t3 : decide ((wd : Int) < (bl : Int)) = true := decide_eq_true (by omega)
        gi_wp2_with fail
        refine leave_marks (B := w'.heap.size) (v := .tuple #[.slice none 0 0, .int .i64 6]) (fun w' => by simp [results, Try.results74, go_sem]) [] _ trivial (fun W' hs => ?_)
        exact ⟨rfl, hs.below⟩
    · obtain ⟨u, hu, hb⟩ := HF.out
      refine absurd (HP.out u ?_) hb
      rw [List.take_of_length_le (by rw [HN.out]; omega)]
      exact hu
end Go.Proofs.Ytcpfkinjglnabaa
/- Contract of talusref01.Lend: a copy of the bytes in the middle of a new block. Conditions: at most 100000 bytes. -/
set_option maxRecDepth 100000
namespace Go.Proofs.Ytcpfkinjglnabaa
open Go.RowKit Go.Maps Go.Sort

/-- the block behind k rounds -/
def lendL (l : List UInt8) (k : Nat) : List UInt8 := 165 :: (l.take k ++ List.replicate (l.length - k) 0) ++ [90]
theorem lendL_len (l : List UInt8) {k : Nat} (h : k ≤ l.length) : (lendL l k).length = l.length + 2 := by
  unfold lendL; simp; omega
theorem lendL_step (l : List UInt8) {k : Nat} (h : k < l.length) : (lendL l k).set (k + 1) l[k] = lendL l (k + 1) := by
  unfold lendL
  rw [List.cons_append, List.set_cons_succ]
  congr 1
  rw [List.set_append_left _ _ (by simp; omega), List.set_append_right _ _ (by simp; omega)]
  congr 1
  rw [List.length_take, Nat.min_eq_left (by omega), Nat.sub_self, show l.length - k = (l.length - (k + 1)) + 1 by omega, List.replicate_succ, List.set_cons_zero, List.take_succ_eq_append_getElem h, List.append_assoc]
  rfl

theorem made_u8s (n : Nat) : madeCells #[Value.int .u8 0] n = (u8s (List.replicate n 0)).toArray := by
  apply Array.toList_inj.1
  rw [toList_madeCells_one]
  simp [u8s]
theorem set_u8s {w : World} {g j : Nat} {xs : List UInt8} (h : w.heap[g]? = some (.cells (u8s xs).toArray 5 (0, 0))) (c : UInt8) : (w.setCell ⟨g, j, none⟩ (.int .u8 (c.toNat : Int))).heap[g]? = some (.cells (u8s (xs.set j c)).toArray 5 (0, 0)) := by
  rw [heap_set h]
  congr 2
  apply Array.toList_inj.1
  simp [u8s, List.map_set]
theorem lend_zero (l : List UInt8) : ((List.replicate (l.length + 2) (0 : UInt8)).set 0 165).set (l.length + 1) 90 = lendL l 0 := by
  unfold lendL
  rw [List.replicate_succ, List.set_cons_zero, List.set_cons_succ, List.replicate_succ', List.set_append_right _ _ (by simp)]
  simp
theorem cell_u8s {w : World} {g j : Nat} {xs : List UInt8} (h : w.heap[g]? = some (.cells (u8s xs).toArray 5 (0, 0))) (hj : j < xs.length) : w.cell? ⟨g, j, none⟩ = some (.int .u8 (xs[j].toNat : Int)) := by
  rw [cell_of_row _ _ _ _ _ _ h]
  simp [u8s, hj]
theorem mk_u8s (w : World) (n : Nat) (hn : n ≤ 100002) :
    (Instr.makeSlice 68 (.int .i64 (n : Int)) (.int .i64 (n : Int))).run Try.prog w = .ok (.slice (some ⟨w.heap.size, 0, none⟩) n n) (w.alloc (.cells (u8s (List.replicate n 0)).toArray 5)) := by
  obtain ⟨i, hi, hz0, hz1, hz2⟩ := info_parts info8
  have := run_make (P := Try.prog) w 68 5 i (.int .u8 0) Try.underlying68 hi hz0 .i64 .i64 (n : Int) n (by omega) (by omega) (by rw [hz2]; omega) (by omega)
  rw [this, hz1]
  simp only [Int.toNat_natCast, Nat.mul_one, Value.cells]
  rw [made_u8s]

theorem lendL_full (l : List UInt8) : lendL l l.length = 165 :: l ++ [90] := by
  unfold lendL; simp

/-- the middle of the block that Lend made -/
theorem lend_mid {w : World} {g : Nat} {l : List UInt8} (h : w.heap[g]? = some (.cells (u8s (lendL l l.length)).toArray 5 (0, 0))) : Holds w (.slice (some ⟨g, 1, none⟩) l.length (l.length + 1)) (u8s l) := by
  refine ⟨some ⟨g, 1, none⟩, _, by rw [u8s_len], by rw [u8s_len]; omega, .inr ⟨_, rfl, fun j u hj => ?_⟩⟩
  have hjl : j < l.length := by
    have := (List.getElem?_eq_some_iff.1 hj).1
    simpa [u8s] using this
  have hc := cell_u8s (j := 1 + j) h (by rw [lendL_len l (Nat.le_refl _)]; omega)
  have e : (lendL l l.length)[1 + j]'(by rw [lendL_len l (Nat.le_refl _)]; omega) = l[j] := by
    simp only [lendL_full]
    simp [Nat.add_comm 1 j, hjl]
  rw [e] at hc
  simp [u8s, hjl] at hj
  rw [← hj]
  rw [show (Addr.add ⟨g, 1, none⟩ j : Addr) = ⟨g, 1 + j, none⟩ by simp [Addr.add]]
  exact hc

end Go.Proofs.Ytcpfkinjglnabaa
/- Contracts of talusref02.Pack: one bit after the other. Conditions: small lists. -/
set_option maxRecDepth 100000
namespace Go.Proofs.Ytcpfkinjglnabaa
open Go.RowKit Go.Maps Go.Sort

/-- one bit more -/
theorem bit_step (m P f u k : Nat) (hP : P < 2 ^ f) :
    (u / 2 ^ k % 2 = 0 → P + u % 2 ^ (k + 1) * 2 ^ f = P + u % 2 ^ k * 2 ^ f) ∧
    (u / 2 ^ k % 2 = 1 → (bytesN m (P + u % 2 ^ k * 2 ^ f)).set ((f + k) / 8) (UInt8.ofNat ((P + u % 2 ^ k * 2 ^ f) / 256 ^ ((f + k) / 8) + 1 % 2 ^ (8 - (f + k) % 8) * 2 ^ ((f + k) % 8))) = bytesN m (P + u % 2 ^ (k + 1) * 2 ^ f)) ∧
    (P + u % 2 ^ k * 2 ^ f) / 256 ^ ((f + k) / 8) < 2 ^ ((f + k) % 8) := by
  have hN : P + u % 2 ^ k * 2 ^ f < 2 ^ (f + k) := by
    have h1 : u % 2 ^ k + 1 ≤ 2 ^ k := Nat.mod_lt _ (Nat.two_pow_pos _)
    have h2 := Nat.mul_le_mul_right (2 ^ f) h1
    rw [Nat.add_mul, Nat.one_mul, ← Nat.pow_add, Nat.add_comm k f] at h2
    omega
  have hs := mod_split u k 1
  rw [Nat.pow_one] at hs
  refine ⟨fun h => ?_, fun h => ?_, low_lt _ _ hN⟩
  · rw [hs, h]; simp
  · have h1 : 1 % 2 ^ (8 - (f + k) % 8) = 1 := Nat.mod_eq_of_lt (Nat.one_lt_two_pow (by omega))
    have hb := bytes_or m _ (f + k) 1 hN (Nat.one_lt_two_pow (by omega))
    rw [h1, hb, hs, h, Nat.add_mul, Nat.one_mul, Nat.one_mul, Nat.pow_add, Nat.mul_comm (2 ^ f)]
    congr 1
    omega

end Go.Proofs.Ytcpfkinjglnabaa
/- Contracts of talusref02.Unpack: one bit after the other. Conditions: none but Go's. -/
set_option maxRecDepth 100000
namespace Go.Proofs.Ytcpfkinjglnabaa
open Go.RowKit Go.Maps Go.Sort

theorem app1u {w : World} {B : Nat} {v : Value} {xs : List UInt64} (hown : w.ownsRow B 116 1 v xs.length (u64s xs)) (hB : B ≤ w.heap.size) (c : UInt64) (n : Int) (hn : n = (c.toNat : Int)) (hx : xs.length ≤ 1000000) :
    ∃ v2 w2, Hid (∀ ty, (Builtin.append_ #[118, 118] ty #[v, .slice (some ⟨w.heap.size, 0, none⟩) 1 1]).run Try.prog (w.alloc (.cells #[.int .u64 n] 116)) = .ok v2 w2) ∧
      Hid (w2.ownsRow B 116 1 v2 (xs ++ [c]).length (u64s (xs ++ [c])) ∧ Below B w w2) := by
  have hs : Holds (w.alloc (.cells #[.int .u64 n] 116)) (.slice (some ⟨w.heap.size, 0, none⟩) 1 1) (u64s [c]) :=
    Holds.of_heap (alloc1 _ _) (by rw [hn]; rfl) 1 1 rfl (Nat.le_refl _)
  have hb1 : Below B w (w.alloc (.cells #[.int .u64 n] 116)) := (Below.refl _ _).alloc hB _
  have ho := hown.alloc (.cells #[.int .u64 n] 116)
  have := app_any (P := Try.prog) Try.underlying118 infoU (by omega) rfl (by rw [u64s_len]; exact ho) (Nat.le_trans hB hb1.size) hs (u64s_one [c]) (by rw [u64s_len, u64s_len]; simp; omega)
  rw [← u64s_append, u64s_len] at this
  obtain ⟨v2, w2, r, o, g, b⟩ := this
  exact ⟨v2, w2, r, o, hb1.trans (below_grown g (Nat.le_trans hB hb1.size) (ownsRow_ge hown))⟩

theorem bit_of (bs : List UInt8) (t : Nat) (h : t / 8 < bs.length) : bs[t / 8].toNat / 2 ^ (t % 8) % 2 = numB bs / 2 ^ t % 2 := by
  rw [numB_at bs _ h, piece_eq, Nat.mod_mod_of_dvd]
  exact ⟨2 ^ (7 - t % 8), by rw [← Nat.pow_succ']; congr 1; omega⟩

theorem num_step (N f k : Nat) : N / 2 ^ f % 2 ^ (k + 1) = N / 2 ^ f % 2 ^ k + N / 2 ^ (f + k) % 2 * 2 ^ k := by
  have := mod_split (N / 2 ^ f) k 1
  rw [Nat.pow_one] at this
  rw [this, Nat.pow_add, Nat.div_div_eq_div_mul]
theorem or_bit (x k : Nat) (h : x < 2 ^ k) : x ||| 2 ^ k = x + 2 ^ k := by
  have := Nat.two_pow_add_eq_or_of_lt h 1
  rw [Nat.mul_one] at this
  rw [Nat.or_comm, ← this, Nat.add_comm]
theorem unpackL_snoc (wd j N : Nat) : unpackL wd (j + 1) N = unpackL wd j N ++ [UInt64.ofNat (N / 2 ^ (wd * j) % 2 ^ wd)] := by
  simp [unpackL, List.range_succ]
theorem unpackL_len (wd j N : Nat) : (unpackL wd j N).length = j := by simp [unpackL]

end Go.Proofs.Ytcpfkinjglnabaa
/- Pack and Unpack, and the document's: the same answers for any width and count. Conditions: small lists. -/
set_option maxRecDepth 100000
namespace Go.Proofs.Ytcpfkinjglnabaa
open Go.RowKit Go.Maps Go.Sort

theorem Pack_arg {w : World} (wd : Int) (hw : wd < 0 ∨ 64 < wd) (v : Value) :
    Calls Try.prog 74 #[.int .i64 wd, v] w fun e w' => e = .returned (.tuple #[.slice none 0 0, .int .i64 2]) ∧ Below w.heap.size w w' := by
  refine (callsIn_wide (n := 0)).1 ?_
  refine callsIn_of_wp_marks Try.func74 rfl trivial ?_ rfl
  simp only [Try.ntmps74, List.size_toArray, List.length_cons, List.length_nil, Nat.reduceAdd, Nat.reduceSub, Array.replicate_succ, Array.replicate_zero, List.push_toArray, List.append_toArray, List.nil_append, List.cons_append]
  by_cases h : wd < 0
  · have t1 : decide (wd < 0) = true := decide_eq_true h
    gi_wp2_with fail
    refine leave_marks (B := w.heap.size) (v := .tuple #[.slice none 0 0, .int .i64 2]) (fun w' => by simp [results, Try.results74, go_sem]) [] _ trivial (fun W' hs => ?_)
    exact ⟨rfl, hs.below⟩
  · have t1 : decide (wd < 0) = false := decide_eq_false h
    have t2 : decide ((64 : Int) < wd) = true := decide_eq_true (by omega)
    gi_wp2_with fail
    refine leave_marks (B := w.heap.size) (v := .tuple #[.slice none 0 0, .int .i64 2]) (fun w' => by simp [results, Try.results74, go_sem]) [] _ trivial (fun W' hs => ?_)
    exact ⟨rfl, hs.below⟩

theorem below3r (w : World) (A B C : Obj) : Below w.heap.size w (((w.alloc A).alloc B).alloc C) := (((Below.refl _ _).alloc (Nat.le_refl _) _).alloc (by simp) _).alloc (by simp; omega) _

theorem Unpack_arg {w : World} (wd n : Int) (hw : wd < 0 ∨ 64 < wd ∨ n < 0 ∨ 100000 < n) (v : Value) (hv : ∃ a l c, v = .slice a l c) :
    Calls Try.prog 106 #[.int .i64 wd, .int .i64 n, v] w fun e w' => e = .returned (.tuple #[.slice none 0 0, .int .i64 2]) ∧ Below w.heap.size w w' := by
  obtain ⟨a, l, c, rfl⟩ := hv
  go_enter Try.func106, Try.ntmps106
  by_cases h1 : wd < 0
  · have t1 : decide (wd < 0) = true := decide_eq_true h1
    go_wp2_with fail
    go_ret2
    exact ⟨rfl, below3r _ _ _ _⟩
  · have t1 : decide (wd < 0) = false := decide_eq_false h1
    by_cases h2 : 64 < wd
    · have t2 : decide ((64 : Int) < wd) = true := decide_eq_true h2
      go_wp2_with fail
      go_ret2
      exact ⟨rfl, below3r _ _ _ _⟩
    · have t2 : decide ((64 : Int) < wd) = false := decide_eq_false h2
      by_cases h3 : n < 0
      · have t3 : decide (n < 0) = true := decide_eq_true h3
        go_wp2_with fail
        go_ret2
        exact ⟨rfl, below3r _ _ _ _⟩
      · have t3 : decide (n < 0) = false := decide_eq_false h3
        have t4 : decide ((100000 : Int) < n) = true := decide_eq_true (by omega)
        go_wp2_with fail
        go_ret2
        exact ⟨rfl, below3r _ _ _ _⟩

/-- the document's answers -/
def packAns (wd : Int) (l : List UInt64) : List UInt8 × Int :=
  if wd < 0 ∨ 64 < wd then ([], 2) else if ∀ u ∈ l, u.toNat < 2 ^ wd.toNat then (bytesN ((wd.toNat * l.length + 7) / 8) (bigN wd.toNat (nats l)), 0) else ([], 6)
def unpackAns (wd n : Int) (bs : List UInt8) : List UInt64 × Int :=
  if wd < 0 ∨ 64 < wd ∨ n < 0 ∨ 100000 < n then ([], 2) else if bs.length = (wd.toNat * n.toNat + 7) / 8 ∧ numB bs < 2 ^ (wd.toNat * n.toNat) then (unpackL wd.toNat n.toNat (numB bs), 0) else ([], 8)

theorem Pack_all {w : World} {a : Option Addr} {cap : Nat} {l : List UInt64} (h : Holds w (.slice a l.length cap) (u64s l)) (hl : l.length ≤ 100000) (wd : Int) :
    Calls Try.prog 74 #[.int .i64 wd, .slice a l.length cap] w fun e w' => ∃ v', e = .returned (.tuple #[v', .int .i64 (packAns wd l).2]) ∧ Hid (Holds w' v' (u8s (packAns wd l).1) ∧ Below w.heap.size w w') := by
  unfold packAns
  by_cases h1 : wd < 0 ∨ 64 < wd
  · simp only [if_pos h1]
    refine (Pack_arg wd h1 _).mono ?_
    rintro e w' ⟨rfl, hb⟩
    exact ⟨_, rfl, Lib.hid ⟨Holds.nil _, hb⟩⟩
  · obtain ⟨x, rfl⟩ : ∃ x : Nat, wd = x := ⟨wd.toNat, by omega⟩
    have hx : x ≤ 64 := by omega
    simp only [if_neg h1, Int.toNat_natCast]
    by_cases h2 : ∀ u ∈ l, u.toNat < 2 ^ x
    · simp only [if_pos h2]
      refine (Pack_main h (by omega) x hx (fun u hu => Lib.bitLen_le _ _ hx (h2 u hu)) h2).mono ?_
      rintro e w' ⟨v', rfl, hv⟩
      refine ⟨v', rfl, Lib.hid ⟨Holds.of_row (base := w.heap.size) (e := 5) ?_, hv.out.2⟩⟩
      rw [u8s_len, bytesN_len]
      exact hv.out.1
    · simp only [if_neg h2]
      refine (Pack_range h (by omega) x hx (by simpa using h2)).mono ?_
      rintro e w' ⟨rfl, hb⟩
      exact ⟨_, rfl, Lib.hid ⟨Holds.nil _, hb⟩⟩
theorem row_holds {w : World} {B n : Nat} {v : Value} {l : List UInt64} (h : w.ownsRow B 116 1 v n (u64s l)) (hn : n = l.length) : ∃ a c, v = .slice a l.length c ∧ Holds w (.slice a l.length c) (u64s l) := by
  subst hn
  obtain ⟨a, c, rfl, _⟩ := ownsRow_form h
  exact ⟨a, c, rfl, Holds.of_row (base := B) (e := 116) (by rw [u64s_len]; exact h)⟩

theorem Unpack_all {w : World} {a : Option Addr} {cap : Nat} {bs : List UInt8} (h : Holds w (.slice a bs.length cap) (u8s bs)) (wd n : Int) :
    Calls Try.prog 106 #[.int .i64 wd, .int .i64 n, .slice a bs.length cap] w fun e w' => ∃ a' c', e = .returned (.tuple #[.slice a' (unpackAns wd n bs).1.length c', .int .i64 (unpackAns wd n bs).2]) ∧ Hid (Holds w' (.slice a' (unpackAns wd n bs).1.length c') (u64s (unpackAns wd n bs).1) ∧ Below w.heap.size w w') := by
  unfold unpackAns
  by_cases h1 : wd < 0 ∨ 64 < wd ∨ n < 0 ∨ 100000 < n
  · simp only [if_pos h1]
    refine (Unpack_arg wd n h1 _ ⟨_, _, _, rfl⟩).mono ?_
    rintro e w' ⟨rfl, hb⟩
    exact ⟨_, _, rfl, Lib.hid ⟨Holds.nil _, hb⟩⟩
  · obtain ⟨x, rfl⟩ : ∃ x : Nat, wd = x := ⟨wd.toNat, by omega⟩
    obtain ⟨y, rfl⟩ : ∃ y : Nat, n = y := ⟨n.toNat, by omega⟩
    have hx : x ≤ 64 := by omega
    have hy : y ≤ 100000 := by omega
    simp only [if_neg h1, Int.toNat_natCast]
    by_cases h2 : bs.length = (x * y + 7) / 8 ∧ numB bs < 2 ^ (x * y)
    · simp only [if_pos h2]
      refine (Unpack_ok h x y hx hy h2.1 h2.2).mono ?_
      rintro e w' ⟨v', rfl, hv⟩
      obtain ⟨a', c', rfl, hh⟩ := row_holds hv.out.1 (unpackL_len _ _ _).symm
      exact ⟨a', c', rfl, Lib.hid ⟨hh, hv.out.2⟩⟩
    · simp only [if_neg h2]
      by_cases h3 : bs.length = (x * y + 7) / 8
      · refine (Unpack_trail h x y hx hy h3 (fun h4 => h2 ⟨h3, h4⟩)).mono ?_
        rintro e w' ⟨rfl, hb⟩
        exact ⟨_, _, rfl, Lib.hid ⟨Holds.nil _, hb⟩⟩
      · refine (Unpack_size x y hx hy h3).mono ?_
        rintro e w' ⟨rfl, hb⟩
        exact ⟨_, _, rfl, Lib.hid ⟨Holds.nil _, hb⟩⟩
end Go.Proofs.Ytcpfkinjglnabaa
