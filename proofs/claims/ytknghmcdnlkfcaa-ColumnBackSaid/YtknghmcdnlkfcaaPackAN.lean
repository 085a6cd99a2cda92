/- The texts PackRange Lend RefPack, one behind the other; each one's own comment says what it holds. -/
import Derived.Test.YtknghmcdnlkfcaaPackAM
import Derived.Test.YtknghmcdnlkfcaaPackAB
import Derived.Test.YtknghmcdnlkfcaaPackAK
/- codec.Pack gives up a number that is wider than the width. Conditions: small lists. -/
set_option maxRecDepth 100000
namespace Go.Proofs.Ytknghmcdnlkfcaa
open Go.RowKit Go.Maps Go.Sort

theorem bit_lt (wd : Nat) : ∀ (x : Nat), x < 2 ^ 64 → Lib.bitLen x ≤ wd → x < 2 ^ wd := by
  induction wd with
  | zero =>
    intro x hx h
    rcases Nat.eq_zero_or_pos x with rfl | hp
    · simp
    · rw [Lib.bitLen_half x (by omega) hx] at h
      omega
  | succ n ih =>
    intro x hx h
    rcases Nat.eq_zero_or_pos x with rfl | hp
    · exact Nat.two_pow_pos _
    · rw [Lib.bitLen_half x (by omega) hx] at h
      have := ih (x / 2) (by omega) (by omega)
      rw [Nat.pow_succ]
      omega
theorem bit_ge (wd x : Nat) (hw : wd ≤ 64) (h : wd < Lib.bitLen x) : ¬ x < 2 ^ wd := fun hx => by
  have := Lib.bitLen_le x wd hw hx
  omega

set_option maxHeartbeats 400000 in
theorem Pack_range {w : World} {v : Value} {l : List UInt64} (h : Holds w v (u64s l)) (hl : l.length ≤ 1000000) (wd : Nat) (hw : wd ≤ 64) (hbad : ∃ u ∈ l, ¬ u.toNat < 2 ^ wd) :
    Calls Try.prog 46 #[.int .i64 (wd : Int), v] w fun e w' => e = .returned (.tuple #[.slice none 0 0, .int .i64 6]) ∧ Below w.heap.size w w' := by
  obtain ⟨a, c, hv, hc⟩ := h.form
  rw [u64s_len] at hv hc
  subst hv
  have H := Lib.hid h
  generalize hn : l.length = n at *
  have HN := Lib.hid hn
  have HF := Lib.hid hbad
  clear h hn hbad
  refine (callsIn_wide (n := 0)).1 ?_
  refine callsIn_of_wp_marks Try.func46 rfl trivial ?_ rfl
  simp only [Try.ntmps46, List.size_toArray, List.length_cons, List.length_nil, Nat.reduceAdd, Nat.reduceSub, Array.replicate_succ, Array.replicate_zero, List.push_toArray, List.append_toArray, List.nil_append, List.cons_append]
  have t1 : decide ((wd : Int) < 0) = false := decide_eq_false (by omega)
  have t2 : decide ((64 : Int) < (wd : Int)) = false := decide_eq_false (by omega)
  gi_wp2
  gi_loop [21] (fun i => ∃ k : Nat, i = .int .i64 k ∧ k ≤ n ∧ Hid (∀ u ∈ l.take k, u.toNat < 2 ^ wd)) (fun i => n - (intOf i).toNat)
  case atStart => exact ⟨0, rfl, by omega, Lib.hid (by simp)⟩
  case round =>
    obtain ⟨k, rfl, hk, HP⟩ := hrel
    by_cases hlt : k < n
    · have hkl : k < l.length := by rw [HN.out]; exact hlt
      obtain ⟨ad, rfl⟩ := H.out.ptr (by omega)
      have hc : w.cell? (ad.add k) = some (.int .u64 (l[k].toNat : Int)) := H.out.cell (by simp [u64s, hkl])
      have hx := l[k].toNat_lt
      have HS : Hid (l[k].toNat < 2 ^ wd → ∀ u ∈ l.take (k + 1), u.toNat < 2 ^ wd) := Lib.hid fun h u hu => by
        rw [List.take_succ_eq_append_getElem hkl, List.mem_append] at hu
        rcases hu with hu | hu
        · exact HP.out u hu
        · obtain rfl := List.mem_singleton.1 hu
          exact h
      generalize l[k].toNat = x at *
      gi_wp2_with fail
      refine ⟨trivial, rfl, (callsIn_wide.2 (Try.bits_Len64 (x : Int) _ (by omega) (by omega))).mono ?_⟩
      rintro e w' ⟨rfl, rfl⟩
      rw [Int.toNat_natCast]
      have HB := Lib.hid (bit_lt wd x (by omega))
      generalize Lib.bitLen x = bl at *
      by_cases hb : bl ≤ wd
      · have t3 : decide ((wd : Int) < (bl : Int)) = false := decide_eq_false (by omega)
        gi_wp2_with fail
        go_round
        case rel => exact ⟨k + 1, by go_num, by omega, Lib.hid (HS.out (HB.out hb))⟩
        case measure => simp [intOf]; omega
      · have t3 : decide ((wd : Int) < (bl : Int)) = true := decide_eq_true (by omega)
        gi_wp2_with fail
        refine leave_marks (B := w'.heap.size) (v := .tuple #[.slice none 0 0, .int .i64 6]) (fun w' => by simp [results, Try.results46, go_sem]) [] _ trivial (fun W' hs => ?_)
        exact ⟨rfl, hs.below⟩
    · obtain ⟨u, hu, hb⟩ := HF.out
      refine absurd (HP.out u ?_) hb
      rw [List.take_of_length_le (by rw [HN.out]; omega)]
      exact hu
end Go.Proofs.Ytknghmcdnlkfcaa
/- Contract of talusref01.Lend: a copy of the bytes in the middle of a new block. Conditions: at most 100000 bytes. -/
set_option maxRecDepth 100000
namespace Go.Proofs.Ytknghmcdnlkfcaa
open Go.RowKit Go.Maps Go.Sort

/-- the block behind k rounds -/
def lendL (l : List UInt8) (k : Nat) : List UInt8 := 165 :: (l.take k ++ List.replicate (l.length - k) 0) ++ [90]
theorem lendL_len (l : List UInt8) {k : Nat} (h : k ≤ l.length) : (lendL l k).length = l.length + 2 := by
  unfold lendL; simp; omega
theorem lendL_step (l : List UInt8) {k : Nat} (h : k < l.length) : (lendL l k).set (k + 1) l[k] = lendL l (k + 1) := by
  unfold lendL
  rw [List.cons_append, List.set_cons_succ]
  congr 1
  rw [List.set_append_left _ _ (by simp; omega), List.set_append_right _ _ (by simp; omega)]
  congr 1
  rw [List.length_take, Nat.min_eq_left (by omega), Nat.sub_self, show l.length - k = (l.length - (k + 1)) + 1 by omega, List.replicate_succ, List.set_cons_zero, List.take_succ_eq_append_getElem h, List.append_assoc]
  rfl

theorem made_u8s (n : Nat) : madeCells #[Value.int .u8 0] n = (u8s (List.replicate n 0)).toArray := by
  apply Array.toList_inj.1
  rw [toList_madeCells_one]
  simp [u8s]
theorem set_u8s {w : World} {g j : Nat} {xs : List UInt8} (h : w.heap[g]? = some (.cells (u8s xs).toArray 5 (0, 0))) (c : UInt8) : (w.setCell ⟨g, j, none⟩ (.int .u8 (c.toNat : Int))).heap[g]? = some (.cells (u8s (xs.set j c)).toArray 5 (0, 0)) := by
  rw [heap_set h]
  congr 2
  apply Array.toList_inj.1
  simp [u8s, List.map_set]
theorem lend_zero (l : List UInt8) : ((List.replicate (l.length + 2) (0 : UInt8)).set 0 165).set (l.length + 1) 90 = lendL l 0 := by
  unfold lendL
  rw [List.replicate_succ, List.set_cons_zero, List.set_cons_succ, List.replicate_succ', List.set_append_right _ _ (by simp)]
  simp
theorem cell_u8s {w : World} {g j : Nat} {xs : List UInt8} (h : w.heap[g]? = some (.cells (u8s xs).toArray 5 (0, 0))) (hj : j < xs.length) : w.cell? ⟨g, j, none⟩ = some (.int .u8 (xs[j].toNat : Int)) := by
  rw [cell_of_row _ _ _ _ _ _ h]
  simp [u8s, hj]
theorem mk_u8s (w : World) (n : Nat) (hn : n ≤ 100002) :
    (Instr.makeSlice 26 (.int .i64 (n : Int)) (.int .i64 (n : Int))).run Try.prog w = .ok (.slice (some ⟨w.heap.size, 0, none⟩) n n) (w.alloc (.cells (u8s (List.replicate n 0)).toArray 5)) := by
  obtain ⟨i, hi, hz0, hz1, hz2⟩ := info_parts info8
  have := run_make (P := Try.prog) w 26 5 i (.int .u8 0) Try.underlying26 hi hz0 .i64 .i64 (n : Int) n (by omega) (by omega) (by rw [hz2]; omega) (by omega)
  rw [this, hz1]
  simp only [Int.toNat_natCast, Nat.mul_one, Value.cells]
  rw [made_u8s]

theorem lendL_full (l : List UInt8) : lendL l l.length = 165 :: l ++ [90] := by
  unfold lendL; simp

/-- the middle of the block that Lend made -/
theorem lend_mid {w : World} {g : Nat} {l : List UInt8} (h : w.heap[g]? = some (.cells (u8s (lendL l l.length)).toArray 5 (0, 0))) : Holds w (.slice (some ⟨g, 1, none⟩) l.length (l.length + 1)) (u8s l) := by
  refine ⟨some ⟨g, 1, none⟩, _, by rw [u8s_len], by rw [u8s_len]; omega, .inr ⟨_, rfl, fun j u hj => ?_⟩⟩
  have hjl : j < l.length := by
    have := (List.getElem?_eq_some_iff.1 hj).1
    simpa [u8s] using this
  have hc := cell_u8s (j := 1 + j) h (by rw [lendL_len l (Nat.le_refl _)]; omega)
  have e : (lendL l l.length)[1 + j]'(by rw [lendL_len l (Nat.le_refl _)]; omega) = l[j] := by
    simp only [lendL_full]
    simp [Nat.add_comm 1 j, hjl]
  rw [e] at hc
  simp [u8s, hjl] at hj
  rw [← hj]
  rw [show (Addr.add ⟨g, 1, none⟩ j : Addr) = ⟨g, 1 + j, none⟩ by simp [Addr.add]]
  exact hc

end Go.Proofs.Ytknghmcdnlkfcaa
/- Contracts of talusref02.Pack: one bit after the other. Conditions: small lists. -/
set_option maxRecDepth 100000
namespace Go.Proofs.Ytknghmcdnlkfcaa
open Go.RowKit Go.Maps Go.Sort

/-- one bit more -/
theorem bit_step (m P f u k : Nat) (hP : P < 2 ^ f) :
    (u / 2 ^ k % 2 = 0 → P + u % 2 ^ (k + 1) * 2 ^ f = P + u % 2 ^ k * 2 ^ f) ∧
    (u / 2 ^ k % 2 = 1 → (bytesN m (P + u % 2 ^ k * 2 ^ f)).set ((f + k) / 8) (UInt8.ofNat ((P + u % 2 ^ k * 2 ^ f) / 256 ^ ((f + k) / 8) + 1 % 2 ^ (8 - (f + k) % 8) * 2 ^ ((f + k) % 8))) = bytesN m (P + u % 2 ^ (k + 1) * 2 ^ f)) ∧
    (P + u % 2 ^ k * 2 ^ f) / 256 ^ ((f + k) / 8) < 2 ^ ((f + k) % 8) := by
  have hN : P + u % 2 ^ k * 2 ^ f < 2 ^ (f + k) := by
    have h1 : u % 2 ^ k + 1 ≤ 2 ^ k := Nat.mod_lt _ (Nat.two_pow_pos _)
    have h2 := Nat.mul_le_mul_right (2 ^ f) h1
    rw [Nat.add_mul, Nat.one_mul, ← Nat.pow_add, Nat.add_comm k f] at h2
    omega
  have hs := mod_split u k 1
  rw [Nat.pow_one] at hs
  refine ⟨fun h => ?_, fun h => ?_, low_lt _ _ hN⟩
  · rw [hs, h]; simp
  · have h1 : 1 % 2 ^ (8 - (f + k) % 8) = 1 := Nat.mod_eq_of_lt (Nat.one_lt_two_pow (by omega))
    have hb := bytes_or m _ (f + k) 1 hN (Nat.one_lt_two_pow (by omega))
    rw [h1, hb, hs, h, Nat.add_mul, Nat.one_mul, Nat.one_mul, Nat.pow_add, Nat.mul_comm (2 ^ f)]
    congr 1
    omega

theorem refPack_arg {w : World} (wd : Int) (hw : wd < 0 ∨ 64 < wd) (v : Value) :
    Calls Try.prog 32 #[.int .i64 wd, v] w fun e w' => e = .returned (.tuple #[.slice none 0 0, .int .i64 2]) ∧ w' = w := by
  go_enter Try.func32, Try.ntmps32
  rcases hw with h | h
  · have t1 : decide (wd < 0) = true := decide_eq_true h
    go_wp2_with fail
    go_ret2
    exact ⟨rfl, rfl⟩
  · have t1 : decide (wd < 0) = false := decide_eq_false (by omega)
    have t2 : decide ((64 : Int) < wd) = true := decide_eq_true h
    go_wp2_with fail
    go_ret2
    exact ⟨rfl, rfl⟩

set_option maxHeartbeats 800000 in
theorem refPack_range {w : World} {a : Option Addr} {cap : Nat} {l : List UInt64} (h : Holds w (.slice a l.length cap) (u64s l)) (hl : l.length ≤ 100000) (wd : Nat) (hw : wd ≤ 64) (hbad : ∃ u ∈ l, ¬ u.toNat < 2 ^ wd) :
    Calls Try.prog 32 #[.int .i64 (wd : Int), .slice a l.length cap] w fun e w' => e = .returned (.tuple #[.slice none 0 0, .int .i64 6]) ∧ w' = w := by
  have h64 : wd < 64 := by
    obtain ⟨u, _, hu⟩ := hbad
    have := u.toNat_lt
    rcases Nat.lt_or_ge wd 64 with g | g
    · exact g
    · obtain rfl : wd = 64 := by omega
      exact absurd this hu
  obtain ⟨n, hn⟩ : ∃ n, n = l.length := ⟨_, rfl⟩
  rw [← hn] at hl h ⊢
  have H := Lib.hid h
  have HN := Lib.hid hn
  have HF := Lib.hid hbad
  clear h hn hbad
  have t1 : decide ((wd : Int) < 0) = false := decide_eq_false (by omega)
  have t2 : decide ((64 : Int) < (wd : Int)) = false := decide_eq_false (by omega)
  have t3 : decide ((wd : Int) < 64) = true := decide_eq_true (by omega)
  go_enter Try.func32, Try.ntmps32
  go_wp2_with fail
  go_loop [22] (fun i => ∃ k : Nat, i = .int .i64 k ∧ k ≤ n ∧ Hid (∀ x ∈ l.take k, x.toNat < 2 ^ wd)) (fun i => n - (intOf i).toNat)
  case atStart => exact ⟨0, rfl, by omega, Lib.hid (by simp)⟩
  case round =>
    obtain ⟨k, rfl, hk, HB⟩ := hrel
    by_cases hlt : k < n
    · have hkl : k < l.length := by rw [← HN.out]; exact hlt
      obtain ⟨ad, rfl⟩ := H.out.ptr (by omega)
      have hc : w.cell? (ad.add k) = some (.int .u64 (l[k].toNat : Int)) := H.out.cell (by simp [u64s, hkl])
      have hx := l[k].toNat_lt
      have HS : Hid (l[k].toNat < 2 ^ wd → ∀ u ∈ l.take (k + 1), u.toNat < 2 ^ wd) := Lib.hid fun h u hu => by
        rw [List.take_succ_eq_append_getElem hkl, List.mem_append] at hu
        rcases hu with hu | hu
        · exact HB.out u hu
        · obtain rfl := List.mem_singleton.1 hu
          exact h
      generalize l[k].toNat = x at *
      have e : (x : Int) / 2 ^ wd = ((x / 2 ^ wd : Nat) : Int) := by simp
      by_cases hq : x / 2 ^ wd = 0
      · rw [hq] at e
        have HX := Lib.hid ((Nat.div_eq_zero_iff.1 hq).resolve_left (by have := Nat.two_pow_pos wd; omega))
        clear hq
        go_wp2_with fail
        go_round
        case rel => exact ⟨k + 1, by go_num, by omega, Lib.hid (HS.out HX.out)⟩
        case measure => simp [intOf]; omega
      · have t4 : (((x / 2 ^ wd : Nat) : Int) != 0) = true := by rw [bne_iff_ne]; omega
        generalize x / 2 ^ wd = q at *
        clear hq
        go_wp2_with fail
        go_ret2
        exact ⟨rfl, rfl⟩
    · obtain ⟨u, hu, hb⟩ := HF.out
      refine absurd (HB.out u ?_) hb
      rw [List.take_of_length_le (by rw [← HN.out]; omega)]
      exact hu

set_option maxHeartbeats 1600000 in
theorem refPack_ok {w : World} {a : Option Addr} {cap : Nat} {l : List UInt64} (h : Holds w (.slice a l.length cap) (u64s l)) (hl : l.length ≤ 100000) (wd : Nat) (hw : wd ≤ 64) (hfit : ∀ x ∈ l, x.toNat < 2 ^ wd) :
    Calls Try.prog 32 #[.int .i64 (wd : Int), .slice a l.length cap] w fun e w' => ∃ v', e = .returned (.tuple #[v', .int .i64 0]) ∧ Hid (Holds w' v' (u8s (bytesN ((wd * l.length + 7) / 8) (bigN wd (nats l)))) ∧ Below w.heap.size w w') := by
  obtain ⟨n, hn⟩ : ∃ n, n = l.length := ⟨_, rfl⟩
  rw [← hn] at hl h ⊢
  have hle : wd * n ≤ 64 * 100000 := Nat.mul_le_mul hw hl
  have e2 : (n : Int) * (wd : Int) = ((wd * n : Nat) : Int) := by rw [Int.natCast_mul, Int.mul_comm]
  obtain ⟨tot, ht⟩ : ∃ tot, tot = wd * n := ⟨_, rfl⟩
  rw [← ht] at hle e2 ⊢
  obtain ⟨m, hm⟩ : ∃ m, m = (tot + 7) / 8 := ⟨_, rfl⟩
  rw [← hm]
  have q1 : ((tot : Int) + 7) / 8 = (m : Int) := by omega
  have hm2 : m ≤ 1000000 := by omega
  have H := Lib.hid h
  have HN := Lib.hid hn
  have HF := Lib.hid hfit
  have HT := Lib.hid ht
  have HM := Lib.hid hm
  clear h hn hfit ht hm
  have t1 : decide ((wd : Int) < 0) = false := decide_eq_false (by omega)
  have t2 : decide ((64 : Int) < (wd : Int)) = false := decide_eq_false (by omega)
  have hmk := mk8 w (m : Int) (m : Int) m m rfl rfl (Nat.le_refl _) (by omega)
  go_enter Try.func32, Try.ntmps32
  go_wp2_with fail
  go_loop [22] (fun i => ∃ k : Nat, i = .int .i64 k ∧ k ≤ n) (fun i => n - (intOf i).toNat)
  case atStart => exact ⟨0, rfl, by omega⟩
  case round =>
    obtain ⟨k, rfl, hk⟩ := hrel
    by_cases hlt : k < n
    · have hkl : k < l.length := by rw [← HN.out]; exact hlt
      obtain ⟨ad, rfl⟩ := H.out.ptr (by omega)
      have hc : w.cell? (ad.add k) = some (.int .u64 (l[k].toNat : Int)) := H.out.cell (by simp [u64s, hkl])
      have hx := l[k].toNat_lt
      have hf := HF.out l[k] (List.getElem_mem _)
      generalize l[k].toNat = x at *
      rcases Nat.lt_or_ge wd 64 with h64 | h64
      · have t3 : decide ((wd : Int) < 64) = true := decide_eq_true (by omega)
        have e : (x : Int) / 2 ^ wd = 0 := by
          have e : (2 : Int) ^ wd = ((2 ^ wd : Nat) : Int) := by simp
          rw [e, ← Int.natCast_ediv, Nat.div_eq_of_lt hf]
          rfl
        clear hf
        go_wp2_with fail
        go_round
        case rel => exact ⟨k + 1, by go_num, by omega⟩
        case measure => simp [intOf]; omega
      · have t3 : decide ((wd : Int) < 64) = false := decide_eq_false (by omega)
        clear hf
        go_wp2_with fail
        go_round
        case rel => exact ⟨k + 1, by go_num, by omega⟩
        case measure => simp [intOf]; omega
    · have hb := (Below.refl w.heap.size w).alloc (Nat.le_refl _) (.cells (u8s (List.replicate m 0)).toArray 5)
      have ha := alloc1 w (.cells (u8s (List.replicate m 0)).toArray 5)
      have H0 := Lib.hid (And.intro ha hb)
      generalize hw1 : w.alloc (.cells (u8s (List.replicate m 0)).toArray 5) = w1 at *
      clear ha hb hw1
      go_wp2_with fail
      go_loopw [10, 46] (fun at' i wr => ∃ j : Nat, j ≤ n ∧ at' = .int .i64 ((wd * j : Nat) : Int) ∧ i = .int .i64 j ∧ Hid (wr.heap[w.heap.size]? = some (.cells (u8s (bytesN m (bigN wd (nats (l.take j))))).toArray 5 (0, 0)) ∧ Below w.heap.size w wr)) (fun _ i _ => n - (intOf i).toNat)
      case atStart => exact ⟨0, by omega, by simp, rfl, Lib.hid ⟨by rw [show bigN wd (nats (l.take 0)) = 0 from rfl, bytesN_zero]; exact H0.out.1, H0.out.2⟩⟩
      case round =>
        obtain ⟨j, hj, rfl, rfl, HR⟩ := hrel
        by_cases hjn : j < n
        · have hjl : j < l.length := by rw [← HN.out]; exact hjn
          have hh := H.out.below HR.out.2
          obtain ⟨ad, rfl⟩ := hh.ptr (by omega)
          have hc : wr.cell? (ad.add j) = some (.int .u64 (l[j].toNat : Int)) := hh.cell (by simp [u64s, hjl])
          have hx := l[j].toNat_lt
          have hfl : wd * j + wd ≤ tot := by rw [HT.out, ← Nat.mul_succ]; exact Nat.mul_le_mul_left _ hjn
          have hjn1 : (nats (l.take j)).length = j := by simp [nats]; omega
          have hP : bigN wd (nats (l.take j)) < 2 ^ (wd * j) := by
            have := bigN_lt wd (nats (l.take j)) (fun u hu => by obtain ⟨x, hx, rfl⟩ := List.mem_map.1 hu; exact HF.out x (List.mem_of_mem_take hx))
            rwa [hjn1] at this
          have hnext : bigN wd (nats (l.take (j + 1))) = bigN wd (nats (l.take j)) + l[j].toNat % 2 ^ wd * 2 ^ (wd * j) := by
            rw [List.take_succ_eq_append_getElem hjl, nats, List.map_append, List.map_cons, List.map_nil, bigN_snoc]
            rw [show (List.map UInt64.toNat (l.take j)).length = j from hjn1, Nat.mod_eq_of_lt (HF.out l[j] (List.getElem_mem _))]
            rfl
          have hs1 : wd * (j + 1) = wd * j + wd := Nat.mul_succ _ _
          have HNX := Lib.hid hnext
          have HPP := Lib.hid hP
          have HS1 := Lib.hid hs1
          clear hh hnext hP hs1 hjn1
          generalize l[j].toNat = x at *
          generalize bigN wd (nats (l.take j)) = P at *
          generalize hf : wd * j = f at *
          go_wp2_with fail
          go_loopw [10, 13] (fun at' i wr => ∃ k : Nat, k ≤ wd ∧ at' = .int .i64 ((f + k : Nat) : Int) ∧ i = .int .i64 k ∧ Hid (wr.heap[w.heap.size]? = some (.cells (u8s (bytesN m (P + x % 2 ^ k * 2 ^ f))).toArray 5 (0, 0)) ∧ Below w.heap.size w wr)) (fun _ i _ => wd - (intOf i).toNat)
          case atStart => exact ⟨0, by omega, by simp, rfl, Lib.hid ⟨by rw [show P + x % 2 ^ 0 * 2 ^ f = P by simp [Nat.mod_one]]; exact HR.out.1, HR.out.2⟩⟩
          case round =>
            obtain ⟨k, hk, rfl, rfl, HK⟩ := hrel
            by_cases hkw : k < wd
            · obtain ⟨b0, b1, b2⟩ := bit_step m P f x k HPP.out
              have y1 : (x : Int) / 2 ^ k = ((x / 2 ^ k : Nat) : Int) := by simp
              have hq : x / 2 ^ k < 18446744073709551616 := Nat.lt_of_le_of_lt (Nat.div_le_self _ _) hx
              have y2 := mask_and 1 (x / 2 ^ k) (by omega) hq
              rw [show ((2 ^ 1 - 1 : Nat) : Int) = 1 from rfl, Nat.pow_one] at y2
              have hc2 : x / 2 ^ k % 2 = 0 ∨ x / 2 ^ k % 2 = 1 := by omega
              generalize x / 2 ^ k = q at *
              rcases hc2 with hz | hz
              · rw [hz] at y2
                have HB := Lib.hid (b0 hz)
                clear b0 b1 b2 hz
                go_wp2_with fail
                go_roundw
                case rel => exact ⟨k + 1, by omega, by go_num, by go_num, Lib.hid ⟨by rw [HB.out]; exact HK.out.1, HK.out.2⟩⟩
                case measure => simp [intOf]; omega
              · rw [hz] at y2
                have hi : (f + k) / 8 < m := by have := HM.out; omega
                have hcell := cell_u8s (j := (f + k) / 8) HK.out.1 (by rw [bytesN_len]; exact hi)
                have hfr := free_of_row HK.out.1 ((f + k) / 8)
                have hold : ((bytesN m (P + x % 2 ^ k * 2 ^ f))[(f + k) / 8]'(by rw [bytesN_len]; exact hi)).toNat = (P + x % 2 ^ k * 2 ^ f) / 256 ^ ((f + k) / 8) := by
                  rw [bytesN_at m _ _ hi]
                  have : 2 ^ ((f + k) % 8) ≤ 2 ^ 7 := Nat.pow_le_pow_right (by omega) (by omega)
                  simp
                  omega
                rw [hold] at hcell
                obtain ⟨o1, o2⟩ := pack_or 1 _ ((f + k) % 8) (by omega) b2
                have hset := set_u8s (j := (f + k) / 8) HK.out.1 (UInt8.ofNat ((P + x % 2 ^ k * 2 ^ f) / 256 ^ ((f + k) / 8) + 1 % 2 ^ (8 - (f + k) % 8) * 2 ^ ((f + k) % 8)))
                rw [b1 hz] at hset
                have HB := Lib.hid (And.intro hset (HK.out.2.setCell (p := ⟨w.heap.size, (f + k) / 8, none⟩) (Nat.le_refl _) (.int .u8 ((UInt8.ofNat ((P + x % 2 ^ k * 2 ^ f) / 256 ^ ((f + k) / 8) + 1 % 2 ^ (8 - (f + k) % 8) * 2 ^ ((f + k) % 8))).toNat : Int))))
                rw [show ((1 % 256 : Nat) : Int) = 1 from rfl, IntKind.wrap_u8, Int.one_mul] at o1
                have hob : (P + x % 2 ^ k * 2 ^ f) / 256 ^ ((f + k) / 8) < 256 := by
                  have : 2 ^ ((f + k) % 8) ≤ 2 ^ 7 := Nat.pow_le_pow_right (by omega) (by omega)
                  omega
                have hsb : 1 % 2 ^ (8 - (f + k) % 8) * 2 ^ ((f + k) % 8) < 256 := by
                  rw [Nat.mod_eq_of_lt (Nat.one_lt_two_pow (by omega))]
                  have : 2 ^ ((f + k) % 8) ≤ 2 ^ 7 := Nat.pow_le_pow_right (by omega) (by omega)
                  omega
                clear b0 b1 b2 hz hold hset
                have q5 : (((f + k : Nat)) : Int).tmod 8 = (((f + k) % 8 : Nat) : Int) := by rw [Int.tmod_eq_emod_of_nonneg (by omega)]; omega
                have q3 : IntKind.i64.wrap (((f + k : Nat) : Int) / 8) = (((f + k) / 8 : Nat) : Int) := by rw [IntWalk.i64_in _ (by omega)]; omega
                have hr8 : (f + k) % 8 < 8 := by omega
                generalize (UInt8.ofNat ((P + x % 2 ^ k * 2 ^ f) / 256 ^ ((f + k) / 8) + 1 % 2 ^ (8 - (f + k) % 8) * 2 ^ ((f + k) % 8))).toNat = nb at *
                generalize (P + x % 2 ^ k * 2 ^ f) / 256 ^ ((f + k) / 8) = old at *
                generalize 1 % 2 ^ (8 - (f + k) % 8) * 2 ^ ((f + k) % 8) = sb at *
                have htt : f + k ≤ 6400000 := by omega
                generalize ht2 : f + k = t at *
                have HT2 := Lib.hid ht2
                clear ht2 hfl
                generalize t / 8 = i8 at *
                generalize t % 8 = r8 at *
                go_wp2_with fail
                go_roundw
                case rel => exact ⟨k + 1, by omega, by have := HT2.out; go_num, by go_num, Lib.hid HB.out⟩
                case measure => simp [intOf]; omega
            · have HJ : Hid (k = wd) := Lib.hid (by omega)
              go_wp2_with fail
              go_roundw
              case rel => exact ⟨j + 1, by omega, by rw [HS1.out, HJ.out], by go_num, Lib.hid ⟨by rw [HNX.out, ← HJ.out]; exact HK.out.1, HK.out.2⟩⟩
              case measure => simp [intOf]; omega
        · have HJ : Hid (l.take j = l) := Lib.hid (List.take_of_length_le (by rw [← HN.out]; omega))
          go_wp2_with fail
          go_ret2
          refine ⟨_, rfl, Lib.hid ⟨?_, HR.out.2⟩⟩
          have := HR.out.1
          rw [HJ.out] at this
          exact Holds.of_heap this (by simp) m m (by simp [u8s, bytesN]) (Nat.le_refl _)
end Go.Proofs.Ytknghmcdnlkfcaa
