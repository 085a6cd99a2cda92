/- The texts CodecPlain Tells CodecPut CodecGet GetDig, one behind the other; each one's own comment says what it holds. -/
import Derived.Test.YtahaoodklfmddaaGen
import Derived.Test.YtahaoodklfmddaaBits
import Derived.Outline
/- Plain mathematics of package codec: the digits of a number to base 128, and the number that bytes begin with. Conditions: none. -/
set_option maxRecDepth 100000
namespace Go.Proofs.Ytahaoodklfmddaa

/-- the digits of a number to base 128 -/
def dig (u : Nat) : List UInt8 := if h : u < 128 then [UInt8.ofNat u] else UInt8.ofNat (u % 128 + 128) :: dig (u / 128)
termination_by u
decreasing_by omega
theorem dig_lo {u : Nat} (h : u < 128) : dig u = [UInt8.ofNat u] := by rw [dig, dif_pos h]
theorem dig_hi {u : Nat} (h : ¬ u < 128) : dig u = UInt8.ofNat (u % 128 + 128) :: dig (u / 128) := by rw [dig, dif_neg h]
theorem dig_len (k : Nat) : ∀ u : Nat, u < 128 ^ k → (dig u).length ≤ k ∨ k = 0 := by
  induction k with
  | zero => intro u _; exact .inr rfl
  | succ k ih =>
    intro u hu
    by_cases h : u < 128
    · rw [dig_lo h]; exact .inl (by simp)
    · rw [dig_hi h]
      refine .inl ?_
      have h2 : u / 128 < 128 ^ k := by
        rw [Nat.div_lt_iff_lt_mul (by omega)]; rw [Nat.pow_succ] at hu; exact hu
      rcases ih _ h2 with h3 | rfl
      · simp; exact h3
      · simp at hu; omega
theorem dig_len10 {u : Nat} (hu : u < 18446744073709551616) : (dig u).length ≤ 10 := by
  rcases dig_len 10 u (by omega) with h | h
  · exact h
  · omega
theorem dig300 : dig 300 = [172, 2] := by
  rw [dig_hi (by omega), dig_lo (by omega)]; decide
end Go.Proofs.Ytahaoodklfmddaa
/- Contracts of talusref01.Same, Words, Ints, Lend, Kept. Conditions: at most 2^43 numbers (Words, Ints), at most 400000 bytes (Lend, Kept). -/
set_option maxRecDepth 100000
namespace Go.Proofs.Ytahaoodklfmddaa
open Go.RowKit Go.Maps Go.Sort

theorem info8 : (Try.prog.info? 5).map (fun i => (i.zero, i.size, i.bytes)) = some (some (.int .u8 0), 1, 1) := by kernel_rfl
theorem info64 : (Try.prog.info? 3).map (fun i => (i.zero, i.size, i.bytes)) = some (some (.int .i64 0), 1, 8) := by kernel_rfl
theorem infoU : (Try.prog.info? 29).map (fun i => (i.zero, i.size, i.bytes)) = some (some (.int .u64 0), 1, 8) := by kernel_rfl

theorem app8 {w : World} {B : Nat} {v : Value} {xs : List UInt8} (hown : w.ownsRow B 5 1 v xs.length (u8s xs)) (hB : B ≤ w.heap.size) {sv : Value} {l : List UInt8} (hs : Holds w sv (u8s l)) (hlen : xs.length + l.length ≤ 17592186044416) :
    ∃ v' w', (∀ ty, (Builtin.append_ #[56, 56] ty #[v, sv]).run Try.prog w = .ok v' w') ∧ w'.ownsRow B 5 1 v' (xs ++ l).length (u8s (xs ++ l)) ∧ w.grownBy w' v.ownBlock ∧ (v'.ownBlock = v.ownBlock ∨ v'.ownBlock = some w.heap.size) := by
  have := app_any (P := Try.prog) Try.underlying56 info8 (by omega) rfl (by rw [u8s_len]; exact hown) hB hs (u8s_one l) (by rw [u8s_len, u8s_len]; exact hlen)
  rw [← u8s_append, u8s_len] at this
  exact this
/-- a new block of one byte -/
theorem holds_one8 (w : World) (c : UInt8) (n : Int) (hn : n = (c.toNat : Int)) : Holds (w.alloc (.cells #[.int .u8 n] 5)) (.slice (some ⟨w.heap.size, 0, none⟩) 1 1) (u8s [c]) :=
  Holds.of_heap (alloc1 _ _) (by rw [hn]; rfl) 1 1 rfl (Nat.le_refl _)

theorem toStr {w : World} {v : Value} {l : List UInt8} (h : Holds w v (u8s l)) : (convert 56 9 v).run Try.prog w = .ok (.string ⟨l.toArray⟩) w :=
  str_of_holds Try.underlying56 Try.underlying5 Try.underlying9 h

set_option maxHeartbeats 400000 in
theorem Same_any {w : World} {v1 v2 : Value} {l1 l2 : List UInt8} (h1 : Holds w v1 (u8s l1)) (h2 : Holds w v2 (u8s l2)) :
    Calls Try.prog 21 #[v1, v2] w fun r w' => r = .returned (.bool (decide (l1 = l2))) ∧ w = w' := by
  have s1 := toStr h1
  have s2 := toStr h2
  obtain ⟨a1, c1, rfl, _, _⟩ := h1
  obtain ⟨a2, c2, rfl, _, _⟩ := h2
  go_enter Try.func21, Try.ntmps21
  go_wp2
  go_ret
  refine ⟨ret_bool ?_, rfl⟩
  rw [Bool.eq_iff_iff]
  simp
end Go.Proofs.Ytahaoodklfmddaa
/- Contracts of codec.put, codec.Put and talusref02.Put: the digits of a number behind bytes. Conditions: fewer than 2^43 bytes. -/
set_option maxRecDepth 100000
namespace Go.Proofs.Ytahaoodklfmddaa
open Go.RowKit Go.Maps Go.Sort

theorem grown_trans {w w1 w2 : World} {r r' : Option Nat} (h : w.grownBy w1 r) (h2 : w1.grownBy w2 r') (hr : r' = r ∨ ∀ g, r' = some g → w.heap.size ≤ g) : w.grownBy w2 r :=
  ⟨h2.os.trans h.os, h2.tape.trans h.tape, h2.output.trans h.output, Nat.le_trans h.size h2.size, fun k hk hn =>
    (h2.block k (Nat.lt_of_lt_of_le hk h.size) (fun e => by
      rcases hr with hr | hr
      · exact hn (hr ▸ e)
      · have := hr k e.symm; omega)).trans (h.block k hk hn)⟩
theorem grown_alloc (w : World) (o : Obj) (r : Option Nat) : w.grownBy (w.alloc o) r :=
  ⟨rfl, rfl, rfl, by simp, fun k hk _ => Below.heap_alloc _ _ _ hk⟩
theorem grown_refl (w : World) (r : Option Nat) : w.grownBy w r := ⟨rfl, rfl, rfl, Nat.le_refl _, fun _ _ _ => rfl⟩

theorem put_step {w wr : World} {B : Nat} {v v' : Value} {ys : List UInt8} (h : wr.ownsRow B 5 1 v' ys.length (u8s ys) ∧ w.grownBy wr v.ownBlock ∧ (v'.ownBlock = v.ownBlock ∨ ∀ g, v'.ownBlock = some g → w.heap.size ≤ g)) (hB : B ≤ w.heap.size) (c : UInt8) (n : Int) (hn : n = (c.toNat : Int)) (hy : ys.length ≤ 17592186044100) :
    ∃ v2 w2, Hid (∀ ty, (Builtin.append_ #[56, 56] ty #[v', .slice (some ⟨wr.heap.size, 0, none⟩) 1 1]).run Try.prog (wr.alloc (.cells #[.int .u8 n] 5)) = .ok v2 w2) ∧
      Hid (w2.ownsRow B 5 1 v2 (ys ++ [c]).length (u8s (ys ++ [c])) ∧ w.grownBy w2 v.ownBlock ∧ (v2.ownBlock = v.ownBlock ∨ ∀ g, v2.ownBlock = some g → w.heap.size ≤ g)) := by
  obtain ⟨h1, h2, h3⟩ := h
  have hs := h2.size
  obtain ⟨v2, w2, r, o, g, b⟩ := app8 (h1.alloc (.cells #[.int .u8 n] 5)) (by simp; omega) (holds_one8 wr c n hn) (by simp; omega)
  refine ⟨v2, w2, r, o, ?_, ?_⟩
  · refine grown_trans (grown_trans h2 (grown_alloc wr _ none) (.inr (fun g e => by cases e))) g ?_
    exact h3
  · rcases b with b | b
    · rw [b]; exact h3
    · refine .inr (fun g e => ?_)
      rw [b] at e
      simp at e
      omega

set_option maxHeartbeats 800000 in
theorem put_any {w : World} {B : Nat} {v : Value} {xs : List UInt8} (hown : w.ownsRow B 5 1 v xs.length (u8s xs)) (hB : B ≤ w.heap.size) (u : Nat) (hu : u < 18446744073709551616) (hx : xs.length ≤ 17592186044000) :
    Calls Try.prog 58 #[v, .int .u64 (u : Int)] w fun e w' => ∃ v', e = .returned v' ∧ w'.ownsRow B 5 1 v' (xs ++ dig u).length (u8s (xs ++ dig u)) ∧ w.grownBy w' v.ownBlock ∧ (v'.ownBlock = v.ownBlock ∨ ∀ g, v'.ownBlock = some g → w.heap.size ≤ g) := by
  have HB := Lib.hid hB
  have HX := Lib.hid hx
  have HO := Lib.hid hown
  have HU := Lib.hid hu
  have HL := Lib.hid (dig_len10 hu)
  clear hB hx hown hu
  go_enter Try.func58, Try.ntmps58
  go_wp2_with fail
  go_loopw [0, 1] (fun v' i wr => ∃ (k : Nat) (ys : List UInt8), i = .int .u64 k ∧ k ≤ u ∧ Hid (ys ++ dig k = xs ++ dig u) ∧ Hid (wr.ownsRow B 5 1 v' ys.length (u8s ys) ∧ w.grownBy wr v.ownBlock ∧ (v'.ownBlock = v.ownBlock ∨ ∀ g, v'.ownBlock = some g → w.heap.size ≤ g))) (fun _ i _ => (intOf i).toNat)
  case atStart => exact ⟨u, xs, rfl, Nat.le_refl _, rfl, HO.out, grown_refl _ _, .inl rfl⟩
  case round =>
    obtain ⟨k, ys, rfl, hk, HD, HR⟩ := hrel
    have hk64 : k < 18446744073709551616 := by have := HU.out; omega
    have hy : ys.length ≤ 17592186044100 := by
      have e := congrArg List.length HD.out
      simp only [List.length_append] at e
      have := HX.out; have := HL.out; omega
    by_cases h : k < 128
    · have t1 : decide ((128 : Int) ≤ (k : Int)) = false := decide_eq_false (by omega)
      obtain ⟨v2, w2, HRUN, HR2⟩ := put_step HR.out HB.out (UInt8.ofNat k) (k : Int) (by simp; omega) hy
      have HE := Lib.hid (dig_lo h)
      clear hy
      go_wp2_with (at_builtin; refine wpList_append_run rfl _ _ 56 rfl rfl rfl (HRUN.out _) ?_)
      go_ret
      rw [← HD.out, HE.out]
      exact ⟨v2, rfl, HR2.out⟩
    · have t1 : decide ((128 : Int) ≤ (k : Int)) = true := decide_eq_true (by omega)
      obtain ⟨v2, w2, HRUN, HR2⟩ := put_step HR.out HB.out (UInt8.ofNat (k % 128 + 128)) _ (low_or128 k) hy
      have HE := Lib.hid (dig_hi h)
      clear hy
      go_wp2_with (at_builtin; refine wpList_append_run rfl _ _ 56 rfl rfl rfl (HRUN.out _) ?_)
      go_roundw
      case rel => exact ⟨k / 128, ys ++ [UInt8.ofNat (k % 128 + 128)], by go_num, by omega, Lib.hid (by rw [← HD.out, HE.out]; simp), HR2.out⟩
      case measure => simp [intOf]; omega

/-- Put: a copy with the digits behind it -/
theorem mk8 (w : World) (n m : Int) (k c : Nat) (hn : n = (k : Int)) (hm : m = (c : Int)) (hk : k ≤ c) (hc : c ≤ 17592186044416) :
    (Instr.makeSlice 56 (.int .i64 n) (.int .i64 m)).run Try.prog w = .ok (.slice (some ⟨w.heap.size, 0, none⟩) k c) (w.alloc (.cells (u8s (List.replicate c 0)).toArray 5)) := by
  obtain ⟨i, hi, hz0, hz1, hz2⟩ := info_parts info8
  subst hn hm
  have := run_make (P := Try.prog) w 56 5 i (.int .u8 0) Try.underlying56 hi hz0 .i64 .i64 (k : Int) c (by omega) (by omega) (by rw [hz2]; omega) (by omega)
  rw [this, hz1]
  simp only [Int.toNat_natCast, Nat.mul_one, Value.cells]
  have e : madeCells #[Value.int .u8 0] c = (u8s (List.replicate c 0)).toArray := by
    apply Array.toList_inj.1
    rw [toList_madeCells_one]
    simp [u8s]
  rw [e]

set_option maxHeartbeats 800000 in
theorem Put_any {w : World} {v : Value} {xs : List UInt8} (h : Holds w v (u8s xs)) (u : Nat) (hu : u < 18446744073709551616) (hx : xs.length ≤ 17592186044000) :
    Calls Try.prog 42 #[v, .int .u64 (u : Int)] w fun e w' => ∃ v', e = .returned v' ∧ w'.ownsRow w.heap.size 5 1 v' (xs ++ dig u).length (u8s (xs ++ dig u)) ∧ Below w.heap.size w w' := by
  obtain ⟨a, c, hv, hc⟩ := h.form
  rw [u8s_len] at hv hc
  subst hv
  have hmk := mk8 w 0 ((xs.length : Int) + 10) 0 (xs.length + 10) rfl (by omega) (by omega) (by omega)
  have hb1 := (Below.refl w.heap.size w).alloc (Nat.le_refl _) (.cells (u8s (List.replicate (xs.length + 10) 0)).toArray 5)
  have hr1 := World.ownsRow_made w (base := w.heap.size) (e := 5) (size := 1) (u8s (List.replicate (xs.length + 10) 0)).toArray (xs.length + 10) (Nat.le_refl _) (by unfold maxLen; omega) (by simp [u8s])
  generalize w.alloc (.cells (u8s (List.replicate (xs.length + 10) 0)).toArray 5) = w1 at *
  obtain ⟨v2, w2, r, o, g, b⟩ := app8 (xs := []) hr1 hb1.size (h.below hb1) (by simp; omega)
  have hb2 : Below w.heap.size w w2 := hb1.trans (below_grown g hb1.size (fun k e => by simp [Value.ownBlock] at e; omega))
  have hx2 : ([] ++ xs).length ≤ 17592186044000 := by simpa using hx
  have R := Lib.hid r
  have O := Lib.hid o
  have HB2 := Lib.hid hb2
  have HX2 := Lib.hid hx2
  have HU := Lib.hid hu
  clear h r o g b hb1 hr1 hb2 hx2 hu
  generalize xs.length = n at *
  go_enter Try.func42, Try.ntmps42
  go_wp2_with (at_builtin; refine wpList_append_run rfl _ _ 56 rfl rfl rfl (R.out _) ?_)
  refine (put_any O.out HB2.out.size u HU.out HX2.out).mono ?_
  rintro e w3 ⟨v3, rfl, o3, g3, b3⟩
  have O3 := Lib.hid o3
  have B3 := Lib.hid (HB2.out.trans (below_grown g3 HB2.out.size (fun k e => ownsRow_ge O.out k e)))
  clear o3 g3 b3
  go_wp2_with fail
  go_ret
  refine ⟨v3, rfl, ?_, B3.out⟩
  have := O3.out
  simpa using this

set_option maxHeartbeats 800000 in
theorem refPut_any {w : World} {v : Value} {xs : List UInt8} (h : Holds w v (u8s xs)) (u : Nat) (hu : u < 18446744073709551616) (hx : xs.length ≤ 17592186044000) :
    Calls Try.prog 49 #[v, .int .u64 (u : Int)] w fun e w' => ∃ v', e = .returned v' ∧ w'.ownsRow w.heap.size 5 1 v' (xs ++ dig u).length (u8s (xs ++ dig u)) ∧ Below w.heap.size w w' := by
  obtain ⟨a, c, hv, hc⟩ := h.form
  rw [u8s_len] at hv hc
  subst hv
  have hb1 := (Below.refl w.heap.size w).alloc (Nat.le_refl _) (.cells #[] 5)
  have hr1 := World.ownsRow_made w (base := w.heap.size) (e := 5) (size := 1) #[] 0 (Nat.le_refl _) (by unfold maxLen; omega) (by simp)
  obtain ⟨v2, w2, r, o, g, b⟩ := app8 (xs := []) hr1 hb1.size (h.below hb1) (by simp; omega)
  have hb2 : Below w.heap.size w w2 := hb1.trans (below_grown g hb1.size (fun k e => by simp [Value.ownBlock] at e; omega))
  have R := Lib.hid r
  have HU := Lib.hid hu
  have HL := Lib.hid (dig_len10 hu)
  have HX := Lib.hid hx
  have HB := Lib.hid hb1.size
  have HS := Lib.hid (show w2.ownsRow w.heap.size 5 1 v2 xs.length (u8s xs) ∧ Below w.heap.size w w2 from ⟨by simpa using o, hb2⟩)
  clear h r o g b hb1 hr1 hb2 hx hu
  generalize hn : xs.length = n at *
  have HN := Lib.hid hn
  clear hn
  go_enter Try.func49, Try.ntmps49
  go_wp2_with (at_builtin; refine wpList_append_run rfl _ _ 56 rfl rfl rfl (R.out _) ?_)
  go_loopw [5, 1] (fun v' i wr => ∃ (k : Nat) (ys : List UInt8), i = .int .u64 k ∧ k ≤ u ∧ Hid (ys ++ dig k = xs ++ dig u) ∧ Hid (wr.ownsRow w.heap.size 5 1 v' ys.length (u8s ys) ∧ Below w.heap.size w wr)) (fun _ i _ => (intOf i).toNat)
  case atStart => exact ⟨u, xs, rfl, Nat.le_refl _, rfl, HN.out ▸ HS.out⟩
  case round =>
    obtain ⟨k, ys, rfl, hk, HD, HR⟩ := hrel
    have hk64 : k < 18446744073709551616 := by have := HU.out; omega
    have hy : ys.length ≤ 17592186044100 := by
      have e := congrArg List.length HD.out
      simp only [List.length_append] at e
      have := HX.out; have := HL.out; have := HN.out; omega
    have hpre : wr.ownsRow w.heap.size 5 1 u5 ys.length (u8s ys) ∧ wr.grownBy wr u5.ownBlock ∧ (u5.ownBlock = u5.ownBlock ∨ ∀ g, u5.ownBlock = some g → wr.heap.size ≤ g) := ⟨HR.out.1, grown_refl _ _, .inl rfl⟩
    by_cases h : k < 128
    · have t1 : decide ((128 : Int) ≤ (k : Int)) = false := decide_eq_false (by omega)
      obtain ⟨v2, w2, HRUN, HR2⟩ := put_step hpre HR.out.2.size (UInt8.ofNat k) (k : Int) (by simp; omega) hy
      have HE := Lib.hid (dig_lo h)
      clear hy hpre
      go_wp2_with (at_builtin; refine wpList_append_run rfl _ _ 56 rfl rfl rfl (HRUN.out _) ?_)
      go_ret
      rw [← HD.out, HE.out]
      exact ⟨v2, rfl, HR2.out.1, HR.out.2.trans (below_grown HR2.out.2.1 HR.out.2.size (ownsRow_ge HR.out.1))⟩
    · have t1 : decide ((128 : Int) ≤ (k : Int)) = true := decide_eq_true (by omega)
      obtain ⟨v2, w2, HRUN, HR2⟩ := put_step hpre HR.out.2.size (UInt8.ofNat (k % 128 + 128)) ((k : Int) % 128 + 128) (by simp; omega) hy
      have HE := Lib.hid (dig_hi h)
      have h256 : (k : Int) % 128 + 128 < 256 := by omega
      clear hy hpre
      go_wp2_with (at_builtin; refine wpList_append_run rfl _ _ 56 rfl rfl rfl (HRUN.out _) ?_)
      go_roundw
      case rel => exact ⟨k / 128, ys ++ [UInt8.ofNat (k % 128 + 128)], by go_num, by omega, Lib.hid (by rw [← HD.out, HE.out]; simp), HR2.out.1, HR.out.2.trans (below_grown HR2.out.2.1 HR.out.2.size (ownsRow_ge HR.out.1))⟩
      case measure => simp [intOf]; omega
end Go.Proofs.Ytahaoodklfmddaa
/- Contracts of codec.Get and talusref02.Get: the number that bytes begin with. Conditions: none. -/
set_option maxRecDepth 100000
namespace Go.Proofs.Ytahaoodklfmddaa
open Go.RowKit Go.Maps Go.Sort

/-- the number that bytes begin with, i digits being read -/
def getAt : List UInt8 → Nat → Nat → Nat × Nat
  | [], _, _ => (0, 0)
  | c :: r, i, u => if 10 ≤ i then (0, 0) else if i = 9 ∧ 1 < c.toNat then (0, 0) else
    if c.toNat < 128 then (if 0 < i ∧ c.toNat = 0 then (0, 0) else (u + c.toNat * 2 ^ (7 * i), i + 1)) else getAt r (i + 1) (u + (c.toNat - 128) * 2 ^ (7 * i))
def getN (l : List UInt8) : Nat × Nat := getAt l 0 0

theorem drop_at {l : List UInt8} {k : Nat} (h : k < l.length) : l.drop k = l[k] :: l.drop (k + 1) := by rw [List.drop_eq_getElem_cons h]

theorem get_nil (i u : Nat) : getAt [] i u = (0, 0) := rfl
theorem get_ten (l : List UInt8) (u : Nat) : getAt l 10 u = (0, 0) := by
  cases l with
  | nil => rfl
  | cons c r => rw [getAt, if_pos (by omega)]
theorem get_bad (c : UInt8) (r : List UInt8) (u : Nat) (h : 1 < c.toNat) : getAt (c :: r) 9 u = (0, 0) := by
  rw [getAt, if_neg (by omega), if_pos ⟨rfl, h⟩]
theorem get_zero (c : UInt8) (r : List UInt8) (i u : Nat) (hi : 0 < i) (hi2 : i < 10) (h : c.toNat = 0) : getAt (c :: r) i u = (0, 0) := by
  rw [getAt, if_neg (by omega), if_neg (by omega), if_pos (by omega), if_pos ⟨hi, h⟩]
theorem get_last (c : UInt8) (r : List UInt8) (i u : Nat) (hi2 : i < 10) (h0 : ¬ (0 < i ∧ c.toNat = 0)) (h9 : ¬ (i = 9 ∧ 1 < c.toNat)) (h : c.toNat < 128) : getAt (c :: r) i u = (u + c.toNat * 2 ^ (7 * i), i + 1) := by
  rw [getAt, if_neg (by omega), if_neg h9, if_pos h, if_neg h0]
theorem get_more (c : UInt8) (r : List UInt8) (i u : Nat) (hi2 : i < 10) (h : ¬ c.toNat < 128) : getAt (c :: r) i u = getAt r (i + 1) (u + (c.toNat - 128) * 2 ^ (7 * i)) := by
  by_cases h9 : i = 9
  · subst h9
    rw [get_bad _ _ _ (by omega), get_ten]
  · rw [getAt, if_neg (by omega), if_neg (by omega), if_neg h]

/-- the arithmetic of one digit -/
theorem get_arith (k d U : Nat) (hk : k < 10) (hd : d < 128) (hU : U < 2 ^ (7 * k)) (h : ¬ (k = 9 ∧ 2 ≤ d)) :
    IntKind.u64.wrap ((d : Int) * 2 ^ (7 * k)) = ((d * 2 ^ (7 * k) : Nat) : Int) ∧ (((d * 2 ^ (7 * k) : Nat) : Int) / 2 ^ (7 * k) != (d : Int)) = false ∧
    bits .or .u64 (U : Int) ((d * 2 ^ (7 * k) : Nat) : Int) = ((U + d * 2 ^ (7 * k) : Nat) : Int) ∧ U + d * 2 ^ (7 * k) < 2 ^ (7 * (k + 1)) := by
  have hp : 0 < 2 ^ (7 * k) := Nat.two_pow_pos _
  have hlt : d * 2 ^ (7 * k) < 18446744073709551616 := by
    by_cases h9 : k = 9
    · subst h9
      have : d ≤ 1 := by omega
      have := Nat.mul_le_mul_right (2 ^ (7 * 9)) this
      omega
    · have h1 : 2 ^ (7 * k) ≤ 2 ^ 56 := Nat.pow_le_pow_right (by omega) (by omega)
      have h2 := Nat.mul_le_mul (show d ≤ 127 by omega) h1
      omega
  have hlt2 : U < 18446744073709551616 := by
    have h1 : 2 ^ (7 * k) ≤ 2 ^ 63 := Nat.pow_le_pow_right (by omega) (by omega)
    omega
  have hor : U ||| d * 2 ^ (7 * k) = U + d * 2 ^ (7 * k) := by
    rw [Nat.or_comm, Nat.mul_comm, ← Nat.two_pow_add_eq_or_of_lt hU d, Nat.add_comm]
  have hc : ((d * 2 ^ (7 * k) : Nat) : Int) = (d : Int) * 2 ^ (7 * k) := by simp
  refine ⟨?_, ?_, ?_, ?_⟩
  · rw [← hc]; exact IntWalk.u64_in _ (by omega)
  · rw [hc, Int.mul_ediv_cancel _ (Int.ne_of_gt (Int.pow_pos (by omega)))]; simp
  · rw [or_u64 _ _ hlt2 hlt, hor]
  · rw [show 7 * (k + 1) = 7 * k + 7 by omega, Nat.pow_add]
    have : d * 2 ^ (7 * k) ≤ 127 * 2 ^ (7 * k) := Nat.mul_le_mul_right _ (by omega)
    omega
theorem get_over (k d : Nat) (hk : k = 9) (hd : d < 128) (h : 2 ≤ d) : (IntKind.u64.wrap ((d : Int) * 2 ^ (7 * k)) / 2 ^ (7 * k) != (d : Int)) = true := by
  subst hk
  rw [bne_iff_ne, IntKind.wrap_u64]
  omega

set_option maxHeartbeats 3200000 in
theorem Get_any {w : World} {v : Value} {l : List UInt8} (h : Holds w v (u8s l)) (hx : l.length ≤ 17592186044000) :
    Calls Try.prog 56 #[v] w fun e w' => e = .returned (.tuple #[.int .u64 ((getN l).1 : Int), .int .i64 ((getN l).2 : Int)]) ∧ w = w' := by
  obtain ⟨a, c, hv, hc⟩ := h.form
  rw [u8s_len] at hv hc
  subst hv
  have H := Lib.hid h
  generalize hn : l.length = n at *
  have HN := Lib.hid hn
  clear h hn
  go_enter Try.func56, Try.ntmps56
  go_wp2_with fail
  all_goals
    go_loop [4, 15] (fun u i => ∃ (k U : Nat), k ≤ 10 ∧ k ≤ n ∧ i = .int .i64 k ∧ u = .int .u64 U ∧ Hid (U < 2 ^ (7 * k) ∧ getN l = getAt (l.drop k) k U)) (fun _ i => 10 - (intOf i).toNat)
    case atStart => exact ⟨0, 0, by omega, by omega, rfl, rfl, by simp, rfl⟩
    case round =>
      obtain ⟨k, U, hk, hkn, rfl, rfl, HR⟩ := hrel
      by_cases hlt : k < 10 ∧ k < n
      · obtain ⟨h10, hn⟩ := hlt
        have hkl : k < l.length := by rw [HN.out]; exact hn
        obtain ⟨ad, rfl⟩ := H.out.ptr (by omega)
        have hc : w.cell? (ad.add k) = some (.int .u8 (l[k].toNat : Int)) := H.out.cell (by simp [u8s, hkl])
        have hx := l[k].toNat_lt
        have hd := and127 l[k].toNat hx
        have hd2 : l[k].toNat % 128 < 128 := by omega
        have HG := Lib.hid HR.out.2
        rw [drop_at hkl] at HG
        by_cases hbad : k = 9 ∧ 2 ≤ l[k].toNat % 128
        · obtain ⟨h9, hb2⟩ := hbad
          have HE : Hid (getN l = (0, 0)) := Lib.hid (by rw [HG.out]; subst h9; exact get_bad _ _ _ (by omega))
          have tE := get_over k _ h9 hd2 hb2
          clear HG h9
          generalize l[k].toNat % 128 = d at *
          generalize l[k].toNat = x at *
          go_wp2_with fail
          go_ret2
          rw [HE.out]
          exact ⟨rfl, rfl⟩
        · obtain ⟨g1, g2, g3, g4⟩ := get_arith k (l[k].toNat % 128) U h10 hd2 HR.out.1 hbad
          have G4 := Lib.hid g4
          clear g4
          by_cases h0 : l[k].toNat = 0
          · have t0 : ((l[k].toNat : Int) == 0) = true := by rw [beq_iff_eq]; omega
            by_cases hk0 : 0 < k
            · have HE := Lib.hid (HG.out.trans (get_zero _ _ _ _ hk0 h10 h0))
              clear HG h0
              generalize l[k].toNat % 128 * 2 ^ (7 * k) = D at *
              generalize l[k].toNat % 128 = d at *
              generalize l[k].toNat = x at *
              go_wp2_with fail
              go_ret2
              rw [HE.out]
              exact ⟨rfl, rfl⟩
            · have HE := Lib.hid (HG.out.trans (get_last _ _ _ _ h10 (by omega) (by omega) (by omega)))
              rw [show l[k].toNat % 128 = l[k].toNat by omega] at *
              clear HG h0
              generalize l[k].toNat * 2 ^ (7 * k) = D at *
              generalize l[k].toNat = x at *
              go_wp2_with fail
              go_ret2
              rw [HE.out]
              exact ⟨rfl, rfl⟩
          · have t0 : ((l[k].toNat : Int) == 0) = false := by rw [beq_eq_false_iff_ne]; omega
            by_cases h128 : l[k].toNat < 128
            · have HE := Lib.hid (HG.out.trans (get_last _ _ _ _ h10 (by omega) (by omega) (by omega)))
              rw [show l[k].toNat % 128 = l[k].toNat by omega] at *
              clear HG
              generalize l[k].toNat * 2 ^ (7 * k) = D at *
              generalize l[k].toNat = x at *
              go_wp2_with fail
              go_ret2
              rw [HE.out]
              exact ⟨rfl, rfl⟩
            · have HE := Lib.hid (HG.out.trans (get_more _ _ _ _ h10 (by omega)))
              rw [show l[k].toNat - 128 = l[k].toNat % 128 by omega] at HE
              clear HG
              generalize l[k].toNat % 128 * 2 ^ (7 * k) = D at *
              generalize l[k].toNat % 128 = d at *
              generalize l[k].toNat = x at *
              go_wp2_with fail
              go_round
              case rel => exact ⟨k + 1, U + D, by omega, by omega, by go_num, rfl, G4.out, HE.out⟩
              case measure => simp [intOf]; omega
      · have HE : Hid (getN l = (0, 0)) := Lib.hid (by
          rw [HR.out.2]
          by_cases h10 : k = 10
          · subst h10; exact get_ten _ _
          · rw [List.drop_eq_nil_of_le (by rw [HN.out]; omega)]; rfl)
        go_wp2_with fail
        go_ret2
        rw [HE.out]
        exact ⟨rfl, rfl⟩
end Go.Proofs.Ytahaoodklfmddaa
/- The number that its digits begin with is read back. Conditions: none. -/
set_option maxRecDepth 100000
namespace Go.Proofs.Ytahaoodklfmddaa

theorem get_dig (r : List UInt8) (x : Nat) : ∀ (i U : Nat), i < 10 → x * 2 ^ (7 * i) < 18446744073709551616 → (0 < i → 0 < x) → getAt (dig x ++ r) i U = (U + x * 2 ^ (7 * i), i + (dig x).length) := by
  induction x using Nat.strongRecOn with
  | _ x ih =>
    intro i U hi hb h0
    have hp : 0 < 2 ^ (7 * i) := Nat.two_pow_pos _
    by_cases h : x < 128
    · rw [dig_lo h]
      have e : (UInt8.ofNat x).toNat = x := by simp; omega
      have h9 : ¬ (i = 9 ∧ 1 < (UInt8.ofNat x).toNat) := by
        rw [e]
        rintro ⟨rfl, h1⟩
        have := Nat.mul_le_mul_right (2 ^ (7 * 9)) (show 2 ≤ x by omega)
        omega
      rw [List.singleton_append, get_last _ _ _ _ hi (by rw [e]; omega) h9 (by rw [e]; exact h), e]
      rfl
    · have hi8 : i ≤ 8 := by
        rcases Nat.lt_or_ge i 9 with g | g
        · omega
        · obtain rfl : i = 9 := by omega
          have := Nat.mul_le_mul_right (2 ^ (7 * 9)) (show 128 ≤ x by omega)
          omega
      rw [dig_hi h, List.cons_append, get_more _ _ _ _ hi (by simp; omega)]
      have e : (UInt8.ofNat (x % 128 + 128)).toNat - 128 = x % 128 := by simp; omega
      have hpow : 2 ^ (7 * (i + 1)) = 128 * 2 ^ (7 * i) := by rw [show 7 * (i + 1) = 7 + 7 * i by omega, Nat.pow_add]
      have hsplit : x % 128 * 2 ^ (7 * i) + x / 128 * 2 ^ (7 * (i + 1)) = x * 2 ^ (7 * i) := by
        rw [hpow, ← Nat.mul_assoc, ← Nat.add_mul]
        congr 1
        omega
      rw [ih (x / 128) (by omega) (i + 1) _ (by omega) (by omega) (by omega), e]
      rw [Nat.add_assoc U, hsplit]
      simp
      omega
theorem get_dig0 (r : List UInt8) {u : Nat} (hu : u < 18446744073709551616) : getN (dig u ++ r) = (u, (dig u).length) := by
  unfold getN
  rw [get_dig r u 0 0 (by omega) (by simpa using hu) (by omega)]
  simp
theorem dig_pos (u : Nat) : 0 < (dig u).length := by
  by_cases h : u < 128
  · rw [dig_lo h]; simp
  · rw [dig_hi h]; simp
end Go.Proofs.Ytahaoodklfmddaa
