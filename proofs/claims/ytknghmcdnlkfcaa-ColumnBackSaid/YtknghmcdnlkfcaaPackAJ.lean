/- The texts CodecPlain CodecPut CodecRead, one behind the other; each one's own comment says what it holds. -/
import Derived.Test.YtknghmcdnlkfcaaPackAA
import Derived.Test.YtknghmcdnlkfcaaPackAB
import Derived.Test.YtknghmcdnlkfcaaPackAH
import Derived.Outline
import Derived.Test.YtknghmcdnlkfcaaPackAI
import Derived.Sort.QuietTacIn
import Derived.Sort.BigQuietIn
/- Plain mathematics of package codec: the digits of a number to base 128, and the number that bytes begin with. Conditions: none. -/
set_option maxRecDepth 100000
namespace Go.Proofs.Ytknghmcdnlkfcaa

/-- the digits of a number to base 128 -/
def dig (u : Nat) : List UInt8 := if h : u < 128 then [UInt8.ofNat u] else UInt8.ofNat (u % 128 + 128) :: dig (u / 128)
termination_by u
decreasing_by omega
theorem dig_lo {u : Nat} (h : u < 128) : dig u = [UInt8.ofNat u] := by rw [dig, dif_pos h]
theorem dig_hi {u : Nat} (h : ¬ u < 128) : dig u = UInt8.ofNat (u % 128 + 128) :: dig (u / 128) := by rw [dig, dif_neg h]
theorem dig_len (k : Nat) : ∀ u : Nat, u < 128 ^ k → (dig u).length ≤ k ∨ k = 0 := by
  induction k with
  | zero => intro u _; exact .inr rfl
  | succ k ih =>
    intro u hu
    by_cases h : u < 128
    · rw [dig_lo h]; exact .inl (by simp)
    · rw [dig_hi h]
      refine .inl ?_
      have h2 : u / 128 < 128 ^ k := by
        rw [Nat.div_lt_iff_lt_mul (by omega)]; rw [Nat.pow_succ] at hu; exact hu
      rcases ih _ h2 with h3 | rfl
      · simp; exact h3
      · simp at hu; omega
theorem dig_len10 {u : Nat} (hu : u < 18446744073709551616) : (dig u).length ≤ 10 := by
  rcases dig_len 10 u (by omega) with h | h
  · exact h
  · omega
theorem dig300 : dig 300 = [172, 2] := by
  rw [dig_hi (by omega), dig_lo (by omega)]; decide
end Go.Proofs.Ytknghmcdnlkfcaa
/- Contracts of codec.put, codec.Put and talusref02.Put: the digits of a number behind bytes. Conditions: fewer than 2^43 bytes. -/
set_option maxRecDepth 100000
namespace Go.Proofs.Ytknghmcdnlkfcaa
open Go.RowKit Go.Maps Go.Sort

theorem grown_trans {w w1 w2 : World} {r r' : Option Nat} (h : w.grownBy w1 r) (h2 : w1.grownBy w2 r') (hr : r' = r ∨ ∀ g, r' = some g → w.heap.size ≤ g) : w.grownBy w2 r :=
  ⟨h2.os.trans h.os, h2.tape.trans h.tape, h2.output.trans h.output, Nat.le_trans h.size h2.size, fun k hk hn =>
    (h2.block k (Nat.lt_of_lt_of_le hk h.size) (fun e => by
      rcases hr with hr | hr
      · exact hn (hr ▸ e)
      · have := hr k e.symm; omega)).trans (h.block k hk hn)⟩
theorem grown_alloc (w : World) (o : Obj) (r : Option Nat) : w.grownBy (w.alloc o) r :=
  ⟨rfl, rfl, rfl, by simp, fun k hk _ => Below.heap_alloc _ _ _ hk⟩
theorem grown_refl (w : World) (r : Option Nat) : w.grownBy w r := ⟨rfl, rfl, rfl, Nat.le_refl _, fun _ _ _ => rfl⟩

theorem put_step {w wr : World} {B : Nat} {v v' : Value} {ys : List UInt8} (h : wr.ownsRow B 5 1 v' ys.length (u8s ys) ∧ w.grownBy wr v.ownBlock ∧ (v'.ownBlock = v.ownBlock ∨ ∀ g, v'.ownBlock = some g → w.heap.size ≤ g)) (hB : B ≤ w.heap.size) (c : UInt8) (n : Int) (hn : n = (c.toNat : Int)) (hy : ys.length ≤ 17592186044100) :
    ∃ v2 w2, Hid (∀ ty, (Builtin.append_ #[26, 26] ty #[v', .slice (some ⟨wr.heap.size, 0, none⟩) 1 1]).run Try.prog (wr.alloc (.cells #[.int .u8 n] 5)) = .ok v2 w2) ∧
      Hid (w2.ownsRow B 5 1 v2 (ys ++ [c]).length (u8s (ys ++ [c])) ∧ w.grownBy w2 v.ownBlock ∧ (v2.ownBlock = v.ownBlock ∨ ∀ g, v2.ownBlock = some g → w.heap.size ≤ g)) := by
  obtain ⟨h1, h2, h3⟩ := h
  have hs := h2.size
  obtain ⟨v2, w2, r, o, g, b⟩ := app8 (h1.alloc (.cells #[.int .u8 n] 5)) (by simp; omega) (holds_one8 wr c n hn) (by simp; omega)
  refine ⟨v2, w2, r, o, ?_, ?_⟩
  · refine grown_trans (grown_trans h2 (grown_alloc wr _ none) (.inr (fun g e => by cases e))) g ?_
    exact h3
  · rcases b with b | b
    · rw [b]; exact h3
    · refine .inr (fun g e => ?_)
      rw [b] at e
      simp at e
      omega

set_option maxHeartbeats 800000 in
theorem put_any {w : World} {B : Nat} {v : Value} {xs : List UInt8} (hown : w.ownsRow B 5 1 v xs.length (u8s xs)) (hB : B ≤ w.heap.size) (u : Nat) (hu : u < 18446744073709551616) (hx : xs.length ≤ 17592186044000) :
    Calls Try.prog 45 #[v, .int .u64 (u : Int)] w fun e w' => ∃ v', e = .returned v' ∧ w'.ownsRow B 5 1 v' (xs ++ dig u).length (u8s (xs ++ dig u)) ∧ w.grownBy w' v.ownBlock ∧ (v'.ownBlock = v.ownBlock ∨ ∀ g, v'.ownBlock = some g → w.heap.size ≤ g) := by
  have HB := Lib.hid hB
  have HX := Lib.hid hx
  have HO := Lib.hid hown
  have HU := Lib.hid hu
  have HL := Lib.hid (dig_len10 hu)
  clear hB hx hown hu
  go_enter Try.func45, Try.ntmps45
  go_wp2_with fail
  go_loopw [0, 1] (fun v' i wr => ∃ (k : Nat) (ys : List UInt8), i = .int .u64 k ∧ k ≤ u ∧ Hid (ys ++ dig k = xs ++ dig u) ∧ Hid (wr.ownsRow B 5 1 v' ys.length (u8s ys) ∧ w.grownBy wr v.ownBlock ∧ (v'.ownBlock = v.ownBlock ∨ ∀ g, v'.ownBlock = some g → w.heap.size ≤ g))) (fun _ i _ => (intOf i).toNat)
  case atStart => exact ⟨u, xs, rfl, Nat.le_refl _, rfl, HO.out, grown_refl _ _, .inl rfl⟩
  case round =>
    obtain ⟨k, ys, rfl, hk, HD, HR⟩ := hrel
    have hk64 : k < 18446744073709551616 := by have := HU.out; omega
    have hy : ys.length ≤ 17592186044100 := by
      have e := congrArg List.length HD.out
      simp only [List.length_append] at e
      have := HX.out; have := HL.out; omega
    by_cases h : k < 128
    · have t1 : decide ((128 : Int) ≤ (k : Int)) = false := decide_eq_false (by omega)
      obtain ⟨v2, w2, HRUN, HR2⟩ := put_step HR.out HB.out (UInt8.ofNat k) (k : Int) (by simp; omega) hy
      have HE := Lib.hid (dig_lo h)
      clear hy
      go_wp2_with (at_builtin; refine wpList_append_run rfl _ _ 26 rfl rfl rfl (HRUN.out _) ?_)
      go_ret
      rw [← HD.out, HE.out]
      exact ⟨v2, rfl, HR2.out⟩
    · have t1 : decide ((128 : Int) ≤ (k : Int)) = true := decide_eq_true (by omega)
      obtain ⟨v2, w2, HRUN, HR2⟩ := put_step HR.out HB.out (UInt8.ofNat (k % 128 + 128)) _ (low_or128 k) hy
      have HE := Lib.hid (dig_hi h)
      clear hy
      go_wp2_with (at_builtin; refine wpList_append_run rfl _ _ 26 rfl rfl rfl (HRUN.out _) ?_)
      go_roundw
      case rel => exact ⟨k / 128, ys ++ [UInt8.ofNat (k % 128 + 128)], by go_num, by omega, Lib.hid (by rw [← HD.out, HE.out]; simp), HR2.out⟩
      case measure => simp [intOf]; omega

/-- Put: a copy with the digits behind it -/
theorem mk8 (w : World) (n m : Int) (k c : Nat) (hn : n = (k : Int)) (hm : m = (c : Int)) (hk : k ≤ c) (hc : c ≤ 17592186044416) :
    (Instr.makeSlice 26 (.int .i64 n) (.int .i64 m)).run Try.prog w = .ok (.slice (some ⟨w.heap.size, 0, none⟩) k c) (w.alloc (.cells (u8s (List.replicate c 0)).toArray 5)) := by
  obtain ⟨i, hi, hz0, hz1, hz2⟩ := info_parts info8
  subst hn hm
  have := run_make (P := Try.prog) w 26 5 i (.int .u8 0) Try.underlying26 hi hz0 .i64 .i64 (k : Int) c (by omega) (by omega) (by rw [hz2]; omega) (by omega)
  rw [this, hz1]
  simp only [Int.toNat_natCast, Nat.mul_one, Value.cells]
  have e : madeCells #[Value.int .u8 0] c = (u8s (List.replicate c 0)).toArray := by
    apply Array.toList_inj.1
    rw [toList_madeCells_one]
    simp [u8s]
  rw [e]

set_option maxHeartbeats 800000 in
theorem Put_any {w : World} {v : Value} {xs : List UInt8} (h : Holds w v (u8s xs)) (u : Nat) (hu : u < 18446744073709551616) (hx : xs.length ≤ 17592186044000) :
    Calls Try.prog 27 #[v, .int .u64 (u : Int)] w fun e w' => ∃ v', e = .returned v' ∧ w'.ownsRow w.heap.size 5 1 v' (xs ++ dig u).length (u8s (xs ++ dig u)) ∧ Below w.heap.size w w' := by
  obtain ⟨a, c, hv, hc⟩ := h.form
  rw [u8s_len] at hv hc
  subst hv
  have hmk := mk8 w 0 ((xs.length : Int) + 10) 0 (xs.length + 10) rfl (by omega) (by omega) (by omega)
  have hb1 := (Below.refl w.heap.size w).alloc (Nat.le_refl _) (.cells (u8s (List.replicate (xs.length + 10) 0)).toArray 5)
  have hr1 := World.ownsRow_made w (base := w.heap.size) (e := 5) (size := 1) (u8s (List.replicate (xs.length + 10) 0)).toArray (xs.length + 10) (Nat.le_refl _) (by unfold maxLen; omega) (by simp [u8s])
  generalize w.alloc (.cells (u8s (List.replicate (xs.length + 10) 0)).toArray 5) = w1 at *
  obtain ⟨v2, w2, r, o, g, b⟩ := app8 (xs := []) hr1 hb1.size (h.below hb1) (by simp; omega)
  have hb2 : Below w.heap.size w w2 := hb1.trans (below_grown g hb1.size (fun k e => by simp [Value.ownBlock] at e; omega))
  have hx2 : ([] ++ xs).length ≤ 17592186044000 := by simpa using hx
  have R := Lib.hid r
  have O := Lib.hid o
  have HB2 := Lib.hid hb2
  have HX2 := Lib.hid hx2
  have HU := Lib.hid hu
  clear h r o g b hb1 hr1 hb2 hx2 hu
  generalize xs.length = n at *
  go_enter Try.func27, Try.ntmps27
  go_wp2_with (at_builtin; refine wpList_append_run rfl _ _ 26 rfl rfl rfl (R.out _) ?_)
  refine (put_any O.out HB2.out.size u HU.out HX2.out).mono ?_
  rintro e w3 ⟨v3, rfl, o3, g3, b3⟩
  have O3 := Lib.hid o3
  have B3 := Lib.hid (HB2.out.trans (below_grown g3 HB2.out.size (fun k e => ownsRow_ge O.out k e)))
  clear o3 g3 b3
  go_wp2_with fail
  go_ret
  refine ⟨v3, rfl, ?_, B3.out⟩
  have := O3.out
  simpa using this

set_option maxHeartbeats 800000 in
theorem refPut_any {w : World} {v : Value} {xs : List UInt8} (h : Holds w v (u8s xs)) (u : Nat) (hu : u < 18446744073709551616) (hx : xs.length ≤ 17592186044000) :
    Calls Try.prog 31 #[v, .int .u64 (u : Int)] w fun e w' => ∃ v', e = .returned v' ∧ w'.ownsRow w.heap.size 5 1 v' (xs ++ dig u).length (u8s (xs ++ dig u)) ∧ Below w.heap.size w w' := by
  obtain ⟨a, c, hv, hc⟩ := h.form
  rw [u8s_len] at hv hc
  subst hv
  have hb1 := (Below.refl w.heap.size w).alloc (Nat.le_refl _) (.cells #[] 5)
  have hr1 := World.ownsRow_made w (base := w.heap.size) (e := 5) (size := 1) #[] 0 (Nat.le_refl _) (by unfold maxLen; omega) (by simp)
  obtain ⟨v2, w2, r, o, g, b⟩ := app8 (xs := []) hr1 hb1.size (h.below hb1) (by simp; omega)
  have hb2 : Below w.heap.size w w2 := hb1.trans (below_grown g hb1.size (fun k e => by simp [Value.ownBlock] at e; omega))
  have R := Lib.hid r
  have HU := Lib.hid hu
  have HL := Lib.hid (dig_len10 hu)
  have HX := Lib.hid hx
  have HB := Lib.hid hb1.size
  have HS := Lib.hid (show w2.ownsRow w.heap.size 5 1 v2 xs.length (u8s xs) ∧ Below w.heap.size w w2 from ⟨by simpa using o, hb2⟩)
  clear h r o g b hb1 hr1 hb2 hx hu
  generalize hn : xs.length = n at *
  have HN := Lib.hid hn
  clear hn
  go_enter Try.func31, Try.ntmps31
  go_wp2_with (at_builtin; refine wpList_append_run rfl _ _ 26 rfl rfl rfl (R.out _) ?_)
  go_loopw [5, 1] (fun v' i wr => ∃ (k : Nat) (ys : List UInt8), i = .int .u64 k ∧ k ≤ u ∧ Hid (ys ++ dig k = xs ++ dig u) ∧ Hid (wr.ownsRow w.heap.size 5 1 v' ys.length (u8s ys) ∧ Below w.heap.size w wr)) (fun _ i _ => (intOf i).toNat)
  case atStart => exact ⟨u, xs, rfl, Nat.le_refl _, rfl, HN.out ▸ HS.out⟩
  case round =>
    obtain ⟨k, ys, rfl, hk, HD, HR⟩ := hrel
    have hk64 : k < 18446744073709551616 := by have := HU.out; omega
    have hy : ys.length ≤ 17592186044100 := by
      have e := congrArg List.length HD.out
      simp only [List.length_append] at e
      have := HX.out; have := HL.out; have := HN.out; omega
    have hpre : wr.ownsRow w.heap.size 5 1 u5 ys.length (u8s ys) ∧ wr.grownBy wr u5.ownBlock ∧ (u5.ownBlock = u5.ownBlock ∨ ∀ g, u5.ownBlock = some g → wr.heap.size ≤ g) := ⟨HR.out.1, grown_refl _ _, .inl rfl⟩
    by_cases h : k < 128
    · have t1 : decide ((128 : Int) ≤ (k : Int)) = false := decide_eq_false (by omega)
      obtain ⟨v2, w2, HRUN, HR2⟩ := put_step hpre HR.out.2.size (UInt8.ofNat k) (k : Int) (by simp; omega) hy
      have HE := Lib.hid (dig_lo h)
      clear hy hpre
      go_wp2_with (at_builtin; refine wpList_append_run rfl _ _ 26 rfl rfl rfl (HRUN.out _) ?_)
      go_ret
      rw [← HD.out, HE.out]
      exact ⟨v2, rfl, HR2.out.1, HR.out.2.trans (below_grown HR2.out.2.1 HR.out.2.size (ownsRow_ge HR.out.1))⟩
    · have t1 : decide ((128 : Int) ≤ (k : Int)) = true := decide_eq_true (by omega)
      obtain ⟨v2, w2, HRUN, HR2⟩ := put_step hpre HR.out.2.size (UInt8.ofNat (k % 128 + 128)) ((k : Int) % 128 + 128) (by simp; omega) hy
      have HE := Lib.hid (dig_hi h)
      have h256 : (k : Int) % 128 + 128 < 256 := by omega
      clear hy hpre
      go_wp2_with (at_builtin; refine wpList_append_run rfl _ _ 26 rfl rfl rfl (HRUN.out _) ?_)
      go_roundw
      case rel => exact ⟨k / 128, ys ++ [UInt8.ofNat (k % 128 + 128)], by go_num, by omega, Lib.hid (by rw [← HD.out, HE.out]; simp), HR2.out.1, HR.out.2.trans (below_grown HR2.out.2.1 HR.out.2.size (ownsRow_ge HR.out.1))⟩
      case measure => simp [intOf]; omega
end Go.Proofs.Ytknghmcdnlkfcaa
/- Contract of codec.readPacked: numbers of so many bits, read. Conditions: small lists. -/
set_option maxRecDepth 100000
namespace Go.Proofs.Ytknghmcdnlkfcaa
open Go.RowKit Go.Maps Go.Sort
attribute [local go_sem] Oper.semAt_some

theorem below1r (w : World) (o : Obj) : Below w.heap.size w (w.alloc o) := (Below.refl _ _).alloc (Nat.le_refl _) _

/-- how many bits are read ahead of step k -/
def stepD (f : Nat) : Nat → Nat
  | 0 => 0
  | k + 1 => stepD f k + (8 - (f + stepD f k) % 8)
theorem stepD_get (f w : Nat) : ∀ k, k < (stepsL f w 0).length → (stepsL f w 0)[k]? = some (stepD f k, f + stepD f k) ∧ stepD f k < w := by
  intro k
  induction k with
  | zero =>
    intro h
    by_cases hw : 0 < w
    · rw [steps_in hw]; exact ⟨rfl, hw⟩
    · rw [steps_out hw] at h; cases h
  | succ k ih =>
    intro h
    obtain ⟨e, _⟩ := ih (by omega)
    obtain ⟨_, _, e3⟩ := steps_get f w k 0 _ _ e
    rw [e3]
    split
    · rename_i hlt; exact ⟨rfl, hlt⟩
    · rename_i hge
      rw [if_neg hge] at e3
      rw [List.getElem?_eq_none_iff] at e3
      omega
theorem stepD_end (f w : Nat) : w ≤ stepD f (stepsL f w 0).length := by
  cases hl : (stepsL f w 0).length with
  | zero =>
    by_cases hw : 0 < w
    · rw [steps_in hw] at hl; cases hl
    · show w ≤ 0; omega
  | succ m =>
    obtain ⟨e, _⟩ := stepD_get f w m (by omega)
    obtain ⟨_, _, e3⟩ := steps_get f w m 0 _ _ e
    have hn : (stepsL f w 0)[m + 1]? = none := by rw [List.getElem?_eq_none_iff]; omega
    rw [hn] at e3
    split at e3
    · cases e3
    · rename_i h; show w ≤ stepD f m + (8 - (f + stepD f m) % 8); omega
/-- ErrCorrupt, as a panic -/
def corrupt : List PanicEntry := [{ v := .iface 28 (.int .i64 8), recovered := false }]

set_option maxHeartbeats 800000 in
theorem read_size {w : World} {a : Option Addr} {bl cap : Nat} (wd n : Nat) (hw : wd ≤ 64) (hn : n ≤ 100000) (hne : bl ≠ (wd * n + 7) / 8) :
    Calls Try.prog 84 #[.int .i64 (wd : Int), .int .i64 (n : Int), .slice a bl cap] w fun e w' => e = .panicked corrupt ∧ Below w.heap.size w w' := by
  have hmix : Try.prog.follows .mixedOrders = true := by kernel_rfl
  have hle : wd * n ≤ 64 * 100000 := Nat.mul_le_mul hw hn
  have hpk := fun W => (packedBytes_any wd n hw (by omega) W).mono fun _ _ ⟨h1, h2⟩ => (⟨h1, h2.symm⟩ : _ ∧ _ = W)
  generalize hm : (wd * n + 7) / 8 = m at *
  have HPK := Lib.hid hpk
  have t1 : ((bl : Int) != (m : Int)) = true := by rw [bne_iff_ne]; omega
  clear hpk hm hle hne
  refine (callsIn_wide (n := 0)).1 ?_
  refine callsIn_of_wp_marks Try.func84 rfl trivial ?_ rfl
  simp only [Try.ntmps84, List.size_toArray, List.length_cons, List.length_nil, Nat.reduceAdd, Nat.reduceSub, Array.replicate_succ, Array.replicate_zero, List.push_toArray, List.append_toArray, List.nil_append, List.cons_append]
  gi_wp2_with fail
  refine wpIn_region_quiet_lit rfl (by kernel_rfl) (by kernel_rfl) ?_
  repeat (gi_big_quiet_step (fail))
  refine wpQuietIn_step (fun _ _ _ _ => trivial) (fun K hK => ?_)
  go_simp
  refine ⟨_, fun q => ⟨rfl, callsIn_wide.2 (Calls.quiet_of_same (HPK.out _))⟩, hK _ ?_⟩
  clear hK K
  repeat (gi_big_quiet_step (fail))
  refine wpQuietIn_nil ?_
  intro _ hw'
  obtain ⟨nq, hw''⟩ := hw'
  subst hw''
  gi_wp2_with fail
  have hb := below1r w (Obj.cells #[Value.slice a bl cap] 26)
  exact ⟨rfl, hb.os, hb.tape, hb.output, hb.size, hb.block⟩

/-- where readPacked stands ahead of a number: the boxes of the bytes and of the list -/
structure ReadW (w : World) (bv : Value) (n : Nat) (L : List UInt64) (W : World) (ds : List Deferred) : Prop where
  bbox : W.heap[w.heap.size]? = some (.cells #[bv] 26 (0, 0))
  list : W.heap[w.heap.size + 1]? = some (.cells (u64s L).toArray 61 (0, 0))
  lbox : W.heap[w.heap.size + 2]? = some (.cells #[.slice (some ⟨w.heap.size + 1, 0, none⟩) n n] 63 (0, 0))
  below : Below w.heap.size w W
  marks : Marks (w.heap.size + 3) W ds
  size : w.heap.size + 3 ≤ W.heap.size

/-- among the steps of a number: its box, and the two of steps, lie from B on -/
structure ReadJ (w : World) (bv : Value) (n B j wd f N : Nat) (L : List UInt64) (ds : List Deferred) (k : Nat) (X : World) : Prop where
  main : ReadW w bv n (L.set j (UInt64.ofNat (N / 2 ^ f % 2 ^ (stepD f k)))) X ds
  bi : X.heap[B]? = some (.cells #[.int .i64 (j : Int)] 3 (0, 0))
  bf : X.heap[B + 1]? = some (.cells #[.int .i64 (f : Int)] 3 (0, 0))
  bw : X.heap[B + 2]? = some (.cells #[.int .i64 (wd : Int)] 3 (0, 0))

theorem ReadW.grown {w : World} {bv : Value} {n S : Nat} {L : List UInt64} {ds : List Deferred} {X Y : World} {row : Option Nat} (h : ReadW w bv n L X ds) (hds : ∀ d ∈ ds, ∀ D, d.target = .collected D → D < S) (hw : w.heap.size + 3 ≤ S)
    (hg : X.grownBy Y row) (hr' : ∀ r, row = some r → S ≤ r) : ReadW w bv n L Y ds :=
  ⟨heap_grown hg h.bbox (by omega) hr', heap_grown hg h.list (by omega) hr', heap_grown hg h.lbox (by omega) hr', h.below.trans (below_grown hg h.below.size (fun g e => by have := hr' g e; omega)),
    h.marks.kept (fun D _ hd ⟨d, hm, ht⟩ => heap_grown hg hd (hds d hm D ht) hr'), Nat.le_trans h.size hg.size⟩
theorem ReadJ.own {w : World} {bv : Value} {n B j wd f N S : Nat} {L : List UInt64} {ds : List Deferred} (hds : ∀ d ∈ ds, ∀ D, d.target = .collected D → D < S) (hB : B + 3 ≤ S) (hw : w.heap.size + 3 ≤ S) : OwnFrom S (ReadJ w bv n B j wd f N L ds) := by
  intro k X Y row h hg hr
  have hr' : ∀ r, row = some r → S ≤ r := fun r e => (hr r e).1
  exact ⟨h.main.grown hds hw hg hr', heap_grown hg h.bi (by omega) hr', heap_grown hg h.bf (by omega) hr', heap_grown hg h.bw (by omega) hr'⟩
theorem ReadW.more {w W W' : World} {bv : Value} {n : Nat} {L : List UInt64} {ds : List Deferred} (h : ReadW w bv n L W ds) (hb : Below W.heap.size W W') : ReadW w bv n L W' ds := by
  have hs := h.size
  exact ⟨(hb.block _ (by omega)).trans h.bbox, (hb.block _ (by omega)).trans h.list, (hb.block _ (by omega)).trans h.lbox, h.below.trans (hb.mono h.below.size), h.marks.kept (fun D _ hd _ => (hb.block _ (Array.getElem?_eq_some_iff.1 hd).1).trans hd), Nat.le_trans hs hb.size⟩

/-- a store into the list -/
theorem ReadW.store {w X : World} {bv : Value} {n i : Nat} {L : List UInt64} {ds : List Deferred} (h : ReadW w bv n L X ds) (u : UInt64) (S : Nat) :
    KeepsFrom S X (X.setCell ⟨w.heap.size + 1, i, none⟩ (.int .u64 (u.toNat : Int))).drew ∧ ReadW w bv n (L.set i u) (X.setCell ⟨w.heap.size + 1, i, none⟩ (.int .u64 (u.toNat : Int))).drew ds := by
  have hk := (KeepsOthers.setCell X ⟨w.heap.size + 1, i, none⟩ (.int .u64 (u.toNat : Int))).from
  refine ⟨(hk S).trans (keeps_drew _ _), heap_other h.bbox (by omega), ?_, heap_other h.lbox (by omega), (h.below.setCell (p := ⟨w.heap.size + 1, i, none⟩) (by simp) _).drew, (h.marks.keepsFrom (hk _)).keepsFrom (keeps_drew _ _), ?_⟩
  · have := heap_set h.list (j := i) (.int .u64 (u.toNat : Int))
    refine this.trans ?_
    congr 2
    apply Array.toList_inj.1
    simp [u64s, List.map_set]
  · have := (hk 0).size; exact Nat.le_trans h.size this
end Go.Proofs.Ytknghmcdnlkfcaa
