/- Contracts of codec.put, codec.Put and talusref02.Put: the digits of a number behind bytes. Conditions: fewer than 2^43 bytes. -/
import Derived.Test.YtbijpjoljljlpaaGreatDoorTells
import Derived.Test.YtbijpjoljljlpaaGreatDoorCodecPlain
import Derived.Test.YtbijpjoljljlpaaGreatDoorBits
import Derived.Outline
set_option maxRecDepth 100000
namespace Go.Proofs.YtbijpjoljljlpaaGreatDoor
open Go.RowKit Go.Maps Go.Sort

theorem grown_trans {w w1 w2 : World} {r r' : Option Nat} (h : w.grownBy w1 r) (h2 : w1.grownBy w2 r') (hr : r' = r ∨ ∀ g, r' = some g → w.heap.size ≤ g) : w.grownBy w2 r :=
  ⟨h2.os.trans h.os, h2.tape.trans h.tape, h2.output.trans h.output, Nat.le_trans h.size h2.size, fun k hk hn =>
    (h2.block k (Nat.lt_of_lt_of_le hk h.size) (fun e => by
      rcases hr with hr | hr
      · exact hn (hr ▸ e)
      · have := hr k e.symm; omega)).trans (h.block k hk hn)⟩
theorem grown_alloc (w : World) (o : Obj) (r : Option Nat) : w.grownBy (w.alloc o) r :=
  ⟨rfl, rfl, rfl, by simp, fun k hk _ => Below.heap_alloc _ _ _ hk⟩
theorem grown_refl (w : World) (r : Option Nat) : w.grownBy w r := ⟨rfl, rfl, rfl, Nat.le_refl _, fun _ _ _ => rfl⟩

theorem put_step {w wr : World} {B : Nat} {v v' : Value} {ys : List UInt8} (h : wr.ownsRow B 5 1 v' ys.length (u8s ys) ∧ w.grownBy wr v.ownBlock ∧ (v'.ownBlock = v.ownBlock ∨ ∀ g, v'.ownBlock = some g → w.heap.size ≤ g)) (hB : B ≤ w.heap.size) (c : UInt8) (n : Int) (hn : n = (c.toNat : Int)) (hy : ys.length ≤ 17592186044100) :
    ∃ v2 w2, Hid (∀ ty, (Builtin.append_ #[33, 33] ty #[v', .slice (some ⟨wr.heap.size, 0, none⟩) 1 1]).run Tryz.prog (wr.alloc (.cells #[.int .u8 n] 5)) = .ok v2 w2) ∧
      Hid (w2.ownsRow B 5 1 v2 (ys ++ [c]).length (u8s (ys ++ [c])) ∧ w.grownBy w2 v.ownBlock ∧ (v2.ownBlock = v.ownBlock ∨ ∀ g, v2.ownBlock = some g → w.heap.size ≤ g)) := by
  obtain ⟨h1, h2, h3⟩ := h
  have hs := h2.size
  obtain ⟨v2, w2, r, o, g, b⟩ := app8 (h1.alloc (.cells #[.int .u8 n] 5)) (by simp; omega) (holds_one8 wr c n hn) (by simp; omega)
  refine ⟨v2, w2, r, o, ?_, ?_⟩
  · refine grown_trans (grown_trans h2 (grown_alloc wr _ none) (.inr (fun g e => by cases e))) g ?_
    exact h3
  · rcases b with b | b
    · rw [b]; exact h3
    · refine .inr (fun g e => ?_)
      rw [b] at e
      simp at e
      omega

set_option maxHeartbeats 800000 in
theorem put_any {w : World} {B : Nat} {v : Value} {xs : List UInt8} (hown : w.ownsRow B 5 1 v xs.length (u8s xs)) (hB : B ≤ w.heap.size) (u : Nat) (hu : u < 18446744073709551616) (hx : xs.length ≤ 17592186044000) :
    Calls Tryz.prog 31 #[v, .int .u64 (u : Int)] w fun e w' => ∃ v', e = .returned v' ∧ w'.ownsRow B 5 1 v' (xs ++ dig u).length (u8s (xs ++ dig u)) ∧ w.grownBy w' v.ownBlock ∧ (v'.ownBlock = v.ownBlock ∨ ∀ g, v'.ownBlock = some g → w.heap.size ≤ g) := by
  have HB := Lib.hid hB
  have HX := Lib.hid hx
  have HO := Lib.hid hown
  have HU := Lib.hid hu
  have HL := Lib.hid (dig_len10 hu)
  clear hB hx hown hu
  go_enter Tryz.func31, Tryz.ntmps31
  go_wp2_with fail
  go_loopw [0, 1] (fun v' i wr => ∃ (k : Nat) (ys : List UInt8), i = .int .u64 k ∧ k ≤ u ∧ Hid (ys ++ dig k = xs ++ dig u) ∧ Hid (wr.ownsRow B 5 1 v' ys.length (u8s ys) ∧ w.grownBy wr v.ownBlock ∧ (v'.ownBlock = v.ownBlock ∨ ∀ g, v'.ownBlock = some g → w.heap.size ≤ g))) (fun _ i _ => (intOf i).toNat)
  case atStart => exact ⟨u, xs, rfl, Nat.le_refl _, rfl, HO.out, grown_refl _ _, .inl rfl⟩
  case round =>
    obtain ⟨k, ys, rfl, hk, HD, HR⟩ := hrel
    have hk64 : k < 18446744073709551616 := by have := HU.out; omega
    have hy : ys.length ≤ 17592186044100 := by
      have e := congrArg List.length HD.out
      simp only [List.length_append] at e
      have := HX.out; have := HL.out; omega
    by_cases h : k < 128
    · have t1 : decide ((128 : Int) ≤ (k : Int)) = false := decide_eq_false (by omega)
      obtain ⟨v2, w2, HRUN, HR2⟩ := put_step HR.out HB.out (UInt8.ofNat k) (k : Int) (by simp; omega) hy
      have HE := Lib.hid (dig_lo h)
      clear hy
      go_wp2_with (at_builtin; refine wpList_append_run rfl _ _ 33 rfl rfl rfl (HRUN.out _) ?_)
      go_ret
      rw [← HD.out, HE.out]
      exact ⟨v2, rfl, HR2.out⟩
    · have t1 : decide ((128 : Int) ≤ (k : Int)) = true := decide_eq_true (by omega)
      obtain ⟨v2, w2, HRUN, HR2⟩ := put_step HR.out HB.out (UInt8.ofNat (k % 128 + 128)) _ (low_or128 k) hy
      have HE := Lib.hid (dig_hi h)
      clear hy
      go_wp2_with (at_builtin; refine wpList_append_run rfl _ _ 33 rfl rfl rfl (HRUN.out _) ?_)
      go_roundw
      case rel => exact ⟨k / 128, ys ++ [UInt8.ofNat (k % 128 + 128)], by go_num, by omega, Lib.hid (by rw [← HD.out, HE.out]; simp), HR2.out⟩
      case measure => simp [intOf]; omega

/-- Put: a copy with the digits behind it -/
theorem mk8 (w : World) (n m : Int) (k c : Nat) (hn : n = (k : Int)) (hm : m = (c : Int)) (hk : k ≤ c) (hc : c ≤ 17592186044416) :
    (Instr.makeSlice 33 (.int .i64 n) (.int .i64 m)).run Tryz.prog w = .ok (.slice (some ⟨w.heap.size, 0, none⟩) k c) (w.alloc (.cells (u8s (List.replicate c 0)).toArray 5)) := by
  obtain ⟨i, hi, hz0, hz1, hz2⟩ := info_parts info8
  subst hn hm
  have := run_make (P := Tryz.prog) w 33 5 i (.int .u8 0) Tryz.underlying33 hi hz0 .i64 .i64 (k : Int) c (by omega) (by omega) (by rw [hz2]; omega) (by omega)
  rw [this, hz1]
  simp only [Int.toNat_natCast, Nat.mul_one, Value.cells]
  have e : madeCells #[Value.int .u8 0] c = (u8s (List.replicate c 0)).toArray := by
    apply Array.toList_inj.1
    rw [toList_madeCells_one]
    simp [u8s]
  rw [e]

set_option maxHeartbeats 800000 in
theorem Put_any {w : World} {v : Value} {xs : List UInt8} (h : Holds w v (u8s xs)) (u : Nat) (hu : u < 18446744073709551616) (hx : xs.length ≤ 17592186044000) :
    Calls Tryz.prog 19 #[v, .int .u64 (u : Int)] w fun e w' => ∃ v', e = .returned v' ∧ w'.ownsRow w.heap.size 5 1 v' (xs ++ dig u).length (u8s (xs ++ dig u)) ∧ Below w.heap.size w w' := by
  obtain ⟨a, c, hv, hc⟩ := h.form
  rw [u8s_len] at hv hc
  subst hv
  have hmk := mk8 w 0 ((xs.length : Int) + 10) 0 (xs.length + 10) rfl (by omega) (by omega) (by omega)
  have hb1 := (Below.refl w.heap.size w).alloc (Nat.le_refl _) (.cells (u8s (List.replicate (xs.length + 10) 0)).toArray 5)
  have hr1 := World.ownsRow_made w (base := w.heap.size) (e := 5) (size := 1) (u8s (List.replicate (xs.length + 10) 0)).toArray (xs.length + 10) (Nat.le_refl _) (by unfold maxLen; omega) (by simp [u8s])
  generalize w.alloc (.cells (u8s (List.replicate (xs.length + 10) 0)).toArray 5) = w1 at *
  obtain ⟨v2, w2, r, o, g, b⟩ := app8 (xs := []) hr1 hb1.size (h.below hb1) (by simp; omega)
  have hb2 : Below w.heap.size w w2 := hb1.trans (below_grown g hb1.size (fun k e => by simp [Value.ownBlock] at e; omega))
  have hx2 : ([] ++ xs).length ≤ 17592186044000 := by simpa using hx
  have R := Lib.hid r
  have O := Lib.hid o
  have HB2 := Lib.hid hb2
  have HX2 := Lib.hid hx2
  have HU := Lib.hid hu
  clear h r o g b hb1 hr1 hb2 hx2 hu
  generalize xs.length = n at *
  go_enter Tryz.func19, Tryz.ntmps19
  go_wp2_with (at_builtin; refine wpList_append_run rfl _ _ 33 rfl rfl rfl (R.out _) ?_)
  refine (put_any O.out HB2.out.size u HU.out HX2.out).mono ?_
  rintro e w3 ⟨v3, rfl, o3, g3, b3⟩
  have O3 := Lib.hid o3
  have B3 := Lib.hid (HB2.out.trans (below_grown g3 HB2.out.size (fun k e => ownsRow_ge O.out k e)))
  clear o3 g3 b3
  go_wp2_with fail
  go_ret
  refine ⟨v3, rfl, ?_, B3.out⟩
  have := O3.out
  simpa using this

end Go.Proofs.YtbijpjoljljlpaaGreatDoor
