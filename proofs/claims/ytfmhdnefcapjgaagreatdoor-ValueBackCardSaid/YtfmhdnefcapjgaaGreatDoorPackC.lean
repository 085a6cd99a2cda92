/- The texts VbQuote Tells CodecPlain CodecPut CodecGet GetDig CodecZig VbPlain OpenStructs VbRow VbBody VbBytes, one behind the other; each one's own comment says what it holds. -/
import Derived.Test.YtfmhdnefcapjgaaGreatDoorPackB
import Derived.Test.YtfmhdnefcapjgaaGreatDoorPackA
import Derived.Outline
import Derived.ProofKit
import Derived.OpenShut
import Derived.ChangeOld
import Derived.Deep.Slices
import Derived.Deep.Fields
import Derived.ChangeSame
import Derived.Lib.SmallJoins
import Derived.Lib.AppendStr
/- Plain mathematics of quoted texts: each quote doubled, and taken back. Conditions: none. -/
set_option maxRecDepth 100000
namespace Go.Proofs.YtfmhdnefcapjgaaGreatDoor
open Go.RowKit Go.Lib

/-- each quote doubled -/
def dbl : List UInt8 → List UInt8
  | [] => []
  | b :: r => if b = 39 then 39 :: 39 :: dbl r else b :: dbl r
theorem dbl_quote (r : List UInt8) : dbl (39 :: r) = 39 :: 39 :: dbl r := by
  conv => lhs; unfold dbl
  rw [if_pos rfl]
theorem dbl_other {b : UInt8} (h : b ≠ 39) (r : List UInt8) : dbl (b :: r) = b :: dbl r := by
  conv => lhs; unfold dbl
  rw [if_neg h]
theorem dbl_app : ∀ a r : List UInt8, dbl (a ++ r) = dbl a ++ dbl r
  | [], r => rfl
  | b :: a, r => by
    by_cases h : b = 39
    · subst h; rw [List.cons_append, dbl_quote, dbl_quote, dbl_app a r]; rfl
    · rw [List.cons_append, dbl_other h, dbl_other h, dbl_app a r]; rfl
theorem dbl_none : ∀ a : List UInt8, 39 ∉ a → dbl a = a
  | [], _ => rfl
  | b :: a, h => by
    rw [dbl_other (fun e => h (by rw [e]; simp)), dbl_none a (fun hm => h (List.mem_cons_of_mem _ hm))]
theorem dbl_len : ∀ a : List UInt8, a.length ≤ (dbl a).length ∧ (dbl a).length ≤ 2 * a.length
  | [] => by simp [dbl]
  | b :: a => by
    have := dbl_len a
    by_cases h : b = 39
    · subst h; rw [dbl_quote]; simp only [List.length_cons]; omega
    · rw [dbl_other h]; simp only [List.length_cons]; omega
theorem idx1 : ∀ s : List UInt8, (Lib.index s [39] = -1 ∧ 39 ∉ s) ∨ ∃ a r, Lib.index s [39] = (a.length : Int) ∧ s = a ++ 39 :: r ∧ 39 ∉ a
  | [] => .inl ⟨rfl, by simp⟩
  | b :: s => by
    by_cases h : b = 39
    · subst h
      exact .inr ⟨[], s, by unfold Lib.index; simp [List.isPrefixOf], rfl, by simp⟩
    · have hp : ([39] : List UInt8).isPrefixOf (b :: s) = false := by
        have hb : ((39 : UInt8) == b) = false := by rw [beq_eq_false_iff_ne]; exact fun e => h e.symm
        simp [List.isPrefixOf, hb]
      have e : Lib.index (b :: s) [39] = if Lib.index s [39] == -1 then -1 else Lib.index s [39] + 1 := by
        conv => lhs; unfold Lib.index
        rw [hp]; rfl
      rcases idx1 s with ⟨h1, h2⟩ | ⟨a, r, h1, h2, h3⟩
      · refine .inl ⟨by rw [e, h1]; rfl, ?_⟩
        intro hm
        rcases List.mem_cons.1 hm with hm | hm
        · exact h hm.symm
        · exact h2 hm
      · have hne : (Lib.index s [39] == -1) = false := by rw [beq_eq_false_iff_ne, h1]; omega
        refine .inr ⟨b :: a, r, by rw [e, hne, h1]; simp, by rw [h2]; rfl, ?_⟩
        intro hm
        rcases List.mem_cons.1 hm with hm | hm
        · exact h hm.symm
        · exact h3 hm
theorem idx2 : ∀ s : List UInt8, (Lib.index (dbl s) [39, 39] = -1 ∧ 39 ∉ s) ∨ ∃ a r, Lib.index (dbl s) [39, 39] = (a.length : Int) ∧ s = a ++ 39 :: r ∧ 39 ∉ a
  | [] => .inl ⟨rfl, by simp⟩
  | b :: s => by
    by_cases h : b = 39
    · subst h
      refine .inr ⟨[], s, ?_, rfl, by simp⟩
      rw [dbl_quote]
      unfold Lib.index
      simp [List.isPrefixOf]
    · have hp : ([39, 39] : List UInt8).isPrefixOf (b :: dbl s) = false := by
        have hb : ((39 : UInt8) == b) = false := by rw [beq_eq_false_iff_ne]; exact fun e => h e.symm
        simp [List.isPrefixOf, hb]
      have e : Lib.index (dbl (b :: s)) [39, 39] = if Lib.index (dbl s) [39, 39] == -1 then -1 else Lib.index (dbl s) [39, 39] + 1 := by
        rw [dbl_other h]
        conv => lhs; unfold Lib.index
        rw [hp]; rfl
      rcases idx2 s with ⟨h1, h2⟩ | ⟨a, r, h1, h2, h3⟩
      · refine .inl ⟨by rw [e, h1]; rfl, ?_⟩
        intro hm
        rcases List.mem_cons.1 hm with hm | hm
        · exact h hm.symm
        · exact h2 hm
      · have hne : (Lib.index (dbl s) [39, 39] == -1) = false := by rw [beq_eq_false_iff_ne, h1]; omega
        refine .inr ⟨b :: a, r, by rw [e, hne, h1]; simp, by rw [h2]; rfl, ?_⟩
        intro hm
        rcases List.mem_cons.1 hm with hm | hm
        · exact h hm.symm
        · exact h3 hm
theorem rep_miss {s old new : List UInt8} (h : Lib.index s old = -1) (k : Nat) : Lib.replaceK old new k s = s := by
  cases k with
  | zero => rfl
  | succ k => unfold Lib.replaceK; rw [h]; rfl
theorem rep_dbl : ∀ (n : Nat) (s : List UInt8), s.length ≤ n → ∀ k, Lib.count s [39] ≤ k → Lib.replaceK [39] [39, 39] k s = dbl s := by
  intro n
  induction n with
  | zero =>
    intro s hs k _
    have : s = [] := List.eq_nil_of_length_eq_zero (by omega)
    subst this
    exact rep_miss rfl k
  | succ n ih =>
    intro s hs k hk
    rcases idx1 s with ⟨h1, h2⟩ | ⟨a, r, h1, h2, h3⟩
    · rw [rep_miss h1, dbl_none s h2]
    · have hd : s.drop (a.length + ([39] : List UInt8).length) = r := by
        rw [h2]; simp
      have hc := Lib.count_hit (s := s) (sub := [39]) (i := a.length) (by simp) h1
      rw [hd] at hc
      obtain ⟨k', rfl⟩ : ∃ k', k = k' + 1 := ⟨k - 1, by omega⟩
      rw [Lib.replaceK_hit _ _ _ _ _ h1, hd, ih r (by have := congrArg List.length h2; simp at this; omega) k' (by omega)]
      have ht : s.take a.length = a := by rw [h2]; exact List.take_left
      rw [ht]
      conv => rhs; rw [h2, dbl_app, dbl_none a h3, dbl_quote]
      simp
theorem rep_back : ∀ (n : Nat) (s : List UInt8), s.length ≤ n → ∀ k, Lib.count (dbl s) [39, 39] ≤ k → Lib.replaceK [39, 39] [39] k (dbl s) = s := by
  intro n
  induction n with
  | zero =>
    intro s hs k _
    have : s = [] := List.eq_nil_of_length_eq_zero (by omega)
    subst this
    exact rep_miss rfl k
  | succ n ih =>
    intro s hs k hk
    rcases idx2 s with ⟨h1, h2⟩ | ⟨a, r, h1, h2, h3⟩
    · rw [rep_miss h1, dbl_none s h2]
    · have hdb : dbl s = a ++ 39 :: 39 :: dbl r := by rw [h2, dbl_app, dbl_none a h3, dbl_quote]
      have hd : (dbl s).drop (a.length + ([39, 39] : List UInt8).length) = dbl r := by
        rw [hdb]; simp
      have hc := Lib.count_hit (s := dbl s) (sub := [39, 39]) (i := a.length) (by simp) h1
      rw [hd] at hc
      obtain ⟨k', rfl⟩ : ∃ k', k = k' + 1 := ⟨k - 1, by omega⟩
      rw [Lib.replaceK_hit _ _ _ _ _ h1, hd, ih r (by have := congrArg List.length h2; simp at this; omega) k' (by omega)]
      have ht : (dbl s).take a.length = a := by rw [hdb]; exact List.take_left
      rw [ht, h2]
      simp
theorem all_num (s old : List UInt8) : Lib.replaceNum s old (-1) = Lib.count s old := by unfold Lib.replaceNum; rw [if_pos (by omega)]
theorem quote_dbl (s : List UInt8) : Lib.replaceAll s [39] [39, 39] = dbl s := by
  have h1 : Lib.replaceAll s [39] [39, 39] = Lib.replaceK [39] [39, 39] (Lib.replaceNum s [39] (-1)) s := rfl
  rw [h1, all_num]
  exact rep_dbl _ s (Nat.le_refl _) _ (Nat.le_refl _)
theorem quote_back (s : List UInt8) : Lib.replaceAll (dbl s) [39, 39] [39] = s := by
  have h1 : Lib.replaceAll (dbl s) [39, 39] [39] = Lib.replaceK [39, 39] [39] (Lib.replaceNum (dbl s) [39, 39] (-1)) (dbl s) := rfl
  rw [h1, all_num]
  exact rep_back _ s (Nat.le_refl _) _ (Nat.le_refl _)
theorem quoteB_eq (s : ByteArray) : quoteB s = ⟨(39 :: (dbl s.data.toList ++ [39])).toArray⟩ := by
  unfold quoteB
  rw [quote_dbl]
  apply ByteArray.ext
  simp
end Go.Proofs.YtfmhdnefcapjgaaGreatDoor
/- Contracts of talusref01.Same, Words, Ints, Lend, Kept. Conditions: at most 2^43 numbers (Words, Ints), at most 400000 bytes (Lend, Kept). -/
set_option maxRecDepth 100000
namespace Go.Proofs.YtfmhdnefcapjgaaGreatDoor
open Go.RowKit Go.Maps Go.Sort

theorem info8 : (Tryz.prog.info? 5).map (fun i => (i.zero, i.size, i.bytes)) = some (some (.int .u8 0), 1, 1) := by kernel_rfl

theorem app8 {w : World} {B : Nat} {v : Value} {xs : List UInt8} (hown : w.ownsRow B 5 1 v xs.length (u8s xs)) (hB : B ≤ w.heap.size) {sv : Value} {l : List UInt8} (hs : Holds w sv (u8s l)) (hlen : xs.length + l.length ≤ 17592186044416) :
    ∃ v' w', (∀ ty, (Builtin.append_ #[33, 33] ty #[v, sv]).run Tryz.prog w = .ok v' w') ∧ w'.ownsRow B 5 1 v' (xs ++ l).length (u8s (xs ++ l)) ∧ w.grownBy w' v.ownBlock ∧ (v'.ownBlock = v.ownBlock ∨ v'.ownBlock = some w.heap.size) := by
  have := app_any (P := Tryz.prog) Tryz.underlying33 info8 (by omega) rfl (by rw [u8s_len]; exact hown) hB hs (u8s_one l) (by rw [u8s_len, u8s_len]; exact hlen)
  rw [← u8s_append, u8s_len] at this
  exact this
/-- a new block of one byte -/
theorem holds_one8 (w : World) (c : UInt8) (n : Int) (hn : n = (c.toNat : Int)) : Holds (w.alloc (.cells #[.int .u8 n] 5)) (.slice (some ⟨w.heap.size, 0, none⟩) 1 1) (u8s [c]) :=
  Holds.of_heap (alloc1 _ _) (by rw [hn]; rfl) 1 1 rfl (Nat.le_refl _)

theorem toStr {w : World} {v : Value} {l : List UInt8} (h : Holds w v (u8s l)) : (convert 33 9 v).run Tryz.prog w = .ok (.string ⟨l.toArray⟩) w :=
  str_of_holds Tryz.underlying33 Tryz.underlying5 Tryz.underlying9 h

end Go.Proofs.YtfmhdnefcapjgaaGreatDoor
/- Plain mathematics of package codec: the digits of a number to base 128, and the number that bytes begin with. Conditions: none. -/
set_option maxRecDepth 100000
namespace Go.Proofs.YtfmhdnefcapjgaaGreatDoor

/-- the digits of a number to base 128 -/
def dig (u : Nat) : List UInt8 := if h : u < 128 then [UInt8.ofNat u] else UInt8.ofNat (u % 128 + 128) :: dig (u / 128)
termination_by u
decreasing_by omega
theorem dig_lo {u : Nat} (h : u < 128) : dig u = [UInt8.ofNat u] := by rw [dig, dif_pos h]
theorem dig_hi {u : Nat} (h : ¬ u < 128) : dig u = UInt8.ofNat (u % 128 + 128) :: dig (u / 128) := by rw [dig, dif_neg h]
theorem dig_len (k : Nat) : ∀ u : Nat, u < 128 ^ k → (dig u).length ≤ k ∨ k = 0 := by
  induction k with
  | zero => intro u _; exact .inr rfl
  | succ k ih =>
    intro u hu
    by_cases h : u < 128
    · rw [dig_lo h]; exact .inl (by simp)
    · rw [dig_hi h]
      refine .inl ?_
      have h2 : u / 128 < 128 ^ k := by
        rw [Nat.div_lt_iff_lt_mul (by omega)]; rw [Nat.pow_succ] at hu; exact hu
      rcases ih _ h2 with h3 | rfl
      · simp; exact h3
      · simp at hu; omega
theorem dig_len10 {u : Nat} (hu : u < 18446744073709551616) : (dig u).length ≤ 10 := by
  rcases dig_len 10 u (by omega) with h | h
  · exact h
  · omega
theorem dig300 : dig 300 = [172, 2] := by
  rw [dig_hi (by omega), dig_lo (by omega)]; decide
end Go.Proofs.YtfmhdnefcapjgaaGreatDoor
/- Contracts of codec.put, codec.Put and talusref02.Put: the digits of a number behind bytes. Conditions: fewer than 2^43 bytes. -/
set_option maxRecDepth 100000
namespace Go.Proofs.YtfmhdnefcapjgaaGreatDoor
open Go.RowKit Go.Maps Go.Sort

theorem grown_trans {w w1 w2 : World} {r r' : Option Nat} (h : w.grownBy w1 r) (h2 : w1.grownBy w2 r') (hr : r' = r ∨ ∀ g, r' = some g → w.heap.size ≤ g) : w.grownBy w2 r :=
  ⟨h2.os.trans h.os, h2.tape.trans h.tape, h2.output.trans h.output, Nat.le_trans h.size h2.size, fun k hk hn =>
    (h2.block k (Nat.lt_of_lt_of_le hk h.size) (fun e => by
      rcases hr with hr | hr
      · exact hn (hr ▸ e)
      · have := hr k e.symm; omega)).trans (h.block k hk hn)⟩
theorem grown_alloc (w : World) (o : Obj) (r : Option Nat) : w.grownBy (w.alloc o) r :=
  ⟨rfl, rfl, rfl, by simp, fun k hk _ => Below.heap_alloc _ _ _ hk⟩
theorem grown_refl (w : World) (r : Option Nat) : w.grownBy w r := ⟨rfl, rfl, rfl, Nat.le_refl _, fun _ _ _ => rfl⟩

theorem put_step {w wr : World} {B : Nat} {v v' : Value} {ys : List UInt8} (h : wr.ownsRow B 5 1 v' ys.length (u8s ys) ∧ w.grownBy wr v.ownBlock ∧ (v'.ownBlock = v.ownBlock ∨ ∀ g, v'.ownBlock = some g → w.heap.size ≤ g)) (hB : B ≤ w.heap.size) (c : UInt8) (n : Int) (hn : n = (c.toNat : Int)) (hy : ys.length ≤ 17592186044100) :
    ∃ v2 w2, Hid (∀ ty, (Builtin.append_ #[33, 33] ty #[v', .slice (some ⟨wr.heap.size, 0, none⟩) 1 1]).run Tryz.prog (wr.alloc (.cells #[.int .u8 n] 5)) = .ok v2 w2) ∧
      Hid (w2.ownsRow B 5 1 v2 (ys ++ [c]).length (u8s (ys ++ [c])) ∧ w.grownBy w2 v.ownBlock ∧ (v2.ownBlock = v.ownBlock ∨ ∀ g, v2.ownBlock = some g → w.heap.size ≤ g)) := by
  obtain ⟨h1, h2, h3⟩ := h
  have hs := h2.size
  obtain ⟨v2, w2, r, o, g, b⟩ := app8 (h1.alloc (.cells #[.int .u8 n] 5)) (by simp; omega) (holds_one8 wr c n hn) (by simp; omega)
  refine ⟨v2, w2, r, o, ?_, ?_⟩
  · refine grown_trans (grown_trans h2 (grown_alloc wr _ none) (.inr (fun g e => by cases e))) g ?_
    exact h3
  · rcases b with b | b
    · rw [b]; exact h3
    · refine .inr (fun g e => ?_)
      rw [b] at e
      simp at e
      omega

set_option maxHeartbeats 800000 in
theorem put_any {w : World} {B : Nat} {v : Value} {xs : List UInt8} (hown : w.ownsRow B 5 1 v xs.length (u8s xs)) (hB : B ≤ w.heap.size) (u : Nat) (hu : u < 18446744073709551616) (hx : xs.length ≤ 17592186044000) :
    Calls Tryz.prog 31 #[v, .int .u64 (u : Int)] w fun e w' => ∃ v', e = .returned v' ∧ w'.ownsRow B 5 1 v' (xs ++ dig u).length (u8s (xs ++ dig u)) ∧ w.grownBy w' v.ownBlock ∧ (v'.ownBlock = v.ownBlock ∨ ∀ g, v'.ownBlock = some g → w.heap.size ≤ g) := by
  have HB := Lib.hid hB
  have HX := Lib.hid hx
  have HO := Lib.hid hown
  have HU := Lib.hid hu
  have HL := Lib.hid (dig_len10 hu)
  clear hB hx hown hu
  go_enter Tryz.func31, Tryz.ntmps31
  go_wp2_with fail
  go_loopw [0, 1] (fun v' i wr => ∃ (k : Nat) (ys : List UInt8), i = .int .u64 k ∧ k ≤ u ∧ Hid (ys ++ dig k = xs ++ dig u) ∧ Hid (wr.ownsRow B 5 1 v' ys.length (u8s ys) ∧ w.grownBy wr v.ownBlock ∧ (v'.ownBlock = v.ownBlock ∨ ∀ g, v'.ownBlock = some g → w.heap.size ≤ g))) (fun _ i _ => (intOf i).toNat)
  case atStart => exact ⟨u, xs, rfl, Nat.le_refl _, rfl, HO.out, grown_refl _ _, .inl rfl⟩
  case round =>
    obtain ⟨k, ys, rfl, hk, HD, HR⟩ := hrel
    have hk64 : k < 18446744073709551616 := by have := HU.out; omega
    have hy : ys.length ≤ 17592186044100 := by
      have e := congrArg List.length HD.out
      simp only [List.length_append] at e
      have := HX.out; have := HL.out; omega
    by_cases h : k < 128
    · have t1 : decide ((128 : Int) ≤ (k : Int)) = false := decide_eq_false (by omega)
      obtain ⟨v2, w2, HRUN, HR2⟩ := put_step HR.out HB.out (UInt8.ofNat k) (k : Int) (by simp; omega) hy
      have HE := Lib.hid (dig_lo h)
      clear hy
      go_wp2_with (at_builtin; refine wpList_append_run rfl _ _ 33 rfl rfl rfl (HRUN.out _) ?_)
      go_ret
      rw [← HD.out, HE.out]
      exact ⟨v2, rfl, HR2.out⟩
    · have t1 : decide ((128 : Int) ≤ (k : Int)) = true := decide_eq_true (by omega)
      obtain ⟨v2, w2, HRUN, HR2⟩ := put_step HR.out HB.out (UInt8.ofNat (k % 128 + 128)) _ (low_or128 k) hy
      have HE := Lib.hid (dig_hi h)
      clear hy
      go_wp2_with (at_builtin; refine wpList_append_run rfl _ _ 33 rfl rfl rfl (HRUN.out _) ?_)
      go_roundw
      case rel => exact ⟨k / 128, ys ++ [UInt8.ofNat (k % 128 + 128)], by go_num, by omega, Lib.hid (by rw [← HD.out, HE.out]; simp), HR2.out⟩
      case measure => simp [intOf]; omega

/-- Put: a copy with the digits behind it -/
theorem mk8 (w : World) (n m : Int) (k c : Nat) (hn : n = (k : Int)) (hm : m = (c : Int)) (hk : k ≤ c) (hc : c ≤ 17592186044416) :
    (Instr.makeSlice 33 (.int .i64 n) (.int .i64 m)).run Tryz.prog w = .ok (.slice (some ⟨w.heap.size, 0, none⟩) k c) (w.alloc (.cells (u8s (List.replicate c 0)).toArray 5)) := by
  obtain ⟨i, hi, hz0, hz1, hz2⟩ := info_parts info8
  subst hn hm
  have := run_make (P := Tryz.prog) w 33 5 i (.int .u8 0) Tryz.underlying33 hi hz0 .i64 .i64 (k : Int) c (by omega) (by omega) (by rw [hz2]; omega) (by omega)
  rw [this, hz1]
  simp only [Int.toNat_natCast, Nat.mul_one, Value.cells]
  have e : madeCells #[Value.int .u8 0] c = (u8s (List.replicate c 0)).toArray := by
    apply Array.toList_inj.1
    rw [toList_madeCells_one]
    simp [u8s]
  rw [e]

set_option maxHeartbeats 800000 in
theorem Put_any {w : World} {v : Value} {xs : List UInt8} (h : Holds w v (u8s xs)) (u : Nat) (hu : u < 18446744073709551616) (hx : xs.length ≤ 17592186044000) :
    Calls Tryz.prog 19 #[v, .int .u64 (u : Int)] w fun e w' => ∃ v', e = .returned v' ∧ w'.ownsRow w.heap.size 5 1 v' (xs ++ dig u).length (u8s (xs ++ dig u)) ∧ Below w.heap.size w w' := by
  obtain ⟨a, c, hv, hc⟩ := h.form
  rw [u8s_len] at hv hc
  subst hv
  have hmk := mk8 w 0 ((xs.length : Int) + 10) 0 (xs.length + 10) rfl (by omega) (by omega) (by omega)
  have hb1 := (Below.refl w.heap.size w).alloc (Nat.le_refl _) (.cells (u8s (List.replicate (xs.length + 10) 0)).toArray 5)
  have hr1 := World.ownsRow_made w (base := w.heap.size) (e := 5) (size := 1) (u8s (List.replicate (xs.length + 10) 0)).toArray (xs.length + 10) (Nat.le_refl _) (by unfold maxLen; omega) (by simp [u8s])
  generalize w.alloc (.cells (u8s (List.replicate (xs.length + 10) 0)).toArray 5) = w1 at *
  obtain ⟨v2, w2, r, o, g, b⟩ := app8 (xs := []) hr1 hb1.size (h.below hb1) (by simp; omega)
  have hb2 : Below w.heap.size w w2 := hb1.trans (below_grown g hb1.size (fun k e => by simp [Value.ownBlock] at e; omega))
  have hx2 : ([] ++ xs).length ≤ 17592186044000 := by simpa using hx
  have R := Lib.hid r
  have O := Lib.hid o
  have HB2 := Lib.hid hb2
  have HX2 := Lib.hid hx2
  have HU := Lib.hid hu
  clear h r o g b hb1 hr1 hb2 hx2 hu
  generalize xs.length = n at *
  go_enter Tryz.func19, Tryz.ntmps19
  go_wp2_with (at_builtin; refine wpList_append_run rfl _ _ 33 rfl rfl rfl (R.out _) ?_)
  refine (put_any O.out HB2.out.size u HU.out HX2.out).mono ?_
  rintro e w3 ⟨v3, rfl, o3, g3, b3⟩
  have O3 := Lib.hid o3
  have B3 := Lib.hid (HB2.out.trans (below_grown g3 HB2.out.size (fun k e => ownsRow_ge O.out k e)))
  clear o3 g3 b3
  go_wp2_with fail
  go_ret
  refine ⟨v3, rfl, ?_, B3.out⟩
  have := O3.out
  simpa using this

end Go.Proofs.YtfmhdnefcapjgaaGreatDoor
/- Contracts of codec.Get and talusref02.Get: the number that bytes begin with. Conditions: none. -/
set_option maxRecDepth 100000
namespace Go.Proofs.YtfmhdnefcapjgaaGreatDoor
open Go.RowKit Go.Maps Go.Sort

/-- the number that bytes begin with, i digits being read -/
def getAt : List UInt8 → Nat → Nat → Nat × Nat
  | [], _, _ => (0, 0)
  | c :: r, i, u => if 10 ≤ i then (0, 0) else if i = 9 ∧ 1 < c.toNat then (0, 0) else
    if c.toNat < 128 then (if 0 < i ∧ c.toNat = 0 then (0, 0) else (u + c.toNat * 2 ^ (7 * i), i + 1)) else getAt r (i + 1) (u + (c.toNat - 128) * 2 ^ (7 * i))
def getN (l : List UInt8) : Nat × Nat := getAt l 0 0

theorem drop_at {l : List UInt8} {k : Nat} (h : k < l.length) : l.drop k = l[k] :: l.drop (k + 1) := by rw [List.drop_eq_getElem_cons h]

theorem get_nil (i u : Nat) : getAt [] i u = (0, 0) := rfl
theorem get_ten (l : List UInt8) (u : Nat) : getAt l 10 u = (0, 0) := by
  cases l with
  | nil => rfl
  | cons c r => rw [getAt, if_pos (by omega)]
theorem get_bad (c : UInt8) (r : List UInt8) (u : Nat) (h : 1 < c.toNat) : getAt (c :: r) 9 u = (0, 0) := by
  rw [getAt, if_neg (by omega), if_pos ⟨rfl, h⟩]
theorem get_zero (c : UInt8) (r : List UInt8) (i u : Nat) (hi : 0 < i) (hi2 : i < 10) (h : c.toNat = 0) : getAt (c :: r) i u = (0, 0) := by
  rw [getAt, if_neg (by omega), if_neg (by omega), if_pos (by omega), if_pos ⟨hi, h⟩]
theorem get_last (c : UInt8) (r : List UInt8) (i u : Nat) (hi2 : i < 10) (h0 : ¬ (0 < i ∧ c.toNat = 0)) (h9 : ¬ (i = 9 ∧ 1 < c.toNat)) (h : c.toNat < 128) : getAt (c :: r) i u = (u + c.toNat * 2 ^ (7 * i), i + 1) := by
  rw [getAt, if_neg (by omega), if_neg h9, if_pos h, if_neg h0]
theorem get_more (c : UInt8) (r : List UInt8) (i u : Nat) (hi2 : i < 10) (h : ¬ c.toNat < 128) : getAt (c :: r) i u = getAt r (i + 1) (u + (c.toNat - 128) * 2 ^ (7 * i)) := by
  by_cases h9 : i = 9
  · subst h9
    rw [get_bad _ _ _ (by omega), get_ten]
  · rw [getAt, if_neg (by omega), if_neg (by omega), if_neg h]

/-- the arithmetic of one digit -/
theorem get_arith (k d U : Nat) (hk : k < 10) (hd : d < 128) (hU : U < 2 ^ (7 * k)) (h : ¬ (k = 9 ∧ 2 ≤ d)) :
    IntKind.u64.wrap ((d : Int) * 2 ^ (7 * k)) = ((d * 2 ^ (7 * k) : Nat) : Int) ∧ (((d * 2 ^ (7 * k) : Nat) : Int) / 2 ^ (7 * k) != (d : Int)) = false ∧
    bits .or .u64 (U : Int) ((d * 2 ^ (7 * k) : Nat) : Int) = ((U + d * 2 ^ (7 * k) : Nat) : Int) ∧ U + d * 2 ^ (7 * k) < 2 ^ (7 * (k + 1)) := by
  have hp : 0 < 2 ^ (7 * k) := Nat.two_pow_pos _
  have hlt : d * 2 ^ (7 * k) < 18446744073709551616 := by
    by_cases h9 : k = 9
    · subst h9
      have : d ≤ 1 := by omega
      have := Nat.mul_le_mul_right (2 ^ (7 * 9)) this
      omega
    · have h1 : 2 ^ (7 * k) ≤ 2 ^ 56 := Nat.pow_le_pow_right (by omega) (by omega)
      have h2 := Nat.mul_le_mul (show d ≤ 127 by omega) h1
      omega
  have hlt2 : U < 18446744073709551616 := by
    have h1 : 2 ^ (7 * k) ≤ 2 ^ 63 := Nat.pow_le_pow_right (by omega) (by omega)
    omega
  have hor : U ||| d * 2 ^ (7 * k) = U + d * 2 ^ (7 * k) := by
    rw [Nat.or_comm, Nat.mul_comm, ← Nat.two_pow_add_eq_or_of_lt hU d, Nat.add_comm]
  have hc : ((d * 2 ^ (7 * k) : Nat) : Int) = (d : Int) * 2 ^ (7 * k) := by simp
  refine ⟨?_, ?_, ?_, ?_⟩
  · rw [← hc]; exact IntWalk.u64_in _ (by omega)
  · rw [hc, Int.mul_ediv_cancel _ (Int.ne_of_gt (Int.pow_pos (by omega)))]; simp
  · rw [or_u64 _ _ hlt2 hlt, hor]
  · rw [show 7 * (k + 1) = 7 * k + 7 by omega, Nat.pow_add]
    have : d * 2 ^ (7 * k) ≤ 127 * 2 ^ (7 * k) := Nat.mul_le_mul_right _ (by omega)
    omega
theorem get_over (k d : Nat) (hk : k = 9) (hd : d < 128) (h : 2 ≤ d) : (IntKind.u64.wrap ((d : Int) * 2 ^ (7 * k)) / 2 ^ (7 * k) != (d : Int)) = true := by
  subst hk
  rw [bne_iff_ne, IntKind.wrap_u64]
  omega

set_option maxHeartbeats 3200000 in
theorem Get_any {w : World} {v : Value} {l : List UInt8} (h : Holds w v (u8s l)) (hx : l.length ≤ 17592186044000) :
    Calls Tryz.prog 29 #[v] w fun e w' => e = .returned (.tuple #[.int .u64 ((getN l).1 : Int), .int .i64 ((getN l).2 : Int)]) ∧ w = w' := by
  obtain ⟨a, c, hv, hc⟩ := h.form
  rw [u8s_len] at hv hc
  subst hv
  have H := Lib.hid h
  generalize hn : l.length = n at *
  have HN := Lib.hid hn
  clear h hn
  go_enter Tryz.func29, Tryz.ntmps29
  go_wp2_with fail
  all_goals
    go_loop [4, 15] (fun u i => ∃ (k U : Nat), k ≤ 10 ∧ k ≤ n ∧ i = .int .i64 k ∧ u = .int .u64 U ∧ Hid (U < 2 ^ (7 * k) ∧ getN l = getAt (l.drop k) k U)) (fun _ i => 10 - (intOf i).toNat)
    case atStart => exact ⟨0, 0, by omega, by omega, rfl, rfl, by simp, rfl⟩
    case round =>
      obtain ⟨k, U, hk, hkn, rfl, rfl, HR⟩ := hrel
      by_cases hlt : k < 10 ∧ k < n
      · obtain ⟨h10, hn⟩ := hlt
        have hkl : k < l.length := by rw [HN.out]; exact hn
        obtain ⟨ad, rfl⟩ := H.out.ptr (by omega)
        have hc : w.cell? (ad.add k) = some (.int .u8 (l[k].toNat : Int)) := H.out.cell (by simp [u8s, hkl])
        have hx := l[k].toNat_lt
        have hd := and127 l[k].toNat hx
        have hd2 : l[k].toNat % 128 < 128 := by omega
        have HG := Lib.hid HR.out.2
        rw [drop_at hkl] at HG
        by_cases hbad : k = 9 ∧ 2 ≤ l[k].toNat % 128
        · obtain ⟨h9, hb2⟩ := hbad
          have HE : Hid (getN l = (0, 0)) := Lib.hid (by rw [HG.out]; subst h9; exact get_bad _ _ _ (by omega))
          have tE := get_over k _ h9 hd2 hb2
          clear HG h9
          generalize l[k].toNat % 128 = d at *
          generalize l[k].toNat = x at *
          go_wp2_with fail
          go_ret2
          rw [HE.out]
          exact ⟨rfl, rfl⟩
        · obtain ⟨g1, g2, g3, g4⟩ := get_arith k (l[k].toNat % 128) U h10 hd2 HR.out.1 hbad
          have G4 := Lib.hid g4
          clear g4
          by_cases h0 : l[k].toNat = 0
          · have t0 : ((l[k].toNat : Int) == 0) = true := by rw [beq_iff_eq]; omega
            by_cases hk0 : 0 < k
            · have HE := Lib.hid (HG.out.trans (get_zero _ _ _ _ hk0 h10 h0))
              clear HG h0
              generalize l[k].toNat % 128 * 2 ^ (7 * k) = D at *
              generalize l[k].toNat % 128 = d at *
              generalize l[k].toNat = x at *
              go_wp2_with fail
              go_ret2
              rw [HE.out]
              exact ⟨rfl, rfl⟩
            · have HE := Lib.hid (HG.out.trans (get_last _ _ _ _ h10 (by omega) (by omega) (by omega)))
              rw [show l[k].toNat % 128 = l[k].toNat by omega] at *
              clear HG h0
              generalize l[k].toNat * 2 ^ (7 * k) = D at *
              generalize l[k].toNat = x at *
              go_wp2_with fail
              go_ret2
              rw [HE.out]
              exact ⟨rfl, rfl⟩
          · have t0 : ((l[k].toNat : Int) == 0) = false := by rw [beq_eq_false_iff_ne]; omega
            by_cases h128 : l[k].toNat < 128
            · have HE := Lib.hid (HG.out.trans (get_last _ _ _ _ h10 (by omega) (by omega) (by omega)))
              rw [show l[k].toNat % 128 = l[k].toNat by omega] at *
              clear HG
              generalize l[k].toNat * 2 ^ (7 * k) = D at *
              generalize l[k].toNat = x at *
              go_wp2_with fail
              go_ret2
              rw [HE.out]
              exact ⟨rfl, rfl⟩
            · have HE := Lib.hid (HG.out.trans (get_more _ _ _ _ h10 (by omega)))
              rw [show l[k].toNat - 128 = l[k].toNat % 128 by omega] at HE
              clear HG
              generalize l[k].toNat % 128 * 2 ^ (7 * k) = D at *
              generalize l[k].toNat % 128 = d at *
              generalize l[k].toNat = x at *
              go_wp2_with fail
              go_round
              case rel => exact ⟨k + 1, U + D, by omega, by omega, by go_num, rfl, G4.out, HE.out⟩
              case measure => simp [intOf]; omega
      · have HE : Hid (getN l = (0, 0)) := Lib.hid (by
          rw [HR.out.2]
          by_cases h10 : k = 10
          · subst h10; exact get_ten _ _
          · rw [List.drop_eq_nil_of_le (by rw [HN.out]; omega)]; rfl)
        go_wp2_with fail
        go_ret2
        rw [HE.out]
        exact ⟨rfl, rfl⟩
end Go.Proofs.YtfmhdnefcapjgaaGreatDoor
/- The number that its digits begin with is read back. Conditions: none. -/
set_option maxRecDepth 100000
namespace Go.Proofs.YtfmhdnefcapjgaaGreatDoor

theorem get_dig (r : List UInt8) (x : Nat) : ∀ (i U : Nat), i < 10 → x * 2 ^ (7 * i) < 18446744073709551616 → (0 < i → 0 < x) → getAt (dig x ++ r) i U = (U + x * 2 ^ (7 * i), i + (dig x).length) := by
  induction x using Nat.strongRecOn with
  | _ x ih =>
    intro i U hi hb h0
    have hp : 0 < 2 ^ (7 * i) := Nat.two_pow_pos _
    by_cases h : x < 128
    · rw [dig_lo h]
      have e : (UInt8.ofNat x).toNat = x := by simp; omega
      have h9 : ¬ (i = 9 ∧ 1 < (UInt8.ofNat x).toNat) := by
        rw [e]
        rintro ⟨rfl, h1⟩
        have := Nat.mul_le_mul_right (2 ^ (7 * 9)) (show 2 ≤ x by omega)
        omega
      rw [List.singleton_append, get_last _ _ _ _ hi (by rw [e]; omega) h9 (by rw [e]; exact h), e]
      rfl
    · have hi8 : i ≤ 8 := by
        rcases Nat.lt_or_ge i 9 with g | g
        · omega
        · obtain rfl : i = 9 := by omega
          have := Nat.mul_le_mul_right (2 ^ (7 * 9)) (show 128 ≤ x by omega)
          omega
      rw [dig_hi h, List.cons_append, get_more _ _ _ _ hi (by simp; omega)]
      have e : (UInt8.ofNat (x % 128 + 128)).toNat - 128 = x % 128 := by simp; omega
      have hpow : 2 ^ (7 * (i + 1)) = 128 * 2 ^ (7 * i) := by rw [show 7 * (i + 1) = 7 + 7 * i by omega, Nat.pow_add]
      have hsplit : x % 128 * 2 ^ (7 * i) + x / 128 * 2 ^ (7 * (i + 1)) = x * 2 ^ (7 * i) := by
        rw [hpow, ← Nat.mul_assoc, ← Nat.add_mul]
        congr 1
        omega
      rw [ih (x / 128) (by omega) (i + 1) _ (by omega) (by omega) (by omega), e]
      rw [Nat.add_assoc U, hsplit]
      simp
      omega
theorem get_dig0 (r : List UInt8) {u : Nat} (hu : u < 18446744073709551616) : getN (dig u ++ r) = (u, (dig u).length) := by
  unfold getN
  rw [get_dig r u 0 0 (by omega) (by simpa using hu) (by omega)]
  simp
theorem dig_pos (u : Nat) : 0 < (dig u).length := by
  by_cases h : u < 128
  · rw [dig_lo h]; simp
  · rw [dig_hi h]; simp
end Go.Proofs.YtfmhdnefcapjgaaGreatDoor
/- Contracts of codec.Zig, codec.Zag and the document's own: ints without a sign. Conditions: none. -/
set_option maxRecDepth 100000
namespace Go.Proofs.YtfmhdnefcapjgaaGreatDoor
open Go.RowKit Go.Maps Go.Sort

def zigN (n : Int) : Int := if n < 0 then -2 * n - 1 else 2 * n
def zagN (u : Nat) : Int := if u % 2 = 1 then -((u / 2 : Nat) : Int) - 1 else ((u / 2 : Nat) : Int)
theorem zig_neg {n : Int} (h : n < 0) : zigN n = -2 * n - 1 := by unfold zigN; rw [if_pos h]
theorem zig_pos {n : Int} (h : ¬ n < 0) : zigN n = 2 * n := by unfold zigN; rw [if_neg h]
theorem zag_odd {u : Nat} (h : u % 2 = 1) : zagN u = -((u / 2 : Nat) : Int) - 1 := by unfold zagN; rw [if_pos h]
theorem zag_even {u : Nat} (h : ¬ u % 2 = 1) : zagN u = ((u / 2 : Nat) : Int) := by unfold zagN; rw [if_neg h]
theorem zig_walk {n : Int} (h1 : -9223372036854775808 ≤ n) (h : n < 0) : bits BinOp.xor IntKind.u64 IntKind.u64.max (IntKind.u64.wrap (IntKind.u64.wrap n * 2)) = zigN n := by
  rw [zig_neg h]
  have e : IntKind.u64.wrap (IntKind.u64.wrap n * 2) = ((2 * n + 18446744073709551616).toNat : Int) := by
    rw [IntKind.wrap_u64, IntKind.wrap_u64]; omega
  rw [e, not_u64 _ (by omega)]
  omega

set_option maxHeartbeats 400000 in
theorem Zig_any (n : Int) (w : World) (h1 : -9223372036854775808 ≤ n) (h2 : n ≤ 9223372036854775807) :
    Calls Tryz.prog 137 #[.int .i64 n] w fun e w' => e = .returned (.int .u64 (zigN n)) ∧ w = w' := by
  by_cases h : n < 0
  · go_enter Tryz.func137, Tryz.ntmps137
    go_wp2
    go_ret
    exact ⟨ret_int (zig_walk h1 (by omega)), rfl⟩
  · go_enter Tryz.func137, Tryz.ntmps137
    go_wp2
    go_ret
    refine ⟨ret_int ?_, rfl⟩
    rw [zig_pos (by omega)]; omega
set_option maxHeartbeats 400000 in
theorem Zag_any (u : Nat) (w : World) (h1 : u < 18446744073709551616) :
    Calls Tryz.prog 44 #[.int .u64 (u : Int)] w fun e w' => e = .returned (.int .i64 (zagN u)) ∧ w = w' := by
  have e1 := and1_u64 u h1
  have e2 := not_i64 (u / 2) (by omega)
  have e3 : ((u / 2 : Nat) : Int) = (u : Int) / 2 := by omega
  by_cases h : u % 2 = 1
  · have t : (bits BinOp.and IntKind.u64 (u : Int) 1 == 1) = true := by rw [e1, h]; rfl
    have H := Lib.hid (zag_odd h)
    rw [e3] at e2
    have E2 := Lib.hid e2
    have E3 := Lib.hid e3
    clear e1 e2 e3 h
    go_enter Tryz.func44, Tryz.ntmps44
    go_wp2
    go_ret
    refine ⟨ret_int ?_, rfl⟩
    rw [H.out, E2.out, E3.out]
  · have t : (bits BinOp.and IntKind.u64 (u : Int) 1 == 1) = false := by rw [e1, show u % 2 = 0 by omega]; rfl
    have H := Lib.hid (zag_even h)
    have E3 := Lib.hid e3
    clear e1 e2 e3 h
    go_enter Tryz.func44, Tryz.ntmps44
    go_wp2
    go_ret
    refine ⟨ret_int ?_, rfl⟩
    rw [H.out, E3.out]
end Go.Proofs.YtfmhdnefcapjgaaGreatDoor
/- Plain mathematics of values in bytes: what bytes tell, and what is read of them. Conditions: none. -/
set_option maxRecDepth 100000
namespace Go.Proofs.YtfmhdnefcapjgaaGreatDoor
open Go.RowKit Go.Lib

/-- a value of a row -/
structure VV where
  k : Int
  n : Int
  s : ByteArray
def VV.none_ : VV := ⟨0, 0, ⟨#[]⟩⟩
def VV.good (x : VV) : Bool := goodV x.k x.n x.s
def VV.norm (x : VV) : VV := if x.good then x else VV.none_
/-- the number that a value has in bytes -/
def zgN (n : Int) : Nat := (zigN n).toNat
/-- those behind its kind's -/
def VV.body (x : VV) : List UInt8 := if x.k = 1 ∨ x.k = 2 ∨ x.k = 4 then dig (zgN x.n) else if x.k = 3 then dig x.s.size ++ x.s.data.toList else []
def VV.bytes (x : VV) : List UInt8 := dig x.k.toNat ++ x.body
def flatV (l : List VV) : List UInt8 := (l.map fun x => x.norm.bytes).flatten
def bytesV (l : List VV) : List UInt8 := dig l.length ++ flatV l

theorem goodV_kind {k n : Int} {s : ByteArray} (h : goodV k n s = true) : 0 ≤ k ∧ k ≤ 4 := by
  unfold goodV at h
  split at h
  · omega
  · split at h
    · omega
    · split at h
      · omega
      · split at h
        · omega
        · split at h
          · omega
          · cases h
theorem str_nil {s : ByteArray} (h : (s.toList == []) = true) : s = ⟨#[]⟩ := by
  have h1 := eq_of_beq h
  rw [Lib.toList_data] at h1
  rcases s with ⟨⟨l⟩⟩
  simp at h1
  subst h1
  rfl
/-- what a good value is -/
theorem good_cases {x : VV} (h : x.good = true) : x = VV.none_ ∨ (x.k = 1 ∧ x.s = ⟨#[]⟩) ∨ (x.k = 2 ∧ x.s = ⟨#[]⟩) ∨ (x.k = 3 ∧ x.n = 0 ∧ x.s.size ≤ 64) ∨ (x.k = 4 ∧ x.s = ⟨#[]⟩) := by
  obtain ⟨k, n, s⟩ := x
  unfold VV.good goodV at h
  simp only at h ⊢
  split at h
  · rename_i hk
    rw [Bool.and_eq_true] at h
    have h1 := eq_of_beq h.1
    have h2 := str_nil h.2
    subst hk h1 h2
    exact .inl rfl
  · split at h
    · rename_i hk; exact .inr (.inl ⟨hk, str_nil h⟩)
    · split at h
      · rename_i hk; rw [Bool.and_eq_true] at h; exact .inr (.inr (.inl ⟨hk, str_nil h.2⟩))
      · split at h
        · rename_i hk; rw [Bool.and_eq_true, decide_eq_true_eq] at h; exact .inr (.inr (.inr (.inl ⟨hk, eq_of_beq h.2, h.1⟩)))
        · split at h
          · rename_i hk; rw [Bool.and_eq_true] at h; exact .inr (.inr (.inr (.inr ⟨hk, str_nil h.2⟩)))
          · cases h
theorem none_good : VV.none_.good = true := by
  unfold VV.good VV.none_ goodV
  simp [Lib.toList_data]
theorem norm_good (x : VV) : x.norm.good = true := by
  unfold VV.norm
  split
  · assumption
  · exact none_good
theorem norm_of {x : VV} (h : x.good = true) : x.norm = x := by unfold VV.norm; rw [if_pos h]
theorem norm_norm (x : VV) : x.norm.norm = x.norm := norm_of (norm_good x)
theorem bytesV_norm (l : List VV) : bytesV (l.map VV.norm) = bytesV l := by
  unfold bytesV flatV
  rw [List.length_map, List.map_map]
  congr 3
  funext x
  simp [norm_norm]
theorem zig_zag (n : Int) (h0 : -9223372036854775808 ≤ n) (h1 : n < 9223372036854775808) : zagN (zgN n) = n ∧ zgN n < 18446744073709551616 := by
  unfold zgN
  by_cases h : n < 0
  · rw [zig_neg h]
    have e : (-2 * n - 1).toNat % 2 = 1 := by omega
    rw [zag_odd e]; omega
  · rw [zig_pos h]
    have e : ¬ (2 * n).toNat % 2 = 1 := by omega
    rw [zag_even e]; omega
/-- an int is one of 64 bits -/
def VV.inI (x : VV) : Prop := -9223372036854775808 ≤ x.n ∧ x.n < 9223372036854775808

/-- the value that bytes begin with, and how many bytes it has -/
def firstV (l : List UInt8) : VV × Nat :=
  let p := getN l
  let r := l.drop p.2
  let q := getN r
  if p.1 = 1 ∨ p.1 = 2 ∨ p.1 = 4 then (⟨(p.1 : Int), zagN q.1, ⟨#[]⟩⟩, p.2 + q.2)
  else if p.1 = 3 then if l.length - (p.2 + q.2) < q.1 then (VV.none_, 0) else (⟨3, 0, ⟨((r.drop q.2).take q.1).toArray⟩⟩, p.2 + q.2 + q.1)
  else (⟨IntKind.i64.wrap (p.1 : Int), 0, ⟨#[]⟩⟩, p.2)
/-- the values that bytes tell, as many as there are, at most so many -/
def readL : Nat → List UInt8 → List VV
  | 0, _ => []
  | c + 1, l => if (firstV l).2 = 0 then [] else (firstV l).1 :: readL c (l.drop (firstV l).2)
def readV (b : List UInt8) : List VV := readL (getN b).1 (b.drop (getN b).2)

theorem get_app (u : Nat) (hu : u < 18446744073709551616) (r : List UInt8) : getN (dig u ++ r) = (u, (dig u).length) := get_dig0 r hu
theorem drop_app (u : Nat) (r : List UInt8) : (dig u ++ r).drop (dig u).length = r := List.drop_left
theorem wrap_small {n : Nat} (h : n ≤ 4) : IntKind.i64.wrap (n : Int) = (n : Int) := by rw [IntKind.wrap_i64]; omega

theorem first_good {x : VV} (h : x.good = true) (hi : x.inI) (r : List UInt8) : firstV (x.bytes ++ r) = (x, x.bytes.length) := by
  have hk := goodV_kind h
  have num : ∀ k : Nat, (k = 1 ∨ k = 2 ∨ k = 4) → x.k = (k : Int) → x.s = ⟨#[]⟩ → firstV (x.bytes ++ r) = (x, x.bytes.length) := fun k hk e es => by
    have eb : x.bytes = dig k ++ dig (zgN x.n) := by
      unfold VV.bytes VV.body
      rw [if_pos (by omega), e]
      rfl
    obtain ⟨z1, z2⟩ := zig_zag x.n hi.1 hi.2
    unfold firstV
    rw [eb, List.append_assoc, get_app k (by omega)]
    dsimp only
    rw [drop_app, get_app _ z2]
    dsimp only
    rw [if_pos hk, z1, ← e, ← es, List.length_append]
  rcases good_cases h with rfl | ⟨e, es⟩ | ⟨e, es⟩ | ⟨e, en, es⟩ | ⟨e, es⟩
  · have eb : VV.none_.bytes = dig 0 := by unfold VV.bytes VV.body VV.none_; simp
    unfold firstV
    rw [eb, get_app 0 (by omega)]
    simp only
    rw [if_neg (by omega), if_neg (by omega)]
    rfl
  · exact num 1 (by omega) e es
  · exact num 2 (by omega) e es
  · have eb : x.bytes = dig 3 ++ (dig x.s.size ++ x.s.data.toList) := by
      unfold VV.bytes VV.body
      rw [if_neg (by omega), if_pos e, e]
      rfl
    have hl : x.s.data.toList.length = x.s.size := (Lib.size_eq x.s).symm
    have ht : (x.s.data.toList ++ r).take x.s.size = x.s.data.toList := by
      rw [← hl]; exact List.take_left
    unfold firstV
    rw [eb, List.append_assoc, get_app 3 (by omega)]
    dsimp only
    rw [drop_app, List.append_assoc, get_app _ (by omega)]
    dsimp only
    rw [drop_app]
    rw [if_neg (by omega), if_pos rfl, if_neg (by simp only [List.length_append]; omega), ht]
    refine Prod.ext ?_ ?_
    · obtain ⟨k, n, s⟩ := x
      simp only at e en
      subst e en
      rfl
    · simp only [List.length_append]; omega
  · exact num 4 (by omega) e es
theorem bytes_pos (x : VV) : 0 < x.bytes.length := by
  unfold VV.bytes
  rw [List.length_append]
  have := dig_pos x.k.toNat
  omega
theorem flatV_cons (x : VV) (l : List VV) : flatV (x :: l) = x.norm.bytes ++ flatV l := by simp [flatV]
theorem readL_good : ∀ ws : List VV, (∀ x ∈ ws, x.good = true ∧ x.inI) → ∀ r, readL ws.length (flatV ws ++ r) = ws
  | [], _, r => rfl
  | x :: l, h, r => by
    have hx := h x (List.mem_cons_self ..)
    rw [flatV_cons, norm_of hx.1, List.append_assoc, List.length_cons]
    have hf := first_good hx.1 hx.2 (flatV l ++ r)
    have hp := bytes_pos x
    unfold readL
    rw [hf]
    simp only
    rw [if_neg (by omega), List.drop_left, readL_good l (fun y hy => h y (List.mem_cons_of_mem _ hy)) r]
theorem readV_good {ws : List VV} (h : ∀ x ∈ ws, x.good = true ∧ x.inI) (hl : ws.length < 18446744073709551616) : readV (bytesV ws) = ws := by
  have := readL_good ws h []
  rw [List.append_nil] at this
  unfold readV bytesV
  rw [get_app _ hl, drop_app]
  exact this
/-- what Load answers -/
def loadV (b : List UInt8) : Option (List VV) := if bytesV (readV b) = b then some (readV b) else none
theorem inI_none : VV.none_.inI := ⟨by decide, by decide⟩
theorem inI_norm {x : VV} (h : x.inI) : x.norm.inI := by
  unfold VV.norm
  split
  · exact h
  · exact inI_none
theorem zag_inI (u : Nat) (h : u < 18446744073709551616) : -9223372036854775808 ≤ zagN u ∧ zagN u < 9223372036854775808 := by
  by_cases hu : u % 2 = 1
  · rw [zag_odd hu]; omega
  · rw [zag_even hu]; omega
theorem getAt_le : ∀ (l : List UInt8) (i U : Nat), i ≤ 10 → U < 2 ^ (7 * i) → (getAt l i U).2 ≤ i + l.length ∧ (getAt l i U).1 < 18446744073709551616 := by
  intro l
  induction l with
  | nil => intro i U _ _; rw [get_nil]; simp
  | cons c r ih =>
    intro i U hi hU
    by_cases h10 : i = 10
    · subst h10; rw [get_ten]; simp
    have hi2 : i < 10 := by omega
    by_cases h9 : i = 9 ∧ 1 < c.toNat
    · obtain ⟨rfl, h9⟩ := h9
      rw [get_bad _ _ _ h9]; simp
    by_cases h0 : 0 < i ∧ c.toNat = 0
    · rw [get_zero _ _ _ _ h0.1 hi2 h0.2]; simp
    have hb : U + (c.toNat % 128) * 2 ^ (7 * i) < 2 ^ (7 * (i + 1)) := by
      have e : 2 ^ (7 * (i + 1)) = 128 * 2 ^ (7 * i) := by rw [show 7 * (i + 1) = 7 + 7 * i by omega, Nat.pow_add]
      have hm : c.toNat % 128 ≤ 127 := by omega
      have := Nat.mul_le_mul_right (2 ^ (7 * i)) hm
      rw [e]
      have : 128 * 2 ^ (7 * i) = 127 * 2 ^ (7 * i) + 2 ^ (7 * i) := Nat.succ_mul 127 _
      omega
    by_cases h1 : c.toNat < 128
    · rw [get_last _ _ _ _ hi2 h0 h9 h1]
      rw [Nat.mod_eq_of_lt h1] at hb
      refine ⟨by simp only [List.length_cons]; omega, ?_⟩
      simp only
      by_cases hi9 : i = 9
      · subst hi9
        have hc : c.toNat ≤ 1 := by omega
        have := Nat.mul_le_mul_right (2 ^ (7 * 9)) hc
        have e : (2 : Nat) ^ (7 * 9) = 9223372036854775808 := by decide
        rw [e] at this hU ⊢
        omega
      · have : 2 ^ (7 * (i + 1)) ≤ 2 ^ 63 := Nat.pow_le_pow_right (by omega) (by omega)
        have e : (2 : Nat) ^ 63 = 9223372036854775808 := by decide
        omega
    · rw [get_more _ _ _ _ hi2 h1]
      have hc := c.toNat_lt
      have e2 : c.toNat - 128 = c.toNat % 128 := by omega
      rw [e2]
      have := ih (i + 1) _ (by omega) hb
      simp only [List.length_cons]
      omega
theorem getN_bound (l : List UInt8) : (getN l).2 ≤ l.length ∧ (getN l).1 < 18446744073709551616 := by
  have := getAt_le l 0 0 (by omega) (by decide)
  rw [Nat.zero_add] at this
  exact this
theorem first_le (l : List UInt8) : (firstV l).2 ≤ l.length := by
  have h1 := (getN_bound l).1
  have h2 := (getN_bound (l.drop (getN l).2)).1
  rw [List.length_drop] at h2
  unfold firstV
  simp only
  split
  · simp only; omega
  · split
    · split
      · simp
      · simp only; omega
    · simp only; omega
theorem first_inI (l : List UInt8) : (firstV l).1.inI := by
  have h2 := (getN_bound (l.drop (getN l).2)).2
  unfold firstV
  simp only
  split
  · exact zag_inI _ h2
  · split
    · split
      · exact inI_none
      · exact ⟨by simp, by simp⟩
    · exact ⟨by simp, by simp⟩
theorem readL_inI : ∀ (c : Nat) (l : List UInt8), ∀ x ∈ readL c l, x.inI
  | 0, _, x, h => by simp [readL] at h
  | c + 1, l, x, h => by
    unfold readL at h
    split at h
    · simp at h
    · rcases List.mem_cons.1 h with rfl | h
      · exact first_inI l
      · exact readL_inI c _ x h
theorem readL_len : ∀ (c : Nat) (l : List UInt8), (readL c l).length ≤ l.length ∧ (readL c l).length ≤ c
  | 0, _ => by simp [readL]
  | c + 1, l => by
    unfold readL
    split
    · simp
    · have h1 := readL_len c (l.drop (firstV l).2)
      have h2 := first_le l
      rw [List.length_drop] at h1
      simp only [List.length_cons]
      omega
theorem readV_inI (b : List UInt8) : ∀ x ∈ readV b, x.inI := readL_inI _ _
theorem readV_len (b : List UInt8) : (readV b).length ≤ b.length := by
  have := (readL_len (getN b).1 (b.drop (getN b).2)).1
  rw [List.length_drop] at this
  unfold readV
  omega
/-- Load answers just the good values of which the bytes are -/
theorem load_iff {b : List UInt8} (hb : b.length < 18446744073709551616) {ws : List VV} : loadV b = some ws ↔ (∀ x ∈ ws, x.good = true ∧ x.inI) ∧ ws.length < 18446744073709551616 ∧ b = bytesV ws := by
  constructor
  · intro h
    unfold loadV at h
    split at h
    · rename_i he
      simp at h
      subst h
      have hl := readV_len b
      have hg : ∀ x ∈ (readV b).map VV.norm, x.good = true ∧ x.inI := fun x hx => by
        obtain ⟨y, hy, rfl⟩ := List.mem_map.1 hx
        exact ⟨norm_good y, inI_norm (readV_inI b y hy)⟩
      have h1 := readV_good hg (by rw [List.length_map]; omega)
      rw [bytesV_norm, he] at h1
      refine ⟨fun x hx => ?_, by omega, he.symm⟩
      rw [h1] at hx
      exact hg x hx
    · cases h
  · rintro ⟨h1, h2, rfl⟩
    unfold loadV
    rw [readV_good h1 h2, if_pos rfl]
theorem load_none {b : List UInt8} (hb : b.length < 18446744073709551616) : loadV b = none ↔ ∀ ws : List VV, (∀ x ∈ ws, x.good = true ∧ x.inI) → ws.length < 18446744073709551616 → b ≠ bytesV ws := by
  constructor
  · intro h ws h1 h2 h3
    have := (load_iff hb).2 ⟨h1, h2, h3⟩
    rw [h] at this; cases this
  · intro h
    cases e : loadV b with
    | none => rfl
    | some ws =>
      obtain ⟨h1, h2, h3⟩ := (load_iff hb).1 e
      exact absurd h3 (h ws h1 h2)
end Go.Proofs.YtfmhdnefcapjgaaGreatDoor
/- A slice of structs that came in: the cells of each element. Conditions: fields of one cell each. -/
set_option maxRecDepth 100000
namespace Go.Proofs.YtfmhdnefcapjgaaGreatDoor
open Go.ChangeShapes Go.WideShapes Go.ChangeAt Go.RowKit Go.Maps Go.Sort Go.Deep Go.Joins

section
variable {H : Type} {enc : TypeId × Value → H} {P : Program} {w : World} {base : Nat} {spare : Nat → Bool} {held : Bool}
/-- a slice of structs of fields of one cell each: the cells of each element, and how each reads -/
theorem open_structs {t e : TypeId} {fs : Array Field} {fuel : Nat} {cs : List Value} {x : DataW H × List MemPlace} (ht : P.underlying t = some (.slice e)) (he : P.underlying e = some (.struct fs))
    (hone : oneCellFields P fs = true) (hC : P.cellsOf e = fs.size) (h : DataW.trod enc P w base spare held fuel t cs = some x) :
    cs = [.slice none 0 0] ∨
    ∃ (a : Addr) (len cap : Nat), cs = [.slice (some a) len cap] ∧ len ≤ cap ∧ cap ≤ maxLen ∧
      ∀ i, i < len → ∃ n : Nat, ∀ (j : Nat) (f : Field), fs[j]? = some f → ∃ (v : Value) (y : DataW H × List MemPlace), w.cell? (a.add (i * fs.size + j)) = some v ∧ DataW.trod enc P w base spare held n f.type [v] = some y := by
  rcases open_slice ht h with ⟨h0, _⟩ | ⟨a, len, cap, m, n, D, Pl, hcs, _, hl, hmx, hmm, _, hi⟩
  · exact .inl h0
  · refine .inr ⟨a, len, cap, hcs, hl, hmx, fun i hil => ?_⟩
    have him : i < m := by rw [hmm]; split <;> omega
    obtain ⟨cs', hc, ht'⟩ := hi i him
    rw [hC] at hc
    obtain ⟨ys, n', _, _, hlen, hyl, hf⟩ := DataW.trod_struct he ht'
    obtain ⟨_, hcl, hat⟩ := World.cells?_some hc
    refine ⟨n', fun j f hj => ?_⟩
    obtain ⟨ho, hk⟩ := hone_of hone j f hj
    have hjl : j < fs.size := (Array.getElem?_eq_some_iff.1 hj).1
    have hcell := hat j hjl
    have hv : cs'[j]? = some (cs'[j]'(by omega)) := List.getElem?_eq_getElem (by omega)
    have h1 := hf j f hj
    rw [ho, hk] at h1
    have hone' : (cs'.drop j).take 1 = [cs'[j]'(by omega)] := by
      rw [List.drop_eq_getElem_cons (by omega)]
      rfl
    rw [hone'] at h1
    have hys : ys[j]? = some (ys[j]'(by omega)) := List.getElem?_eq_getElem (by omega)
    refine ⟨_, _, ?_, h1.trans hys⟩
    rw [← Go.Deep.add_add, hcell, hv]
end

theorem add_offn (a : Addr) (k j : Nat) (hj : 0 < j) : a.add (k + j) = ⟨(a.add k).block, (a.add k).off + j, none⟩ := by
  unfold Addr.add
  by_cases h1 : k = 0
  · subst h1
    rw [if_neg (by omega), if_pos rfl, Nat.zero_add]
  · rw [if_neg (by omega), if_neg h1]
    simp [Nat.add_assoc]
end Go.Proofs.YtfmhdnefcapjgaaGreatDoor
/- Rows of values in memory: what they hold, a value more. Conditions: fewer than 2^40 values. -/
set_option maxRecDepth 100000
namespace Go.Proofs.YtfmhdnefcapjgaaGreatDoor
open Go.RowKit Go.Maps Go.Sort Go.Lib

def encV (x : VV) : List Value := [.int .i64 x.k, .int .i64 x.n, .string x.s]
def flatC (l : List VV) : List Value := l.flatMap encV
theorem flatC_snoc (l : List VV) (x : VV) : flatC (l ++ [x]) = flatC l ++ encV x := by simp [flatC]
theorem flatC_at : ∀ (l : List VV) (i : Nat) (x : VV), l[i]? = some x → (flatC l)[i * 3]? = some (.int .i64 x.k) ∧ (flatC l)[i * 3 + 1]? = some (.int .i64 x.n) ∧ (flatC l)[i * 3 + 2]? = some (.string x.s)
  | [], i, x, h => by simp at h
  | q :: r, 0, x, h => by
    simp at h
    subst h
    simp [flatC, encV]
  | q :: r, i + 1, x, h => by
    have := flatC_at r i x (by simpa using h)
    unfold flatC at this ⊢
    rw [List.flatMap_cons, show (i + 1) * 3 = i * 3 + 3 by omega, show i * 3 + 3 + 1 = (i * 3 + 1) + 3 by omega, show i * 3 + 3 + 2 = (i * 3 + 2) + 3 by omega]
    exact this
/-- a slice holds these values -/
def HoldsV (w : World) (v : Value) (l : List VV) : Prop :=
  ∃ a c, v = .slice a l.length c ∧ l.length ≤ c ∧ ((a = none ∧ l = [] ∧ c = 0) ∨ ∃ ad : Addr, a = some ad ∧ ∀ i x, l[i]? = some x →
    w.cell? (ad.add (i * 3)) = some (.int .i64 x.k) ∧ w.cell? ⟨(ad.add (i * 3)).block, (ad.add (i * 3)).off + 1, none⟩ = some (.int .i64 x.n) ∧ w.cell? ⟨(ad.add (i * 3)).block, (ad.add (i * 3)).off + 2, none⟩ = some (.string x.s))
theorem HoldsV.kept {w w' : World} {v : Value} {l : List VV} (h : HoldsV w v l) (hc : ∀ (a : Addr) u, w.cell? a = some u → w'.cell? a = some u) : HoldsV w' v l := by
  obtain ⟨a, c, h1, h2, h3⟩ := h
  refine ⟨a, c, h1, h2, ?_⟩
  rcases h3 with h3 | ⟨ad, h3, h4⟩
  · exact .inl h3
  · exact .inr ⟨ad, h3, fun i x hx => ⟨hc _ _ (h4 i x hx).1, hc _ _ (h4 i x hx).2.1, hc _ _ (h4 i x hx).2.2⟩⟩
theorem HoldsV.below {w w' : World} {v : Value} {l : List VV} (h : HoldsV w v l) (hb : Below w.heap.size w w') : HoldsV w' v l :=
  h.kept fun a u ha => by rw [hb.cell (World.block_lt_of_cell? w a ha)]; exact ha
theorem HoldsV.form {w : World} {v : Value} {l : List VV} (h : HoldsV w v l) : ∃ a c, v = .slice a l.length c ∧ l.length ≤ c := by
  obtain ⟨a, c, h1, h2, _⟩ := h
  exact ⟨a, c, h1, h2⟩
theorem HoldsV.at_ {w : World} {a : Option Addr} {n c : Nat} {l : List VV} (h : HoldsV w (.slice a n c) l) {i : Nat} {x : VV} (hx : l[i]? = some x) : ∃ ad : Addr, a = some ad ∧ w.cell? (ad.add (i * 3)) = some (.int .i64 x.k) ∧ w.cell? ⟨(ad.add (i * 3)).block, (ad.add (i * 3)).off + 1, none⟩ = some (.int .i64 x.n) ∧ w.cell? ⟨(ad.add (i * 3)).block, (ad.add (i * 3)).off + 2, none⟩ = some (.string x.s) := by
  obtain ⟨a', c', h1, _, h3⟩ := h
  cases h1
  rcases h3 with ⟨_, e, _⟩ | ⟨ad, h3, h4⟩
  · subst e; simp at hx
  · exact ⟨ad, h3, h4 i x hx⟩
theorem holdsV_nil (w : World) : HoldsV w (.slice none 0 0) [] := ⟨none, 0, rfl, Nat.le_refl _, .inl ⟨rfl, rfl, rfl⟩⟩
theorem holdsV_of_owns {w : World} {B : Nat} {v : Value} {l : List VV} (h : w.ownsRow B 25 3 v l.length (flatC l)) : HoldsV w v l := by
  obtain ⟨a, c, rfl, hc, _⟩ := ownsRow_form h
  rcases h.2 with ⟨e, hn⟩ | ⟨g, cap, cur, e, _, hg, _⟩
  · simp at e
    obtain ⟨rfl, e2, rfl⟩ := e
    exact ⟨_, _, rfl, hc, .inl ⟨rfl, e2, rfl⟩⟩
  · simp at e
    obtain ⟨rfl, rfl⟩ := e
    refine ⟨_, _, rfl, hc, .inr ⟨_, rfl, fun i x hx => ?_⟩⟩
    have hcell := h.cells (g := g) rfl
    obtain ⟨a0, a1, a2⟩ := flatC_at l i x hx
    have h0 := hcell _ _ a0
    have h1 := hcell _ _ a1
    have h2 := hcell _ _ a2
    simp only [Addr.add_at, Nat.zero_add] at h0 h1 h2 ⊢
    exact ⟨h0, h1, h2⟩
theorem info_value : (Tryz.prog.info? 25).map (fun i => (i.zero, i.size, i.bytes)) = some (some (.agg #[.int .i64 0, .int .i64 0, .string ⟨#[]⟩]), 3, 32) := by kernel_rfl
/-- a value more, behind a row of the call's own -/
theorem app_value {w : World} {B : Nat} {v : Value} {l : List VV} (hown : w.ownsRow B 25 3 v l.length (flatC l)) (hB : B ≤ w.heap.size) (x : VV) (hl : l.length ≤ 1000000000000) :
    ∃ v' w', (∀ ty, (Builtin.append_ #[22, 22] ty #[v, .slice (some ⟨w.heap.size, 0, none⟩) 1 1]).run Tryz.prog (w.alloc (.cells #[.int .i64 x.k, .int .i64 x.n, .string x.s] 25)) = .ok v' w') ∧
      w'.ownsRow B 25 3 v' (l ++ [x]).length (flatC (l ++ [x])) ∧ w.grownBy w' v.ownBlock := by
  obtain ⟨i, hi, hz0, hz1, hz2⟩ := info_parts info_value
  have hown' : (w.alloc (.cells #[.int .i64 x.k, .int .i64 x.n, .string x.s] 25)).ownsRow B 25 3 v l.length (flatC l) := hown.alloc _
  obtain ⟨v', w', hr, h2, h3, h4⟩ := run_append_own (P := Tryz.prog) (w := w.alloc (.cells #[.int .i64 x.k, .int .i64 x.n, .string x.s] 25)) B 22 0 25 i (.agg #[.int .i64 0, .int .i64 0, .string ⟨#[]⟩]) 3 32 Tryz.underlying22 hi hz0 hz1 hz2 rfl (by omega) v l.length (flatC l) hown'
    ⟨w.heap.size, 0, none⟩ 1 1 [.int .i64 x.k, .int .i64 x.n, .string x.s] rfl (fun j u' hj => by
      rw [Addr.add_at, Nat.zero_add, cell_of_row _ _ _ _ _ _ (heap_alloc_new w _)]
      simpa using hj) (fun u' hu' => by simp at hu'; rcases hu' with rfl | rfl | rfl <;> rfl) (by unfold maxLen; omega) (by omega) (by simp; omega)
  refine ⟨v', w', fun ty => hr, ?_, (World.grownBy_alloc w _ v.ownBlock).andThen h3 (fun j hj => .inr hj)⟩
  rw [flatC_snoc, List.length_append]
  exact h2
end Go.Proofs.YtfmhdnefcapjgaaGreatDoor
/- The bytes of a value behind its kind's, a kind at a time. Conditions: texts of at most 2^40 bytes. -/
set_option maxRecDepth 100000
namespace Go.Proofs.YtfmhdnefcapjgaaGreatDoor
open Go.RowKit Go.Maps Go.Sort Go.Lib

theorem wpList_append_run2 {P : Program} {w w' : World} {ops : Array Oper} {rest : List Oper} {o : Oper} {a : Act} {Q : Exit → Act → World → Prop} {sv xv v' : Value} (hgd : o.guard = none) (s x : Operand) (t u : TypeId)
    (hop : o.op = .call { callee := .builtin .append, args := #[s, x], argTypes := #[t, u] }) (hs : a.eval s = sv) (hx : a.eval x = xv) (hrun : (Builtin.append_ #[t, u] o.type #[sv, xv]).run P w = .ok v' w')
    (hK : wpList P ops Q rest (a.put o.dst v') w') : wpList P ops Q (o :: rest) a w := by
  refine wpList_plain hgd fun K hKK => ?_
  unfold Oper.wp
  simp [execOp, hop, resolve, invoke, builtin, hs, hx, hrun, Result.andThen]
  exact hKK _ _ hK
/-- a text's bytes, behind a row of the call's own -/
theorem app_str {u : TypeId} (hu : Tryz.prog.underlying u = some .string) {w : World} {B : Nat} {v : Value} {xs : List UInt8} (hown : w.ownsRow B 5 1 v xs.length (u8s xs)) (hB : B ≤ w.heap.size) (s : ByteArray) (hl : xs.length + s.size ≤ 17592186044416) :
    ∃ v' w', (∀ ty, (Builtin.append_ #[33, u] ty #[v, .string s]).run Tryz.prog w = .ok v' w') ∧ w'.ownsRow B 5 1 v' (xs ++ s.data.toList).length (u8s (xs ++ s.data.toList)) ∧ w.grownBy w' v.ownBlock := by
  obtain ⟨i, hi, hz0, hz1, hz2⟩ := info_parts info8
  obtain ⟨v', w', hr, h2, h3, _⟩ := run_append_own_string (P := Tryz.prog) w B 33 u 0 5 i Tryz.underlying33 hu hi hz0 hz1 hz2 v xs.length (u8s xs) hown s (by unfold maxLen; omega) (by omega) hB
  refine ⟨v', w', fun ty => hr, ?_, h3⟩
  rw [u8s_append, List.length_append, ← Lib.size_eq]
  exact h2
theorem zg_cast (n : Int) : ((zgN n : Nat) : Int) = zigN n := by
  unfold zgN
  by_cases h : n < 0
  · rw [zig_neg h]; omega
  · rw [zig_pos h]; omega
/-- a call of whose result the caller owns the bytes -/
def OwnP (w : World) (l : List UInt8) (e : Ending) (w' : World) : Prop := ∃ v', e = .returned v' ∧ w'.ownsRow w.heap.size 5 1 v' l.length (u8s l) ∧ Below w.heap.size w w'
theorem number_any (n : Int) (h0 : -9223372036854775808 ≤ n) (h1 : n < 9223372036854775808) (w : World) : Calls Tryz.prog 135 #[.int .i64 n] w (OwnP w (dig (zgN n))) := by
  have KZ := fun w => Zig_any n w h0 (by omega)
  have KP := fun w => Put_any (Holds.nil w) (xs := []) (zgN n) (zig_zag n h0 h1).2 (by simp)
  rw [zg_cast] at KP
  generalize zigN n = z at *
  generalize dig (zgN n) = D at *
  clear h0 h1
  go_enter Tryz.func135, Tryz.ntmps135
  go_wp2_with fail
  refine (KZ _).mono ?_
  rintro e w1 ⟨rfl, rfl⟩
  go_wp2_with fail
  refine (KP _).mono ?_
  rintro e w1 ⟨v', rfl, ho, hb⟩
  go_wp2_with fail
  go_ret
  exact ⟨v', rfl, ho, hb⟩
theorem wholeBytes_any (n : Int) (h0 : -9223372036854775808 ≤ n) (h1 : n < 9223372036854775808) (w : World) : Calls Tryz.prog 141 #[.int .i64 n] w (OwnP w (dig (zgN n))) := by
  have KN := number_any n h0 h1
  clear h0 h1
  go_enter Tryz.func141, Tryz.ntmps141
  go_wp2_with fail
  refine (KN _).mono ?_
  rintro e w1 ⟨v', rfl, ho, hb⟩
  go_wp2_with fail
  go_ret
  exact ⟨v', rfl, ho, hb⟩
theorem floatBytes_any (n : Int) (h0 : -9223372036854775808 ≤ n) (h1 : n < 9223372036854775808) (w : World) : Calls Tryz.prog 132 #[.int .i64 n] w (OwnP w (dig (zgN n))) := by
  have KN := number_any n h0 h1
  clear h0 h1
  go_enter Tryz.func132, Tryz.ntmps132
  go_wp2_with fail
  refine (KN _).mono ?_
  rintro e w1 ⟨v', rfl, ho, hb⟩
  go_wp2_with fail
  go_ret
  exact ⟨v', rfl, ho, hb⟩
theorem truthBytes_any (n : Int) (h0 : -9223372036854775808 ≤ n) (h1 : n < 9223372036854775808) (w : World) : Calls Tryz.prog 150 #[.int .i64 n] w (OwnP w (dig (zgN n))) := by
  have KN := number_any n h0 h1
  clear h0 h1
  go_enter Tryz.func150, Tryz.ntmps150
  go_wp2_with fail
  refine (KN _).mono ?_
  rintro e w1 ⟨v', rfl, ho, hb⟩
  go_wp2_with fail
  go_ret
  exact ⟨v', rfl, ho, hb⟩
theorem nullBytes_any (w : World) : Calls Tryz.prog 129 #[.agg #[]] w (OwnP w []) := by
  go_enter Tryz.func129, Tryz.ntmps129
  go_wp2_with fail
  go_ret
  have hb := (Below.refl w.heap.size w).alloc (Nat.le_refl _) (.cells #[] 51)
  exact ⟨_, rfl, World.ownsRow_nil _ _ _ _, hb⟩
theorem strBytes_any (s : ByteArray) (hs : s.size ≤ 1099511627776) (w : World) : Calls Tryz.prog 138 #[.string s] w (OwnP w (dig s.size ++ s.data.toList)) := by
  have KP := fun w => Put_any (Holds.nil w) (xs := []) s.size (by omega) (by simp)
  have hd := dig_len10 (u := s.size) (by omega)
  have HA := Lib.hid (fun (w : World) (B : Nat) (v : Value) (ho : w.ownsRow B 5 1 v (dig s.size).length (u8s (dig s.size))) (hB : B ≤ w.heap.size) => app_str (u := 53) Tryz.underlying53 ho hB s (by omega))
  have hw : IntKind.u64.wrap (s.size : Int) = (s.size : Int) := by rw [IntKind.wrap_u64]; omega
  generalize dig s.size = D at *
  clear hs hd
  go_enter Tryz.func138, Tryz.ntmps138
  go_wp2_with fail
  refine (KP _).mono ?_
  rintro e w1 ⟨v1, rfl, ho, hb⟩
  obtain ⟨v2, w2, r, o, g⟩ := HA.out w1 _ v1 (by simpa using ho) hb.size
  have R := Lib.hid r
  have O := Lib.hid o
  have B2 := Lib.hid (hb.trans (below_grown g hb.size (ownsRow_ge ho)))
  clear ho hb r o g HA KP
  go_wp2_with (at_builtin; refine wpList_append_run2 rfl _ _ 33 53 rfl rfl rfl (R.out _) ?_)
  go_ret
  exact ⟨v2, rfl, O.out, B2.out⟩
end Go.Proofs.YtfmhdnefcapjgaaGreatDoor
/- Contract of value.Bytes. Conditions: at most 2^30 values, texts of at most 2^40 bytes. -/
set_option maxRecDepth 100000
namespace Go.Proofs.YtfmhdnefcapjgaaGreatDoor
open Go.RowKit Go.Maps Go.Sort Go.Lib

theorem m_null_bytes (v : Value) (w : World) : (method 274 51 v "talus/value.bytes").run Tryz.prog w = .ok (129, v) w := by kernel_rfl
theorem m_int_bytes (v : Value) (w : World) : (method 274 55 v "talus/value.bytes").run Tryz.prog w = .ok (141, v) w := by kernel_rfl
theorem m_float_bytes (v : Value) (w : World) : (method 274 52 v "talus/value.bytes").run Tryz.prog w = .ok (132, v) w := by kernel_rfl
theorem m_str_bytes (v : Value) (w : World) : (method 274 53 v "talus/value.bytes").run Tryz.prog w = .ok (138, v) w := by kernel_rfl
theorem m_bool_bytes (v : Value) (w : World) : (method 274 56 v "talus/value.bytes").run Tryz.prog w = .ok (150, v) w := by kernel_rfl
theorem bytes_num {k : Nat} (hk : (k : Int) = 1 ∨ (k : Int) = 2 ∨ (k : Int) = 4) (n : Int) (s : ByteArray) : VV.bytes ⟨(k : Int), n, s⟩ = dig k ++ dig (zgN n) ∧ VV.body ⟨(k : Int), n, s⟩ = dig (zgN n) := by
  have h : VV.body ⟨(k : Int), n, s⟩ = dig (zgN n) := by unfold VV.body; rw [if_pos hk]
  exact ⟨by unfold VV.bytes; rw [h, Int.toNat_natCast], h⟩
theorem bytes_int (n : Int) (s : ByteArray) : VV.bytes ⟨1, n, s⟩ = dig 1 ++ dig (zgN n) ∧ VV.body ⟨1, n, s⟩ = dig (zgN n) := bytes_num (k := 1) (.inl rfl) n s
theorem bytes_float (n : Int) (s : ByteArray) : VV.bytes ⟨2, n, s⟩ = dig 2 ++ dig (zgN n) ∧ VV.body ⟨2, n, s⟩ = dig (zgN n) := bytes_num (k := 2) (.inr (.inl rfl)) n s
theorem bytes_bool (n : Int) (s : ByteArray) : VV.bytes ⟨4, n, s⟩ = dig 4 ++ dig (zgN n) ∧ VV.body ⟨4, n, s⟩ = dig (zgN n) := bytes_num (k := 4) (.inr (.inr rfl)) n s
theorem bytes_str (n : Int) (s : ByteArray) : VV.bytes ⟨3, n, s⟩ = dig 3 ++ (dig s.size ++ s.data.toList) ∧ VV.body ⟨3, n, s⟩ = dig s.size ++ s.data.toList := by
  have h : VV.body ⟨3, n, s⟩ = dig s.size ++ s.data.toList := by unfold VV.body; rw [if_neg (by simp), if_pos rfl]
  refine ⟨?_, h⟩
  unfold VV.bytes
  rw [h, show (3 : Int).toNat = 3 from rfl]
theorem bytes_null (n : Int) (s : ByteArray) : VV.bytes ⟨0, n, s⟩ = dig 0 ++ [] ∧ VV.body ⟨0, n, s⟩ = [] := by
  have h : VV.body ⟨0, n, s⟩ = [] := by unfold VV.body; rw [if_neg (by simp), if_neg (by simp)]
  refine ⟨?_, h⟩
  unfold VV.bytes
  rw [h, show (0 : Int).toNat = 0 from rfl]
theorem C3.set3 {w : World} {B : Nat} {x y z : Value} (h : C3 w B x y z) (u v t : Value) : C3 (((w.setCell ⟨B, 0, none⟩ u).setCell ⟨B, 1, none⟩ v).setCell ⟨B, 2, none⟩ t) B u v t := by
  have hs := h.set u v t
  exact ⟨by rw [World.cell?_setCell_other _ _ _ _ (by simp), World.cell?_setCell_other _ _ _ _ (by simp)]; exact hs.1, by rw [World.cell?_setCell_other _ _ _ _ (by simp)]; exact hs.2.1, hs.2.2⟩
/-- bytes of the call's own, behind which the world is as it was -/
def Out (w wr : World) (v : Value) (acc : List UInt8) : Prop := wr.ownsRow w.heap.size 5 1 v acc.length (u8s acc) ∧ Below w.heap.size w wr
theorem Out.next {w wr w' : World} {v : Value} {acc : List UInt8} (h : Out w wr v acc) (hb : Below wr.heap.size wr w') : Out w w' v acc :=
  ⟨ownsRow_below h.1 hb, h.2.trans (hb.mono h.2.size)⟩
/-- bytes more, that a call has made; what stays is each block but the bytes' own -/
theorem Out.app {w wr w' : World} {v v1 : Value} {acc l : List UInt8} (h : Out w wr v acc) (ho : w'.ownsRow wr.heap.size 5 1 v1 l.length (u8s l)) (hb : Below wr.heap.size wr w') (hl : acc.length + l.length ≤ 17592186044416) :
    ∃ v' w2, (∀ ty, (Builtin.append_ #[33, 33] ty #[v, v1]).run Tryz.prog w' = .ok v' w2) ∧ Out w w2 v' (acc ++ l) ∧ w'.heap.size ≤ w2.heap.size ∧ (∀ k, k < w'.heap.size → (∀ g, v.ownBlock = some g → g ≠ k) → w2.heap[k]? = w'.heap[k]?) := by
  have h1 := h.next hb
  have hO : Holds w' v1 (u8s l) := Holds.of_row (by rw [u8s_len]; exact ho)
  obtain ⟨v', w2, r, o, g, _⟩ := app8 h1.1 h1.2.size hO hl
  exact ⟨v', w2, r, ⟨o, h1.2.trans (below_grown g h1.2.size (ownsRow_ge h1.1))⟩, g.size, fun k hk hne => g.block k hk (fun e => hne k e.symm rfl)⟩
theorem C3.of_block {w w' : World} {B : Nat} {x y z : Value} (h : C3 w B x y z) (hb : w'.heap[B]? = w.heap[B]?) : C3 w' B x y z :=
  ⟨by rw [World.cell?_of_block (w := w) hb]; exact h.1, by rw [World.cell?_of_block (w := w) hb]; exact h.2.1, by rw [World.cell?_of_block (w := w) hb]; exact h.2.2⟩
theorem Out.old {w wr : World} {v : Value} {acc : List UInt8} (h : Out w wr v acc) : ∀ g, v.ownBlock = some g → g < wr.heap.size := fun g hg => (h.1.lt g hg).2
theorem dig_small {k : Int} (h0 : 0 ≤ k) (h1 : k ≤ 4) : IntKind.u64.wrap k = ((k.toNat : Nat) : Int) := by rw [IntKind.wrap_u64]; omega
theorem body_len {x : VV} (h : x.good = true) (hi : x.inI) : x.body.length ≤ 100 := by
  have hz := dig_len10 (zig_zag x.n hi.1 hi.2).2
  unfold VV.body
  split
  · omega
  · split
    · rcases good_cases h with rfl | ⟨e, _⟩ | ⟨e, _⟩ | ⟨_, _, hs⟩ | ⟨e, _⟩
      · rename_i h1; simp [VV.none_] at h1
      · omega
      · omega
      · have := dig_len10 (u := x.s.size) (by omega)
        rw [List.length_append, ← Lib.size_eq]; omega
      · omega
    · simp
theorem bytes_len {x : VV} (h : x.good = true) (hi : x.inI) : x.bytes.length ≤ 110 := by
  have hk := goodV_kind h
  have := body_len h hi
  have := dig_len10 (u := x.k.toNat) (by omega)
  unfold VV.bytes
  rw [List.length_append]; omega
theorem flatV_len : ∀ l : List VV, (∀ x ∈ l, x.inI) → (flatV l).length ≤ 110 * l.length
  | [], _ => by simp [flatV]
  | x :: r, h => by
    have := flatV_len r (fun y hy => h y (List.mem_cons_of_mem _ hy))
    have := bytes_len (norm_good x) (inI_norm (h x (List.mem_cons_self ..)))
    rw [flatV_cons, List.length_append, List.length_cons]; omega
theorem flatV_snoc (l : List VV) (x : VV) : flatV (l ++ [x]) = flatV l ++ x.norm.bytes := by simp [flatV]
theorem take_snoc {l : List VV} {i : Nat} {x : VV} (h : l[i]? = some x) : l.take (i + 1) = l.take i ++ [x] := by
  rw [List.take_add_one, h]; rfl

theorem room1 {a b : Nat} (h : a ≤ 200000000000) (h2 : b ≤ 10) : a + b ≤ 17592186044416 := by omega
theorem room2 {a d b : List UInt8} (h : a.length ≤ 200000000000) (h2 : d.length ≤ 10) (h3 : b.length ≤ 100) : (a ++ d).length + b.length ≤ 17592186044416 := by rw [List.length_append]; omega
theorem room3 {a b : List UInt8} {i n : Nat} (h : a.length ≤ 10) (h2 : b.length ≤ 110 * min i n) (h3 : n ≤ 1000000000) : (a ++ b).length ≤ 200000000000 := by rw [List.length_append]; omega
theorem meas_next {i n : Nat} (h : i < n) (h2 : wrap64 ((i : Int) + 1) = (i : Int) + 1) : n - (wrap64 ((i : Int) + 1)).toNat < n - i := by rw [h2]; omega
theorem end_eq {i n : Nat} (h : i ≤ n) (h2 : ¬ i < n) : i = n := by omega
theorem wi_next {i n : Nat} (h : i < n) (hn : n ≤ 1000000000) : IntKind.i64.wrap ((i : Int) + 1) = (i : Int) + 1 := by rw [IntKind.wrap_i64]; omega
theorem w64_next {i n : Nat} (h : i < n) (hn : n ≤ 1000000000) : wrap64 ((i : Int) + 1) = (i : Int) + 1 := by unfold wrap64; omega
theorem put_nil (k : Nat) (hk : k < 18446744073709551616) (w : World) : Calls Tryz.prog 19 #[.slice none 0 0, .int .u64 (k : Int)] w (OwnP w (dig k)) := by
  refine (Put_any (Holds.nil w) (xs := []) k hk (by simp)).mono ?_
  rintro e w1 ⟨v1, rfl, ho, hb⟩
  exact ⟨v1, rfl, by simpa using ho, hb⟩
set_option maxHeartbeats 6400000 in
theorem vbytes_any {w : World} {v : Value} {l : List VV} (h : HoldsV w v l) (hl : l.length ≤ 1000000000) (hi : ∀ x ∈ l, x.inI) : Calls Tryz.prog 9 #[v] w (OwnP w (bytesV l)) := by
  obtain ⟨a, c, rfl, hc⟩ := h.form
  have H := Lib.hid h
  have HI := Lib.hid hi
  have HFL := Lib.hid (flatV_len)
  have wl : IntKind.u64.wrap (l.length : Int) = (l.length : Int) := by rw [IntKind.wrap_u64]; omega
  have KP := fun w => Put_any (Holds.nil w) (xs := []) l.length (by omega) (by simp)
  have HDL := Lib.hid (dig_len10 (u := l.length) (by omega))
  obtain ⟨n, hn⟩ : ∃ n, n = l.length := ⟨_, rfl⟩
  rw [← hn] at wl KP hc hl HDL ⊢
  have HNL := Lib.hid hn
  have HL := Lib.hid hl
  clear h hi hn hl
  go_enter Tryz.func9, Tryz.ntmps9
  go_wp2_with fail
  refine (KP _).mono ?_
  rintro e w1 ⟨v1, rfl, ho, hb⟩
  have H1 : Hid (Out w w1 v1 (dig n)) := Lib.hid ⟨by simpa using ho, hb⟩
  clear ho hb KP
  go_wp2_with fail
  go_loopw [3, 5, 12] (fun s3 _ s12 wr => ∃ (i : Nat) (v : Value) (acc : List UInt8), s12 = .int .i64 i ∧ i ≤ n ∧ v = s3 ∧ Hid (Out w wr v acc) ∧ Hid (acc = dig n ++ flatV (l.take i))) (fun _ _ k _ => n - (RowKit.intOf k).toNat)
  case atStart => exact ⟨0, v1, _, rfl, Nat.zero_le _, rfl, H1, Lib.hid (by simp [flatV])⟩
  case round =>
    clear H1
    obtain ⟨i, v, acc, rfl, hin, rfl, HO, HA⟩ := hrel
    by_cases hlt : i < n
    · obtain ⟨x, hx⟩ : ∃ x, l[i]? = some x := ⟨l[i]'(HNL.out ▸ hlt), List.getElem?_eq_getElem _⟩
      obtain ⟨ad, rfl, hc0⟩ := H.out.at_ hx
      have hxi : x.inI := HI.out x (List.mem_of_getElem? hx)
      have HCW : ∀ w', Below w.heap.size w w' → w'.cell? (ad.add (i * 3)) = some (.int .i64 x.k) ∧ w'.cell? ⟨(ad.add (i * 3)).block, (ad.add (i * 3)).off + 1, none⟩ = some (.int .i64 x.n) ∧ w'.cell? ⟨(ad.add (i * 3)).block, (ad.add (i * 3)).off + 2, none⟩ = some (.string x.s) := fun w' hb =>
        ⟨by rw [hb.cell (World.block_lt_of_cell? _ _ hc0.1)]; exact hc0.1, by rw [hb.cell (World.block_lt_of_cell? _ _ hc0.2.1)]; exact hc0.2.1, by rw [hb.cell (World.block_lt_of_cell? _ _ hc0.2.2)]; exact hc0.2.2⟩
      obtain ⟨d0, d1, d2⟩ := HCW wr HO.out.2
      have b0 : (0 : Int) ≤ (i : Int) := Int.natCast_nonneg i
      have b1 : (i : Int) < (n : Int) := Int.ofNat_lt.2 hlt
      have hw64 := wi_next hlt HL.out
      have KG := vgood_any x.k x.n x.s hxi.1 hxi.2
      have hacc : acc.length ≤ 200000000000 := by
        have h1 := HFL.out (l.take i) (fun y hy => HI.out y (List.mem_of_mem_take hy))
        rw [List.length_take, ← HNL.out] at h1
        rw [HA.out]
        exact room3 HDL.out h1 HL.out
      have hnb := bytes_len (norm_good x) (inI_norm hxi)
      have hng := norm_good x
      have hni := inI_norm hxi
      have HA2 : dig n ++ flatV (l.take (i + 1)) = acc ++ x.norm.bytes := by rw [take_snoc hx, flatV_snoc, HA.out, List.append_assoc]
      have HN : Hid (∀ g, v.ownBlock = some g → g ≠ wr.heap.size) := Lib.hid fun g hg => Nat.ne_of_lt (HO.out.old g hg)
      replace HA := Lib.hid HA2
      clear HA2 HCW
      obtain ⟨xk, xn, xs⟩ := x
      simp only at d0 d1 d2 KG
      cases hgx : goodV xk xn xs
      · have hny : VV.norm ⟨xk, xn, xs⟩ = VV.none_ := by unfold VV.norm VV.good; rw [hgx]; rfl
        rw [hny] at HA
        rw [hgx] at KG
        have eb : VV.none_.bytes = dig 0 ++ [] := (bytes_null 0 ⟨#[]⟩).1
        have KP : ∀ w, Calls Tryz.prog 19 #[.slice none 0 0, .int .u64 0] w (OwnP w (dig 0)) := fun w => put_nil 0 (by decide) w
        have hd0 := dig_len10 (u := 0) (by decide)
        have HL1 : Hid (acc.length + (dig 0).length ≤ 17592186044416) := Lib.hid (room1 hacc hd0)
        have HL2 : Hid ((acc ++ dig 0).length + ([] : List UInt8).length ≤ 17592186044416) := Lib.hid (room2 hacc hd0 (by simp))
        rw [eb, ← List.append_assoc] at HA
        clear hc0 hxi hx hacc hnb hng hni hny hgx eb hd0
        go_wp2_with fail
        refine (KG _).mono ?_
        rintro e w3 ⟨rfl, hb3⟩
        have hbx := hb3.mono (show wr.heap.size ≤ _ by simp)
        have hbz : Below wr.heap.size wr w3 := ((Below.refl _ _).alloc (Nat.le_refl _) _).trans hbx
        have hCx := (C3.new wr (.int .i64 xk) (.int .i64 xn) (.string xs) 25).keep hb3 (by simp)
        obtain ⟨z1, z2, z3⟩ := frz3 hb3 (by simp)
        have k1 := hCx.1
        have k2 := hCx.2.1
        have k3 := hCx.2.2
        have S3 := below_set3 hbz (Nat.le_refl _) (.int .i64 0) (.int .i64 0) (.string ⟨#[]⟩)
        have HC := Lib.hid (hCx.set3 (.int .i64 0) (.int .i64 0) (.string ⟨#[]⟩))
        have HZ : Hid (wr.heap.size < (((w3.setCell ⟨wr.heap.size, 0, none⟩ (.int .i64 0)).setCell ⟨wr.heap.size, 1, none⟩ (.int .i64 0)).setCell ⟨wr.heap.size, 2, none⟩ (.string ⟨#[]⟩)).heap.size) := Lib.hid (World.block_lt_of_cell? _ _ HC.out.1)
        replace HO := Lib.hid (HO.out.next S3)
        clear hb3 hbx hbz KG d0 d1 d2 S3 hCx
        go_wp2_with fail
        clear z1 z2 z3 k1 k2 k3
        obtain ⟨W3, hW3⟩ : ∃ W3, (((w3.setCell ⟨wr.heap.size, 0, none⟩ (.int .i64 0)).setCell ⟨wr.heap.size, 1, none⟩ (.int .i64 0)).setCell ⟨wr.heap.size, 2, none⟩ (.string ⟨#[]⟩)) = W3 := ⟨_, rfl⟩
        rw [hW3] at HC HZ HO ⊢
        clear hW3
        have KC := content_null 0 ⟨#[]⟩
        have KB := nullBytes_any
        have mb := m_null_bytes
        refine (KP _).mono ?_
        rintro e w4 ⟨v4, rfl, ho4, hb4⟩
        obtain ⟨v5, w5, r5, O5, z5, g5⟩ := HO.out.app ho4 hb4 HL1.out
        have C5 := Lib.hid ((HC.out.keep hb4 HZ.out).of_block (g5 _ (Nat.lt_of_lt_of_le HZ.out hb4.size) HN.out))
        have R5 := Lib.hid r5
        replace HO := Lib.hid O5
        clear ho4 hb4 r5 O5 z5 g5 KP HC HZ HN HL1
        obtain ⟨k1, k2, k3⟩ := C5.out
        go_wp2_with (at_builtin; refine wpList_append_run rfl _ _ 33 rfl rfl rfl (R5.out _) ?_)
        refine (KC _).mono ?_
        rintro e w6 ⟨rfl, hb6⟩
        replace HO := Lib.hid (HO.out.next hb6)
        clear hb6 k1 k2 k3 C5 KC R5
        go_wp2_with fail
        refine (KB _).mono ?_
        rintro e w7 ⟨v7, rfl, ho7, hb7⟩
        obtain ⟨v8, w8, r8, O8, _, _⟩ := HO.out.app ho7 hb7 HL2.out
        have R8 := Lib.hid r8
        replace HO := Lib.hid O8
        clear ho7 hb7 r8 O8 KB HL2
        go_wp2_with (at_builtin; refine wpList_append_run rfl _ _ 33 rfl rfl rfl (R8.out _) ?_)
        go_roundw
        case rel => exact ⟨i + 1, _, _, by go_num, hlt, rfl, HO, Lib.hid HA.out.symm⟩
        case measure => simp [RowKit.intOf]; omega
      · have hgd : VV.good ⟨xk, xn, xs⟩ = true := hgx
        rw [hgx] at KG
        rw [norm_of hgd] at HA hnb
        have hbl := body_len hgd hxi
        clear hc0 hx hng hni
        rcases good_cases hgd with e | ⟨e1, e2⟩ | ⟨e1, e2⟩ | ⟨e1, e2, e3⟩ | ⟨e1, e2⟩
        · cases e
          have eb := (bytes_null 0 ⟨#[]⟩).1
          have hbl' : ([] : List UInt8).length ≤ 100 := by rw [(bytes_null 0 ⟨#[]⟩).2] at hbl; exact hbl
          have KP : ∀ w, Calls Tryz.prog 19 #[.slice none 0 0, .int .u64 0] w (OwnP w (dig 0)) := fun w => put_nil 0 (by decide) w
          have hd0 := dig_len10 (u := 0) (by decide)
          have HL1 : Hid (acc.length + (dig 0).length ≤ 17592186044416) := Lib.hid (room1 hacc hd0)
          have HL2 : Hid ((acc ++ dig 0).length + ([] : List UInt8).length ≤ 17592186044416) := Lib.hid (room2 hacc hd0 hbl')
          have KC := content_null 0 ⟨#[]⟩
          have KB := nullBytes_any
          rw [eb, ← List.append_assoc] at HA
          clear hxi hacc hnb hgx eb hd0 hbl hbl' hgd
          go_wp2_with fail
          refine (KG _).mono ?_
          rintro e w3 ⟨rfl, hb3⟩
          have hbx := hb3.mono (show wr.heap.size ≤ _ by simp)
          have hbz : Below wr.heap.size wr w3 := ((Below.refl _ _).alloc (Nat.le_refl _) _).trans hbx
          have HC := Lib.hid ((C3.new wr (.int .i64 0) (.int .i64 0) (.string ⟨#[]⟩) 25).keep hb3 (by simp))
          have HZ : Hid (wr.heap.size < w3.heap.size) := Lib.hid (World.block_lt_of_cell? _ _ HC.out.1)
          replace HO := Lib.hid (HO.out.next hbz)
          clear hb3 hbx hbz KG d0 d1 d2
          have mb := m_null_bytes
          obtain ⟨k1, k2, k3⟩ := HC.out
          go_wp2_with fail
          refine (KP _).mono ?_
          rintro e w4 ⟨v4, rfl, ho4, hb4⟩
          obtain ⟨v5, w5, r5, O5, z5, g5⟩ := HO.out.app ho4 hb4 HL1.out
          have C5 := Lib.hid ((HC.out.keep hb4 HZ.out).of_block (g5 _ (Nat.lt_of_lt_of_le HZ.out hb4.size) HN.out))
          have R5 := Lib.hid r5
          replace HO := Lib.hid O5
          clear ho4 hb4 r5 O5 z5 g5 k1 k2 k3 KP HC HZ HN HL1
          obtain ⟨k1, k2, k3⟩ := C5.out
          go_wp2_with (at_builtin; refine wpList_append_run rfl _ _ 33 rfl rfl rfl (R5.out _) ?_)
          refine (KC _).mono ?_
          rintro e w6 ⟨rfl, hb6⟩
          replace HO := Lib.hid (HO.out.next hb6)
          clear hb6 k1 k2 k3 C5 KC R5
          go_wp2_with fail
          refine (KB _).mono ?_
          rintro e w7 ⟨v7, rfl, ho7, hb7⟩
          obtain ⟨v8, w8, r8, O8, _, _⟩ := HO.out.app ho7 hb7 HL2.out
          have R8 := Lib.hid r8
          replace HO := Lib.hid O8
          clear ho7 hb7 r8 O8 KB HL2
          go_wp2_with (at_builtin; refine wpList_append_run rfl _ _ 33 rfl rfl rfl (R8.out _) ?_)
          go_roundw
          case rel => exact ⟨i + 1, _, _, by go_num, hlt, rfl, HO, Lib.hid HA.out.symm⟩
          case measure => simp [RowKit.intOf]; omega
        · simp only at e1 e2; subst e1 e2
          have eb := (bytes_int xn ⟨#[]⟩).1
          have hbl' : ((dig (zgN xn)) : List UInt8).length ≤ 100 := by rw [(bytes_int xn ⟨#[]⟩).2] at hbl; exact hbl
          have KP : ∀ w, Calls Tryz.prog 19 #[.slice none 0 0, .int .u64 1] w (OwnP w (dig 1)) := fun w => put_nil 1 (by decide) w
          have hd0 := dig_len10 (u := 1) (by decide)
          have HL1 : Hid (acc.length + (dig 1).length ≤ 17592186044416) := Lib.hid (room1 hacc hd0)
          have HL2 : Hid ((acc ++ dig 1).length + ((dig (zgN xn)) : List UInt8).length ≤ 17592186044416) := Lib.hid (room2 hacc hd0 hbl')
          have KC := content_int xn ⟨#[]⟩
          have KB := wholeBytes_any xn hxi.1 hxi.2
          rw [eb, ← List.append_assoc] at HA
          clear hxi hacc hnb hgx eb hd0 hbl hbl' hgd
          go_wp2_with fail
          refine (KG _).mono ?_
          rintro e w3 ⟨rfl, hb3⟩
          have hbx := hb3.mono (show wr.heap.size ≤ _ by simp)
          have hbz : Below wr.heap.size wr w3 := ((Below.refl _ _).alloc (Nat.le_refl _) _).trans hbx
          have HC := Lib.hid ((C3.new wr (.int .i64 1) (.int .i64 xn) (.string ⟨#[]⟩) 25).keep hb3 (by simp))
          have HZ : Hid (wr.heap.size < w3.heap.size) := Lib.hid (World.block_lt_of_cell? _ _ HC.out.1)
          replace HO := Lib.hid (HO.out.next hbz)
          clear hb3 hbx hbz KG d0 d1 d2
          have mb := m_int_bytes
          obtain ⟨k1, k2, k3⟩ := HC.out
          go_wp2_with fail
          refine (KP _).mono ?_
          rintro e w4 ⟨v4, rfl, ho4, hb4⟩
          obtain ⟨v5, w5, r5, O5, z5, g5⟩ := HO.out.app ho4 hb4 HL1.out
          have C5 := Lib.hid ((HC.out.keep hb4 HZ.out).of_block (g5 _ (Nat.lt_of_lt_of_le HZ.out hb4.size) HN.out))
          have R5 := Lib.hid r5
          replace HO := Lib.hid O5
          clear ho4 hb4 r5 O5 z5 g5 k1 k2 k3 KP HC HZ HN HL1
          obtain ⟨k1, k2, k3⟩ := C5.out
          go_wp2_with (at_builtin; refine wpList_append_run rfl _ _ 33 rfl rfl rfl (R5.out _) ?_)
          refine (KC _).mono ?_
          rintro e w6 ⟨rfl, hb6⟩
          replace HO := Lib.hid (HO.out.next hb6)
          clear hb6 k1 k2 k3 C5 KC R5
          go_wp2_with fail
          refine (KB _).mono ?_
          rintro e w7 ⟨v7, rfl, ho7, hb7⟩
          obtain ⟨v8, w8, r8, O8, _, _⟩ := HO.out.app ho7 hb7 HL2.out
          have R8 := Lib.hid r8
          replace HO := Lib.hid O8
          clear ho7 hb7 r8 O8 KB HL2
          go_wp2_with (at_builtin; refine wpList_append_run rfl _ _ 33 rfl rfl rfl (R8.out _) ?_)
          go_roundw
          case rel => exact ⟨i + 1, _, _, by go_num, hlt, rfl, HO, Lib.hid HA.out.symm⟩
          case measure => simp [RowKit.intOf]; omega
        · simp only at e1 e2; subst e1 e2
          have eb := (bytes_float xn ⟨#[]⟩).1
          have hbl' : ((dig (zgN xn)) : List UInt8).length ≤ 100 := by rw [(bytes_float xn ⟨#[]⟩).2] at hbl; exact hbl
          have KP : ∀ w, Calls Tryz.prog 19 #[.slice none 0 0, .int .u64 2] w (OwnP w (dig 2)) := fun w => put_nil 2 (by decide) w
          have hd0 := dig_len10 (u := 2) (by decide)
          have HL1 : Hid (acc.length + (dig 2).length ≤ 17592186044416) := Lib.hid (room1 hacc hd0)
          have HL2 : Hid ((acc ++ dig 2).length + ((dig (zgN xn)) : List UInt8).length ≤ 17592186044416) := Lib.hid (room2 hacc hd0 hbl')
          have KC := content_float xn ⟨#[]⟩
          have KB := floatBytes_any xn hxi.1 hxi.2
          rw [eb, ← List.append_assoc] at HA
          clear hxi hacc hnb hgx eb hd0 hbl hbl' hgd
          go_wp2_with fail
          refine (KG _).mono ?_
          rintro e w3 ⟨rfl, hb3⟩
          have hbx := hb3.mono (show wr.heap.size ≤ _ by simp)
          have hbz : Below wr.heap.size wr w3 := ((Below.refl _ _).alloc (Nat.le_refl _) _).trans hbx
          have HC := Lib.hid ((C3.new wr (.int .i64 2) (.int .i64 xn) (.string ⟨#[]⟩) 25).keep hb3 (by simp))
          have HZ : Hid (wr.heap.size < w3.heap.size) := Lib.hid (World.block_lt_of_cell? _ _ HC.out.1)
          replace HO := Lib.hid (HO.out.next hbz)
          clear hb3 hbx hbz KG d0 d1 d2
          have mb := m_float_bytes
          obtain ⟨k1, k2, k3⟩ := HC.out
          go_wp2_with fail
          refine (KP _).mono ?_
          rintro e w4 ⟨v4, rfl, ho4, hb4⟩
          obtain ⟨v5, w5, r5, O5, z5, g5⟩ := HO.out.app ho4 hb4 HL1.out
          have C5 := Lib.hid ((HC.out.keep hb4 HZ.out).of_block (g5 _ (Nat.lt_of_lt_of_le HZ.out hb4.size) HN.out))
          have R5 := Lib.hid r5
          replace HO := Lib.hid O5
          clear ho4 hb4 r5 O5 z5 g5 k1 k2 k3 KP HC HZ HN HL1
          obtain ⟨k1, k2, k3⟩ := C5.out
          go_wp2_with (at_builtin; refine wpList_append_run rfl _ _ 33 rfl rfl rfl (R5.out _) ?_)
          refine (KC _).mono ?_
          rintro e w6 ⟨rfl, hb6⟩
          replace HO := Lib.hid (HO.out.next hb6)
          clear hb6 k1 k2 k3 C5 KC R5
          go_wp2_with fail
          refine (KB _).mono ?_
          rintro e w7 ⟨v7, rfl, ho7, hb7⟩
          obtain ⟨v8, w8, r8, O8, _, _⟩ := HO.out.app ho7 hb7 HL2.out
          have R8 := Lib.hid r8
          replace HO := Lib.hid O8
          clear ho7 hb7 r8 O8 KB HL2
          go_wp2_with (at_builtin; refine wpList_append_run rfl _ _ 33 rfl rfl rfl (R8.out _) ?_)
          go_roundw
          case rel => exact ⟨i + 1, _, _, by go_num, hlt, rfl, HO, Lib.hid HA.out.symm⟩
          case measure => simp [RowKit.intOf]; omega
        · simp only at e1 e2 e3; subst e1 e2
          have eb := (bytes_str 0 xs).1
          have hbl' : ((dig xs.size ++ xs.data.toList) : List UInt8).length ≤ 100 := by rw [(bytes_str 0 xs).2] at hbl; exact hbl
          have KP : ∀ w, Calls Tryz.prog 19 #[.slice none 0 0, .int .u64 3] w (OwnP w (dig 3)) := fun w => put_nil 3 (by decide) w
          have hd0 := dig_len10 (u := 3) (by decide)
          have HL1 : Hid (acc.length + (dig 3).length ≤ 17592186044416) := Lib.hid (room1 hacc hd0)
          have HL2 : Hid ((acc ++ dig 3).length + ((dig xs.size ++ xs.data.toList) : List UInt8).length ≤ 17592186044416) := Lib.hid (room2 hacc hd0 hbl')
          have KC := content_str 0 xs
          have KB := strBytes_any xs (Nat.le_trans e3 (by decide))
          rw [eb, ← List.append_assoc] at HA
          clear hxi hacc hnb hgx eb hd0 hbl hbl' hgd e3
          go_wp2_with fail
          refine (KG _).mono ?_
          rintro e w3 ⟨rfl, hb3⟩
          have hbx := hb3.mono (show wr.heap.size ≤ _ by simp)
          have hbz : Below wr.heap.size wr w3 := ((Below.refl _ _).alloc (Nat.le_refl _) _).trans hbx
          have HC := Lib.hid ((C3.new wr (.int .i64 3) (.int .i64 0) (.string xs) 25).keep hb3 (by simp))
          have HZ : Hid (wr.heap.size < w3.heap.size) := Lib.hid (World.block_lt_of_cell? _ _ HC.out.1)
          replace HO := Lib.hid (HO.out.next hbz)
          clear hb3 hbx hbz KG d0 d1 d2
          have mb := m_str_bytes
          obtain ⟨k1, k2, k3⟩ := HC.out
          go_wp2_with fail
          refine (KP _).mono ?_
          rintro e w4 ⟨v4, rfl, ho4, hb4⟩
          obtain ⟨v5, w5, r5, O5, z5, g5⟩ := HO.out.app ho4 hb4 HL1.out
          have C5 := Lib.hid ((HC.out.keep hb4 HZ.out).of_block (g5 _ (Nat.lt_of_lt_of_le HZ.out hb4.size) HN.out))
          have R5 := Lib.hid r5
          replace HO := Lib.hid O5
          clear ho4 hb4 r5 O5 z5 g5 k1 k2 k3 KP HC HZ HN HL1
          obtain ⟨k1, k2, k3⟩ := C5.out
          go_wp2_with (at_builtin; refine wpList_append_run rfl _ _ 33 rfl rfl rfl (R5.out _) ?_)
          refine (KC _).mono ?_
          rintro e w6 ⟨rfl, hb6⟩
          replace HO := Lib.hid (HO.out.next hb6)
          clear hb6 k1 k2 k3 C5 KC R5
          go_wp2_with fail
          refine (KB _).mono ?_
          rintro e w7 ⟨v7, rfl, ho7, hb7⟩
          obtain ⟨v8, w8, r8, O8, _, _⟩ := HO.out.app ho7 hb7 HL2.out
          have R8 := Lib.hid r8
          replace HO := Lib.hid O8
          clear ho7 hb7 r8 O8 KB HL2
          go_wp2_with (at_builtin; refine wpList_append_run rfl _ _ 33 rfl rfl rfl (R8.out _) ?_)
          go_roundw
          case rel => exact ⟨i + 1, _, _, by go_num, hlt, rfl, HO, Lib.hid HA.out.symm⟩
          case measure => simp [RowKit.intOf]; omega
        · simp only at e1 e2; subst e1 e2
          have eb := (bytes_bool xn ⟨#[]⟩).1
          have hbl' : ((dig (zgN xn)) : List UInt8).length ≤ 100 := by rw [(bytes_bool xn ⟨#[]⟩).2] at hbl; exact hbl
          have KP : ∀ w, Calls Tryz.prog 19 #[.slice none 0 0, .int .u64 4] w (OwnP w (dig 4)) := fun w => put_nil 4 (by decide) w
          have hd0 := dig_len10 (u := 4) (by decide)
          have HL1 : Hid (acc.length + (dig 4).length ≤ 17592186044416) := Lib.hid (room1 hacc hd0)
          have HL2 : Hid ((acc ++ dig 4).length + ((dig (zgN xn)) : List UInt8).length ≤ 17592186044416) := Lib.hid (room2 hacc hd0 hbl')
          have KC := content_bool xn ⟨#[]⟩
          have KB := truthBytes_any xn hxi.1 hxi.2
          rw [eb, ← List.append_assoc] at HA
          clear hxi hacc hnb hgx eb hd0 hbl hbl' hgd
          go_wp2_with fail
          refine (KG _).mono ?_
          rintro e w3 ⟨rfl, hb3⟩
          have hbx := hb3.mono (show wr.heap.size ≤ _ by simp)
          have hbz : Below wr.heap.size wr w3 := ((Below.refl _ _).alloc (Nat.le_refl _) _).trans hbx
          have HC := Lib.hid ((C3.new wr (.int .i64 4) (.int .i64 xn) (.string ⟨#[]⟩) 25).keep hb3 (by simp))
          have HZ : Hid (wr.heap.size < w3.heap.size) := Lib.hid (World.block_lt_of_cell? _ _ HC.out.1)
          replace HO := Lib.hid (HO.out.next hbz)
          clear hb3 hbx hbz KG d0 d1 d2
          have mb := m_bool_bytes
          obtain ⟨k1, k2, k3⟩ := HC.out
          go_wp2_with fail
          refine (KP _).mono ?_
          rintro e w4 ⟨v4, rfl, ho4, hb4⟩
          obtain ⟨v5, w5, r5, O5, z5, g5⟩ := HO.out.app ho4 hb4 HL1.out
          have C5 := Lib.hid ((HC.out.keep hb4 HZ.out).of_block (g5 _ (Nat.lt_of_lt_of_le HZ.out hb4.size) HN.out))
          have R5 := Lib.hid r5
          replace HO := Lib.hid O5
          clear ho4 hb4 r5 O5 z5 g5 k1 k2 k3 KP HC HZ HN HL1
          obtain ⟨k1, k2, k3⟩ := C5.out
          go_wp2_with (at_builtin; refine wpList_append_run rfl _ _ 33 rfl rfl rfl (R5.out _) ?_)
          refine (KC _).mono ?_
          rintro e w6 ⟨rfl, hb6⟩
          replace HO := Lib.hid (HO.out.next hb6)
          clear hb6 k1 k2 k3 C5 KC R5
          go_wp2_with fail
          refine (KB _).mono ?_
          rintro e w7 ⟨v7, rfl, ho7, hb7⟩
          obtain ⟨v8, w8, r8, O8, _, _⟩ := HO.out.app ho7 hb7 HL2.out
          have R8 := Lib.hid r8
          replace HO := Lib.hid O8
          clear ho7 hb7 r8 O8 KB HL2
          go_wp2_with (at_builtin; refine wpList_append_run rfl _ _ 33 rfl rfl rfl (R8.out _) ?_)
          go_roundw
          case rel => exact ⟨i + 1, _, _, by go_num, hlt, rfl, HO, Lib.hid HA.out.symm⟩
          case measure => simp [RowKit.intOf]; omega
    · have hei : i = n := end_eq hin hlt
      have e1 : l.take i = l := by rw [hei, HNL.out]; exact List.take_length
      have e2 := HA.out
      rw [e1] at e2
      clear HA e1
      go_wp2_with fail
      go_ret
      exact ⟨_, rfl, by rw [show bytesV l = acc by rw [e2]; unfold bytesV; rw [HNL.out]]; exact HO.out.1, HO.out.2⟩
end Go.Proofs.YtfmhdnefcapjgaaGreatDoor
