/- The texts UnpackPlain RangeOps CodecPlain CodecPut, one behind the other; each one's own comment says what it holds. -/
import Derived.Test.YtcpfkinjglnabaaPackAI
import Derived.Test.YtcpfkinjglnabaaPackAH
import Derived.StillTailTactics
import Derived.BigRegion
import Derived.Test.YtcpfkinjglnabaaPackAA
import Derived.Test.YtcpfkinjglnabaaPackAB
import Derived.Outline
/- Plain mathematics of packed numbers, read: the number that bytes are, and its pieces. Conditions: none. -/
set_option maxRecDepth 100000
namespace Go.Proofs.Ytcpfkinjglnabaa

/-- the number whose bytes these are, the lowest first -/
def numB : List UInt8 → Nat
  | [] => 0
  | c :: r => c.toNat + 256 * numB r
theorem numB_lt (l : List UInt8) : numB l < 256 ^ l.length := by
  induction l with
  | nil => simp [numB]
  | cons c r ih =>
    have := c.toNat_lt
    rw [numB, List.length_cons, Nat.pow_succ]
    omega
theorem numB_at (l : List UInt8) : ∀ (j : Nat) (h : j < l.length), l[j].toNat = numB l / 256 ^ j % 256 := by
  induction l with
  | nil => intro j h; cases h
  | cons c r ih =>
    intro j h
    have hc := c.toNat_lt
    cases j with
    | zero => simp [numB]
    | succ j =>
      rw [List.getElem_cons_succ, ih j (by simpa using h), numB, Nat.pow_succ, Nat.mul_comm (256 ^ j), ← Nat.div_div_eq_div_mul]
      congr 2
      omega
theorem numB_bytes (m N : Nat) (h : N < 256 ^ m) : numB (bytesN m N) = N := by
  have key : ∀ (m N : Nat), N < 256 ^ m → numB (bytesN m N) = N := by
    intro m
    induction m with
    | zero => intro N h; simp at h; subst h; rfl
    | succ m ih =>
      intro N h
      have e : bytesN (m + 1) N = UInt8.ofNat N :: bytesN m (N / 256) := by
        apply List.ext_getElem
        · simp [bytesN]
        · intro j h1 h2
          have hj : j < m + 1 := by simpa [bytesN] using h1
          rw [bytesN_at _ _ _ hj]
          cases j with
          | zero => simp
          | succ j =>
            rw [List.getElem_cons_succ, bytesN_at _ _ _ (by omega), Nat.pow_succ, Nat.mul_comm (256 ^ j), ← Nat.div_div_eq_div_mul]
      rw [e, numB, ih (N / 256) (by rw [Nat.div_lt_iff_lt_mul (by omega)]; rwa [Nat.pow_succ] at h)]
      simp
      omega
  exact key m N h

/-- the piece of 8 - at % 8 bits from bit at on -/
theorem piece_eq (N at' : Nat) : N / 256 ^ (at' / 8) % 256 / 2 ^ (at' % 8) = N / 2 ^ at' % 2 ^ (8 - at' % 8) := by
  have h1 : (256 : Nat) = 2 ^ (at' % 8) * 2 ^ (8 - at' % 8) := by rw [← Nat.pow_add, show at' % 8 + (8 - at' % 8) = 8 by omega]
  have h2 : N / 2 ^ at' = N / 256 ^ (at' / 8) / 2 ^ (at' % 8) := by
    rw [pow256, Nat.div_div_eq_div_mul, ← Nat.pow_add, show 8 * (at' / 8) + at' % 8 = at' by omega]
  rw [h2]
  generalize N / 256 ^ (at' / 8) = x
  conv => lhs; rw [h1]
  rw [Nat.mod_mul_right_div_self]

/-- one step of reading a number: bits d on -/
theorem unpack_step (N f d : Nat) (hd : d < 64) :
    (N / 2 ^ f % 2 ^ d % 2 ^ 64) ||| (N / 2 ^ (f + d) % 2 ^ (8 - (f + d) % 8) * 2 ^ d % 2 ^ 64) = N / 2 ^ f % 2 ^ (d + (8 - (f + d) % 8)) % 2 ^ 64 := by
  have h1 : N / 2 ^ f % 2 ^ d < 2 ^ d := Nat.mod_lt _ (Nat.two_pow_pos _)
  have h2 : 2 ^ d ≤ 2 ^ 63 := Nat.pow_le_pow_right (by omega) (by omega)
  rw [Nat.mod_eq_of_lt (show N / 2 ^ f % 2 ^ d < 2 ^ 64 by omega)]
  have h3 : N / 2 ^ (f + d) = N / 2 ^ f / 2 ^ d := by rw [Nat.pow_add, Nat.div_div_eq_div_mul]
  rw [mod_split, h3]
  generalize hy : N / 2 ^ f / 2 ^ d % 2 ^ (8 - (f + d) % 8) = y
  generalize hx : N / 2 ^ f % 2 ^ d = x at *
  have h4 : y * 2 ^ d % 2 ^ 64 = (y % 2 ^ (64 - d)) * 2 ^ d := by
    have e : (2 : Nat) ^ 64 = 2 ^ (64 - d) * 2 ^ d := by rw [← Nat.pow_add, show 64 - d + d = 64 by omega]
    rw [e, Nat.mul_mod_mul_right]
  have h5 : (x + y * 2 ^ d) % 2 ^ 64 = x + (y % 2 ^ (64 - d)) * 2 ^ d := by
    rw [← h4]
    have h6 : y * 2 ^ d % 2 ^ 64 + 2 ^ d ≤ 2 ^ 64 := by
      have e : (2 : Nat) ^ 64 = 2 ^ (64 - d) * 2 ^ d := by rw [← Nat.pow_add, show 64 - d + d = 64 by omega]
      rw [h4]
      have := Nat.mul_le_mul_right (2 ^ d) (show y % 2 ^ (64 - d) + 1 ≤ 2 ^ (64 - d) from Nat.mod_lt _ (Nat.two_pow_pos _))
      rw [← e, Nat.add_mul, Nat.one_mul] at this
      exact this
    omega
  rw [h4, h5, Nat.or_comm, Nat.mul_comm, ← Nat.two_pow_add_eq_or_of_lt h1, Nat.add_comm, Nat.mul_comm]
end Go.Proofs.Ytcpfkinjglnabaa
/- A region of a round's body, walked as outside of rounds: what the plain walk of any order says holds in a round. Conditions: the region defers nothing. -/
set_option maxRecDepth 100000
namespace Go.Proofs.Ytcpfkinjglnabaa
open Go.RowKit

theorem heap_grown {X Y : World} {row : Option Nat} (hg : X.grownBy Y row) {S k : Nat} {o : Obj} (hk : X.heap[k]? = some o) (hS : k < S) (hr : ∀ r, row = some r → S ≤ r) : Y.heap[k]? = some o :=
  (hg.block k (Array.getElem?_eq_some_iff.1 hk).1 (fun e => by have := hr k e.symm; omega)).trans hk

theorem heap_other {X : World} {g j k : Nat} {v : Value} {o : Obj} (h : X.heap[k]? = some o) (hne : k ≠ g) : (X.setCell ⟨g, j, none⟩ v).heap[k]? = some o :=
  (Below.heap_setCell X ⟨g, j, none⟩ v k hne).trans h

/-- the wide fence, at a frame of this round (or of none) -/
abbrev wideAt (ro : Option Nat) : Fence := { Fence.wide with round := ro }

theorem uponIn_of_upon {P : Program} {ro : Option Nat} {o : Oper} {a : Act} {K K' : Act → World → Prop} (hK : ∀ a w, K a w → K' a w) {Q : Exit → Act → World → Prop} {r : Result Go.Next} (h : o.upon P a K Q r) : o.uponIn (wideAt ro) 0 P a K' Q r := by
  unfold Oper.upon at h
  split at h
  · exact hK _ _ h
  · exact hK _ _ h
  · exact hK _ _ h
  · refine ⟨(fun h => nomatch h), (callsIn_wide.2 h).mono ?_⟩
    intro e w' hr
    cases e with
    | returned v => exact hK _ _ hr
    | panicked ch => exact hr
    | outgrown => exact hr
  · refine ⟨(fun h => nomatch h), fun c cs _ => ?_⟩
    obtain ⟨v, w', r, s⟩ := h c cs
    exact ⟨v, w', hK _ _ r, stepsIn_wide.2 s⟩
  · exact h
  · exact h.elim

theorem opsIn_of_ops {P : Program} {ro : Option Nat} {ops : Array Oper} (hd : ro = none ∨ ∀ (i : Nat) (o : Oper) c, ops[i]? = some o → o.op ≠ .defer c) {Q : Exit → Act → World → Prop} (hno : ¬ LetsOut Q) :
    ∀ (L : List Nat) (a : Act) (w : World), wpOps P ops Q L a w → wpOpsIn (wideAt ro) 0 P ops Q L a w := by
  intro L
  induction L with
  | nil => exact fun a w h => h
  | cons i rest ih =>
    intro a w h
    simp only [wpOps] at h
    simp only [wpOpsIn]
    cases ho : ops[i]? with
    | none => simp only [ho] at h ⊢; exact ih _ _ h
    | some o =>
      simp only [ho] at h ⊢
      split
      · rename_i hw
        simp only [hw, if_true] at h
        rcases h with h | h
        · refine ⟨fun _ _ => trivial, ?_⟩
          have e : o.semAt ro a.eval = execOp a.eval o := by
            rcases hd with rfl | hd
            · rfl
            · exact Oper.semAt_eq _ _ _ (fun c => hd i o c ho)
          show o.uponIn (wideAt ro) 0 P a _ Q ((o.semAt ro a.eval).run P w)
          rw [e]
          exact uponIn_of_upon ih h
        · exact absurd h.2 hno
      · rename_i hw
        simp only [hw] at h
        exact ⟨fun _ _ => trivial, ih _ _ h⟩

theorem round_region_any {P : Program} {l0 id : Nat} {ops : Array Oper} {Q : Exit → Act → World → Prop} {a : Act} {w : World} (hm : P.follows .mixedOrders = true) (hd : ops.all (fun o => match o.op with | .defer _ => false | _ => true) = true) (hno : ¬ LetsOut Q)
    (h : wpAny P .any ops Q ops.size (Array.replicate ops.size false) a { w with drawn := w.drawn + 1 }) : (Code.region id ops true).wpIn (Fence.wide.inRound l0) 0 P Q a w :=
  wpIn_region_draw fun t => by
    simp only [Region.schedule, hm, Bool.true_or, if_true]
    refine opsIn_of_ops (ro := some l0) (.inr (fun i o c ho e => ?_)) hno _ _ _ (wpAny_sound ops.size t _ a _ h)
    obtain ⟨hi, rfl⟩ := Array.getElem?_eq_some_iff.1 ho
    have := Array.all_eq_true.1 hd i hi
    rw [e] at this
    cases this

theorem still_tail_any {P : Program} {Q : Exit → Act → World → Prop} {a : Act} {w : World} {l : List Oper} (n : Nat) (hB : Region.lexTailB .any l.toArray n = true)
    (h : wpStill P l.toArray { w with drawn := w.drawn + 1 } (fun a' => wpList P l.toArray Q (l.drop n) a' { w with drawn := w.drawn + 1 }) (l.take n) a) : wpAny P .any l.toArray Q l.toArray.size (Array.replicate l.toArray.size false) a { w with drawn := w.drawn + 1 } := by
  simp only [Region.lexTailB, Bool.and_eq_true, decide_eq_true_eq] at hB
  obtain ⟨⟨⟨⟨hsel, hn⟩, hs⟩, hc⟩, hlex⟩ := hB
  have hn' : n < l.length := by simpa using hn
  have htl : (l.take n).length = n := by simp; omega
  have hdl : (l.drop n).length = l.toArray.size - n := by simp
  have inv0 : HeadInv .any l.toArray n (Array.replicate l.toArray.size false) :=
    ⟨by simp, fun j oj _ hl => (by rw [getD_replicate_false] at hl; cases hl), fun t _ ht => getD_in (by simpa using ht) (getD_replicate_false _ _)⟩
  have H := wpAnyL_lex (md := .any) (g := l.toArray.size - n) hsel hs hc hn (l.take n) 0 _ a (fun j hj => by
    have hj' : j < n := by rw [htl] at hj; exact hj
    simp [hj']) (by simpa using htl) inv0 (by rw [htl]; exact hlex) h
  have := wpAny_of_head (Q' := Q) (g := l.toArray.size - n) (fun listed a' hL => by
    have := wpAny_of_seq (md := .any) (Q' := Q) (l.drop n) n listed a' { w with drawn := w.drawn + 1 } (fun j => by simp [List.getElem?_drop]) (by rw [hdl]; exact hL.1) hL.2
    rwa [hdl] at this) _ _ _ H
  rw [htl, show n + (l.toArray.size - n) = l.toArray.size by omega] at this
  exact this

/-- reads ahead of one store, in a round -/
theorem round_still_tail {P : Program} {l0 id : Nat} {Q : Exit → Act → World → Prop} {a : Act} {w : World} {l : List Oper} (n : Nat) (hm : P.follows .mixedOrders = true) (hd : l.toArray.all (fun o => match o.op with | .defer _ => false | _ => true) = true) (hno : ¬ LetsOut Q) (hB : Region.lexTailB .any l.toArray n = true)
    (h : wpStill P l.toArray { w with drawn := w.drawn + 1 } (fun a' => wpList P l.toArray Q (l.drop n) a' { w with drawn := w.drawn + 1 }) (l.take n) a) : (Code.region id l.toArray true).wpIn (Fence.wide.inRound l0) 0 P Q a w :=
  round_region_any hm hd hno (still_tail_any n hB h)
/-- reads ahead of one store, in a frame outside of rounds, inside the wide fence -/
theorem wide_still_tail {P : Program} {id : Nat} {Q : Exit → Act → World → Prop} {a : Act} {w : World} {l : List Oper} (n : Nat) (hm : P.follows .mixedOrders = true) (hno : ¬ LetsOut Q) (hB : Region.lexTailB .any l.toArray n = true)
    (h : wpStill P l.toArray { w with drawn := w.drawn + 1 } (fun a' => wpList P l.toArray Q (l.drop n) a' { w with drawn := w.drawn + 1 }) (l.take n) a) : (Code.region id l.toArray true).wpIn Fence.wide 0 P Q a w :=
  wpIn_region_draw fun t => by
    simp only [Region.schedule, hm, Bool.true_or, if_true]
    exact opsIn_of_ops (ro := none) (.inl rfl) hno _ _ _ (wpAny_sound l.toArray.size t _ a _ (still_tail_any n hB h))
end Go.Proofs.Ytcpfkinjglnabaa
/- Plain mathematics of package codec: the digits of a number to base 128, and the number that bytes begin with. Conditions: none. -/
set_option maxRecDepth 100000
namespace Go.Proofs.Ytcpfkinjglnabaa

/-- the digits of a number to base 128 -/
def dig (u : Nat) : List UInt8 := if h : u < 128 then [UInt8.ofNat u] else UInt8.ofNat (u % 128 + 128) :: dig (u / 128)
termination_by u
decreasing_by omega
theorem dig_lo {u : Nat} (h : u < 128) : dig u = [UInt8.ofNat u] := by rw [dig, dif_pos h]
theorem dig_hi {u : Nat} (h : ¬ u < 128) : dig u = UInt8.ofNat (u % 128 + 128) :: dig (u / 128) := by rw [dig, dif_neg h]
theorem dig_len (k : Nat) : ∀ u : Nat, u < 128 ^ k → (dig u).length ≤ k ∨ k = 0 := by
  induction k with
  | zero => intro u _; exact .inr rfl
  | succ k ih =>
    intro u hu
    by_cases h : u < 128
    · rw [dig_lo h]; exact .inl (by simp)
    · rw [dig_hi h]
      refine .inl ?_
      have h2 : u / 128 < 128 ^ k := by
        rw [Nat.div_lt_iff_lt_mul (by omega)]; rw [Nat.pow_succ] at hu; exact hu
      rcases ih _ h2 with h3 | rfl
      · simp; exact h3
      · simp at hu; omega
theorem dig_len10 {u : Nat} (hu : u < 18446744073709551616) : (dig u).length ≤ 10 := by
  rcases dig_len 10 u (by omega) with h | h
  · exact h
  · omega
theorem dig300 : dig 300 = [172, 2] := by
  rw [dig_hi (by omega), dig_lo (by omega)]; decide
end Go.Proofs.Ytcpfkinjglnabaa
/- Contracts of codec.put, codec.Put and talusref02.Put: the digits of a number behind bytes. Conditions: fewer than 2^43 bytes. -/
set_option maxRecDepth 100000
namespace Go.Proofs.Ytcpfkinjglnabaa
open Go.RowKit Go.Maps Go.Sort

theorem grown_trans {w w1 w2 : World} {r r' : Option Nat} (h : w.grownBy w1 r) (h2 : w1.grownBy w2 r') (hr : r' = r ∨ ∀ g, r' = some g → w.heap.size ≤ g) : w.grownBy w2 r :=
  ⟨h2.os.trans h.os, h2.tape.trans h.tape, h2.output.trans h.output, Nat.le_trans h.size h2.size, fun k hk hn =>
    (h2.block k (Nat.lt_of_lt_of_le hk h.size) (fun e => by
      rcases hr with hr | hr
      · exact hn (hr ▸ e)
      · have := hr k e.symm; omega)).trans (h.block k hk hn)⟩
theorem grown_alloc (w : World) (o : Obj) (r : Option Nat) : w.grownBy (w.alloc o) r :=
  ⟨rfl, rfl, rfl, by simp, fun k hk _ => Below.heap_alloc _ _ _ hk⟩
theorem grown_refl (w : World) (r : Option Nat) : w.grownBy w r := ⟨rfl, rfl, rfl, Nat.le_refl _, fun _ _ _ => rfl⟩

theorem put_step {w wr : World} {B : Nat} {v v' : Value} {ys : List UInt8} (h : wr.ownsRow B 5 1 v' ys.length (u8s ys) ∧ w.grownBy wr v.ownBlock ∧ (v'.ownBlock = v.ownBlock ∨ ∀ g, v'.ownBlock = some g → w.heap.size ≤ g)) (hB : B ≤ w.heap.size) (c : UInt8) (n : Int) (hn : n = (c.toNat : Int)) (hy : ys.length ≤ 17592186044100) :
    ∃ v2 w2, Hid (∀ ty, (Builtin.append_ #[68, 68] ty #[v', .slice (some ⟨wr.heap.size, 0, none⟩) 1 1]).run Try.prog (wr.alloc (.cells #[.int .u8 n] 5)) = .ok v2 w2) ∧
      Hid (w2.ownsRow B 5 1 v2 (ys ++ [c]).length (u8s (ys ++ [c])) ∧ w.grownBy w2 v.ownBlock ∧ (v2.ownBlock = v.ownBlock ∨ ∀ g, v2.ownBlock = some g → w.heap.size ≤ g)) := by
  obtain ⟨h1, h2, h3⟩ := h
  have hs := h2.size
  obtain ⟨v2, w2, r, o, g, b⟩ := app8 (h1.alloc (.cells #[.int .u8 n] 5)) (by simp; omega) (holds_one8 wr c n hn) (by simp; omega)
  refine ⟨v2, w2, r, o, ?_, ?_⟩
  · refine grown_trans (grown_trans h2 (grown_alloc wr _ none) (.inr (fun g e => by cases e))) g ?_
    exact h3
  · rcases b with b | b
    · rw [b]; exact h3
    · refine .inr (fun g e => ?_)
      rw [b] at e
      simp at e
      omega

set_option maxHeartbeats 800000 in
theorem put_any {w : World} {B : Nat} {v : Value} {xs : List UInt8} (hown : w.ownsRow B 5 1 v xs.length (u8s xs)) (hB : B ≤ w.heap.size) (u : Nat) (hu : u < 18446744073709551616) (hx : xs.length ≤ 17592186044000) :
    Calls Try.prog 73 #[v, .int .u64 (u : Int)] w fun e w' => ∃ v', e = .returned v' ∧ w'.ownsRow B 5 1 v' (xs ++ dig u).length (u8s (xs ++ dig u)) ∧ w.grownBy w' v.ownBlock ∧ (v'.ownBlock = v.ownBlock ∨ ∀ g, v'.ownBlock = some g → w.heap.size ≤ g) := by
  have HB := Lib.hid hB
  have HX := Lib.hid hx
  have HO := Lib.hid hown
  have HU := Lib.hid hu
  have HL := Lib.hid (dig_len10 hu)
  clear hB hx hown hu
  go_enter Try.func73, Try.ntmps73
  go_wp2_with fail
  go_loopw [0, 1] (fun v' i wr => ∃ (k : Nat) (ys : List UInt8), i = .int .u64 k ∧ k ≤ u ∧ Hid (ys ++ dig k = xs ++ dig u) ∧ Hid (wr.ownsRow B 5 1 v' ys.length (u8s ys) ∧ w.grownBy wr v.ownBlock ∧ (v'.ownBlock = v.ownBlock ∨ ∀ g, v'.ownBlock = some g → w.heap.size ≤ g))) (fun _ i _ => (intOf i).toNat)
  case atStart => exact ⟨u, xs, rfl, Nat.le_refl _, rfl, HO.out, grown_refl _ _, .inl rfl⟩
  case round =>
    obtain ⟨k, ys, rfl, hk, HD, HR⟩ := hrel
    have hk64 : k < 18446744073709551616 := by have := HU.out; omega
    have hy : ys.length ≤ 17592186044100 := by
      have e := congrArg List.length HD.out
      simp only [List.length_append] at e
      have := HX.out; have := HL.out; omega
    by_cases h : k < 128
    · have t1 : decide ((128 : Int) ≤ (k : Int)) = false := decide_eq_false (by omega)
      obtain ⟨v2, w2, HRUN, HR2⟩ := put_step HR.out HB.out (UInt8.ofNat k) (k : Int) (by simp; omega) hy
      have HE := Lib.hid (dig_lo h)
      clear hy
      go_wp2_with (at_builtin; refine wpList_append_run rfl _ _ 68 rfl rfl rfl (HRUN.out _) ?_)
      go_ret
      rw [← HD.out, HE.out]
      exact ⟨v2, rfl, HR2.out⟩
    · have t1 : decide ((128 : Int) ≤ (k : Int)) = true := decide_eq_true (by omega)
      obtain ⟨v2, w2, HRUN, HR2⟩ := put_step HR.out HB.out (UInt8.ofNat (k % 128 + 128)) _ (low_or128 k) hy
      have HE := Lib.hid (dig_hi h)
      clear hy
      go_wp2_with (at_builtin; refine wpList_append_run rfl _ _ 68 rfl rfl rfl (HRUN.out _) ?_)
      go_roundw
      case rel => exact ⟨k / 128, ys ++ [UInt8.ofNat (k % 128 + 128)], by go_num, by omega, Lib.hid (by rw [← HD.out, HE.out]; simp), HR2.out⟩
      case measure => simp [intOf]; omega

/-- Put: a copy with the digits behind it -/
theorem mk8 (w : World) (n m : Int) (k c : Nat) (hn : n = (k : Int)) (hm : m = (c : Int)) (hk : k ≤ c) (hc : c ≤ 17592186044416) :
    (Instr.makeSlice 68 (.int .i64 n) (.int .i64 m)).run Try.prog w = .ok (.slice (some ⟨w.heap.size, 0, none⟩) k c) (w.alloc (.cells (u8s (List.replicate c 0)).toArray 5)) := by
  obtain ⟨i, hi, hz0, hz1, hz2⟩ := info_parts info8
  subst hn hm
  have := run_make (P := Try.prog) w 68 5 i (.int .u8 0) Try.underlying68 hi hz0 .i64 .i64 (k : Int) c (by omega) (by omega) (by rw [hz2]; omega) (by omega)
  rw [this, hz1]
  simp only [Int.toNat_natCast, Nat.mul_one, Value.cells]
  have e : madeCells #[Value.int .u8 0] c = (u8s (List.replicate c 0)).toArray := by
    apply Array.toList_inj.1
    rw [toList_madeCells_one]
    simp [u8s]
  rw [e]

set_option maxHeartbeats 800000 in
theorem Put_any {w : World} {v : Value} {xs : List UInt8} (h : Holds w v (u8s xs)) (u : Nat) (hu : u < 18446744073709551616) (hx : xs.length ≤ 17592186044000) :
    Calls Try.prog 49 #[v, .int .u64 (u : Int)] w fun e w' => ∃ v', e = .returned v' ∧ w'.ownsRow w.heap.size 5 1 v' (xs ++ dig u).length (u8s (xs ++ dig u)) ∧ Below w.heap.size w w' := by
  obtain ⟨a, c, hv, hc⟩ := h.form
  rw [u8s_len] at hv hc
  subst hv
  have hmk := mk8 w 0 ((xs.length : Int) + 10) 0 (xs.length + 10) rfl (by omega) (by omega) (by omega)
  have hb1 := (Below.refl w.heap.size w).alloc (Nat.le_refl _) (.cells (u8s (List.replicate (xs.length + 10) 0)).toArray 5)
  have hr1 := World.ownsRow_made w (base := w.heap.size) (e := 5) (size := 1) (u8s (List.replicate (xs.length + 10) 0)).toArray (xs.length + 10) (Nat.le_refl _) (by unfold maxLen; omega) (by simp [u8s])
  generalize w.alloc (.cells (u8s (List.replicate (xs.length + 10) 0)).toArray 5) = w1 at *
  obtain ⟨v2, w2, r, o, g, b⟩ := app8 (xs := []) hr1 hb1.size (h.below hb1) (by simp; omega)
  have hb2 : Below w.heap.size w w2 := hb1.trans (below_grown g hb1.size (fun k e => by simp [Value.ownBlock] at e; omega))
  have hx2 : ([] ++ xs).length ≤ 17592186044000 := by simpa using hx
  have R := Lib.hid r
  have O := Lib.hid o
  have HB2 := Lib.hid hb2
  have HX2 := Lib.hid hx2
  have HU := Lib.hid hu
  clear h r o g b hb1 hr1 hb2 hx2 hu
  generalize xs.length = n at *
  go_enter Try.func49, Try.ntmps49
  go_wp2_with (at_builtin; refine wpList_append_run rfl _ _ 68 rfl rfl rfl (R.out _) ?_)
  refine (put_any O.out HB2.out.size u HU.out HX2.out).mono ?_
  rintro e w3 ⟨v3, rfl, o3, g3, b3⟩
  have O3 := Lib.hid o3
  have B3 := Lib.hid (HB2.out.trans (below_grown g3 HB2.out.size (fun k e => ownsRow_ge O.out k e)))
  clear o3 g3 b3
  go_wp2_with fail
  go_ret
  refine ⟨v3, rfl, ?_, B3.out⟩
  have := O3.out
  simpa using this

end Go.Proofs.Ytcpfkinjglnabaa
