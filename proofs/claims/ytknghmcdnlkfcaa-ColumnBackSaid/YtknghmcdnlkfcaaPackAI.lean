/- The texts PackPlain UnpackPlain RangeOps, one behind the other; each one's own comment says what it holds. -/
import Derived.Test.YtknghmcdnlkfcaaPackAH
import Derived.StillTailTactics
import Derived.BigRegion
/- Plain mathematics of packed numbers: the bytes of a great number, and what one more piece does to them. Conditions: none. -/
set_option maxRecDepth 100000
namespace Go.Proofs.Ytknghmcdnlkfcaa

/-- the lowest m bytes of N, the lowest first -/
def bytesN (m N : Nat) : List UInt8 := (List.range m).map fun j => UInt8.ofNat (N / 256 ^ j)
theorem bytesN_len (m N : Nat) : (bytesN m N).length = m := by simp [bytesN]
theorem bytesN_at (m N j : Nat) (h : j < m) : (bytesN m N)[j]'(by rw [bytesN_len]; exact h) = UInt8.ofNat (N / 256 ^ j) := by simp [bytesN]
theorem bytesN_zero (m : Nat) : bytesN m 0 = List.replicate m 0 := by
  apply List.ext_getElem
  · simp [bytesN]
  · intro j h1 h2; simp [bytesN]
theorem pow256 (j : Nat) : 256 ^ j = 2 ^ (8 * j) := by rw [show (256 : Nat) = 2 ^ 8 from rfl, ← Nat.pow_mul]
theorem ofNat_mod (a b : Nat) (h : a % 256 = b % 256) : UInt8.ofNat a = UInt8.ofNat b := by
  apply UInt8.toNat_inj.1; simp; exact h

theorem low_lt (N at' : Nat) (hN : N < 2 ^ at') : N / 256 ^ (at' / 8) < 2 ^ (at' % 8) := by
  rw [pow256, Nat.div_lt_iff_lt_mul (Nat.two_pow_pos _), ← Nat.pow_add]
  rwa [show at' % 8 + 8 * (at' / 8) = at' by omega]

theorem bytes_or (m N at' c : Nat) (hN : N < 2 ^ at') (hc : c < 2 ^ (8 - at' % 8)) :
    (bytesN m N).set (at' / 8) (UInt8.ofNat (N / 256 ^ (at' / 8) + c * 2 ^ (at' % 8))) = bytesN m (N + c * 2 ^ at') := by
  apply List.ext_getElem
  · simp [bytesN]
  · intro j h1 h2
    have hj : j < m := by simpa [bytesN] using h2
    rw [List.getElem_set]
    by_cases h : at' / 8 = j
    · rw [if_pos h]
      subst h
      rw [bytesN_at _ _ _ hj]
      congr 1
      rw [pow256]
      have e : c * 2 ^ at' = (c * 2 ^ (at' % 8)) * 2 ^ (8 * (at' / 8)) := by
        rw [Nat.mul_assoc, ← Nat.pow_add, show at' % 8 + 8 * (at' / 8) = at' by omega]
      rw [e, Nat.add_mul_div_right _ _ (Nat.two_pow_pos _)]
    · rw [if_neg h, bytesN_at _ _ _ hj, bytesN_at _ _ _ hj]
      by_cases hlt : j < at' / 8
      · apply ofNat_mod
        rw [pow256]
        have e : c * 2 ^ at' = (c * 2 ^ (at' - 8 * j - 8) * 256) * 2 ^ (8 * j) := by
          rw [Nat.mul_assoc, Nat.mul_assoc, show (256 : Nat) = 2 ^ 8 from rfl, ← Nat.pow_add, ← Nat.pow_add, show at' - 8 * j - 8 + (8 + 8 * j) = at' by omega]
        rw [e, Nat.add_mul_div_right _ _ (Nat.two_pow_pos _)]
        omega
      · have hp : at' + (8 - at' % 8) ≤ 8 * j := by omega
        have h3 : N + c * 2 ^ at' < 2 ^ (8 * j) := by
          have h4 : (c + 1) * 2 ^ at' ≤ 2 ^ (8 - at' % 8) * 2 ^ at' := Nat.mul_le_mul_right _ hc
          rw [← Nat.pow_add, Nat.add_mul, Nat.one_mul] at h4
          have h5 : 2 ^ (8 - at' % 8 + at') ≤ 2 ^ (8 * j) := Nat.pow_le_pow_right (by omega) (by omega)
          omega
        rw [pow256, Nat.div_eq_of_lt h3, Nat.div_eq_of_lt (by omega)]

/-- numbers of w bits each, one behind the other -/
def bigN (w : Nat) : List Nat → Nat
  | [] => 0
  | u :: r => u + 2 ^ w * bigN w r
theorem bigN_snoc (w : Nat) (l : List Nat) (u : Nat) : bigN w (l ++ [u]) = bigN w l + u * 2 ^ (w * l.length) := by
  induction l with
  | nil => simp [bigN]
  | cons x r ih =>
    rw [List.cons_append, bigN, ih, bigN, List.length_cons, Nat.mul_succ, Nat.pow_add, Nat.mul_add]
    rw [Nat.add_assoc]
    congr 2
    rw [Nat.mul_comm (2 ^ w), Nat.mul_assoc]
theorem bigN_lt (w : Nat) (l : List Nat) (h : ∀ u ∈ l, u < 2 ^ w) : bigN w l < 2 ^ (w * l.length) := by
  induction l with
  | nil => simp [bigN]
  | cons x r ih =>
    rw [bigN, List.length_cons, Nat.mul_succ, Nat.pow_add, Nat.mul_comm (2 ^ (w * r.length))]
    have h1 := h x List.mem_cons_self
    have h2 := ih (fun u hu => h u (List.mem_cons_of_mem _ hu))
    have h3 : 2 ^ w * (bigN w r + 1) ≤ 2 ^ w * 2 ^ (w * r.length) := Nat.mul_le_mul_left _ h2
    rw [Nat.mul_add, Nat.mul_one] at h3
    omega

theorem steps_get (f w : Nat) : ∀ (k d0 d at' : Nat), (stepsL f w d0)[k]? = some (d, at') → at' = f + d ∧ d < w ∧ (stepsL f w d0)[k + 1]? = (if d + (8 - (f + d) % 8) < w then some (d + (8 - (f + d) % 8), f + (d + (8 - (f + d) % 8))) else none) := by
  intro k
  induction k with
  | zero =>
    intro d0 d at' h
    by_cases hd : d0 < w
    · rw [steps_in hd] at h ⊢
      simp at h
      obtain ⟨rfl, rfl⟩ := h
      refine ⟨rfl, hd, ?_⟩
      simp only [Nat.zero_add, List.getElem?_cons_succ]
      split
      · rename_i h2; rw [steps_in h2]; rfl
      · rename_i h2; rw [steps_out h2]; rfl
    · rw [steps_out hd] at h; cases h
  | succ k ih =>
    intro d0 d at' h
    by_cases hd : d0 < w
    · rw [steps_in hd] at h ⊢
      simp only [List.getElem?_cons_succ] at h ⊢
      exact ih _ _ _ h
    · rw [steps_out hd] at h; cases h

/-- how many bits are done ahead of step k -/
def doneAt (f w k : Nat) : Nat := (((stepsL f w 0)[k]?).map (·.1)).getD 64
theorem doneAt_zero (f w u : Nat) (hu : u < 2 ^ w) : u % 2 ^ (doneAt f w 0) = 0 ∨ (w = 0 ∧ u = 0) := by
  unfold doneAt
  by_cases h : 0 < w
  · rw [steps_in h]; exact .inl (by simp; omega)
  · exact .inr ⟨by omega, by rw [show w = 0 by omega] at hu; simpa using hu⟩
theorem doneAt_end (f w k : Nat) (h : (stepsL f w 0).length ≤ k) : doneAt f w k = 64 := by
  unfold doneAt; rw [List.getElem?_eq_none h]; rfl
theorem doneAt_step (f w u k d at' : Nat) (hw : w ≤ 64) (hu : u < 2 ^ w) (h : (stepsL f w 0)[k]? = some (d, at')) : doneAt f w k = d ∧ at' = f + d ∧ d < w ∧ u % 2 ^ (doneAt f w (k + 1)) = u % 2 ^ (d + (8 - at' % 8)) := by
  obtain ⟨rfl, h2, h3⟩ := steps_get f w k 0 d at' h
  refine ⟨by unfold doneAt; rw [h]; rfl, rfl, h2, ?_⟩
  unfold doneAt
  rw [h3]
  split
  · rfl
  · rename_i hge
    have h1 : u < 2 ^ (d + (8 - (f + d) % 8)) := Nat.lt_of_lt_of_le hu (Nat.pow_le_pow_right (by omega) (by omega))
    have h2 : u < 2 ^ 64 := Nat.lt_of_lt_of_le hu (Nat.pow_le_pow_right (by omega) hw)
    simp only [Option.map_none, Option.getD_none]
    rw [Nat.mod_eq_of_lt h1, Nat.mod_eq_of_lt h2]

theorem mod_split (u d e : Nat) : u % 2 ^ (d + e) = u % 2 ^ d + (u / 2 ^ d % 2 ^ e) * 2 ^ d := by
  rw [Nat.pow_add, Nat.mod_mul, Nat.mul_comm (2 ^ d)]

/-- one step: what is there, the byte that is stored, and what is there then -/
theorem pack_step (m P f u d : Nat) (hP : P < 2 ^ f) (old : Nat) (hold : old = (P + u % 2 ^ d * 2 ^ f) / 256 ^ ((f + d) / 8)) :
    old < 2 ^ ((f + d) % 8) ∧ (bytesN m (P + u % 2 ^ d * 2 ^ f)).set ((f + d) / 8) (UInt8.ofNat (old + (u / 2 ^ d % 2 ^ (8 - (f + d) % 8)) * 2 ^ ((f + d) % 8))) = bytesN m (P + u % 2 ^ (d + (8 - (f + d) % 8)) * 2 ^ f) := by
  have hN : P + u % 2 ^ d * 2 ^ f < 2 ^ (f + d) := by
    have h1 : u % 2 ^ d < 2 ^ d := Nat.mod_lt _ (Nat.two_pow_pos _)
    have h2 : (u % 2 ^ d + 1) * 2 ^ f ≤ 2 ^ d * 2 ^ f := Nat.mul_le_mul_right _ h1
    rw [Nat.add_mul, Nat.one_mul, ← Nat.pow_add, Nat.add_comm d f] at h2
    omega
  refine ⟨by rw [hold]; exact low_lt _ _ hN, ?_⟩
  rw [hold, bytes_or m _ _ _ hN (Nat.mod_lt _ (Nat.two_pow_pos _)), mod_split u d, Nat.add_mul, Nat.mul_assoc, ← Nat.pow_add, Nat.add_comm d f, Nat.add_assoc]
/-- the byte that a step stores -/
theorem pack_or (x old r : Nat) (hr : r < 8) (hold : old < 2 ^ r) : IntKind.u8.wrap (((x % 256 : Nat) : Int) * 2 ^ r) = ((x % 2 ^ (8 - r) * 2 ^ r : Nat) : Int) ∧
    bits .or .u8 (old : Int) ((x % 2 ^ (8 - r) * 2 ^ r : Nat) : Int) = ((UInt8.ofNat (old + x % 2 ^ (8 - r) * 2 ^ r)).toNat : Int) := by
  have h8 : 2 ^ (8 - r) * 2 ^ r = 256 := by rw [← Nat.pow_add, show 8 - r + r = 8 by omega]
  have h1 : x % 2 ^ (8 - r) * 2 ^ r = x * 2 ^ r % 256 := by rw [← h8, Nat.mul_mod_mul_right]
  have h2 : x % 2 ^ (8 - r) * 2 ^ r + 2 ^ r ≤ 256 := by
    have := Nat.mul_le_mul_right (2 ^ r) (show x % 2 ^ (8 - r) + 1 ≤ 2 ^ (8 - r) from Nat.mod_lt _ (Nat.two_pow_pos _))
    rw [h8, Nat.add_mul, Nat.one_mul] at this
    exact this
  constructor
  · have e : x % 256 * 2 ^ r % 256 = x % 2 ^ (8 - r) * 2 ^ r := by rw [h1, Nat.mod_mul_mod]
    have : ((x % 256 : Nat) : Int) * 2 ^ r = ((x % 256 * 2 ^ r : Nat) : Int) := by simp
    rw [IntKind.wrap_u8, this, ← e]
    omega
  · have hp := Nat.two_pow_pos r
    rw [or_u8 _ _ (by omega) (by omega)]
    have e : old ||| x % 2 ^ (8 - r) * 2 ^ r = old + x % 2 ^ (8 - r) * 2 ^ r := by
      rw [Nat.or_comm, Nat.mul_comm, ← Nat.two_pow_add_eq_or_of_lt hold, Nat.add_comm]
    rw [e]
    generalize x % 2 ^ (8 - r) * 2 ^ r = z at *
    simp
    omega
end Go.Proofs.Ytknghmcdnlkfcaa
/- Plain mathematics of packed numbers, read: the number that bytes are, and its pieces. Conditions: none. -/
set_option maxRecDepth 100000
namespace Go.Proofs.Ytknghmcdnlkfcaa

/-- the number whose bytes these are, the lowest first -/
def numB : List UInt8 → Nat
  | [] => 0
  | c :: r => c.toNat + 256 * numB r
theorem numB_lt (l : List UInt8) : numB l < 256 ^ l.length := by
  induction l with
  | nil => simp [numB]
  | cons c r ih =>
    have := c.toNat_lt
    rw [numB, List.length_cons, Nat.pow_succ]
    omega
theorem numB_at (l : List UInt8) : ∀ (j : Nat) (h : j < l.length), l[j].toNat = numB l / 256 ^ j % 256 := by
  induction l with
  | nil => intro j h; cases h
  | cons c r ih =>
    intro j h
    have hc := c.toNat_lt
    cases j with
    | zero => simp [numB]
    | succ j =>
      rw [List.getElem_cons_succ, ih j (by simpa using h), numB, Nat.pow_succ, Nat.mul_comm (256 ^ j), ← Nat.div_div_eq_div_mul]
      congr 2
      omega
theorem numB_bytes (m N : Nat) (h : N < 256 ^ m) : numB (bytesN m N) = N := by
  have key : ∀ (m N : Nat), N < 256 ^ m → numB (bytesN m N) = N := by
    intro m
    induction m with
    | zero => intro N h; simp at h; subst h; rfl
    | succ m ih =>
      intro N h
      have e : bytesN (m + 1) N = UInt8.ofNat N :: bytesN m (N / 256) := by
        apply List.ext_getElem
        · simp [bytesN]
        · intro j h1 h2
          have hj : j < m + 1 := by simpa [bytesN] using h1
          rw [bytesN_at _ _ _ hj]
          cases j with
          | zero => simp
          | succ j =>
            rw [List.getElem_cons_succ, bytesN_at _ _ _ (by omega), Nat.pow_succ, Nat.mul_comm (256 ^ j), ← Nat.div_div_eq_div_mul]
      rw [e, numB, ih (N / 256) (by rw [Nat.div_lt_iff_lt_mul (by omega)]; rwa [Nat.pow_succ] at h)]
      simp
      omega
  exact key m N h

/-- the piece of 8 - at % 8 bits from bit at on -/
theorem piece_eq (N at' : Nat) : N / 256 ^ (at' / 8) % 256 / 2 ^ (at' % 8) = N / 2 ^ at' % 2 ^ (8 - at' % 8) := by
  have h1 : (256 : Nat) = 2 ^ (at' % 8) * 2 ^ (8 - at' % 8) := by rw [← Nat.pow_add, show at' % 8 + (8 - at' % 8) = 8 by omega]
  have h2 : N / 2 ^ at' = N / 256 ^ (at' / 8) / 2 ^ (at' % 8) := by
    rw [pow256, Nat.div_div_eq_div_mul, ← Nat.pow_add, show 8 * (at' / 8) + at' % 8 = at' by omega]
  rw [h2]
  generalize N / 256 ^ (at' / 8) = x
  conv => lhs; rw [h1]
  rw [Nat.mod_mul_right_div_self]

/-- one step of reading a number: bits d on -/
theorem unpack_step (N f d : Nat) (hd : d < 64) :
    (N / 2 ^ f % 2 ^ d % 2 ^ 64) ||| (N / 2 ^ (f + d) % 2 ^ (8 - (f + d) % 8) * 2 ^ d % 2 ^ 64) = N / 2 ^ f % 2 ^ (d + (8 - (f + d) % 8)) % 2 ^ 64 := by
  have h1 : N / 2 ^ f % 2 ^ d < 2 ^ d := Nat.mod_lt _ (Nat.two_pow_pos _)
  have h2 : 2 ^ d ≤ 2 ^ 63 := Nat.pow_le_pow_right (by omega) (by omega)
  rw [Nat.mod_eq_of_lt (show N / 2 ^ f % 2 ^ d < 2 ^ 64 by omega)]
  have h3 : N / 2 ^ (f + d) = N / 2 ^ f / 2 ^ d := by rw [Nat.pow_add, Nat.div_div_eq_div_mul]
  rw [mod_split, h3]
  generalize hy : N / 2 ^ f / 2 ^ d % 2 ^ (8 - (f + d) % 8) = y
  generalize hx : N / 2 ^ f % 2 ^ d = x at *
  have h4 : y * 2 ^ d % 2 ^ 64 = (y % 2 ^ (64 - d)) * 2 ^ d := by
    have e : (2 : Nat) ^ 64 = 2 ^ (64 - d) * 2 ^ d := by rw [← Nat.pow_add, show 64 - d + d = 64 by omega]
    rw [e, Nat.mul_mod_mul_right]
  have h5 : (x + y * 2 ^ d) % 2 ^ 64 = x + (y % 2 ^ (64 - d)) * 2 ^ d := by
    rw [← h4]
    have h6 : y * 2 ^ d % 2 ^ 64 + 2 ^ d ≤ 2 ^ 64 := by
      have e : (2 : Nat) ^ 64 = 2 ^ (64 - d) * 2 ^ d := by rw [← Nat.pow_add, show 64 - d + d = 64 by omega]
      rw [h4]
      have := Nat.mul_le_mul_right (2 ^ d) (show y % 2 ^ (64 - d) + 1 ≤ 2 ^ (64 - d) from Nat.mod_lt _ (Nat.two_pow_pos _))
      rw [← e, Nat.add_mul, Nat.one_mul] at this
      exact this
    omega
  rw [h4, h5, Nat.or_comm, Nat.mul_comm, ← Nat.two_pow_add_eq_or_of_lt h1, Nat.add_comm, Nat.mul_comm]
end Go.Proofs.Ytknghmcdnlkfcaa
/- A region of a round's body, walked as outside of rounds: what the plain walk of any order says holds in a round. Conditions: the region defers nothing. -/
set_option maxRecDepth 100000
namespace Go.Proofs.Ytknghmcdnlkfcaa
open Go.RowKit

theorem heap_grown {X Y : World} {row : Option Nat} (hg : X.grownBy Y row) {S k : Nat} {o : Obj} (hk : X.heap[k]? = some o) (hS : k < S) (hr : ∀ r, row = some r → S ≤ r) : Y.heap[k]? = some o :=
  (hg.block k (Array.getElem?_eq_some_iff.1 hk).1 (fun e => by have := hr k e.symm; omega)).trans hk

theorem heap_other {X : World} {g j k : Nat} {v : Value} {o : Obj} (h : X.heap[k]? = some o) (hne : k ≠ g) : (X.setCell ⟨g, j, none⟩ v).heap[k]? = some o :=
  (Below.heap_setCell X ⟨g, j, none⟩ v k hne).trans h

/-- the wide fence, at a frame of this round (or of none) -/
abbrev wideAt (ro : Option Nat) : Fence := { Fence.wide with round := ro }

theorem uponIn_of_upon {P : Program} {ro : Option Nat} {o : Oper} {a : Act} {K K' : Act → World → Prop} (hK : ∀ a w, K a w → K' a w) {Q : Exit → Act → World → Prop} {r : Result Next} (h : o.upon P a K Q r) : o.uponIn (wideAt ro) 0 P a K' Q r := by
  unfold Oper.upon at h
  split at h
  · exact hK _ _ h
  · exact hK _ _ h
  · exact hK _ _ h
  · refine ⟨(fun h => nomatch h), (callsIn_wide.2 h).mono ?_⟩
    intro e w' hr
    cases e with
    | returned v => exact hK _ _ hr
    | panicked ch => exact hr
    | outgrown => exact hr
  · refine ⟨(fun h => nomatch h), fun c cs _ => ?_⟩
    obtain ⟨v, w', r, s⟩ := h c cs
    exact ⟨v, w', hK _ _ r, stepsIn_wide.2 s⟩
  · exact h
  · exact h.elim

theorem opsIn_of_ops {P : Program} {ro : Option Nat} {ops : Array Oper} (hd : ro = none ∨ ∀ (i : Nat) (o : Oper) c, ops[i]? = some o → o.op ≠ .defer c) {Q : Exit → Act → World → Prop} (hno : ¬ LetsOut Q) :
    ∀ (L : List Nat) (a : Act) (w : World), wpOps P ops Q L a w → wpOpsIn (wideAt ro) 0 P ops Q L a w := by
  intro L
  induction L with
  | nil => exact fun a w h => h
  | cons i rest ih =>
    intro a w h
    simp only [wpOps] at h
    simp only [wpOpsIn]
    cases ho : ops[i]? with
    | none => simp only [ho] at h ⊢; exact ih _ _ h
    | some o =>
      simp only [ho] at h ⊢
      split
      · rename_i hw
        simp only [hw, if_true] at h
        rcases h with h | h
        · refine ⟨fun _ _ => trivial, ?_⟩
          have e : o.semAt ro a.eval = execOp a.eval o := by
            rcases hd with rfl | hd
            · rfl
            · exact Oper.semAt_eq _ _ _ (fun c => hd i o c ho)
          show o.uponIn (wideAt ro) 0 P a _ Q ((o.semAt ro a.eval).run P w)
          rw [e]
          exact uponIn_of_upon ih h
        · exact absurd h.2 hno
      · rename_i hw
        simp only [hw] at h
        exact ⟨fun _ _ => trivial, ih _ _ h⟩

theorem round_region_any {P : Program} {l0 id : Nat} {ops : Array Oper} {Q : Exit → Act → World → Prop} {a : Act} {w : World} (hm : P.follows .mixedOrders = true) (hd : ops.all (fun o => match o.op with | .defer _ => false | _ => true) = true) (hno : ¬ LetsOut Q)
    (h : wpAny P .any ops Q ops.size (Array.replicate ops.size false) a { w with drawn := w.drawn + 1 }) : (Code.region id ops true).wpIn (Fence.wide.inRound l0) 0 P Q a w :=
  wpIn_region_draw fun t => by
    simp only [Region.schedule, hm, Bool.true_or, if_true]
    refine opsIn_of_ops (ro := some l0) (.inr (fun i o c ho e => ?_)) hno _ _ _ (wpAny_sound ops.size t _ a _ h)
    obtain ⟨hi, rfl⟩ := Array.getElem?_eq_some_iff.1 ho
    have := Array.all_eq_true.1 hd i hi
    rw [e] at this
    cases this

theorem still_tail_any {P : Program} {Q : Exit → Act → World → Prop} {a : Act} {w : World} {l : List Oper} (n : Nat) (hB : Region.lexTailB .any l.toArray n = true)
    (h : wpStill P l.toArray { w with drawn := w.drawn + 1 } (fun a' => wpList P l.toArray Q (l.drop n) a' { w with drawn := w.drawn + 1 }) (l.take n) a) : wpAny P .any l.toArray Q l.toArray.size (Array.replicate l.toArray.size false) a { w with drawn := w.drawn + 1 } := by
  simp only [Region.lexTailB, Bool.and_eq_true, decide_eq_true_eq] at hB
  obtain ⟨⟨⟨⟨hsel, hn⟩, hs⟩, hc⟩, hlex⟩ := hB
  have hn' : n < l.length := by simpa using hn
  have htl : (l.take n).length = n := by simp; omega
  have hdl : (l.drop n).length = l.toArray.size - n := by simp
  have inv0 : HeadInv .any l.toArray n (Array.replicate l.toArray.size false) :=
    ⟨by simp, fun j oj _ hl => (by rw [getD_replicate_false] at hl; cases hl), fun t _ ht => getD_in (by simpa using ht) (getD_replicate_false _ _)⟩
  have H := wpAnyL_lex (md := .any) (g := l.toArray.size - n) hsel hs hc hn (l.take n) 0 _ a (fun j hj => by
    have hj' : j < n := by rw [htl] at hj; exact hj
    simp [hj']) (by simpa using htl) inv0 (by rw [htl]; exact hlex) h
  have := wpAny_of_head (Q' := Q) (g := l.toArray.size - n) (fun listed a' hL => by
    have := wpAny_of_seq (md := .any) (Q' := Q) (l.drop n) n listed a' { w with drawn := w.drawn + 1 } (fun j => by simp [List.getElem?_drop]) (by rw [hdl]; exact hL.1) hL.2
    rwa [hdl] at this) _ _ _ H
  rw [htl, show n + (l.toArray.size - n) = l.toArray.size by omega] at this
  exact this

/-- reads ahead of one store, in a round -/
theorem round_still_tail {P : Program} {l0 id : Nat} {Q : Exit → Act → World → Prop} {a : Act} {w : World} {l : List Oper} (n : Nat) (hm : P.follows .mixedOrders = true) (hd : l.toArray.all (fun o => match o.op with | .defer _ => false | _ => true) = true) (hno : ¬ LetsOut Q) (hB : Region.lexTailB .any l.toArray n = true)
    (h : wpStill P l.toArray { w with drawn := w.drawn + 1 } (fun a' => wpList P l.toArray Q (l.drop n) a' { w with drawn := w.drawn + 1 }) (l.take n) a) : (Code.region id l.toArray true).wpIn (Fence.wide.inRound l0) 0 P Q a w :=
  round_region_any hm hd hno (still_tail_any n hB h)
/-- reads ahead of one store, in a frame outside of rounds, inside the wide fence -/
theorem wide_still_tail {P : Program} {id : Nat} {Q : Exit → Act → World → Prop} {a : Act} {w : World} {l : List Oper} (n : Nat) (hm : P.follows .mixedOrders = true) (hno : ¬ LetsOut Q) (hB : Region.lexTailB .any l.toArray n = true)
    (h : wpStill P l.toArray { w with drawn := w.drawn + 1 } (fun a' => wpList P l.toArray Q (l.drop n) a' { w with drawn := w.drawn + 1 }) (l.take n) a) : (Code.region id l.toArray true).wpIn Fence.wide 0 P Q a w :=
  wpIn_region_draw fun t => by
    simp only [Region.schedule, hm, Bool.true_or, if_true]
    exact opsIn_of_ops (ro := none) (.inl rfl) hno _ _ _ (wpAny_sound l.toArray.size t _ a _ (still_tail_any n hB h))
end Go.Proofs.Ytknghmcdnlkfcaa
