/- Contract of the reference's Parse: what it keeps in memory. Conditions: none. -/
import Derived.Test.YtnljlbdecknbpaaWideR
import Derived.Test.YtnljlbdecknbpaaWideQ
import Derived.Test.YtnljlbdecknbpaaWideD
import Derived.Test.YtnljlbdecknbpaaWideH
import Derived.Test.YtnljlbdecknbpaaParse
set_option maxRecDepth 100000
namespace Go.Proofs.Ytnljlbdecknbpaa
open Go.RowKit

/-- the answer in the first of two new blocks, the number so far in the second -/
def PS (w wr : World) (X : Int) : Prop :=
  wr.heap[w.heap.size]? = some (.cells #[.int .i64 0, .int .u64 0] 24 (0, 0)) ∧ wr.heap[w.heap.size + 1]? = some (.cells #[.int .i64 (hiW X), .int .u64 (loW X)] 24 (0, 0)) ∧ Below w.heap.size w wr
theorem lt_of_heap {w : World} {g : Nat} {o : Obj} (h : w.heap[g]? = some o) : g < w.heap.size := by
  rcases Nat.lt_or_ge g w.heap.size with hlt | hge
  · exact hlt
  · rw [Array.getElem?_eq_none hge] at h; cases h
theorem PS.size {w wr : World} {X : Int} (h : PS w wr X) : w.heap.size + 1 < wr.heap.size := lt_of_heap h.2.1
theorem PS.next {w wr w1 : World} {X : Int} (h : PS w wr X) (hb : Below wr.heap.size wr w1) : PS w w1 X := by
  have hz := h.size
  exact ⟨by rw [hb.block _ (by omega)]; exact h.1, by rw [hb.block _ hz]; exact h.2.1, h.2.2.trans (hb.mono (by omega))⟩
theorem PS.cells {w wr : World} {X : Int} (h : PS w wr X) : wr.cell? ⟨w.heap.size + 1, 0, none⟩ = some (.int .i64 (hiW X)) ∧ wr.cell? ⟨w.heap.size + 1, 1, none⟩ = some (.int .u64 (loW X)) ∧ wr.frozen? ⟨w.heap.size + 1, 0, none⟩ = false ∧ wr.frozen? ⟨w.heap.size + 1, 1, none⟩ = false :=
  ⟨by rw [cell_of_row _ _ _ _ _ _ h.2.1]; rfl, by rw [cell_of_row _ _ _ _ _ _ h.2.1]; rfl, free_of_row h.2.1 0, free_of_row h.2.1 1⟩
theorem PS.res {w wr : World} {X : Int} (h : PS w wr X) : wr.cell? ⟨w.heap.size, 0, none⟩ = some (.int .i64 0) ∧ wr.cell? ⟨w.heap.size, 1, none⟩ = some (.int .u64 0) ∧ wr.frozen? ⟨w.heap.size, 0, none⟩ = false ∧ wr.frozen? ⟨w.heap.size, 1, none⟩ = false :=
  ⟨by rw [cell_of_row _ _ _ _ _ _ h.1]; rfl, by rw [cell_of_row _ _ _ _ _ _ h.1]; rfl, free_of_row h.1 0, free_of_row h.1 1⟩
theorem PS.store {w wr : World} {X : Int} (h : PS w wr X) (Y : Int) : PS w ((wr.setCell ⟨w.heap.size + 1, 0, none⟩ (.int .i64 (hiW Y))).setCell ⟨w.heap.size + 1, 1, none⟩ (.int .u64 (loW Y))) Y := by
  refine ⟨?_, ?_, (h.2.2.setCell (by simp) _).setCell (by simp) _⟩
  · rw [heap_far (by omega), heap_far (by omega)]; exact h.1
  · rw [heap_set (heap_set h.2.1 _)]; rfl
theorem PS.far {w wr : World} {X : Int} (h : PS w wr X) {b : Nat} (hb : w.heap.size + 1 < b) (u v : Value) : PS w ((wr.setCell ⟨b, 0, none⟩ u).setCell ⟨b, 1, none⟩ v) X := by
  refine ⟨?_, ?_, (h.2.2.setCell (by show w.heap.size ≤ b; omega) _).setCell (by show w.heap.size ≤ b; omega) _⟩
  · rw [heap_far (by omega), heap_far (by omega)]; exact h.1
  · rw [heap_far (by omega), heap_far (by omega)]; exact h.2.1
theorem PS.done {w wr : World} {X : Int} (h : PS w wr X) (u v : Value) : Below w.heap.size w ((wr.setCell ⟨w.heap.size, 0, none⟩ u).setCell ⟨w.heap.size, 1, none⟩ v) := (h.2.2.setCell (by simp) _).setCell (by simp) _
/-- beside it a third block with the ten-fold -/
def XS (w wr : World) (g : Nat) (W X : Int) : Prop := PS w wr W ∧ wr.heap[g]? = some (.cells #[.int .i64 (hiW X), .int .u64 (loW X)] 24 (0, 0)) ∧ w.heap.size + 1 < g
theorem XS.next {w wr w1 : World} {g : Nat} {W X : Int} (h : XS w wr g W X) (hb : Below wr.heap.size wr w1) : XS w w1 g W X :=
  ⟨h.1.next hb, by rw [hb.block _ (lt_of_heap h.2.1)]; exact h.2.1, h.2.2⟩
theorem XS.cells {w wr : World} {g : Nat} {W X : Int} (h : XS w wr g W X) : wr.cell? ⟨g, 0, none⟩ = some (.int .i64 (hiW X)) ∧ wr.cell? ⟨g, 1, none⟩ = some (.int .u64 (loW X)) ∧ wr.frozen? ⟨g, 0, none⟩ = false ∧ wr.frozen? ⟨g, 1, none⟩ = false :=
  ⟨by rw [cell_of_row _ _ _ _ _ _ h.2.1]; rfl, by rw [cell_of_row _ _ _ _ _ _ h.2.1]; rfl, free_of_row h.2.1 0, free_of_row h.2.1 1⟩
theorem XS.store {w wr : World} {g : Nat} {W X : Int} (h : XS w wr g W X) (Y : Int) : XS w ((wr.setCell ⟨g, 0, none⟩ (.int .i64 (hiW Y))).setCell ⟨g, 1, none⟩ (.int .u64 (loW Y))) g W Y :=
  ⟨h.1.far h.2.2 _ _, by rw [heap_set (heap_set h.2.1 _)]; rfl, h.2.2⟩
theorem XS.far {w wr : World} {g : Nat} {W X : Int} (h : XS w wr g W X) {b : Nat} (hb : g < b) (u v : Value) : XS w ((wr.setCell ⟨b, 0, none⟩ u).setCell ⟨b, 1, none⟩ v) g W X :=
  ⟨h.1.far (by have := h.2.2; omega) _ _, by rw [heap_far (by omega), heap_far (by omega)]; exact h.2.1, h.2.2⟩
theorem XS.new {w wr : World} {W : Int} (h : PS w wr W) : XS w (wr.alloc (.cells #[.int .i64 0, .int .u64 0] 24)) wr.heap.size W 0 :=
  ⟨h.next ((Below.refl _ _).alloc (Nat.le_refl _) _), alloc1 _ _, h.size⟩
theorem XS.alloc {w wr : World} {g : Nat} {W X : Int} (h : XS w wr g W X) (o : Obj) : XS w (wr.alloc o) g W X := h.next ((Below.refl _ _).alloc (Nat.le_refl _) o)
theorem parseP_no {l : List UInt8} {w w' : World} (hb : Below w.heap.size w w') (h : NoText l) : ParseP l w (.returned (.tuple #[.agg #[.int .i64 0, .int .u64 0], .bool false])) w' :=
  ⟨0, false, rfl, hb, (fun h => by cases h), fun _ => ⟨rfl, h⟩⟩
/-- what a number's text says -/
def YesP (l k : List UInt8) (neg : Bool) : Prop := ∀ N, fitW N = true → l = printL N → k = digs N.natAbs ∧ N = (if neg then -(N.natAbs : Int) else (N.natAbs : Int)) ∧ N.natAbs ≤ 170141183460469231731687303715884105728 ∧ (neg = false → N.natAbs < 170141183460469231731687303715884105728)
theorem yes_of {l k : List UInt8} {neg : Bool} (hc : Cut l k neg) : YesP l k neg := by
  intro N hf e
  have hf := fit_iff.1 hf
  rcases hc with ⟨rfl, hl⟩ | ⟨rfl, hl, hh⟩
  · rcases Int.lt_or_le N 0 with hm | hm
    · rw [print_neg hm, hl] at e
      exact ⟨(List.cons.inj e).2, by rw [if_pos rfl]; omega, by omega, fun h => by cases h⟩
    · rw [print_pos hm, hl] at e
      exact absurd (by rw [← e]; rfl) (digs_no45 N.natAbs)
  · rcases Int.lt_or_le N 0 with hm | hm
    · rw [print_neg hm] at e
      exact absurd (by rw [e]; rfl) hh
    · rw [print_pos hm, hl] at e
      exact ⟨e, by rw [if_neg (by decide)]; omega, by omega, fun _ => by omega⟩
/-- the number so far, with its sign -/
def sgI (neg : Bool) (v : Nat) : Int := if neg then -(v : Int) else (v : Int)
/-- what a round knows -/
def Knows (l k : List UInt8) (neg : Bool) (i : Nat) (W : Int) : Prop := fitW W = true ∧ ∀ N, fitW N = true → l = printL N → W = sgI neg (valD (k.take i))
theorem yes_fits {l k : List UInt8} {neg : Bool} (hy : YesP l k neg) {N : Int} (hf : fitW N = true) (e : l = printL N) {v : Nat} (hv : v ≤ valD k) : fitW (sgI neg v) = true := by
  obtain ⟨h1, _, h3, h4⟩ := hy N hf e
  have hk : valD k = N.natAbs := by rw [h1, digs_val]
  unfold sgI
  cases neg
  · rw [if_neg (by decide)]; have := h4 rfl; exact fit_iff.2 (by omega)
  · rw [if_pos rfl]; exact fit_iff.2 (by omega)
theorem sg_mul (neg : Bool) (j v : Nat) : (j : Int) * sgI neg v = sgI neg (j * v) := by
  unfold sgI; cases neg <;> simp [Int.mul_neg]
theorem sg_add (neg : Bool) (a b : Nat) : sgI neg a + sgI neg b = sgI neg (a + b) := by
  unfold sgI; cases neg <;> simp <;> omega
/-- a multiple of the number so far fits, if there is a number -/
theorem mul_fits {l k : List UInt8} {neg : Bool} (hy : YesP l k neg) {i : Nat} {W : Int} (hk : Knows l k neg i W) (hi : i < k.length) {j : Nat} (hj : j ≤ 10) {N : Int} (hf : fitW N = true) (e : l = printL N) : fitW ((j : Int) * W) = true := by
  rw [hk.2 N hf e, sg_mul]
  refine yes_fits hy hf e ?_
  have h1 := valD_take_succ k i hi
  have h2 := valD_mono k (i + 1)
  have h3 : j * valD (k.take i) ≤ 10 * valD (k.take i) := Nat.mul_le_mul_right _ hj
  omega
theorem next_knows {l k : List UInt8} {neg : Bool} {i d : Nat} {W : Int} (hk : Knows l k neg i W) (hi : i < k.length) (hd : k[i].toNat = 48 + d) (hf : fitW ((10 : Nat) * W + sgI neg d) = true) : Knows l k neg (i + 1) ((10 : Nat) * W + sgI neg d) := by
  refine ⟨hf, fun N hN e => ?_⟩
  rw [hk.2 N hN e, sg_mul, sg_add, valD_take_succ k i hi, hd, Nat.add_sub_cancel_left, Nat.mul_comm]
theorem next_fits {l k : List UInt8} {neg : Bool} (hy : YesP l k neg) {i d : Nat} {W : Int} (hk : Knows l k neg i W) (hi : i < k.length) (hd : k[i].toNat = 48 + d) {N : Int} (hf : fitW N = true) (e : l = printL N) : fitW ((10 : Nat) * W + sgI neg d) = true := by
  rw [hk.2 N hf e, sg_mul, sg_add]
  refine yes_fits hy hf e ?_
  have h1 := valD_take_succ k i hi
  have h2 := valD_mono k (i + 1)
  rw [hd, Nat.add_sub_cancel_left, Nat.mul_comm] at h1
  omega
theorem add_one_mul' (j : Nat) (W : Int) : (j : Int) * W + W = ((j + 1 : Nat) : Int) * W := by rw [Int.natCast_add, Int.add_mul]; simp
end Go.Proofs.Ytnljlbdecknbpaa
