/- Contract of talusref01.Lend: a copy of the bytes in the middle of a new block. Conditions: at most 100000 bytes. -/
import Derived.Test.YtbijpjoljljlpaaTells
set_option maxRecDepth 100000
namespace Go.Proofs.Ytbijpjoljljlpaa
open Go.RowKit Go.Maps Go.Sort

/-- the block behind k rounds -/
def lendL (l : List UInt8) (k : Nat) : List UInt8 := 165 :: (l.take k ++ List.replicate (l.length - k) 0) ++ [90]
theorem lendL_len (l : List UInt8) {k : Nat} (h : k ≤ l.length) : (lendL l k).length = l.length + 2 := by
  unfold lendL; simp; omega
theorem lendL_step (l : List UInt8) {k : Nat} (h : k < l.length) : (lendL l k).set (k + 1) l[k] = lendL l (k + 1) := by
  unfold lendL
  rw [List.cons_append, List.set_cons_succ]
  congr 1
  rw [List.set_append_left _ _ (by simp; omega), List.set_append_right _ _ (by simp; omega)]
  congr 1
  rw [List.length_take, Nat.min_eq_left (by omega), Nat.sub_self, show l.length - k = (l.length - (k + 1)) + 1 by omega, List.replicate_succ, List.set_cons_zero, List.take_succ_eq_append_getElem h, List.append_assoc]
  rfl

theorem made_u8s (n : Nat) : madeCells #[Value.int .u8 0] n = (u8s (List.replicate n 0)).toArray := by
  apply Array.toList_inj.1
  rw [toList_madeCells_one]
  simp [u8s]
theorem set_u8s {w : World} {g j : Nat} {xs : List UInt8} (h : w.heap[g]? = some (.cells (u8s xs).toArray 5 (0, 0))) (c : UInt8) : (w.setCell ⟨g, j, none⟩ (.int .u8 (c.toNat : Int))).heap[g]? = some (.cells (u8s (xs.set j c)).toArray 5 (0, 0)) := by
  rw [heap_set h]
  congr 2
  apply Array.toList_inj.1
  simp [u8s, List.map_set]
theorem lend_zero (l : List UInt8) : ((List.replicate (l.length + 2) (0 : UInt8)).set 0 165).set (l.length + 1) 90 = lendL l 0 := by
  unfold lendL
  rw [List.replicate_succ, List.set_cons_zero, List.set_cons_succ, List.replicate_succ', List.set_append_right _ _ (by simp)]
  simp
theorem cell_u8s {w : World} {g j : Nat} {xs : List UInt8} (h : w.heap[g]? = some (.cells (u8s xs).toArray 5 (0, 0))) (hj : j < xs.length) : w.cell? ⟨g, j, none⟩ = some (.int .u8 (xs[j].toNat : Int)) := by
  rw [cell_of_row _ _ _ _ _ _ h]
  simp [u8s, hj]
theorem mk_u8s (w : World) (n : Nat) (hn : n ≤ 100002) :
    (Instr.makeSlice 28 (.int .i64 (n : Int)) (.int .i64 (n : Int))).run Try.prog w = .ok (.slice (some ⟨w.heap.size, 0, none⟩) n n) (w.alloc (.cells (u8s (List.replicate n 0)).toArray 5)) := by
  obtain ⟨i, hi, hz0, hz1, hz2⟩ := info_parts info8
  have := run_make (P := Try.prog) w 28 5 i (.int .u8 0) Try.underlying28 hi hz0 .i64 .i64 (n : Int) n (by omega) (by omega) (by rw [hz2]; omega) (by omega)
  rw [this, hz1]
  simp only [Int.toNat_natCast, Nat.mul_one, Value.cells]
  rw [made_u8s]

theorem lendL_full (l : List UInt8) : lendL l l.length = 165 :: l ++ [90] := by
  unfold lendL; simp

/-- the middle of the block that Lend made -/
theorem lend_mid {w : World} {g : Nat} {l : List UInt8} (h : w.heap[g]? = some (.cells (u8s (lendL l l.length)).toArray 5 (0, 0))) : Holds w (.slice (some ⟨g, 1, none⟩) l.length (l.length + 1)) (u8s l) := by
  refine ⟨some ⟨g, 1, none⟩, _, by rw [u8s_len], by rw [u8s_len]; omega, .inr ⟨_, rfl, fun j u hj => ?_⟩⟩
  have hjl : j < l.length := by
    have := (List.getElem?_eq_some_iff.1 hj).1
    simpa [u8s] using this
  have hc := cell_u8s (j := 1 + j) h (by rw [lendL_len l (Nat.le_refl _)]; omega)
  have e : (lendL l l.length)[1 + j]'(by rw [lendL_len l (Nat.le_refl _)]; omega) = l[j] := by
    simp only [lendL_full]
    simp [Nat.add_comm 1 j, hjl]
  rw [e] at hc
  simp [u8s, hjl] at hj
  rw [← hj]
  rw [show (Addr.add ⟨g, 1, none⟩ j : Addr) = ⟨g, 1 + j, none⟩ by simp [Addr.add]]
  exact hc

end Go.Proofs.Ytbijpjoljljlpaa
