/- Contract of talusref01.Lend: a copy of the bytes in the middle of a new block. Conditions: at most 100000 bytes. -/
import Derived.Test.YtddhhgbbeeeieaaVfsRefG
set_option maxRecDepth 100000
namespace Go.Proofs.Ytddhhgbbeeeieaa
open Go.RowKit Go.Maps Go.Sort

/-- the block behind k rounds -/
def lendL (l : List UInt8) (k : Nat) : List UInt8 := 165 :: (l.take k ++ List.replicate (l.length - k) 0) ++ [90]
theorem lendL_len (l : List UInt8) {k : Nat} (h : k ≤ l.length) : (lendL l k).length = l.length + 2 := by
  unfold lendL; simp; omega
theorem lendL_step (l : List UInt8) {k : Nat} (h : k < l.length) : (lendL l k).set (k + 1) l[k] = lendL l (k + 1) := by
  unfold lendL
  rw [List.cons_append, List.set_cons_succ]
  congr 1
  rw [List.set_append_left _ _ (by simp; omega), List.set_append_right _ _ (by simp; omega)]
  congr 1
  rw [List.length_take, Nat.min_eq_left (by omega), Nat.sub_self, show l.length - k = (l.length - (k + 1)) + 1 by omega, List.replicate_succ, List.set_cons_zero, List.take_succ_eq_append_getElem h, List.append_assoc]
  rfl

theorem made_u8s (n : Nat) : madeCells #[Value.int .u8 0] n = (u8s (List.replicate n 0)).toArray := by
  apply Array.toList_inj.1
  rw [toList_madeCells_one]
  simp [u8s]
theorem set_u8s {w : World} {g j : Nat} {xs : List UInt8} (h : w.heap[g]? = some (.cells (u8s xs).toArray 5 (0, 0))) (c : UInt8) : (w.setCell ⟨g, j, none⟩ (.int .u8 (c.toNat : Int))).heap[g]? = some (.cells (u8s (xs.set j c)).toArray 5 (0, 0)) := by
  rw [heap_setCell_same h]
  congr 2
  apply Array.toList_inj.1
  simp [u8s, List.map_set]
theorem lend_zero (l : List UInt8) : ((List.replicate (l.length + 2) (0 : UInt8)).set 0 165).set (l.length + 1) 90 = lendL l 0 := by
  unfold lendL
  rw [List.replicate_succ, List.set_cons_zero, List.set_cons_succ, List.replicate_succ', List.set_append_right _ _ (by simp)]
  simp
theorem cell_u8s {w : World} {g j : Nat} {xs : List UInt8} (h : w.heap[g]? = some (.cells (u8s xs).toArray 5 (0, 0))) (hj : j < xs.length) : w.cell? ⟨g, j, none⟩ = some (.int .u8 (xs[j].toNat : Int)) := by
  rw [cell_of_row _ _ _ _ _ _ h]
  simp [u8s, hj]
theorem mk_u8s (w : World) (n : Nat) (hn : n ≤ 100002) :
    (Instr.makeSlice 30 (.int .i64 (n : Int)) (.int .i64 (n : Int))).run Try.prog w = .ok (.slice (some ⟨w.heap.size, 0, none⟩) n n) (w.alloc (.cells (u8s (List.replicate n 0)).toArray 5)) := by
  obtain ⟨i, hi, hz0, hz1, hz2⟩ := info_parts info5
  have := run_make (P := Try.prog) w 30 5 i (.int .u8 0) Try.underlying30 hi hz0 .i64 .i64 (n : Int) n (by omega) (by omega) (by rw [hz2]; omega) (by omega)
  rw [this, hz1]
  simp only [Int.toNat_natCast, Nat.mul_one, Value.cells]
  rw [made_u8s]

set_option maxHeartbeats 1600000 in
theorem Lend_any {w : World} {a : Option Addr} {c : Nat} {l : List UInt8} (h : Holds8 w (.slice a l.length c) l) (hl : l.length ≤ 100000) :
    Calls Try.prog 30 #[.slice a l.length c] w fun e w' => e = .returned (.tuple #[.slice (some ⟨w.heap.size, 0, none⟩) (l.length + 2) (l.length + 2), .slice (some ⟨w.heap.size, 1, none⟩) l.length (l.length + 1)]) ∧
      w'.heap[w.heap.size]? = some (.cells (u8s (lendL l l.length)).toArray 5 (0, 0)) ∧ Below w.heap.size w w' := by
  have hmk := mk_u8s w (l.length + 2) (by omega)
  have hz := lend_zero l
  generalize hn : l.length = n at *
  rw [show (((n + 2 : Nat)) : Int) = (n : Int) + 2 by omega] at hmk
  have H := Lib.hid h
  have HN := Lib.hid hn
  have HZ := Lib.hid hz
  clear h hn hz
  have hb := (Below.refl w.heap.size w).alloc (Nat.le_refl _) (.cells (u8s (List.replicate (n + 2) 0)).toArray 5)
  have ha := alloc1 w (.cells (u8s (List.replicate (n + 2) 0)).toArray 5)
  have q0 := cell_u8s (j := 0) ha (by simp)
  have q1 := cell_u8s (j := n + 1) ha (by simp)
  have q2 := free_of_row ha 0
  have q3 := free_of_row ha (n + 1)
  have HB := Lib.hid hb
  have HA := Lib.hid ha
  clear hb ha
  generalize hw1 : w.alloc _ = w1 at *
  have d0 := set_u8s (j := 0) HA.out 165
  have f0 := free_of_row d0 (n + 1)
  have d1 := set_u8s (j := n + 1) d0 90
  rw [HZ.out] at d1
  clear hw1
  go_enter Try.func30, Try.ntmps30
  go_wp2_with fail
  generalize hw2 : World.setCell (World.setCell w1 _ _) _ _ = w2
  have hd : w2.heap[w.heap.size]? = some (.cells (u8s (lendL l 0)).toArray 5 (0, 0)) := by rw [← hw2]; exact d1
  have hbb : Below w.heap.size w w2 := by
    rw [← hw2]
    exact (HB.out.setCell (p := ⟨w.heap.size, 0, none⟩) (Nat.le_refl _) _).setCell (p := ⟨w.heap.size, n + 1, none⟩) (Nat.le_refl _) _
  have HD := Lib.hid (show w2.heap[w.heap.size]? = some (.cells (u8s (lendL l 0)).toArray 5 (0, 0)) ∧ Below w.heap.size w w2 from ⟨hd, hbb⟩)
  clear hd hbb hw2 d0 d1 f0 q0 q1 q2 q3 hmk HB HA
  go_loopw [5, 6, 20] (fun _ _ i wr => ∃ k : Nat, k ≤ n ∧ i = .int .i64 k ∧ Hid (wr.heap[w.heap.size]? = some (.cells (u8s (lendL l k)).toArray 5 (0, 0)) ∧ Below w.heap.size w wr)) (fun _ _ i _ => n - (intOf i).toNat)
  case atStart => exact ⟨0, Nat.zero_le _, rfl, HD.out⟩
  case round =>
    obtain ⟨k, hk, rfl, HR⟩ := hrel
    have hln := HN.out
    by_cases hlt : k < n
    · have hlk : k < l.length := by omega
      have hlen : k + 1 < (lendL l k).length := by rw [lendL_len l (by omega)]; omega
      have r0 := cell_u8s (j := k + 1) HR.out.1 hlen
      have r1 := free_of_row HR.out.1 (k + 1)
      have r2 := set_u8s (j := k + 1) HR.out.1 l[k]
      rw [lendL_step l hlk] at r2
      have R2 := Lib.hid r2
      have hsrc : ∃ ad, a = some ad ∧ wr.cell? (ad.add k) = some (.int .u8 (l[k].toNat : Int)) := by
        obtain ⟨a', c', he, _, h2⟩ := H.out
        rcases h2 with ⟨_, rfl, _⟩ | ⟨ad, rfl, hc⟩
        · simp at hlk
        · cases he
          have hcell := hc k (.int .u8 (l[k].toNat : Int)) (by simp [u8s, hlk])
          exact ⟨ad, rfl, by rw [World.cell?_of_block (w := w) (HR.out.2.block _ (World.block_lt_of_cell? w _ hcell))]; exact hcell⟩
      obtain ⟨ad, rfl, c0⟩ := hsrc
      generalize ((lendL l k)[k + 1].toNat : Int) = y at r0
      generalize hx : (l[k].toNat : Int) = x at *
      clear r2 hlen
      go_wp2_with fail
      go_roundw
      case rel =>
        refine ⟨k + 1, by omega, by go_num, R2.out, ?_⟩
        exact HR.out.2.setCell (p := ⟨w.heap.size, k + 1, none⟩) (Nat.le_refl _) _
      case measure => simp [intOf]; omega
    · obtain rfl : k = n := by omega
      go_wp2_with fail
      go_quiet (fail)
      go_wp2_with fail
      go_ret2
      have b := HR.out.2
      exact ⟨rfl, HR.out.1, ⟨b.os, b.tape, b.output, b.size, b.block⟩⟩
end Go.Proofs.Ytddhhgbbeeeieaa
