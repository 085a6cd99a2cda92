/- Contracts of the reference's find, add and less: where an id's counter stands, a counter more, each so much less. Conditions: a sketch that was made, sums that fit. -/
import Derived.Test.YtkmonecolkamjaaRHeavySk
import Derived.Test.YtkmonecolkamjaaHeavyMerge
set_option maxRecDepth 100000
namespace Go.Proofs.Ytkmonecolkamjaa
open Go.RowKit Go.Maps Go.Sort

/-- what the rest of a list gives -/
def addC (c : Int × Int) : Bool → CL → CL
  | d, [] => if d then [] else [c]
  | d, x :: xs => if x.1 = c.1 then (x.1, x.2 + c.2) :: addC c true xs else (if !d && decide (c.1 < x.1) then [c] else []) ++ x :: addC c (d || decide (c.1 < x.1)) xs
theorem addC_true (c : Int × Int) : ∀ xs : CL, (∀ y ∈ xs, c.1 < y.1) → addC c true xs = xs
  | [], _ => rfl
  | x :: xs, h => by
    have h1 := h x (List.mem_cons_self ..)
    unfold addC
    rw [if_neg (by omega), Bool.true_or, addC_true c xs fun y hy => h y (List.mem_cons_of_mem _ hy)]
    rfl
theorem addC_false (c : Int × Int) : ∀ L : CL, Asc L → addC c false L = addP L c
  | [], _ => by simp [addC, addP, putL, cnt]
  | x :: xs, hA => by
    have h1 := asc_head hA
    have ih := addC_false c xs (asc_tail hA)
    unfold addP at ih ⊢
    unfold addC putL
    by_cases e : x.1 = c.1
    · rw [if_pos e, if_neg (by omega), if_pos e, addC_true c xs fun y hy => by have := h1 y hy; omega]
      unfold cnt
      rw [if_pos e, e]
    · rw [if_neg e]
      by_cases g : c.1 < x.1
      · rw [if_pos g, decide_eq_true g, cnt_none (L := x :: xs) (id := c.1)]
        · rw [Bool.false_or, addC_true c xs fun y hy => by have := h1 y hy; omega]
          simp
        · intro q hq
          rcases List.mem_cons.1 hq with rfl | hq
          · exact e
          · have := h1 q hq; omega
      · rw [if_neg g, if_neg e, decide_eq_false g]
        have : cnt (x :: xs) c.1 = cnt xs c.1 := by
          show (if x.1 = c.1 then x.2 else cnt xs c.1) = _
          rw [if_neg e]
        rw [this, ← ih]
        rfl
theorem addC_len (c : Int × Int) : ∀ (d : Bool) (L : CL), (addC c d L).length ≤ 2 * L.length + 1
  | d, [] => by unfold addC; split <;> simp
  | d, x :: xs => by
    unfold addC
    split
    · have := addC_len c true xs
      simp; omega
    · have := addC_len c (d || decide (c.1 < x.1)) xs
      split <;> simp <;> omega
theorem addC_drop (c : Int × Int) (d : Bool) (L : CL) {k : Nat} {x : Int × Int} (h : L[k]? = some x) : addC c d (L.drop k) = if x.1 = c.1 then (x.1, x.2 + c.2) :: addC c true (L.drop (k + 1)) else (if !d && decide (c.1 < x.1) then [c] else []) ++ x :: addC c (d || decide (c.1 < x.1)) (L.drop (k + 1)) := by
  obtain ⟨hk, e⟩ := List.getElem?_eq_some_iff.1 h
  rw [List.drop_eq_getElem_cons hk, e, addC]
theorem less_drop (c : Int) (L : CL) {k : Nat} {x : Int × Int} (h : L[k]? = some x) : less c (L.drop k) = if x.2 - c ≤ 0 then less c (L.drop (k + 1)) else (x.1, x.2 - c) :: less c (L.drop (k + 1)) := by
  obtain ⟨hk, e⟩ := List.getElem?_eq_some_iff.1 h
  rw [List.drop_eq_getElem_cons hk, e, less_cons]

/-- where an id's counter stands; below 0: nowhere -/
def FindP (L : CL) (id : Int) (e : Ending) : Prop := (e = .returned (.int .i64 (-1)) ∧ ∀ q ∈ L, q.1 ≠ id) ∨ ∃ k : Nat, e = .returned (.int .i64 (k : Int)) ∧ ∃ q ∈ L, q.1 = id
theorem row_at {w wr : World} {B : Nat} {v : Value} {L : CL} (h : RowC B v L w) (hb : Below w.heap.size w wr) {k : Nat} (hk : k < L.length) :
    ∃ g c q, v = .slice (some ⟨g, 0, none⟩) L.length c ∧ L[k]? = some q ∧ wr.cell? ⟨g, k * 2, none⟩ = some (.int .i64 q.1) ∧ wr.cell? ⟨g, k * 2 + 1, none⟩ = some (.int .i64 q.2) := by
  rcases h.form with ⟨_, e⟩ | ⟨g, c, rfl, _⟩
  · rw [e] at hk; cases hk
  · have hq : L[k]? = some L[k] := List.getElem?_eq_getElem hk
    obtain ⟨r0, r1, _, _⟩ := (h.rowP.below hb).cell hq
    exact ⟨g, c, L[k], rfl, hq, r0, r1⟩

set_option maxHeartbeats 1600000 in
theorem rfind_any {T : Tags} {i : Nat} {w : World} {p m n : Nat} {v : Value} {L : CL} (h : RkAt T i w p m n v L) (id : Int) (hl : L.length ≤ 100000) :
    Calls Try.prog 28 #[.pointer (some ⟨p, 0, none⟩), .int .i64 id] w fun e w' => FindP L id e ∧ Below w.heap.size w w' := by
  obtain ⟨_, c1, _, _⟩ := h.cells
  have HR := Lib.hid h.row
  obtain ⟨a, c, rfl, _, _⟩ := h.row.form2
  obtain ⟨N, hN⟩ : ∃ N, L.length = N := ⟨_, rfl⟩
  rw [hN] at c1
  have HN := Lib.hid hN
  have hNz : (N : Int) ≤ 100000 := by omega
  rw [hN] at HR
  clear h hl hN
  go_enter Try.func28, Try.ntmps28
  go_wp2_with fail
  clear c1
  go_loopw [12] (fun s wr => ∃ k : Nat, s = .int .i64 k ∧ k ≤ N ∧ Hid (Below w.heap.size w wr ∧ ∀ q ∈ L.take k, q.1 ≠ id)) (fun s _ => N - (intOf s).toNat)
  case atStart => exact ⟨0, rfl, Nat.zero_le _, Below.refl _ _, fun q hq => by simp at hq⟩
  case round =>
    obtain ⟨k, rfl, hk, HX⟩ := hrel
    by_cases hlt : k < N
    · have hz : (k : Int) < (N : Int) := by omega
      have hkl : k < L.length := by rw [HN.out]; exact hlt
      obtain ⟨g, c', q, e, hq, r0, r1⟩ := row_at HR.out HX.out.1 hkl
      cases e
      have HQ := Lib.hid hq
      have HB : Hid (Below w.heap.size w (wr.alloc (.cells #[.int .i64 q.1, .int .i64 q.2] 70))) := Lib.hid (HX.out.1.alloc HX.out.1.size _)
      by_cases hid : q.1 = id
      · have t1 : (q.1 == id) = true := by simpa using hid
        have FIN : Hid (FindP L id (.returned (.int .i64 k))) := Lib.hid (.inr ⟨k, rfl, q, List.mem_of_getElem? HQ.out, hid⟩)
        clear hid hq HX
        go_wp2_with fail
        go_ret
        exact ⟨FIN.out, HB.out⟩
      · have t1 : (q.1 == id) = false := by simpa using hid
        have HX2 : Hid (Below w.heap.size w (wr.alloc (.cells #[.int .i64 q.1, .int .i64 q.2] 70)) ∧ ∀ q ∈ L.take (k + 1), q.1 ≠ id) := Lib.hid ⟨HB.out, fun y hy => by
          obtain ⟨hk', e⟩ := List.getElem?_eq_some_iff.1 HQ.out
          rw [List.take_succ_eq_append_getElem hk', List.mem_append] at hy
          rcases hy with hy | hy
          · exact HX.out.2 y hy
          · simp at hy; rw [hy, e]; exact hid⟩
        clear hid hq HX HB
        go_wp2_with fail
        go_roundw
        case rel => exact ⟨k + 1, by go_num, by omega, HX2⟩
        case measure => simp [intOf]; omega
    · obtain rfl : k = N := by omega
      have FIN : Hid (FindP L id (.returned (.int .i64 (-1))) ∧ Below w.heap.size w wr) := Lib.hid ⟨.inl ⟨rfl, fun q hq => HX.out.2 q (by rw [List.take_of_length_le (by rw [HN.out]; exact Nat.le_refl _)]; exact hq)⟩, HX.out.1⟩
      clear HX
      go_wp2_with fail
      go_ret
      exact FIN.out

set_option maxHeartbeats 3200000 in
theorem rless_any {T : Tags} {i : Nat} {w : World} {p m n : Nat} {v : Value} {L : CL} (h : RkAt T i w p m n v L) (z : Int) (hz : ∀ q ∈ L, InI (q.2 - z)) (hl : L.length ≤ 100000) :
    Calls Try.prog 29 #[.pointer (some ⟨p, 0, none⟩), .int .i64 z] w fun e w' => e = .returned (.tuple #[]) ∧ Hid (Goes T i w (RL p m n (less z L)) w') := by
  obtain ⟨_, c1, _, f0⟩ := h.cells
  have f1 := f0 1
  have HH := Lib.hid h
  obtain ⟨a, c, rfl, _, _⟩ := h.row.form2
  obtain ⟨N, hN⟩ : ∃ N, L.length = N := ⟨_, rfl⟩
  rw [hN] at c1 HH
  have HN := Lib.hid hN
  have HZ := Lib.hid hz
  have hNz : (N : Int) ≤ 100000 := by omega
  have HL : Hid (Asc (less z L) ∧ ∀ q ∈ less z L, InI q.1 ∧ InI q.2) := Lib.hid ⟨List.Pairwise.filter _ (asc_subL h.asc), fun q hq => by
    obtain ⟨hq, _⟩ := List.mem_filter.1 hq
    obtain ⟨y, hy, rfl⟩ := List.mem_map.1 hq
    exact ⟨(h.inI y hy).1, hz y hy⟩⟩
  clear h hl hN hz f0
  go_enter Try.func29, Try.ntmps29
  go_wp2_with fail
  go_loopw [4, 12] (fun o s wr => ∃ k : Nat, s = .int .i64 k ∧ k ≤ N ∧ Hid (∃ xs, OwnC w xs o wr ∧ xs ++ less z (L.drop k) = less z L ∧ xs.length ≤ k)) (fun _ s _ => N - (intOf s).toNat)
  case atStart => exact ⟨0, rfl, Nat.zero_le _, [], ⟨RowC.nil _ _, Below.refl _ _⟩, by simp, Nat.le_refl _⟩
  case round =>
    obtain ⟨k, rfl, hk, HX⟩ := hrel
    obtain ⟨xs, hO, hE, hxl⟩ := HX.out
    have HO := Lib.hid hO
    have HE := Lib.hid hE
    clear HX hE
    by_cases hlt : k < N
    · have hz : (k : Int) < (N : Int) := by omega
      have hkl : k < L.length := by rw [HN.out]; exact hlt
      obtain ⟨g, c', q, e, hq, r0, r1⟩ := row_at HH.out.row hO.2 hkl
      cases e
      have hql := HZ.out q (List.mem_of_getElem? hq)
      have hE2 := HE.out
      rw [less_drop z L hq] at hE2
      have HO1 := Lib.hid (HO.out.alloc (.cells #[.int .i64 q.1, .int .i64 q.2] 70))
      clear hO hq hkl
      by_cases hc : z < q.2
      · have t1 : decide (z < q.2) = true := decide_eq_true hc
        have wk : IntKind.i64.wrap (q.2 - z) = q.2 - z := by rw [IntKind.wrap_i64]; unfold InI at hql; omega
        rw [if_neg (by omega)] at hE2
        obtain ⟨g', k', w', hrun, hO2, _, _⟩ := HO1.out.push q.1 (q.2 - z) (by omega)
        simp only [World.size_alloc] at hrun
        have HR1 := Lib.hid hrun
        have HX2 : Hid (∃ ys, OwnC w ys (.slice (some ⟨g', 0, none⟩) (xs.length + 1) k') w' ∧ ys ++ less z (L.drop (k + 1)) = less z L ∧ ys.length ≤ k + 1) := Lib.hid ⟨_, hO2, by simpa using hE2, by simp; omega⟩
        clear hrun hO2 HO1 HO HE hE2 hql hc
        go_wp2_with (at_builtin; refine wpList_append_run rfl _ _ 63 rfl rfl rfl (HR1.out _) ?_)
        go_roundw
        case rel => exact ⟨k + 1, by go_num, by omega, HX2⟩
        case measure => simp [intOf]; omega
      · have t1 : decide (z < q.2) = false := decide_eq_false hc
        rw [if_pos (by omega)] at hE2
        have HX2 : Hid (∃ ys, OwnC w ys u4 (wr.alloc (.cells #[.int .i64 q.1, .int .i64 q.2] 70)) ∧ ys ++ less z (L.drop (k + 1)) = less z L ∧ ys.length ≤ k + 1) := Lib.hid ⟨_, HO1.out, hE2, by omega⟩
        clear HO1 HO HE hE2 hql hc
        go_wp2_with fail
        go_roundw
        case rel => exact ⟨k + 1, by go_num, by omega, HX2⟩
        case measure => simp [intOf]; omega
    · obtain rfl : k = N := by omega
      obtain ⟨xa, xc, rfl, _, _⟩ := hO.1.form2
      have e : xs = less z L := by
        have := HE.out
        rw [← HN.out, List.drop_length] at this
        simpa [less, subL] using this
      have FIN : Hid (Goes T i w (RL p m n (less z L)) (wr.setCell ⟨p, 1, none⟩ (.slice xa xs.length xc))) := Lib.hid (HH.out.put (Below.refl _ _) (e ▸ HO.out) HL.out.1 HL.out.2)
      have d1 : wr.cell? ⟨p, 1, none⟩ = some (.slice a k c) := by rw [hO.2.cell (World.block_lt_of_cell? w _ c1)]; exact c1
      have d2 : wr.frozen? ⟨p, 1, none⟩ = false := by rw [hO.2.frozen (World.block_lt_of_cell? w _ c1)]; exact f1
      clear HO HE hO e c1 f1
      go_wp2_with fail
      go_end0
      exact ⟨rfl, FIN⟩
end Go.Proofs.Ytkmonecolkamjaa
