/- Contracts of vfs: pending, stay, List. Conditions: a disk that was made. -/
import Derived.Test.YtddhhgbbeeeieaaVfsWalkB
import Derived.Test.YtddhhgbbeeeieaaIter
import Derived.OwnWalkIn
import Derived.TacticsInMore
set_option maxRecDepth 100000
namespace Go.Proofs.Ytddhhgbbeeeieaa
open Go.RowKit Go.Maps Go.Sort

theorem ownsRow_form {w : World} {base : Nat} {e : TypeId} {size : Nat} {v : Value} {n : Nat} {xs : List Value} (h : w.ownsRow base e size v n xs) : ∃ a cap, v = .slice a n cap ∧ n ≤ cap ∧ cap ≤ maxLen := by
  rcases h.2 with ⟨rfl, rfl⟩ | ⟨g, cap, cur, rfl, _, _, h1, h2, _⟩
  · exact ⟨_, _, rfl, Nat.le_refl _, Nat.zero_le _⟩
  · exact ⟨_, _, rfl, h1, h2⟩

set_option maxHeartbeats 400000 in
theorem pending_any {w : World} {f : FileC} (hf : f.At w) : Calls Try.prog 54 #[.pointer (some ⟨f.blk, 0, none⟩)] w fun e w' => e = .returned (.int .i64 ((f.bytes.length : Int) - f.synced)) ∧ ∃ n, w' = w.drewN n := by
  obtain ⟨c0, c1⟩ := hf.cell
  obtain ⟨a, cap, he, _, _⟩ := ownsRow_form hf.row
  rw [he] at c0
  have h1 := hf.sync
  have h2 := hf.max
  clear he hf
  go_enter Try.func54, Try.ntmps54
  go_wp2_with fail
  go_quiet (fail)
  go_wp2
  go_ret
  exact ⟨rfl, _, rfl⟩

/-- how many pending bytes of file i stay -/
def stayN (keep : List Int) (i : Nat) (pend : Int) : Int := if keep.length = 0 then 0 else min (max (keep.getD (i % keep.length) 0) 0) pend

set_option maxHeartbeats 400000 in
theorem stay_any {w : World} {p : Nat} {T : Nat → Option (Nat × Nat)} {D : DV} (hD : DiskAt w p T D) (i : Nat) (pend : Int) (hi : i ≤ 1000) :
    Calls Try.prog 67 #[.pointer (some ⟨p, 0, none⟩), .int .i64 (i : Int), .int .i64 pend] w fun e w' => e = .returned (.int .i64 (stayN D.keep i pend)) ∧ ∃ n, w' = w.drewN n := by
  obtain ⟨c0, c1, c2, c3, c4⟩ := hD.cell
  have hrow := hD.keep
  clear hD c0 c1 c2 c3
  rcases hrow.2 with ⟨hks, hl⟩ | ⟨g, cap, cur, hks, _, hg, h1, h2, h3, h4⟩
  · rw [hks] at c4
    have H := Lib.hid hl
    clear hl hks hrow
    go_enter Try.func67, Try.ntmps67
    go_wp2_with fail
    go_ret
    exact ⟨ret_int (by unfold stayN; rw [if_pos H.out]), 0, rfl⟩
  · rw [hks] at c4
    by_cases hz : D.keep.length = 0
    · have H := Lib.hid hz
      rw [hz] at c4
      clear hz hks hrow h3 h4 h1
      go_enter Try.func67, Try.ntmps67
      go_wp2_with fail
      go_ret
      exact ⟨ret_int (by unfold stayN; rw [if_pos H.out]), 0, rfl⟩
    · have hlt : i % D.keep.length < D.keep.length := Nat.mod_lt _ (by omega)
      have hcell : w.cell? ⟨g, i % D.keep.length, none⟩ = some (.int .i64 (D.keep.getD (i % D.keep.length) 0)) := by
        rw [cell_of_row w g _ _ _ _ hg]
        have h5 : (cur.toList.take (D.keep.length * 1))[i % D.keep.length]? = (i64s D.keep)[i % D.keep.length]? := by rw [h4]
        rw [List.getElem?_take, if_pos (by omega)] at h5
        simp only [Array.getElem?_toList, i64s, List.getElem?_map] at h5
        rw [h5, List.getElem?_eq_getElem hlt, List.getD_eq_getElem?_getD, List.getElem?_eq_getElem hlt]
        rfl
      have htm : Int.tmod (i : Int) (D.keep.length : Int) = ((i % D.keep.length : Nat) : Int) := by rw [Int.tmod_eq_emod_of_nonneg (by omega)]; omega
      have H := Lib.hid (show stayN D.keep i pend = min (max (D.keep.getD (i % D.keep.length) 0) 0) pend by unfold stayN; rw [if_neg hz])
      generalize D.keep.getD (i % D.keep.length) 0 = kv at *
      generalize D.keep.length = m at *
      clear hks hrow h3 h4 hg h1 h2
      go_enter Try.func67, Try.ntmps67
      go_wp2_with fail
      go_quiet (fail)
      go_wp2
      go_ret
      exact ⟨ret_int (by rw [H.out]), _, rfl⟩

theorem strKeys_mapD (L : List (List UInt8 × FileC)) : strKeys (mapD L) = L.map (·.1) := by
  induction L with
  | nil => rfl
  | cons q r ih =>
    simp only [strKeys, mapD, List.map_cons, strOf, List.cons.injEq, true_and] at ih ⊢
    exact ih
theorem before_le : ∀ {a b : List UInt8}, bytesBefore a b = true → a ≤ b
  | [], [], _ => List.le_refl _
  | [], _ :: _, _ => by simp
  | _ :: _, [], h => by simp [bytesBefore] at h
  | a :: r, b :: s, h => by
    rw [List.cons_le_cons_iff]
    simp only [bytesBefore, Bool.or_eq_true, Bool.and_eq_true, beq_iff_eq, decide_eq_true_eq] at h
    rcases h with h | ⟨h, h'⟩
    · exact .inl h
    · exact .inr ⟨h, before_le h'⟩
theorem mergeSort_names {ss : List (List UInt8)} {L : List (List UInt8 × FileC)} (hp : ss.Perm (L.map (·.1))) (hs : L.Pairwise (fun a b => bytesBefore a.1 b.1 = true)) :
    ss.mergeSort (fun x y => decide (x ≤ y)) = L.map (·.1) := by
  have h1 : ss.mergeSort leB = (L.map (·.1)).mergeSort leB := mergeSort_of_perm hp
  have h2 : (L.map (·.1)).mergeSort leB = L.map (·.1) := List.mergeSort_of_pairwise (List.pairwise_map.2 (hs.imp fun h => by simpa [leB] using before_le h))
  exact h1.trans h2

set_option maxHeartbeats 1000000 in
theorem List_any {w : World} {p : Nat} {T : Nat → Option (Nat × Nat)} {D : DV} (hD : DiskAt w p T D) :
    Calls Try.prog 24 #[.pointer (some ⟨p, 0, none⟩)] w fun e w' => ∃ (v : Value), e = .returned v ∧
      w'.ownsRow w.heap.size 9 1 v D.files.length ((D.files.map (·.1)).map encStr) ∧ Below w.heap.size w w' := by
  obtain ⟨c0, c1, c2, c3, c4⟩ := hD.cell
  have hown := hD.map
  have HD := Lib.hid hD
  have hmax : Maps.size (mapD D.files) ≤ maxLen := by have := hD.room; unfold maxLen; simp [mapD, Maps.size]; omega
  have hbytes : Maps.size (mapD D.files) * 16 ≤ 140737488355328 := by have := hD.room; simp [mapD, Maps.size]; omega
  have H1 := Lib.hid hmax
  have H2 := Lib.hid hbytes
  clear hD hmax hbytes c1 c2 c3 c4
  have HO := Lib.hid hown
  clear hown
  refine (callsIn_wide (n := 6)).1 ?_
  have hfK : Fence.wide.fn 53 := trivial
  have hfS : Fence.wide.fn 52 := trivial
  have hfM : Fence.wide.fn 50 := trivial
  refine callsIn_of_wp Try.func24 rfl trivial ?_ rfl
  simp only [Try.ntmps24, List.size_toArray, List.length_cons, List.length_nil, Nat.reduceAdd, Nat.reduceSub, Array.replicate_succ, Array.replicate_zero, List.push_toArray, List.append_toArray, List.nil_append, List.cons_append]
  gi_wp2_with (first
    | (gi_at_call 50; refine ((callsIn_wide (n := 5)).2 (made_any HD.out)).mono ?_; rintro e w' ⟨rfl, rfl⟩)
    | (gi_at_call 53; refine (Try.maps_Keys_53 _ _).mono ?_; rintro e w' ⟨rfl, rfl⟩)
    | (gi_at_call 52; refine (Try.slices_Sorted_keys_52_53 D.mb _ _ ptrR w HO.out H1.out H2.out).mono ?_; rintro e w' ⟨v, ss, rfl, hS, hrow, hnil, hb⟩))
  go_ret
  refine ⟨v, rfl, ?_, ((Below.refl _ w).alloc (Nat.le_refl _) _).trans (hb.mono (by simp))⟩
  have hk : strKeys (mapD D.files) = D.files.map (·.1) := strKeys_mapD D.files
  rw [hk] at hS
  have hm := mergeSort_names hS HD.out.sorted
  rw [hm] at hrow
  rw [show ss.length = D.files.length by rw [hS.length_eq, List.length_map]] at hrow
  exact ownsRow_base_a hrow (by simp)
end Go.Proofs.Ytddhhgbbeeeieaa
