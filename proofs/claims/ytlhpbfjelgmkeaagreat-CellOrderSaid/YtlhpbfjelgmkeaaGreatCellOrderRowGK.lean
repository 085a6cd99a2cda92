/- The texts CelY CelZ CelW CeoA, one behind the other; each one's own comment says what it holds. -/
import Derived.Test.YtlhpbfjelgmkeaaGreatCellOrderRowGJ
import Derived.Test.YtlhpbfjelgmkeaaGreatCellOrderRowGH
import Derived.Test.YtlhpbfjelgmkeaaGreatCellOrderRowGI
/- Five measures of whole numbers, plain: a row more, and two cells merged. Conditions: none. -/
set_option maxRecDepth 100000
namespace Go.Proofs.YtlhpbfjelgmkeaaGreat
open Go.RowKit Go.Maps Go.Sort Go.Lib

theorem IsLow.merge {l m : List Int} {v u : VV} (h : IsLow l v) (g : IsLow m u) : IsLow (l ++ m) (if (u.k == 0) = true then v else lowV v u) := by
  rcases g with ⟨rfl, rfl⟩ | ⟨b, hb, rfl, hn⟩
  · rw [if_pos (show (VV.none_.k == 0) = true from rfl), List.append_nil]
    exact h
  · have e0 : ((intV b).k == 0) = false := rfl
    rw [if_neg (by rw [e0]; simp)]
    have hs := h.step b
    rcases hs with ⟨e, _⟩ | ⟨a, ha, e, hm⟩
    · simp at e
    · refine .inr ⟨a, ?_, e, fun x hx => ?_⟩
      · rcases List.mem_append.1 ha with ha | ha
        · exact List.mem_append_left _ ha
        · rw [List.mem_singleton.1 ha]; exact List.mem_append_right _ hb
      · rcases List.mem_append.1 hx with hx | hx
        · exact hm x (List.mem_append_left _ hx)
        · have h1 := hm b (List.mem_append_right _ (List.mem_singleton_self b))
          have h2 := hn x hx
          omega
theorem high_none {v : VV} {l : List Int} (h : IsHigh l v) : highV v VV.none_ = v := by
  rcases h with ⟨_, rfl⟩ | ⟨a, _, rfl, _⟩
  · exact high_stay rfl
  · exact high_stay rfl
theorem IsHigh.merge {l m : List Int} {v u : VV} (h : IsHigh l v) (g : IsHigh m u) : IsHigh (l ++ m) (highV v u) := by
  rcases g with ⟨rfl, rfl⟩ | ⟨b, hb, rfl, hn⟩
  · rw [high_none h, List.append_nil]
    exact h
  · have hs := h.step b
    rcases hs with ⟨e, _⟩ | ⟨a, ha, e, hm⟩
    · simp at e
    · refine .inr ⟨a, ?_, e, fun x hx => ?_⟩
      · rcases List.mem_append.1 ha with ha | ha
        · exact List.mem_append_left _ ha
        · rw [List.mem_singleton.1 ha]; exact List.mem_append_right _ hb
      · rcases List.mem_append.1 hx with hx | hx
        · exact hm x (List.mem_append_left _ hx)
        · have h1 := hm b (List.mem_append_right _ (List.mem_singleton_self b))
          have h2 := hn x hx
          omega
/-- a number's id -/
def idW (n : Int) : Nat := wi (n.tmod 1000)
/-- what five measures keep of whole numbers -/
def Kept5 (l : List Int) (st : List (Nat × Sv)) : Prop := ∃ b0 b1 b2 b3 b4 p vl vh V, st = [(b0, .cnt l.length), (b1, .sum l.sum l.length), (b2, .low vl), (b3, .high vh), (b4, .dis p V)] ∧ IsLow l vl ∧ IsHigh l vh ∧ OfSet 4 [(3, 1)] (fun z => z ∈ l.map idW) V
theorem Kept5.step {l : List Int} {st st' : List (Nat × Sv)} (h : Kept5 l st) (n : Int) (ha : Added [intV n, intV n, intV n, intV n, intV n] [n.tmod 1000, n.tmod 1000, n.tmod 1000, n.tmod 1000, n.tmod 1000] st st') : Kept5 (l ++ [n]) st' := by
  obtain ⟨b0, b1, b2, b3, b4, p, vl, vh, V, rfl, hl, hh, hV⟩ := h
  obtain ⟨h1, h2⟩ := ha
  match st', h1 with
  | [x0, x1, x2, x3, x4], _ =>
    have e0 := h2 0 _ _ _ rfl rfl rfl
    have e1 := h2 1 _ _ _ rfl rfl rfl
    have e2 := h2 2 _ _ _ rfl rfl rfl
    have e3 := h2 3 _ _ _ rfl rfl rfl
    have e4 := h2 4 _ _ _ rfl rfl rfl
    simp only [List.getElem?_cons_zero, List.getElem?_cons_succ, Option.some.injEq] at e0 e1 e2 e3 e4
    subst e0 e1 e2 e3 e4
    refine ⟨b0, b1, b2, b3, b4, p, lowV vl (intV n), highV vh (intV n), V.ins (idW n), ?_, hl.step n, hh.step n, (hV.ins (idW n)).iff fun z => ?_⟩
    · rw [List.length_append, List.sum_append]
      show [(b0, Sv.cnt (l.length + 1)), (b1, Sv.sum (l.sum + n) (l.length + 1)), _, _, _] = _
      simp [addS, takeS, intV, idW]
    · simp [or_comm]
theorem Kept5.merge {l m : List Int} {st st2 st' : List (Nat × Sv)} (h : Kept5 l st) (g : Kept5 m st2) (ha : Merged st st2 st') : Kept5 (l ++ m) st' := by
  obtain ⟨b0, b1, b2, b3, b4, p, vl, vh, V, rfl, hl, hh, hV⟩ := h
  obtain ⟨c0, c1, c2, c3, c4, q, ul, uh, U, rfl, gl, gh, gU⟩ := g
  obtain ⟨h1, h2⟩ := ha
  match st', h1 with
  | [x0, x1, x2, x3, x4], _ =>
    have e0 := h2 0 _ _ rfl rfl
    have e1 := h2 1 _ _ rfl rfl
    have e2 := h2 2 _ _ rfl rfl
    have e3 := h2 3 _ _ rfl rfl
    have e4 := h2 4 _ _ rfl rfl
    simp only [List.getElem?_cons_zero, List.getElem?_cons_succ, Option.some.injEq] at e0 e1 e2 e3 e4
    subst e0 e1 e2 e3 e4
    refine ⟨b0, b1, b2, b3, b4, p, _, _, _, ?_, hl.merge gl, hh.merge gh, (hV.merge gU).iff fun z => ?_⟩
    · rw [List.length_append, List.sum_append]
      rfl
    · simp
end Go.Proofs.YtlhpbfjelgmkeaaGreat
/- Which values fit a column of whole numbers. Conditions: none. -/
set_option maxRecDepth 100000
namespace Go.Proofs.YtlhpbfjelgmkeaaGreat
open Go.RowKit Go.Maps Go.Sort Go.Lib

theorem fits_five (v : VV) : fitsL [v, v, v, v, v] [1, 1, 1, 1, 1] = fitsV 1 v := by
  unfold fitsL
  simp only [List.zip_cons_cons, List.zip_nil_right, List.all_cons, List.all_nil, Bool.and_true, Bool.and_self]
theorem add_null {d : Int} {s : Nat × Sv} : addS VV.none_ d s = s := rfl
end Go.Proofs.YtlhpbfjelgmkeaaGreat
/- What a cell tells: a greatest, a count, an estimate. Conditions: a cell that was made. -/
set_option maxRecDepth 100000
namespace Go.Proofs.YtlhpbfjelgmkeaaGreat
open Go.RowKit Go.Maps Go.Sort Go.Lib

section
variable {w0 w : World} {E : List (Nat × Thing)} {i q : Nat} {L : Lay} {C : Cv}
theorem cgreatest_at (h : Side w0 E w) (h1 : (i, OBox q (celO L C)) ∈ E) (h2 : (i + 2, RowT 97 1 L.sv C.st.length (vals C.st)) ∈ E) (ht : 1 ≤ C.t) {m b j : Nat} {v : VV} (hm : C.st[m]? = some (b, .high v)) (h3 : (j, OBox b (highO v)) ∈ E) (hv : v.fine) :
    Calls Tryz.prog 18 #[.pointer (some ⟨q, 0, none⟩), .int .i64 (m : Int)] w fun e w' => e = .returned (.tuple #[v.val, .bool true]) ∧ Below w.heap.size w w' := by
  have hb := below_c w (.cells #[.int .i64 0, .int .i64 0, .string ⟨#[]⟩] 36)
  have S1 := h.below hb
  have KS := cstate_at S1 h1 h2 ht hm
  have hx := heap_alloc_new w (.cells #[.int .i64 0, .int .i64 0, .string ⟨#[]⟩] 36)
  have hs := S1.heapO h3
  obtain ⟨W, hW⟩ : ∃ W, w.alloc (.cells #[.int .i64 0, .int .i64 0, .string ⟨#[]⟩] 36) = W := ⟨_, rfl⟩
  rw [hW] at KS hx hs hb
  have KC := ccopied_any v hv.1 W
  obtain ⟨vk, vn, vs⟩ := v
  rw [one_val] at KC ⊢
  unfold highO at hs
  simp only at KC hs ⊢
  obtain ⟨c0, c1, c2⟩ : W.cell? ⟨b, 0, none⟩ = some (.int .i64 vk) ∧ W.cell? ⟨b, 1, none⟩ = some (.int .i64 vn) ∧ W.cell? ⟨b, 2, none⟩ = some (.string vs) := ⟨by rw [cell_of_row _ _ _ _ _ _ hs]; rfl, by rw [cell_of_row _ _ _ _ _ _ hs]; rfl, by rw [cell_of_row _ _ _ _ _ _ hs]; rfl⟩
  have HX := Lib.hid hx
  have HB := Lib.hid hb
  have KA := as_greatest_greatest
  unfold Sv.val at KS
  simp only at KS
  clear h h1 h2 h3 hm ht S1 hs hx hb hv
  go_enter Tryz.func18, Tryz.ntmps18
  go_wp2_with fail
  refine KS.mono ?_
  rintro e w' ⟨rfl, rfl⟩
  clear KS hW
  go_wp2_with fail
  refine KC.mono ?_
  rintro e w2 ⟨rfl, hb2⟩
  have hx := (hb2.block _ (lt_of_heap HX.out)).trans HX.out
  have y0 : w2.cell? ⟨w.heap.size, 0, none⟩ = some (.int .i64 0) := by rw [cell_of_row _ _ _ _ _ _ hx]; rfl
  have y1 : w2.cell? ⟨w.heap.size, 1, none⟩ = some (.int .i64 0) := by rw [cell_of_row _ _ _ _ _ _ hx]; rfl
  have y2 : w2.cell? ⟨w.heap.size, 2, none⟩ = some (.string ⟨#[]⟩) := by rw [cell_of_row _ _ _ _ _ _ hx]; rfl
  have f0 := free_of_row hx 0
  have f1 := free_of_row hx 1
  have f2 := free_of_row hx 2
  have hx2 := heap_set (j := 2) (heap_set (j := 1) (heap_set (j := 0) hx (.int .i64 vk)) (.int .i64 vn)) (.string vs)
  have r0 : (((w2.setCell ⟨w.heap.size, 0, none⟩ (.int .i64 vk)).setCell ⟨w.heap.size, 1, none⟩ (.int .i64 vn)).setCell ⟨w.heap.size, 2, none⟩ (.string vs)).cell? ⟨w.heap.size, 0, none⟩ = some (.int .i64 vk) := by rw [cell_of_row _ _ _ _ _ _ hx2]; rfl
  have r1 : (((w2.setCell ⟨w.heap.size, 0, none⟩ (.int .i64 vk)).setCell ⟨w.heap.size, 1, none⟩ (.int .i64 vn)).setCell ⟨w.heap.size, 2, none⟩ (.string vs)).cell? ⟨w.heap.size, 1, none⟩ = some (.int .i64 vn) := by rw [cell_of_row _ _ _ _ _ _ hx2]; rfl
  have r2 : (((w2.setCell ⟨w.heap.size, 0, none⟩ (.int .i64 vk)).setCell ⟨w.heap.size, 1, none⟩ (.int .i64 vn)).setCell ⟨w.heap.size, 2, none⟩ (.string vs)).cell? ⟨w.heap.size, 2, none⟩ = some (.string vs) := by rw [cell_of_row _ _ _ _ _ _ hx2]; rfl
  have hb3 := HB.out.trans (hb2.mono HB.out.size)
  have FIN := Lib.hid (((hb3.setCell (p := ⟨w.heap.size, 0, none⟩) (Nat.le_refl _) (.int .i64 vk)).setCell (p := ⟨w.heap.size, 1, none⟩) (Nat.le_refl _) (.int .i64 vn)).setCell (p := ⟨w.heap.size, 2, none⟩) (Nat.le_refl _) (.string vs))
  clear hb2 hb3 hx hx2 KC HX HB
  go_wp2_with fail
  refine bodyPost_ret (v := .tuple #[.agg #[.int .i64 vk, .int .i64 vn, .string vs], .bool true]) ?_ rfl ⟨rfl, FIN.out⟩
  simp [results, Tryz.results18, go_sem, r0, r1, r2]
theorem ccount_at (h : Side w0 E w) (h1 : (i, OBox q (celO L C)) ∈ E) (h2 : (i + 2, RowT 97 1 L.sv C.st.length (vals C.st)) ∈ E) (ht : 1 ≤ C.t) {m b n j : Nat} (hm : C.st[m]? = some (b, .cnt n)) (h3 : (j, OBox b (cntO n)) ∈ E) :
    Calls Tryz.prog 15 #[.pointer (some ⟨q, 0, none⟩), .int .i64 (m : Int)] w fun e w' => e = .returned (.tuple #[.int .i64 (n : Int), .bool true]) ∧ w = w' := by
  have KS := cstate_at h h1 h2 ht hm
  have hs := h.heapO h3
  have c0 : w.cell? ⟨b, 0, none⟩ = some (.int .i64 (n : Int)) := by rw [cell_of_row _ _ _ _ _ _ hs]; rfl
  unfold Sv.val at KS
  simp only at KS
  have KA := as_count_count
  clear h h1 h2 h3 hm ht hs
  go_enter Tryz.func15, Tryz.ntmps15
  go_wp2_with fail
  refine KS.mono ?_
  rintro e w' ⟨rfl, rfl⟩
  clear KS
  go_wp2_with fail
  go_ret2
  exact ⟨rfl, rfl⟩
theorem cdistinct_at (h : Side w0 E w) (h1 : (i, OBox q (celO L C)) ∈ E) (h2 : (i + 2, RowT 97 1 L.sv C.st.length (vals C.st)) ∈ E) (ht : 1 ≤ C.t) {m b p j : Nat} {V : SkV} (hm : C.st[m]? = some (b, .dis p V)) (h3 : (j, DisT b p V) ∈ E) :
    Calls Tryz.prog 19 #[.pointer (some ⟨q, 0, none⟩), .int .i64 (m : Int)] w fun e w' => e = .returned (.tuple #[.int .i64 (midOf V.answers), .bool true]) ∧ Below w.heap.size w w' := by
  have KS := cstate_at h h1 h2 ht hm
  obtain ⟨T, hT⟩ := side_thing h h3
  have c0 : w.cell? ⟨b, 0, none⟩ = some (.pointer (some ⟨p, 0, none⟩)) := by rw [cell_of_row _ _ _ _ _ _ hT.1.2]; rfl
  have KE := estimate_any hT.2
  unfold Sv.val at KS
  simp only at KS
  have KA := as_distinct_distinct
  clear h h1 h2 h3 hm ht hT
  go_enter Tryz.func19, Tryz.ntmps19
  go_wp2_with fail
  refine KS.mono ?_
  rintro e w' ⟨rfl, rfl⟩
  clear KS
  go_wp2_with fail
  refine KE.mono ?_
  rintro e w2 ⟨rfl, hb⟩
  clear KE
  go_wp2_with fail
  go_ret2
  exact ⟨rfl, hb⟩
end
end Go.Proofs.YtlhpbfjelgmkeaaGreat
/- A cell of five measures of whole numbers: what it has behind any values, plain, and Add of a value more. Conditions: at most 300 values. -/
set_option maxRecDepth 100000
namespace Go.Proofs.YtlhpbfjelgmkeaaGreat
open Go.RowKit Go.Maps Go.Sort Go.Lib

/-- is a value a whole number? -/
def isN (v : VV) : Bool := fitsV 1 v && !(v.k == 0)
def nums (l : List VV) : List Int := (l.filter isN).map VV.n
def fitN (l : List VV) : Nat := (l.filter (fitsV 1)).length
theorem bytes_nil {s : ByteArray} (h : s.toList = []) : s = ⟨#[]⟩ := by
  rw [Lib.toList_data] at h
  have : s.data = #[] := by
    apply Array.toList_inj.1
    rw [h]
  cases s
  simp only at this
  rw [this]
theorem fits_num {v : VV} (h : fitsV 1 v = true) : v = VV.none_ ∨ v = intV v.n := by
  obtain ⟨k, n, s⟩ := v
  unfold fitsV VV.good goodV at h
  simp only [Bool.and_eq_true, Bool.or_eq_true, beq_iff_eq] at h
  obtain ⟨h1, h2⟩ := h
  rcases h2 with rfl | rfl
  · simp only [if_true, Bool.and_eq_true, beq_iff_eq] at h1
    obtain ⟨rfl, hs⟩ := h1
    rw [bytes_nil hs]
    exact .inl rfl
  · rw [if_neg (by decide), if_pos rfl] at h1
    simp only [beq_iff_eq] at h1
    rw [bytes_nil h1]
    exact .inr rfl
theorem num_fits (n : Int) : fitsV 1 (intV n) = true := by
  unfold fitsV VV.good goodV intV
  simp [Lib.toList_data]
theorem none_fits : fitsV 1 VV.none_ = true := by kernel_rfl
theorem isN_num (n : Int) : isN (intV n) = true := by unfold isN; rw [num_fits]; rfl
theorem isN_none : isN VV.none_ = false := by unfold isN; rw [none_fits]; rfl
theorem isN_no {v : VV} (h : fitsV 1 v = false) : isN v = false := by unfold isN; rw [h]; rfl
theorem nums_snoc (l : List VV) (v : VV) : nums (l ++ [v]) = if isN v = true then nums l ++ [v.n] else nums l := by
  unfold nums
  rw [List.filter_append, List.map_append]
  by_cases h : isN v = true
  · rw [if_pos h, List.filter_cons_of_pos h]; rfl
  · rw [if_neg h, List.filter_cons_of_neg h]; simp
theorem fitN_snoc (l : List VV) (v : VV) : fitN (l ++ [v]) = if fitsV 1 v = true then fitN l + 1 else fitN l := by
  unfold fitN
  rw [List.filter_append, List.length_append]
  by_cases h : fitsV 1 v = true
  · rw [if_pos h, List.filter_cons_of_pos h]; rfl
  · rw [if_neg h, List.filter_cons_of_neg h]; simp
theorem fitN_le (l : List VV) : fitN l ≤ l.length := List.length_filter_le _ _
theorem nums_le (l : List VV) : (nums l).length ≤ l.length := by unfold nums; rw [List.length_map]; exact List.length_filter_le _ _
theorem nums_in {l : List VV} (h : ∀ v ∈ l, v.inI) : ∀ n ∈ nums l, -9223372036854775808 ≤ n ∧ n < 9223372036854775808 := fun n hn => by
  unfold nums at hn
  obtain ⟨v, hv, rfl⟩ := List.mem_map.1 hn
  exact h v (List.mem_filter.1 hv).1
theorem sum_bound : ∀ {l : List Int}, (∀ n ∈ l, -9223372036854775808 ≤ n ∧ n < 9223372036854775808) → -((l.length : Int) * 9223372036854775808) ≤ l.sum ∧ l.sum ≤ (l.length : Int) * 9223372036854775808
  | [], _ => by simp
  | a :: r, h => by
    have h1 := h a (List.mem_cons_self ..)
    have h2 := sum_bound (l := r) (fun n hn => h n (List.mem_cons_of_mem _ hn))
    rw [List.sum_cons, List.length_cons]
    simp only [Int.natCast_add, Int.add_mul]
    omega
theorem sum_perm {l m : List Int} (h : l.Perm m) : l.sum = m.sum := by
  induction h with
  | nil => rfl
  | cons x _ ih => rw [List.sum_cons, List.sum_cons, ih]
  | swap x y r => simp only [List.sum_cons]; omega
  | trans _ _ h1 h2 => exact h1.trans h2
theorem IsLow.fine {l : List Int} {v : VV} (h : IsLow l v) (hl : ∀ n ∈ l, -9223372036854775808 ≤ n ∧ n < 9223372036854775808) : v.fine := by
  rcases h with ⟨_, rfl⟩ | ⟨n, hn, rfl, _⟩
  · exact ⟨by decide, by decide, by decide⟩
  · exact ⟨(by decide : (⟨#[]⟩ : ByteArray).size ≤ 1000000), (hl n hn).1, (hl n hn).2⟩
theorem IsHigh.fine {l : List Int} {v : VV} (h : IsHigh l v) (hl : ∀ n ∈ l, -9223372036854775808 ≤ n ∧ n < 9223372036854775808) : v.fine := by
  rcases h with ⟨_, rfl⟩ | ⟨n, hn, rfl, _⟩
  · exact ⟨by decide, by decide, by decide⟩
  · exact ⟨(by decide : (⟨#[]⟩ : ByteArray).size ≤ 1000000), (hl n hn).1, (hl n hn).2⟩
theorem Kept5.len {l : List Int} {st : List (Nat × Sv)} (h : Kept5 l st) : st.length = 5 := by
  obtain ⟨_, _, _, _, _, _, _, _, _, rfl, _⟩ := h
  rfl
theorem Kept5.small {l : List Int} {st : List (Nat × Sv)} (h : Kept5 l st) (hl : ∀ n ∈ l, -9223372036854775808 ≤ n ∧ n < 9223372036854775808) {m : Nat} (hm : l.length ≤ m) : ∀ s ∈ st, smallS m s.2 := by
  obtain ⟨b0, b1, b2, b3, b4, p, vl, vh, V, rfl, h1, h2, _⟩ := h
  intro s hs
  simp only [List.mem_cons, List.not_mem_nil, or_false] at hs
  rcases hs with rfl | rfl | rfl | rfl | rfl
  · exact hm
  · have := sum_bound hl
    have hm' : (l.length : Int) ≤ (m : Int) := by omega
    refine ⟨hm, ?_, ?_⟩
    · show -((m : Int) * 9223372036854775808) ≤ l.sum; omega
    · show l.sum ≤ (m : Int) * 9223372036854775808; omega
  · exact h1.fine hl
  · exact h2.fine hl
  · trivial
theorem Kept5.same {l : List Int} {st st' : List (Nat × Sv)} (h : Kept5 l st) {ids : List Int} (hi : ids.length = 5) (ha : Added [VV.none_, VV.none_, VV.none_, VV.none_, VV.none_] ids st st') : st' = st := by
  have hl := h.len
  obtain ⟨h1, h2⟩ := ha
  refine List.ext_getElem? fun j => ?_
  by_cases hj : j < 5
  · have e1 : ∃ s, st[j]? = some s := ⟨_, List.getElem?_eq_getElem (by omega)⟩
    obtain ⟨s, hs⟩ := e1
    have e2 : ∃ d, ids[j]? = some d := ⟨_, List.getElem?_eq_getElem (by omega)⟩
    obtain ⟨d, hd⟩ := e2
    have e3 : [VV.none_, VV.none_, VV.none_, VV.none_, VV.none_][j]? = some VV.none_ := by
      rcases (by omega : j = 0 ∨ j = 1 ∨ j = 2 ∨ j = 3 ∨ j = 4) with rfl | rfl | rfl | rfl | rfl <;> rfl
    rw [h2 j _ d s e3 hd hs, hs]
    rfl
  · rw [List.getElem?_eq_none (by omega), List.getElem?_eq_none (by omega)]
/-- two alike tell the same -/
theorem Kept5.alike {l m : List Int} {st st' : List (Nat × Sv)} (h : Kept5 l st) (g : Kept5 m st') (hp : l.Perm m) :
    ∃ b0 b1 b2 b3 b4 p c0 c1 c2 c3 c4 q n N vl vh V, st = [(b0, .cnt n), (b1, .sum N n), (b2, .low vl), (b3, .high vh), (b4, .dis p V)] ∧ st' = [(c0, .cnt n), (c1, .sum N n), (c2, .low vl), (c3, .high vh), (c4, .dis q V)] := by
  obtain ⟨b0, b1, b2, b3, b4, p, vl, vh, V, rfl, hl, hh, hV⟩ := h
  obtain ⟨c0, c1, c2, c3, c4, q, ul, uh, U, rfl, gl, gh, gU⟩ := g
  have e1 : vl = ul := hl.one gl (fun x => hp.mem_iff)
  have e2 : vh = uh := hh.one gh (fun x => hp.mem_iff)
  have e3 : V = U := hV.eq' gU (fun z => (hp.map idW).mem_iff.symm)
  subst e1 e2 e3
  rw [← hp.length_eq, ← sum_perm hp]
  exact ⟨b0, b1, b2, b3, b4, p, c0, c1, c2, c3, c4, q, _, _, _, _, _, rfl, rfl⟩
def ms5 : List (Int × ByteArray) := [(1, ⟨#[]⟩), (2, ⟨#[]⟩), (3, ⟨#[]⟩), (4, ⟨#[]⟩), (5, ⟨#[]⟩)]
/-- a cell of five measures that got these values -/
structure CO (xs : List VV) (C : Cv) : Prop where
  ms : C.ms = ms5
  ks : C.ks = [1, 1, 1, 1, 1]
  t : C.t = 4
  S : C.S = [(3, 1)]
  K : C.K = 4
  M : C.M = 2
  rows : C.rows = fitN xs
  kept : Kept5 (nums xs) C.st
def five (v : VV) : List VV := [v, v, v, v, v]
def five' (d : Int) : List Int := [d, d, d, d, d]
theorem CO.add {xs : List VV} {C : Cv} (h : CO xs C) {v : VV} (hf : fitsV 1 v = true) {st' : List (Nat × Sv)} (ha : Added (five v) (five' (v.n.tmod 1000)) C.st st') : CO (xs ++ [v]) (addC C st') := by
  obtain ⟨h1, h2, h3, h4, h5, h6, h7, h8⟩ := h
  refine ⟨h1, h2, h3, h4, h5, h6, ?_, ?_⟩
  · show C.rows + 1 = _
    rw [fitN_snoc, if_pos hf, h7]
  · show Kept5 _ st'
    rw [nums_snoc]
    rcases fits_num hf with e | e
    · rw [e] at ha ⊢
      rw [if_neg (by rw [isN_none]; simp), h8.same rfl ha]
      exact h8
    · generalize v.n = n at e ha ⊢
      subst e
      rw [if_pos (isN_num n)]
      exact h8.step n ha
theorem CO.pass {xs : List VV} {C : Cv} (h : CO xs C) {v : VV} (hf : fitsV 1 v = false) : CO (xs ++ [v]) C := by
  obtain ⟨h1, h2, h3, h4, h5, h6, h7, h8⟩ := h
  refine ⟨h1, h2, h3, h4, h5, h6, ?_, ?_⟩
  · rw [fitN_snoc, if_neg (by rw [hf]; simp), h7]
  · rw [nums_snoc, if_neg (by rw [isN_no hf]; simp)]
    exact h8
/-- a value more -/
theorem co_add {w0 w : World} {E : List (Nat × Thing)} {i q : Nat} {L : Lay} {C : Cv} {xs : List VV} (h : Side w0 (cellE i q L C ++ E) w) (hE : tagsOff i E) (hC : CO xs C) (hx : ∀ v ∈ xs, v.inI) (hxl : xs.length ≤ 300) {v : VV} (hv : v.inI) {va ia : Option Addr} {c c2 : Nat}
    (HV : ∀ W, Side w0 E W → HoldsV W (.slice va 5 c) (five v)) (HI : ∀ W, Side w0 E W → Holds W (.slice ia 5 c2) (i64s (five' (v.n.tmod 1000)))) :
    Calls Tryz.prog 12 #[.pointer (some ⟨q, 0, none⟩), .slice va 5 c, .slice ia 5 c2] w fun e w' => e = .returned (.int .i64 (if fitsV 1 v = true then 0 else 12)) ∧ Hid (∃ C', CO (xs ++ [v]) C' ∧ Side w0 (cellE i q L C' ++ E) w') := by
  have hm := nums_le xs
  have h5 : ∀ u ∈ five v, u = v := fun u hu => by simpa [five] using hu
  refine (cadd_any (m := 300) h hE HV HI (by decide) rfl rfl (by rw [hC.ks]; rfl) hC.kept.len (by rw [hC.t]; decide) (by rw [hC.rows]; have := fitN_le xs; omega) (by decide) (hC.kept.small (nums_in hx) (by omega)) (fun u hu => by rw [h5 u hu]; exact hv) (fun hf u hu => ?_) (fun k hk => ?_)).mono ?_
  · rw [h5 u hu]
    rw [hC.ks] at hf
    have hf' : fitsV 1 v = true := by rw [← fits_five]; exact hf
    rcases fits_num hf' with e | e
    · rw [e]; exact ⟨by decide, by decide, by decide⟩
    · refine ⟨?_, hv.1, hv.2⟩
      rw [e]
      exact (by decide : (⟨#[]⟩ : ByteArray).size ≤ 1000000)
  · rw [hC.ks] at hk
    have : k = 1 := by simpa using hk
    rw [this]
    exact ⟨by decide, by decide⟩
  rintro e w' (⟨hf, rfl, st', ha, _, S⟩ | ⟨hf, rfl, S⟩)
  · rw [hC.ks] at hf
    have hf' : fitsV 1 v = true := by rw [← fits_five]; exact hf
    rw [if_pos hf']
    exact ⟨rfl, Lib.hid ⟨_, hC.add hf' ha, S.out⟩⟩
  · rw [hC.ks] at hf
    have hf' : fitsV 1 v = false := by rw [← fits_five]; exact hf
    rw [if_neg (by rw [hf']; simp)]
    exact ⟨rfl, Lib.hid ⟨_, hC.pass hf', S.out⟩⟩
/-- five values alike in a block -/
def fiveO (v : VV) : Obj := .cells #[.int .i64 v.k, .int .i64 v.n, .string v.s, .int .i64 v.k, .int .i64 v.n, .string v.s, .int .i64 v.k, .int .i64 v.n, .string v.s, .int .i64 v.k, .int .i64 v.n, .string v.s, .int .i64 v.k, .int .i64 v.n, .string v.s] 36 (0, 0)
def idsO (d : Int) : Obj := .cells #[.int .i64 d, .int .i64 d, .int .i64 d, .int .i64 d, .int .i64 d] 3 (0, 0)
theorem holds_five {w : World} {b : Nat} {v : VV} (h : w.heap[b]? = some (fiveO v)) : HoldsV w (.slice (some ⟨b, 0, none⟩) 5 5) (five v) := by
  refine ⟨_, _, rfl, Nat.le_refl _, .inr ⟨_, rfl, fun i x hx => ?_⟩⟩
  unfold five at hx
  rcases i with _ | _ | _ | _ | _ | i
  · simp only [List.getElem?_cons_zero, Option.some.injEq] at hx
    subst hx
    simp only [Addr.add_at, cell_of_row _ _ _ _ _ _ h]
    exact ⟨rfl, rfl, rfl⟩
  · simp only [List.getElem?_cons_zero, List.getElem?_cons_succ, Option.some.injEq] at hx
    subst hx
    simp only [Addr.add_at, cell_of_row _ _ _ _ _ _ h]
    exact ⟨rfl, rfl, rfl⟩
  · simp only [List.getElem?_cons_zero, List.getElem?_cons_succ, Option.some.injEq] at hx
    subst hx
    simp only [Addr.add_at, cell_of_row _ _ _ _ _ _ h]
    exact ⟨rfl, rfl, rfl⟩
  · simp only [List.getElem?_cons_zero, List.getElem?_cons_succ, Option.some.injEq] at hx
    subst hx
    simp only [Addr.add_at, cell_of_row _ _ _ _ _ _ h]
    exact ⟨rfl, rfl, rfl⟩
  · simp only [List.getElem?_cons_zero, List.getElem?_cons_succ, Option.some.injEq] at hx
    subst hx
    simp only [Addr.add_at, cell_of_row _ _ _ _ _ _ h]
    exact ⟨rfl, rfl, rfl⟩
  · simp at hx
theorem holds_ids {w : World} {b : Nat} {d : Int} (h : w.heap[b]? = some (idsO d)) : Holds w (.slice (some ⟨b, 0, none⟩) 5 5) (i64s (five' d)) := Holds.of_heap h rfl 5 5 rfl (Nat.le_refl _)
theorem begun_cnt {t : Nat} {S : List (Nat × Nat)} {s : Sv} (h : Begun t S 1 s) : s = .cnt 0 := by
  rcases h with ⟨_, h⟩ | ⟨h, _⟩ | ⟨h, _⟩ | ⟨h, _⟩ | ⟨h, _⟩
  · exact h
  · omega
  · omega
  · omega
  · omega
theorem begun_high {t : Nat} {S : List (Nat × Nat)} {s : Sv} (h : Begun t S 4 s) : s = .high VV.none_ := by
  rcases h with ⟨h, _⟩ | ⟨h, _⟩ | ⟨h, _⟩ | ⟨_, h⟩ | ⟨h, _⟩
  · omega
  · omega
  · omega
  · exact h
  · omega
theorem begun_dis {t : Nat} {S : List (Nat × Nat)} {s : Sv} (h : Begun t S 5 s) : ∃ p, s = .dis p (SkV.empty t S) := by
  rcases h with ⟨h, _⟩ | ⟨h, _⟩ | ⟨h, _⟩ | ⟨h, _⟩ | ⟨_, h⟩
  · omega
  · omega
  · omega
  · omega
  · exact h
/-- a new one -/
theorem co_new {C : Cv} (h : NewC ms5 [1, 1, 1, 1, 1] 4 [(3, 1)] 4 2 5 C) : CO [] C := by
  obtain ⟨ms, ks, t, S, K, M, rows, st⟩ := C
  obtain ⟨e1, e2, e3, e4, e5, e6, e7, e8, e9⟩ := h
  simp only at e1 e2 e3 e4 e5 e6 e7 e8 e9
  match st, e8 with
  | [(b0, s0), (b1, s1), (b2, s2), (b3, s3), (b4, s4)], _ =>
    have h0 := begun_cnt (e9 0 _ _ rfl rfl)
    have h1 := begun_sum (e9 1 _ _ rfl rfl)
    have h2 := begun_low (e9 2 _ _ rfl rfl)
    have h3 := begun_high (e9 3 _ _ rfl rfl)
    obtain ⟨p, h4⟩ := begun_dis (e9 4 _ _ rfl rfl)
    simp only at h0 h1 h2 h3 h4
    subst h0 h1 h2 h3 h4
    refine ⟨by rw [e1]; rfl, e2, e3, e4, e5, e6, e7, b0, b1, b2, b3, b4, p, _, _, _, rfl, .inl ⟨rfl, rfl⟩, .inl ⟨rfl, rfl⟩, (OfSet.empty 4 [(3, 1)]).iff fun z => ?_⟩
    simp [nums]
end Go.Proofs.YtlhpbfjelgmkeaaGreat
