/- Arguments opened: texts, slices of texts, columns, measures, tables and rollups that came in, and how great their parts may be. Conditions: as stated. -/
import Derived.Test.YtjlpmhjnfgmmcaaHold2
import Derived.Test.YtjlpmhjnfgmmcaaOpenStructs
import Derived.Deep.Strs
import Derived.Lib.Strings
set_option maxRecDepth 100000
namespace Go.Proofs.Ytjlpmhjnfgmmcaa
open Go.ChangeShapes Go.WideShapes Go.ChangeAt Go.RowKit Go.Maps Go.Sort Go.Deep Go.Joins Go.Lib

/-- a bound on the parts of a datum -/
structure LimOk {H : Type} (Lim : TypeId → DataW H → Prop) (M : Nat) : Prop where
  agg : ∀ (t : TypeId) (fs : Array Field) (ds : List (DataW H)) (j : Nat) (f : Field) (d : DataW H), Try.prog.underlying t = some (.struct fs) → Lim t (.agg ds) → fs[j]? = some f → ds[j]? = some d → Lim f.type d
  slc : ∀ (t e : TypeId) (es sp : List (DataW H)), Try.prog.underlying t = some (.slice e) → 0 < Try.prog.bytesOf e → Lim t (.slice es sp) → es.length ≤ M ∧ ∀ d ∈ es, Lim e d
  str : ∀ (t : TypeId) (b : List UInt8), Lim t (.lit (.string b)) → b.length ≤ M
section
variable {H : Type} {enc : TypeId × Value → H} {w : World} {Lim : TypeId → DataW H → Prop} {M : Nat}
abbrev Tr (enc : TypeId × Value → H) (w : World) (fuel : Nat) (t : TypeId) (cs : List Value) (y : DataW H × List MemPlace) : Prop := DataW.trod enc Try.prog w 0 (fun _ => true) true fuel t cs = some y
theorem str_of (L : LimOk Lim M) {fuel : Nat} {v : Value} {y : DataW H × List MemPlace} (h : Tr enc w fuel 9 [v] y) (hl : Lim 9 y.1) : ∃ s : ByteArray, v = .string s ∧ s.size ≤ M := by
  obtain ⟨s, e, ey, _⟩ := DataW.trod_string Try.underlying9 h
  simp only [List.cons.injEq, and_true] at e
  subst e ey
  have := L.str _ _ hl
  rw [show s.data.toList.length = s.size from (Lib.size_eq s).symm] at this
  exact ⟨s, rfl, this⟩
theorem int_of {fuel : Nat} {v : Value} {y : DataW H × List MemPlace} (h : Tr enc w fuel 3 [v] y) : ∃ n : Int, v = .int .i64 n ∧ -9223372036854775808 ≤ n ∧ n < 9223372036854775808 := by
  obtain ⟨n, e, _, hw⟩ := DataW.trod_int Try.underlying3 h
  simp only [List.cons.injEq, and_true] at e
  subst e
  exact ⟨n, rfl, bounds_of_i64 hw⟩
theorem two_list {cs : List Value} (h : cs.length = 2) : ∃ a b, cs = [a, b] := by
  match cs, h with
  | [a, b], _ => exact ⟨a, b, rfl⟩
/-- the elements of a slice that came in -/
theorem els_of (L : LimOk Lim M) {t e : TypeId} {fuel : Nat} {v : Value} {y : DataW H × List MemPlace} (ht : Try.prog.underlying t = some (.slice e)) (hb : 0 < Try.prog.bytesOf e) (h : Tr enc w fuel t [v] y) (hl : Lim t y.1) :
    v = .slice none 0 0 ∨ ∃ (a : Addr) (n c : Nat), v = .slice (some a) n c ∧ n ≤ c ∧ n ≤ M ∧ ∀ i, i < n → ∃ (m : Nat) (cs : List Value) (z : DataW H × List MemPlace), Tr enc w m e cs z ∧ Lim e z.1 ∧ ∀ j u, cs[j]? = some u → w.cell? (a.add (i * Try.prog.cellsOf e + j)) = some u := by
  rcases open_slice ht h with ⟨h0, _⟩ | ⟨a, len, cap, m, n, D, Pl, hcs, _, hc, _, hm, rfl, hi⟩
  · exact .inl (by simpa using h0)
  · simp only [List.cons.injEq, and_true] at hcs
    obtain ⟨l1, l2⟩ := L.slc t e _ _ ht hb hl
    simp at l1
    refine .inr ⟨a, len, cap, hcs, hc, l1, fun i hil => ?_⟩
    obtain ⟨cs, hcell, htr⟩ := hi i (by rw [hm]; simp; omega)
    refine ⟨n, cs, _, htr, l2 _ (List.mem_map.2 ⟨i, List.mem_range.2 hil, rfl⟩), fun j u hu => ?_⟩
    obtain ⟨_, hlen, hat⟩ := World.cells?_some hcell
    have hj : j < Try.prog.cellsOf e := by rw [← hlen]; exact (List.getElem?_eq_some_iff.1 hu).1
    rw [← Go.Deep.add_add, hat j hj, hu]
/-- a list out of places -/
theorem list_of {α : Type} {n : Nat} {P : Nat → α → Prop} (h : ∀ i, i < n → ∃ x, P i x) : ∃ l : List α, l.length = n ∧ ∀ i x, l[i]? = some x → P i x := by
  have h' : ∀ i : Nat, ∃ x : Option α, i < n → ∃ y, x = some y ∧ P i y := fun i => by
    by_cases hi : i < n
    · obtain ⟨x, hx⟩ := h i hi
      exact ⟨some x, fun _ => ⟨x, rfl, hx⟩⟩
    · exact ⟨none, fun g => absurd g hi⟩
  obtain ⟨f, hf⟩ := Classical.skolem.1 h'
  refine ⟨(List.range n).filterMap f, ?_, ?_⟩
  · have key : ∀ k, k ≤ n → ((List.range k).filterMap f).length = k := by
      intro k
      induction k with
      | zero => simp
      | succ k ih =>
        intro hk
        obtain ⟨y, hy, _⟩ := hf k (by omega)
        rw [List.range_succ, List.filterMap_append, List.length_append, ih (by omega)]
        simp [hy]
    exact key n (Nat.le_refl _)
  · have key : ∀ k, k ≤ n → ∀ i x, ((List.range k).filterMap f)[i]? = some x → P i x := by
      intro k
      induction k with
      | zero => intro _ i x hx; simp at hx
      | succ k ih =>
        intro hk i x hx
        obtain ⟨y, hy, hp⟩ := hf k (by omega)
        have hl : ((List.range k).filterMap f).length = k := by
          have key2 : ∀ k, k ≤ n → ((List.range k).filterMap f).length = k := by
            intro k
            induction k with
            | zero => simp
            | succ k ih =>
              intro hk
              obtain ⟨y, hy, _⟩ := hf k (by omega)
              rw [List.range_succ, List.filterMap_append, List.length_append, ih (by omega)]
              simp [hy]
          exact key2 k (by omega)
        rw [List.range_succ, List.filterMap_append] at hx
        rcases Nat.lt_or_ge i k with g | g
        · rw [List.getElem?_append_left (by omega)] at hx
          exact ih (by omega) i x hx
        · rw [List.getElem?_append_right (by omega), hl] at hx
          have e : [k].filterMap f = [y] := by simp [hy]
          rw [e] at hx
          have hik : i - k = 0 := by
            rcases Nat.eq_zero_or_pos (i - k) with g2 | g2
            · exact g2
            · rw [List.getElem?_eq_none (by simp; omega)] at hx; cases hx
          rw [hik] at hx
          simp at hx
          subst hx
          have : i = k := by omega
          subst this
          exact hp
    exact key n (Nat.le_refl _)
theorem cells_col : Try.prog.cellsOf 49 = 2 := by kernel_rfl
theorem cells_mea : Try.prog.cellsOf 41 = 2 := by kernel_rfl
theorem cells_str : Try.prog.cellsOf 9 = 1 := by kernel_rfl
theorem cells_int : Try.prog.cellsOf 3 = 1 := by kernel_rfl
theorem cells_tab : Try.prog.cellsOf 26 = 2 := by kernel_rfl
theorem cells_rol : Try.prog.cellsOf 30 = 4 := by kernel_rfl
theorem cells_cols : Try.prog.cellsOf 24 = 1 := by kernel_rfl
theorem cells_meas : Try.prog.cellsOf 28 = 1 := by kernel_rfl
theorem cells_strs : Try.prog.cellsOf 27 = 1 := by kernel_rfl
theorem col_of (L : LimOk Lim M) {fuel : Nat} {cs : List Value} {y : DataW H × List MemPlace} (h : Tr enc w fuel 49 cs y) (hl : Lim 49 y.1) : ∃ c : ByteArray × Int, cs = [.string c.1, .int .i64 c.2] ∧ c.1.size ≤ M ∧ -9223372036854775808 ≤ c.2 ∧ c.2 < 9223372036854775808 := by
  obtain ⟨xs, n, _, ex, hlen, hxl, hf⟩ := DataW.trod_struct Try.underlying49 h
  rw [cells_col] at hlen
  obtain ⟨u0, u1, rfl⟩ := two_list hlen
  have f0 : DataW.trod enc Try.prog w 0 (fun _ => true) true n 9 (([u0, u1].drop 0).take (Try.prog.cellsOf 9)) = xs[0]? := hf 0 _ rfl
  have f1 : DataW.trod enc Try.prog w 0 (fun _ => true) true n 3 (([u0, u1].drop 1).take (Try.prog.cellsOf 3)) = xs[1]? := hf 1 _ rfl
  rw [cells_str] at f0
  rw [cells_int] at f1
  obtain ⟨z0, x0⟩ : ∃ z, xs[0]? = some z := ⟨_, List.getElem?_eq_getElem (l := xs) (i := 0) (by rw [hxl]; decide)⟩
  obtain ⟨z1, x1⟩ : ∃ z, xs[1]? = some z := ⟨_, List.getElem?_eq_getElem (l := xs) (i := 1) (by rw [hxl]; decide)⟩
  rw [x0] at f0
  rw [x1] at f1
  rw [ex] at hl
  have l0 := L.agg _ _ _ 0 _ z0.1 Try.underlying49 hl rfl (by rw [List.getElem?_map, x0]; rfl)
  obtain ⟨s, rfl, hs⟩ := str_of (enc := enc) (w := w) L f0 l0
  obtain ⟨z, rfl, hz⟩ := int_of (enc := enc) (w := w) f1
  exact ⟨(s, z), rfl, hs, hz⟩
theorem mea_of (L : LimOk Lim M) {fuel : Nat} {cs : List Value} {y : DataW H × List MemPlace} (h : Tr enc w fuel 41 cs y) (hl : Lim 41 y.1) : ∃ c : Int × ByteArray, cs = [.int .i64 c.1, .string c.2] ∧ c.2.size ≤ M ∧ -9223372036854775808 ≤ c.1 ∧ c.1 < 9223372036854775808 := by
  obtain ⟨xs, n, _, ex, hlen, hxl, hf⟩ := DataW.trod_struct Try.underlying41 h
  rw [cells_mea] at hlen
  obtain ⟨u0, u1, rfl⟩ := two_list hlen
  have f0 : DataW.trod enc Try.prog w 0 (fun _ => true) true n 3 (([u0, u1].drop 0).take (Try.prog.cellsOf 3)) = xs[0]? := hf 0 _ rfl
  have f1 : DataW.trod enc Try.prog w 0 (fun _ => true) true n 9 (([u0, u1].drop 1).take (Try.prog.cellsOf 9)) = xs[1]? := hf 1 _ rfl
  rw [cells_int] at f0
  rw [cells_str] at f1
  obtain ⟨z0, x0⟩ : ∃ z, xs[0]? = some z := ⟨_, List.getElem?_eq_getElem (l := xs) (i := 0) (by rw [hxl]; decide)⟩
  obtain ⟨z1, x1⟩ : ∃ z, xs[1]? = some z := ⟨_, List.getElem?_eq_getElem (l := xs) (i := 1) (by rw [hxl]; decide)⟩
  rw [x0] at f0
  rw [x1] at f1
  rw [ex] at hl
  have l1 := L.agg _ _ _ 1 _ z1.1 Try.underlying41 hl rfl (by rw [List.getElem?_map, x1]; rfl)
  obtain ⟨z, rfl, hz⟩ := int_of (enc := enc) (w := w) f0
  obtain ⟨s, rfl, hs⟩ := str_of (enc := enc) (w := w) L f1 l1
  exact ⟨(z, s), rfl, hs, hz⟩
theorem cell_off {a : Addr} {k i j : Nat} (hj : 0 < j) {u : Value} (h : w.cell? (a.add (i * k + j)) = some u) : w.cell? ⟨(a.add (i * k)).block, (a.add (i * k)).off + j, none⟩ = some u := by
  rw [← add_offn a (i * k) j hj]; exact h
theorem cols_of (L : LimOk Lim M) {fuel : Nat} {v : Value} {y : DataW H × List MemPlace} (h : Tr enc w fuel 24 [v] y) (hl : Lim 24 y.1) :
    ∃ l : List (ByteArray × Int), Holds2 w v (l.map colC) ∧ l.length ≤ M ∧ ∀ c ∈ l, c.1.size ≤ M ∧ -9223372036854775808 ≤ c.2 ∧ c.2 < 9223372036854775808 := by
  rcases els_of (enc := enc) L Try.underlying24 (of_decide_eq_true (by kernel_rfl)) h hl with rfl | ⟨a, n, c, rfl, hc, hM, hi⟩
  · exact ⟨[], ⟨none, 0, rfl, Nat.le_refl _, .inl ⟨rfl, rfl, rfl⟩⟩, Nat.zero_le _, fun c hc => by cases hc⟩
  obtain ⟨l, hll, hp⟩ := list_of (P := fun i (c : ByteArray × Int) => (w.cell? (a.add (i * 2)) = some (.string c.1) ∧ w.cell? ⟨(a.add (i * 2)).block, (a.add (i * 2)).off + 1, none⟩ = some (.int .i64 c.2)) ∧ c.1.size ≤ M ∧ -9223372036854775808 ≤ c.2 ∧ c.2 < 9223372036854775808) (fun i hil => by
    obtain ⟨m, cs, z, ht, hlz, hcell⟩ := hi i hil
    obtain ⟨c, rfl, h1⟩ := col_of (enc := enc) (w := w) L ht hlz
    rw [cells_col] at hcell
    exact ⟨c, ⟨by simpa using hcell 0 _ rfl, cell_off (by omega) (hcell 1 _ rfl)⟩, h1⟩)
  refine ⟨l, ⟨some a, c, by rw [List.length_map, hll], by rw [List.length_map, hll]; exact hc, .inr ⟨a, rfl, fun i x hx => ?_⟩⟩, by omega, fun c hc => ?_⟩
  · rw [List.getElem?_map] at hx
    obtain ⟨c, hc, rfl⟩ := Option.map_eq_some_iff.1 hx
    exact (hp i c hc).1
  · obtain ⟨i, hic⟩ := List.mem_iff_getElem?.1 hc
    exact (hp i c hic).2
theorem meas_of (L : LimOk Lim M) {fuel : Nat} {v : Value} {y : DataW H × List MemPlace} (h : Tr enc w fuel 28 [v] y) (hl : Lim 28 y.1) :
    ∃ l : List (Int × ByteArray), Holds2 w v (l.map meaC) ∧ l.length ≤ M ∧ ∀ c ∈ l, c.2.size ≤ M ∧ -9223372036854775808 ≤ c.1 ∧ c.1 < 9223372036854775808 := by
  rcases els_of (enc := enc) L Try.underlying28 (of_decide_eq_true (by kernel_rfl)) h hl with rfl | ⟨a, n, c, rfl, hc, hM, hi⟩
  · exact ⟨[], ⟨none, 0, rfl, Nat.le_refl _, .inl ⟨rfl, rfl, rfl⟩⟩, Nat.zero_le _, fun c hc => by cases hc⟩
  obtain ⟨l, hll, hp⟩ := list_of (P := fun i (c : Int × ByteArray) => (w.cell? (a.add (i * 2)) = some (.int .i64 c.1) ∧ w.cell? ⟨(a.add (i * 2)).block, (a.add (i * 2)).off + 1, none⟩ = some (.string c.2)) ∧ c.2.size ≤ M ∧ -9223372036854775808 ≤ c.1 ∧ c.1 < 9223372036854775808) (fun i hil => by
    obtain ⟨m, cs, z, ht, hlz, hcell⟩ := hi i hil
    obtain ⟨c, rfl, h1⟩ := mea_of (enc := enc) (w := w) L ht hlz
    rw [cells_mea] at hcell
    exact ⟨c, ⟨by simpa using hcell 0 _ rfl, cell_off (by omega) (hcell 1 _ rfl)⟩, h1⟩)
  refine ⟨l, ⟨some a, c, by rw [List.length_map, hll], by rw [List.length_map, hll]; exact hc, .inr ⟨a, rfl, fun i x hx => ?_⟩⟩, by omega, fun c hc => ?_⟩
  · rw [List.getElem?_map] at hx
    obtain ⟨c, hc, rfl⟩ := Option.map_eq_some_iff.1 hx
    exact (hp i c hc).1
  · obtain ⟨i, hic⟩ := List.mem_iff_getElem?.1 hc
    exact (hp i c hic).2
theorem strs_of (L : LimOk Lim M) {fuel : Nat} {v : Value} {y : DataW H × List MemPlace} (h : Tr enc w fuel 27 [v] y) (hl : Lim 27 y.1) :
    ∃ l : List ByteArray, Holds w v (strs l) ∧ l.length ≤ M ∧ ∀ s ∈ l, s.size ≤ M := by
  rcases els_of (enc := enc) L Try.underlying27 (of_decide_eq_true (by kernel_rfl)) h hl with rfl | ⟨a, n, c, rfl, hc, hM, hi⟩
  · exact ⟨[], Holds.nil w, Nat.zero_le _, fun c hc => by cases hc⟩
  obtain ⟨l, hll, hp⟩ := list_of (P := fun i (s : ByteArray) => w.cell? (a.add i) = some (.string s) ∧ s.size ≤ M) (fun i hil => by
    obtain ⟨m, cs, z, ht, hlz, hcell⟩ := hi i hil
    obtain ⟨s, ecs, _, _⟩ := DataW.trod_string Try.underlying9 ht
    subst ecs
    obtain ⟨s', e, hs⟩ := str_of (enc := enc) (w := w) L ht hlz
    cases e
    rw [cells_str] at hcell
    exact ⟨s, by simpa using hcell 0 _ rfl, hs⟩)
  refine ⟨l, ⟨some a, c, by rw [strs_len, hll], by rw [strs_len, hll]; exact hc, .inr ⟨a, rfl, fun i u hu => ?_⟩⟩, by omega, fun c hc => ?_⟩
  · unfold strs at hu
    rw [List.getElem?_map] at hu
    obtain ⟨s, hs, rfl⟩ := Option.map_eq_some_iff.1 hu
    exact (hp i s hs).1
  · obtain ⟨i, hic⟩ := List.mem_iff_getElem?.1 hc
    exact (hp i c hic).2
theorem four_list {cs : List Value} (h : cs.length = 4) : ∃ a b c d, cs = [a, b, c, d] := by
  match cs, h with
  | [a, b, c, d], _ => exact ⟨a, b, c, d, rfl⟩
theorem tab_of (L : LimOk Lim M) {fuel : Nat} {cs : List Value} {y : DataW H × List MemPlace} (h : Tr enc w fuel 26 cs y) (hl : Lim 26 y.1) :
    ∃ (tn : ByteArray) (tc : List (ByteArray × Int)) (a : Value), cs = [.string tn, a] ∧ Holds2 w a (tc.map colC) ∧ tn.size ≤ M ∧ tc.length ≤ M ∧ ∀ c ∈ tc, c.1.size ≤ M ∧ -9223372036854775808 ≤ c.2 ∧ c.2 < 9223372036854775808 := by
  obtain ⟨xs, n, _, ex, hlen, hxl, hf⟩ := DataW.trod_struct Try.underlying26 h
  rw [cells_tab] at hlen
  obtain ⟨u0, u1, rfl⟩ := two_list hlen
  have f0 : DataW.trod enc Try.prog w 0 (fun _ => true) true n 9 (([u0, u1].drop 0).take (Try.prog.cellsOf 9)) = xs[0]? := hf 0 _ rfl
  have f1 : DataW.trod enc Try.prog w 0 (fun _ => true) true n 24 (([u0, u1].drop 1).take (Try.prog.cellsOf 24)) = xs[1]? := hf 1 _ rfl
  rw [cells_str] at f0
  rw [cells_cols] at f1
  rw [ex] at hl
  obtain ⟨z0, x0⟩ : ∃ z, xs[0]? = some z := ⟨_, List.getElem?_eq_getElem (l := xs) (i := 0) (by rw [hxl]; decide)⟩
  rw [x0] at f0
  have l0 := L.agg _ _ _ 0 _ z0.1 Try.underlying26 hl rfl (by rw [List.getElem?_map, x0]; rfl)
  obtain ⟨z1, x1⟩ : ∃ z, xs[1]? = some z := ⟨_, List.getElem?_eq_getElem (l := xs) (i := 1) (by rw [hxl]; decide)⟩
  rw [x1] at f1
  have l1 := L.agg _ _ _ 1 _ z1.1 Try.underlying26 hl rfl (by rw [List.getElem?_map, x1]; rfl)
  obtain ⟨tn, rfl, hs⟩ := str_of (enc := enc) (w := w) L f0 l0
  obtain ⟨tc, g1, g2, g3⟩ := cols_of (enc := enc) (w := w) L f1 l1
  exact ⟨tn, tc, u1, rfl, g1, hs, g2, g3⟩
theorem rol_of (L : LimOk Lim M) {fuel : Nat} {cs : List Value} {y : DataW H × List MemPlace} (h : Tr enc w fuel 30 cs y) (hl : Lim 30 y.1) :
    ∃ (rn rt : ByteArray) (rd : List ByteArray) (rm : List (Int × ByteArray)) (b c : Value), cs = [.string rn, .string rt, b, c] ∧ Holds w b (strs rd) ∧ Holds2 w c (rm.map meaC) ∧ rn.size ≤ M ∧ rt.size ≤ M ∧ (rd.length ≤ M ∧ ∀ s ∈ rd, s.size ≤ M) ∧ rm.length ≤ M ∧ ∀ c ∈ rm, c.2.size ≤ M ∧ -9223372036854775808 ≤ c.1 ∧ c.1 < 9223372036854775808 := by
  obtain ⟨xs, n, _, ex, hlen, hxl, hf⟩ := DataW.trod_struct Try.underlying30 h
  rw [cells_rol] at hlen
  obtain ⟨u0, u1, u2, u3, rfl⟩ := four_list hlen
  have f0 : DataW.trod enc Try.prog w 0 (fun _ => true) true n 9 (([u0, u1, u2, u3].drop 0).take (Try.prog.cellsOf 9)) = xs[0]? := hf 0 _ rfl
  have f1 : DataW.trod enc Try.prog w 0 (fun _ => true) true n 9 (([u0, u1, u2, u3].drop 1).take (Try.prog.cellsOf 9)) = xs[1]? := hf 1 _ rfl
  have f2 : DataW.trod enc Try.prog w 0 (fun _ => true) true n 27 (([u0, u1, u2, u3].drop 2).take (Try.prog.cellsOf 27)) = xs[2]? := hf 2 _ rfl
  have f3 : DataW.trod enc Try.prog w 0 (fun _ => true) true n 28 (([u0, u1, u2, u3].drop 3).take (Try.prog.cellsOf 28)) = xs[3]? := hf 3 _ rfl
  rw [cells_str] at f0
  rw [cells_str] at f1
  rw [cells_strs] at f2
  rw [cells_meas] at f3
  rw [ex] at hl
  obtain ⟨z0, x0⟩ : ∃ z, xs[0]? = some z := ⟨_, List.getElem?_eq_getElem (l := xs) (i := 0) (by rw [hxl]; decide)⟩
  rw [x0] at f0
  have l0 := L.agg _ _ _ 0 _ z0.1 Try.underlying30 hl rfl (by rw [List.getElem?_map, x0]; rfl)
  obtain ⟨z1, x1⟩ : ∃ z, xs[1]? = some z := ⟨_, List.getElem?_eq_getElem (l := xs) (i := 1) (by rw [hxl]; decide)⟩
  rw [x1] at f1
  have l1 := L.agg _ _ _ 1 _ z1.1 Try.underlying30 hl rfl (by rw [List.getElem?_map, x1]; rfl)
  obtain ⟨z2, x2⟩ : ∃ z, xs[2]? = some z := ⟨_, List.getElem?_eq_getElem (l := xs) (i := 2) (by rw [hxl]; decide)⟩
  rw [x2] at f2
  have l2 := L.agg _ _ _ 2 _ z2.1 Try.underlying30 hl rfl (by rw [List.getElem?_map, x2]; rfl)
  obtain ⟨z3, x3⟩ : ∃ z, xs[3]? = some z := ⟨_, List.getElem?_eq_getElem (l := xs) (i := 3) (by rw [hxl]; decide)⟩
  rw [x3] at f3
  have l3 := L.agg _ _ _ 3 _ z3.1 Try.underlying30 hl rfl (by rw [List.getElem?_map, x3]; rfl)
  obtain ⟨rn, rfl, hs⟩ := str_of (enc := enc) (w := w) L f0 l0
  obtain ⟨rt, rfl, hs2⟩ := str_of (enc := enc) (w := w) L f1 l1
  obtain ⟨rd, g1, g2, g3⟩ := strs_of (enc := enc) (w := w) L f2 l2
  obtain ⟨rm, k1, k2, k3⟩ := meas_of (enc := enc) (w := w) L f3 l3
  exact ⟨rn, rt, rd, rm, u2, u3, rfl, g1, k1, hs, hs2, ⟨g2, g3⟩, k2, k3⟩
end
abbrev LimW (H : Type) : TypeId → DataW H → Prop := fun t d => ∀ n ∈ DataW.weights Try.prog t d, n ≤ 140737488355328
theorem weights_all {H : Type} {e : TypeId} {d : DataW H} : ∀ {l : List (DataW H)}, d ∈ l → ∀ n ∈ DataW.weights Try.prog e d, n ∈ DataW.weightsAll Try.prog e l
  | [], h, _, _ => by cases h
  | x :: r, h, n, hn => by
    simp only [DataW.weightsAll, List.mem_append]
    rcases List.mem_cons.1 h with rfl | h
    · exact .inl hn
    · exact .inr (weights_all h n hn)
theorem limW (H : Type) : LimOk (LimW H) 140737488355328 where
  agg := fun t fs ds j f d ht h hf hd n hn => by
    refine h n ?_
    simp only [DataW.weights, ht]
    exact DataW.weights_mem_each (j := j) (by simpa using congrArg (Option.map (·.type)) hf) hd n hn
  slc := fun t e es sp ht hb h => by
    have h1 := h ((es.length + sp.length) * Try.prog.bytesOf e) (by simp only [DataW.weights, ht]; exact List.mem_cons_self ..)
    refine ⟨?_, fun d hd n hn => h n ?_⟩
    · have h2 : (es.length + sp.length) * 1 ≤ (es.length + sp.length) * Try.prog.bytesOf e := Nat.mul_le_mul_left _ hb
      omega
    · simp only [DataW.weights, ht]
      exact List.mem_cons_of_mem _ (List.mem_append_left _ (weights_all hd n hn))
  str := fun t b h => h _ (by simp [DataW.weights])
end Go.Proofs.Ytjlpmhjnfgmmcaa
